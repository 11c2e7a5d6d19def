/- The document's text of an operand: an operator ahead of one operand. -/
import Derived.Test.YtfgocdeaanalgaaDoorFJ
namespace Go.Proofs.YtfgocdeaanalgaaDoor
open Go.RowKit

set_option maxRecDepth 100000 in
set_option maxHeartbeats 2000000 in
theorem told_7 (a : Int) (nm : List UInt8) (b o n cc : Nat) (e : Nat) (least : Int) (w : World) (he : e < n) (h6 : least ≤ 6) (hf : formedB ⟨7, a, nm⟩ = true)
    (d0 : w.cell? ⟨b, o + e * 3, none⟩ = some (.int .i64 7)) (d1 : w.cell? ⟨b, o + e * 3 + 1, none⟩ = some (.int .i64 a)) (d2 : w.cell? ⟨b, o + e * 3 + 2, none⟩ = some (bstr nm)) (h1 : 1 ≤ e) (hn : n ≤ 32) (x : List UInt8) (hx : x.length ≤ 1000)
    (HT : ∀ W, Below w.heap.size w W → Calls Tryd.prog 22 #[.slice (some ⟨b, o, none⟩) n cc, .int .i64 ((e : Int) - 1), .int .i64 6] W (ToldPost x W)) :
    Calls Tryd.prog 22 #[.slice (some ⟨b, o, none⟩) n cc, .int .i64 e, .int .i64 least] w (ToldPost ([45] ++ x) w) := by
  have hnm := formed_name hf
  have hops := fun W => refOperands_any ⟨7, a, nm⟩ W (by omega)
  rw [opsR_yes hf] at hops
  simp only at hops hnm
  have HSG : Hid (∀ W, Calls Tryd.prog 32 #[.int .i64 7] W fun x w' => x = .returned (.tuple #[.string ⟨#[45]⟩, .int .i64 6]) ∧ Below W.heap.size W w') := fun W => sign_any 7 (by omega) W
  obtain ⟨X, hX⟩ : ∃ X : ByteArray, (⟨nm.toArray⟩ : ByteArray) = X := ⟨_, rfl⟩
  have hb : bstr nm = .string X := by rw [← hX]; rfl
  have hXs : X.size ≤ 12 := by rw [← hX, size_list]; exact hnm
  have HX := Lib.hid hX
  rw [hb] at d2 hops
  have HOP := Lib.hid hops
  obtain ⟨hW, hWs, hd⟩ := cell_new w (.int .i64 7) (.int .i64 a) (.string X) 38
  have HW := Lib.hid hW; have HWS := Lib.hid hWs; have HD := Lib.hid hd
  have hlt : decide ((6 : Int) < least) = false := decide_eq_false (by omega)
  have hlt' : ¬ ((6 : Int) < least) := by omega
  have HT' := Lib.hid HT
  obtain ⟨Y, hY⟩ : ∃ Y : ByteArray, (⟨x.toArray⟩ : ByteArray) = Y := ⟨_, rfl⟩
  have hYb : bstr x = .string Y := by rw [← hY]; rfl
  have HYB := Lib.hid hYb
  have hYs : Y.size ≤ 1000 := by rw [← hY, size_list]; exact hx
  have HY := Lib.hid hY
  have s1 : ∀ W : World, (Op.stringOp .add ⟨#[45]⟩ Y).run Tryd.prog W = .ok (.string (⟨#[45]⟩ ++ Y)) W := fun W => run_string_add_sum (P := Tryd.prog) (w := W) _ _ (by show 1 + Y.size ≤ _; omega)
  clear HT hY hYb hx
  clear hb hX hops hf hW hWs hd hnm
  go_enter Tryd.func22, Tryd.ntmps22
  go_wp2_with fail
  refine (HSG.out _).mono ?_
  rintro x w2 ⟨rfl, hb2⟩
  have HB2 := Lib.hid (HW.out.trans (hb2.mono (by rw [HWS.out]; omega)))
  have HD2 := Lib.hid ((hb2.block _ (by rw [HWS.out]; omega)).trans HD.out)
  clear hb2
  obtain ⟨k0, k1, k2⟩ := cells3_at HD2.out
  go_wp2_with fail
  refine (HOP.out _).mono ?_
  rintro x w3 ⟨rfl, hb3⟩
  have HB3 := Lib.hid (HB2.out.trans (hb3.mono HB2.out.size))
  have HD3 := Lib.hid ((hb3.block _ (lt_of_block HD2.out)).trans HD2.out)
  clear hb3 k0 k1 k2
  obtain ⟨k0, k1, k2⟩ := cells3_at HD3.out
  simp only [show operN 7 = 1 from rfl]
  go_wp2_with fail
  refine (HT'.out _ HB3.out).mono ?_
  rintro y w4 ⟨rfl, hb4⟩
  rw [HYB.out]
  have HB4 := Lib.hid (HB3.out.trans (hb4.mono HB3.out.size))
  clear hb4
  go_wp2
  go_ret
  exact ToldPost.of (by rw [← HY.out]; exact bytes_join [45] x) HB4.out

set_option maxRecDepth 100000 in
set_option maxHeartbeats 2000000 in
theorem told_8 (a : Int) (nm : List UInt8) (b o n cc : Nat) (e : Nat) (least : Int) (w : World) (he : e < n) (h6 : least ≤ 6) (hf : formedB ⟨8, a, nm⟩ = true)
    (d0 : w.cell? ⟨b, o + e * 3, none⟩ = some (.int .i64 8)) (d1 : w.cell? ⟨b, o + e * 3 + 1, none⟩ = some (.int .i64 a)) (d2 : w.cell? ⟨b, o + e * 3 + 2, none⟩ = some (bstr nm)) (h1 : 1 ≤ e) (hn : n ≤ 32) (x : List UInt8) (hx : x.length ≤ 1000)
    (HT : ∀ W, Below w.heap.size w W → Calls Tryd.prog 22 #[.slice (some ⟨b, o, none⟩) n cc, .int .i64 ((e : Int) - 1), .int .i64 6] W (ToldPost x W)) :
    Calls Tryd.prog 22 #[.slice (some ⟨b, o, none⟩) n cc, .int .i64 e, .int .i64 least] w (ToldPost ([33] ++ x) w) := by
  have hnm := formed_name hf
  have hops := fun W => refOperands_any ⟨8, a, nm⟩ W (by omega)
  rw [opsR_yes hf] at hops
  simp only at hops hnm
  have HSG : Hid (∀ W, Calls Tryd.prog 32 #[.int .i64 8] W fun x w' => x = .returned (.tuple #[.string ⟨#[33]⟩, .int .i64 6]) ∧ Below W.heap.size W w') := fun W => sign_any 8 (by omega) W
  obtain ⟨X, hX⟩ : ∃ X : ByteArray, (⟨nm.toArray⟩ : ByteArray) = X := ⟨_, rfl⟩
  have hb : bstr nm = .string X := by rw [← hX]; rfl
  have hXs : X.size ≤ 12 := by rw [← hX, size_list]; exact hnm
  have HX := Lib.hid hX
  rw [hb] at d2 hops
  have HOP := Lib.hid hops
  obtain ⟨hW, hWs, hd⟩ := cell_new w (.int .i64 8) (.int .i64 a) (.string X) 38
  have HW := Lib.hid hW; have HWS := Lib.hid hWs; have HD := Lib.hid hd
  have hlt : decide ((6 : Int) < least) = false := decide_eq_false (by omega)
  have hlt' : ¬ ((6 : Int) < least) := by omega
  have HT' := Lib.hid HT
  obtain ⟨Y, hY⟩ : ∃ Y : ByteArray, (⟨x.toArray⟩ : ByteArray) = Y := ⟨_, rfl⟩
  have hYb : bstr x = .string Y := by rw [← hY]; rfl
  have HYB := Lib.hid hYb
  have hYs : Y.size ≤ 1000 := by rw [← hY, size_list]; exact hx
  have HY := Lib.hid hY
  have s1 : ∀ W : World, (Op.stringOp .add ⟨#[33]⟩ Y).run Tryd.prog W = .ok (.string (⟨#[33]⟩ ++ Y)) W := fun W => run_string_add_sum (P := Tryd.prog) (w := W) _ _ (by show 1 + Y.size ≤ _; omega)
  clear HT hY hYb hx
  clear hb hX hops hf hW hWs hd hnm
  go_enter Tryd.func22, Tryd.ntmps22
  go_wp2_with fail
  refine (HSG.out _).mono ?_
  rintro x w2 ⟨rfl, hb2⟩
  have HB2 := Lib.hid (HW.out.trans (hb2.mono (by rw [HWS.out]; omega)))
  have HD2 := Lib.hid ((hb2.block _ (by rw [HWS.out]; omega)).trans HD.out)
  clear hb2
  obtain ⟨k0, k1, k2⟩ := cells3_at HD2.out
  go_wp2_with fail
  refine (HOP.out _).mono ?_
  rintro x w3 ⟨rfl, hb3⟩
  have HB3 := Lib.hid (HB2.out.trans (hb3.mono HB2.out.size))
  have HD3 := Lib.hid ((hb3.block _ (lt_of_block HD2.out)).trans HD2.out)
  clear hb3 k0 k1 k2
  obtain ⟨k0, k1, k2⟩ := cells3_at HD3.out
  simp only [show operN 8 = 1 from rfl]
  go_wp2_with fail
  refine (HT'.out _ HB3.out).mono ?_
  rintro y w4 ⟨rfl, hb4⟩
  rw [HYB.out]
  have HB4 := Lib.hid (HB3.out.trans (hb4.mono HB3.out.size))
  clear hb4
  go_wp2
  go_ret
  exact ToldPost.of (by rw [← HY.out]; exact bytes_join [33] x) HB4.out

set_option maxRecDepth 100000 in
set_option maxHeartbeats 2000000 in
theorem told_9 (a : Int) (nm : List UInt8) (b o n cc : Nat) (e : Nat) (least : Int) (w : World) (he : e < n) (h6 : least ≤ 6) (hf : formedB ⟨9, a, nm⟩ = true)
    (d0 : w.cell? ⟨b, o + e * 3, none⟩ = some (.int .i64 9)) (d1 : w.cell? ⟨b, o + e * 3 + 1, none⟩ = some (.int .i64 a)) (d2 : w.cell? ⟨b, o + e * 3 + 2, none⟩ = some (bstr nm)) (h1 : 1 ≤ e) (hn : n ≤ 32) (x : List UInt8) (hx : x.length ≤ 1000)
    (HT : ∀ W, Below w.heap.size w W → Calls Tryd.prog 22 #[.slice (some ⟨b, o, none⟩) n cc, .int .i64 ((e : Int) - 1), .int .i64 0] W (ToldPost x W)) :
    Calls Tryd.prog 22 #[.slice (some ⟨b, o, none⟩) n cc, .int .i64 e, .int .i64 least] w (ToldPost ([114, 101, 40] ++ x ++ [41]) w) := by
  have hnm := formed_name hf
  have hops := fun W => refOperands_any ⟨9, a, nm⟩ W (by omega)
  rw [opsR_yes hf] at hops
  simp only at hops hnm
  have HSG : Hid (∀ W, Calls Tryd.prog 32 #[.int .i64 9] W fun x w' => x = .returned (.tuple #[.string ⟨#[]⟩, .int .i64 7]) ∧ Below W.heap.size W w') := fun W => sign_any 9 (by omega) W
  obtain ⟨X, hX⟩ : ∃ X : ByteArray, (⟨nm.toArray⟩ : ByteArray) = X := ⟨_, rfl⟩
  have hb : bstr nm = .string X := by rw [← hX]; rfl
  have hXs : X.size ≤ 12 := by rw [← hX, size_list]; exact hnm
  have HX := Lib.hid hX
  rw [hb] at d2 hops
  have HOP := Lib.hid hops
  obtain ⟨hW, hWs, hd⟩ := cell_new w (.int .i64 9) (.int .i64 a) (.string X) 38
  have HW := Lib.hid hW; have HWS := Lib.hid hWs; have HD := Lib.hid hd
  have hlt : decide ((7 : Int) < least) = false := decide_eq_false (by omega)
  have hlt' : ¬ ((7 : Int) < least) := by omega
  have HT' := Lib.hid HT
  obtain ⟨Y, hY⟩ : ∃ Y : ByteArray, (⟨x.toArray⟩ : ByteArray) = Y := ⟨_, rfl⟩
  have hYb : bstr x = .string Y := by rw [← hY]; rfl
  have HYB := Lib.hid hYb
  have hYs : Y.size ≤ 1000 := by rw [← hY, size_list]; exact hx
  have HY := Lib.hid hY
  have s1 : ∀ W : World, (Op.stringOp .add ⟨#[114, 101, 40]⟩ Y).run Tryd.prog W = .ok (.string (⟨#[114, 101, 40]⟩ ++ Y)) W := fun W => run_string_add_sum (P := Tryd.prog) (w := W) _ _ (by show 3 + Y.size ≤ _; omega)
  have s2 : ∀ W : World, (Op.stringOp .add (⟨#[114, 101, 40]⟩ ++ Y) ⟨#[41]⟩).run Tryd.prog W = .ok (.string ((⟨#[114, 101, 40]⟩ ++ Y) ++ ⟨#[41]⟩)) W := fun W => run_string_add_sum (P := Tryd.prog) (w := W) _ _ (by rw [ByteArray.size_append]; show 3 + Y.size + 1 ≤ _; omega)
  clear HT hY hYb hx
  clear hb hX hops hf hW hWs hd hnm
  go_enter Tryd.func22, Tryd.ntmps22
  go_wp2_with fail
  refine (HSG.out _).mono ?_
  rintro x w2 ⟨rfl, hb2⟩
  have HB2 := Lib.hid (HW.out.trans (hb2.mono (by rw [HWS.out]; omega)))
  have HD2 := Lib.hid ((hb2.block _ (by rw [HWS.out]; omega)).trans HD.out)
  clear hb2
  obtain ⟨k0, k1, k2⟩ := cells3_at HD2.out
  go_wp2_with fail
  refine (HOP.out _).mono ?_
  rintro x w3 ⟨rfl, hb3⟩
  have HB3 := Lib.hid (HB2.out.trans (hb3.mono HB2.out.size))
  have HD3 := Lib.hid ((hb3.block _ (lt_of_block HD2.out)).trans HD2.out)
  clear hb3 k0 k1 k2
  obtain ⟨k0, k1, k2⟩ := cells3_at HD3.out
  simp only [show operN 9 = 1 from rfl]
  go_wp2_with fail
  refine (HT'.out _ HB3.out).mono ?_
  rintro y w4 ⟨rfl, hb4⟩
  rw [HYB.out]
  have HB4 := Lib.hid (HB3.out.trans (hb4.mono HB3.out.size))
  clear hb4
  go_wp2
  go_ret
  exact ToldPost.of (by rw [← HY.out]; exact (congrArg (· ++ (⟨#[41]⟩ : ByteArray)) (bytes_join [114, 101, 40] x)).trans (bytes_join _ [41])) HB4.out

set_option maxRecDepth 100000 in
set_option maxHeartbeats 2000000 in
theorem told_10 (a : Int) (nm : List UInt8) (b o n cc : Nat) (e : Nat) (least : Int) (w : World) (he : e < n) (h6 : least ≤ 6) (hf : formedB ⟨10, a, nm⟩ = true)
    (d0 : w.cell? ⟨b, o + e * 3, none⟩ = some (.int .i64 10)) (d1 : w.cell? ⟨b, o + e * 3 + 1, none⟩ = some (.int .i64 a)) (d2 : w.cell? ⟨b, o + e * 3 + 2, none⟩ = some (bstr nm)) (h1 : 1 ≤ e) (hn : n ≤ 32) (x : List UInt8) (hx : x.length ≤ 1000)
    (HT : ∀ W, Below w.heap.size w W → Calls Tryd.prog 22 #[.slice (some ⟨b, o, none⟩) n cc, .int .i64 ((e : Int) - 1), .int .i64 0] W (ToldPost x W)) :
    Calls Tryd.prog 22 #[.slice (some ⟨b, o, none⟩) n cc, .int .i64 e, .int .i64 least] w (ToldPost ([105, 109, 40] ++ x ++ [41]) w) := by
  have hnm := formed_name hf
  have hops := fun W => refOperands_any ⟨10, a, nm⟩ W (by omega)
  rw [opsR_yes hf] at hops
  simp only at hops hnm
  have HSG : Hid (∀ W, Calls Tryd.prog 32 #[.int .i64 10] W fun x w' => x = .returned (.tuple #[.string ⟨#[]⟩, .int .i64 7]) ∧ Below W.heap.size W w') := fun W => sign_any 10 (by omega) W
  obtain ⟨X, hX⟩ : ∃ X : ByteArray, (⟨nm.toArray⟩ : ByteArray) = X := ⟨_, rfl⟩
  have hb : bstr nm = .string X := by rw [← hX]; rfl
  have hXs : X.size ≤ 12 := by rw [← hX, size_list]; exact hnm
  have HX := Lib.hid hX
  rw [hb] at d2 hops
  have HOP := Lib.hid hops
  obtain ⟨hW, hWs, hd⟩ := cell_new w (.int .i64 10) (.int .i64 a) (.string X) 38
  have HW := Lib.hid hW; have HWS := Lib.hid hWs; have HD := Lib.hid hd
  have hlt : decide ((7 : Int) < least) = false := decide_eq_false (by omega)
  have hlt' : ¬ ((7 : Int) < least) := by omega
  have HT' := Lib.hid HT
  obtain ⟨Y, hY⟩ : ∃ Y : ByteArray, (⟨x.toArray⟩ : ByteArray) = Y := ⟨_, rfl⟩
  have hYb : bstr x = .string Y := by rw [← hY]; rfl
  have HYB := Lib.hid hYb
  have hYs : Y.size ≤ 1000 := by rw [← hY, size_list]; exact hx
  have HY := Lib.hid hY
  have s1 : ∀ W : World, (Op.stringOp .add ⟨#[105, 109, 40]⟩ Y).run Tryd.prog W = .ok (.string (⟨#[105, 109, 40]⟩ ++ Y)) W := fun W => run_string_add_sum (P := Tryd.prog) (w := W) _ _ (by show 3 + Y.size ≤ _; omega)
  have s2 : ∀ W : World, (Op.stringOp .add (⟨#[105, 109, 40]⟩ ++ Y) ⟨#[41]⟩).run Tryd.prog W = .ok (.string ((⟨#[105, 109, 40]⟩ ++ Y) ++ ⟨#[41]⟩)) W := fun W => run_string_add_sum (P := Tryd.prog) (w := W) _ _ (by rw [ByteArray.size_append]; show 3 + Y.size + 1 ≤ _; omega)
  clear HT hY hYb hx
  clear hb hX hops hf hW hWs hd hnm
  go_enter Tryd.func22, Tryd.ntmps22
  go_wp2_with fail
  refine (HSG.out _).mono ?_
  rintro x w2 ⟨rfl, hb2⟩
  have HB2 := Lib.hid (HW.out.trans (hb2.mono (by rw [HWS.out]; omega)))
  have HD2 := Lib.hid ((hb2.block _ (by rw [HWS.out]; omega)).trans HD.out)
  clear hb2
  obtain ⟨k0, k1, k2⟩ := cells3_at HD2.out
  go_wp2_with fail
  refine (HOP.out _).mono ?_
  rintro x w3 ⟨rfl, hb3⟩
  have HB3 := Lib.hid (HB2.out.trans (hb3.mono HB2.out.size))
  have HD3 := Lib.hid ((hb3.block _ (lt_of_block HD2.out)).trans HD2.out)
  clear hb3 k0 k1 k2
  obtain ⟨k0, k1, k2⟩ := cells3_at HD3.out
  simp only [show operN 10 = 1 from rfl]
  go_wp2_with fail
  refine (HT'.out _ HB3.out).mono ?_
  rintro y w4 ⟨rfl, hb4⟩
  rw [HYB.out]
  have HB4 := Lib.hid (HB3.out.trans (hb4.mono HB3.out.size))
  clear hb4
  go_wp2
  go_ret
  exact ToldPost.of (by rw [← HY.out]; exact (congrArg (· ++ (⟨#[41]⟩ : ByteArray)) (bytes_join [105, 109, 40] x)).trans (bytes_join _ [41])) HB4.out
end Go.Proofs.YtfgocdeaanalgaaDoor
