/- The document's text of an operand: one cell; an operator ahead of one operand; one between two. -/
import Derived.Test.YtfgocdeaanalgaaDoorFI
namespace Go.Proofs.YtfgocdeaanalgaaDoor
open Go.RowKit

theorem cell_new (w : World) (x y z : Value) (t : TypeId) : Below w.heap.size w (w.alloc (.cells #[x, y, z] t)) ∧ (w.alloc (.cells #[x, y, z] t)).heap.size = w.heap.size + 1 ∧ (w.alloc (.cells #[x, y, z] t)).heap[w.heap.size]? = some (.cells #[x, y, z] t (0, 0)) :=
  ⟨(Below.refl _ _).alloc (Nat.le_refl _) _, by simp, heap_alloc_new w _⟩
theorem cells3_at {w : World} {b : Nat} {x y z : Value} {t : TypeId} (h : w.heap[b]? = some (.cells #[x, y, z] t (0, 0))) : w.cell? ⟨b, 0, none⟩ = some x ∧ w.cell? ⟨b, 1, none⟩ = some y ∧ w.cell? ⟨b, 2, none⟩ = some z :=
  ⟨(cell_of_row w b 0 _ _ _ h).trans rfl, (cell_of_row w b 1 _ _ _ h).trans rfl, (cell_of_row w b 2 _ _ _ h).trans rfl⟩
def ToldPost (x : List UInt8) (w : World) (e : Ending) (w' : World) : Prop := e = .returned (bstr x) ∧ Below w.heap.size w w'
theorem ToldPost.of {x : List UInt8} {w w' : World} {X : ByteArray} (hX : X = ⟨x.toArray⟩) (hb : Below w.heap.size w w') : ToldPost x w (.returned (.string X)) w' := by subst hX; exact ⟨rfl, hb⟩
theorem sg_bin {k : Nat} (hk : k < 13) (W : World) : Calls Tryd.prog 32 #[.int .i64 ((k : Int) + 11)] W fun x w' => x = .returned (.tuple #[.string ⟨(tabAt k).2.1.toArray⟩, .int .i64 (tabAt k).2.2]) ∧ Below W.heap.size W w' := by
  have h := sign_any (k + 11) (by omega) W
  have e1 : sgT (k + 11) = (tabAt k).2.1 := by unfold sgT; rw [if_neg (by omega), if_neg (by omega), if_neg (by omega), Nat.add_sub_cancel]
  have e2 : pwT (k + 11) = (tabAt k).2.2 := by unfold pwT; rw [if_neg (by omega), if_neg (by omega), if_neg (by omega), Nat.add_sub_cancel]
  unfold SignPost at h
  rw [e1, e2, show ((k + 11 : Nat) : Int) = (k : Int) + 11 by omega] at h
  exact h

set_option maxRecDepth 100000 in
set_option maxHeartbeats 2000000 in
theorem told_5 (a : Int) (nm : List UInt8) (b o n cc : Nat) (e : Nat) (least : Int) (w : World) (he : e < n) (h6 : least ≤ 6) (hf : formedB ⟨5, a, nm⟩ = true)
    (d0 : w.cell? ⟨b, o + e * 3, none⟩ = some (.int .i64 5)) (d1 : w.cell? ⟨b, o + e * 3 + 1, none⟩ = some (.int .i64 a)) (d2 : w.cell? ⟨b, o + e * 3 + 2, none⟩ = some (bstr nm)) :
    Calls Tryd.prog 22 #[.slice (some ⟨b, o, none⟩) n cc, .int .i64 e, .int .i64 least] w (ToldPost (nm) w) := by
  have hnm := formed_name hf
  have hops := fun W => refOperands_any ⟨5, a, nm⟩ W (by omega)
  rw [opsR_yes hf] at hops
  simp only at hops hnm
  have HSG : Hid (∀ W, Calls Tryd.prog 32 #[.int .i64 5] W fun x w' => x = .returned (.tuple #[.string ⟨#[]⟩, .int .i64 7]) ∧ Below W.heap.size W w') := fun W => sign_any 5 (by omega) W
  obtain ⟨X, hX⟩ : ∃ X : ByteArray, (⟨nm.toArray⟩ : ByteArray) = X := ⟨_, rfl⟩
  have hb : bstr nm = .string X := by rw [← hX]; rfl
  have hXs : X.size ≤ 12 := by rw [← hX, size_list]; exact hnm
  have HX := Lib.hid hX
  rw [hb] at d2 hops
  have HOP := Lib.hid hops
  obtain ⟨hW, hWs, hd⟩ := cell_new w (.int .i64 5) (.int .i64 a) (.string X) 38
  have HW := Lib.hid hW; have HWS := Lib.hid hWs; have HD := Lib.hid hd
  have hlt : decide ((7 : Int) < least) = false := decide_eq_false (by omega)
  have hlt' : ¬ ((7 : Int) < least) := by omega
  clear hb hX hops hf hW hWs hd hnm
  go_enter Tryd.func22, Tryd.ntmps22
  go_wp2_with fail
  refine (HSG.out _).mono ?_
  rintro x w2 ⟨rfl, hb2⟩
  have HB2 := Lib.hid (HW.out.trans (hb2.mono (by rw [HWS.out]; omega)))
  have HD2 := Lib.hid ((hb2.block _ (by rw [HWS.out]; omega)).trans HD.out)
  clear hb2
  obtain ⟨k0, k1, k2⟩ := cells3_at HD2.out
  go_wp2_with fail
  refine (HOP.out _).mono ?_
  rintro x w3 ⟨rfl, hb3⟩
  have HB3 := Lib.hid (HB2.out.trans (hb3.mono HB2.out.size))
  have HD3 := Lib.hid ((hb3.block _ (lt_of_block HD2.out)).trans HD2.out)
  clear hb3 k0 k1 k2
  obtain ⟨k0, k1, k2⟩ := cells3_at HD3.out
  simp only [show operN 5 = 0 from rfl]
  go_wp2
  go_ret
  exact ToldPost.of (HX.out.symm) HB3.out

set_option maxRecDepth 100000 in
set_option maxHeartbeats 2000000 in
theorem told_1 (a : Int) (nm : List UInt8) (b o n cc : Nat) (e : Nat) (least : Int) (w : World) (he : e < n) (h6 : least ≤ 6) (hf : formedB ⟨1, a, nm⟩ = true)
    (d0 : w.cell? ⟨b, o + e * 3, none⟩ = some (.int .i64 1)) (d1 : w.cell? ⟨b, o + e * 3 + 1, none⟩ = some (.int .i64 a)) (d2 : w.cell? ⟨b, o + e * 3 + 2, none⟩ = some (bstr nm)) :
    Calls Tryd.prog 22 #[.slice (some ⟨b, o, none⟩) n cc, .int .i64 e, .int .i64 least] w (ToldPost (Lib.itoa a) w) := by
  have hnm := formed_name hf
  have hops := fun W => refOperands_any ⟨1, a, nm⟩ W (by omega)
  rw [opsR_yes hf] at hops
  simp only at hops hnm
  have HSG : Hid (∀ W, Calls Tryd.prog 32 #[.int .i64 1] W fun x w' => x = .returned (.tuple #[.string ⟨#[]⟩, .int .i64 7]) ∧ Below W.heap.size W w') := fun W => sign_any 1 (by omega) W
  obtain ⟨X, hX⟩ : ∃ X : ByteArray, (⟨nm.toArray⟩ : ByteArray) = X := ⟨_, rfl⟩
  have hb : bstr nm = .string X := by rw [← hX]; rfl
  have hXs : X.size ≤ 12 := by rw [← hX, size_list]; exact hnm
  have HX := Lib.hid hX
  rw [hb] at d2 hops
  have HOP := Lib.hid hops
  obtain ⟨hW, hWs, hd⟩ := cell_new w (.int .i64 1) (.int .i64 a) (.string X) 38
  have HW := Lib.hid hW; have HWS := Lib.hid hWs; have HD := Lib.hid hd
  have hlt : decide ((7 : Int) < least) = false := decide_eq_false (by omega)
  have hlt' : ¬ ((7 : Int) < least) := by omega
  have hnum := formed_num hf (Or.inl rfl)
  simp only at hnum
  have hlen : (Lib.itoa a).length ≤ 100 := itoa_short hnum.1 hnum.2
  have HDG := Lib.hid (fun W => ref2Digits_any a W (by omega) (by omega))
  obtain ⟨Y, hY⟩ : ∃ Y : ByteArray, (⟨(Lib.itoa a).toArray⟩ : ByteArray) = Y := ⟨_, rfl⟩
  rw [hY] at HDG
  have hYs : Y.size ≤ 100 := by rw [← hY, size_list]; exact hlen
  have HY := Lib.hid hY
  clear hnum hlen hY
  clear hb hX hops hf hW hWs hd hnm
  go_enter Tryd.func22, Tryd.ntmps22
  go_wp2_with fail
  refine (HSG.out _).mono ?_
  rintro x w2 ⟨rfl, hb2⟩
  have HB2 := Lib.hid (HW.out.trans (hb2.mono (by rw [HWS.out]; omega)))
  have HD2 := Lib.hid ((hb2.block _ (by rw [HWS.out]; omega)).trans HD.out)
  clear hb2
  obtain ⟨k0, k1, k2⟩ := cells3_at HD2.out
  go_wp2_with fail
  refine (HOP.out _).mono ?_
  rintro x w3 ⟨rfl, hb3⟩
  have HB3 := Lib.hid (HB2.out.trans (hb3.mono HB2.out.size))
  have HD3 := Lib.hid ((hb3.block _ (lt_of_block HD2.out)).trans HD2.out)
  clear hb3 k0 k1 k2
  obtain ⟨k0, k1, k2⟩ := cells3_at HD3.out
  simp only [show operN 1 = 0 from rfl]
  go_wp2_with fail
  refine (HDG.out _).mono ?_
  rintro x w4 ⟨rfl, hb4⟩
  have HB4 := Lib.hid (HB3.out.trans (hb4.mono HB3.out.size))
  clear hb4
  go_wp2
  go_ret
  exact ToldPost.of (HY.out.symm) HB4.out

set_option maxRecDepth 100000 in
set_option maxHeartbeats 2000000 in
theorem told_2 (a : Int) (nm : List UInt8) (b o n cc : Nat) (e : Nat) (least : Int) (w : World) (he : e < n) (h6 : least ≤ 6) (hf : formedB ⟨2, a, nm⟩ = true)
    (d0 : w.cell? ⟨b, o + e * 3, none⟩ = some (.int .i64 2)) (d1 : w.cell? ⟨b, o + e * 3 + 1, none⟩ = some (.int .i64 a)) (d2 : w.cell? ⟨b, o + e * 3 + 2, none⟩ = some (bstr nm)) :
    Calls Tryd.prog 22 #[.slice (some ⟨b, o, none⟩) n cc, .int .i64 e, .int .i64 least] w (ToldPost (Lib.itoa a ++ [105]) w) := by
  have hnm := formed_name hf
  have hops := fun W => refOperands_any ⟨2, a, nm⟩ W (by omega)
  rw [opsR_yes hf] at hops
  simp only at hops hnm
  have HSG : Hid (∀ W, Calls Tryd.prog 32 #[.int .i64 2] W fun x w' => x = .returned (.tuple #[.string ⟨#[]⟩, .int .i64 7]) ∧ Below W.heap.size W w') := fun W => sign_any 2 (by omega) W
  obtain ⟨X, hX⟩ : ∃ X : ByteArray, (⟨nm.toArray⟩ : ByteArray) = X := ⟨_, rfl⟩
  have hb : bstr nm = .string X := by rw [← hX]; rfl
  have hXs : X.size ≤ 12 := by rw [← hX, size_list]; exact hnm
  have HX := Lib.hid hX
  rw [hb] at d2 hops
  have HOP := Lib.hid hops
  obtain ⟨hW, hWs, hd⟩ := cell_new w (.int .i64 2) (.int .i64 a) (.string X) 38
  have HW := Lib.hid hW; have HWS := Lib.hid hWs; have HD := Lib.hid hd
  have hlt : decide ((7 : Int) < least) = false := decide_eq_false (by omega)
  have hlt' : ¬ ((7 : Int) < least) := by omega
  have hnum := formed_num hf (Or.inr rfl)
  simp only at hnum
  have hlen : (Lib.itoa a).length ≤ 100 := itoa_short hnum.1 hnum.2
  have HDG := Lib.hid (fun W => ref2Digits_any a W (by omega) (by omega))
  obtain ⟨Y, hY⟩ : ∃ Y : ByteArray, (⟨(Lib.itoa a).toArray⟩ : ByteArray) = Y := ⟨_, rfl⟩
  rw [hY] at HDG
  have hYs : Y.size ≤ 100 := by rw [← hY, size_list]; exact hlen
  have HY := Lib.hid hY
  have s1 : ∀ W : World, (Op.stringOp .add Y ⟨#[105]⟩).run Tryd.prog W = .ok (.string (Y ++ ⟨#[105]⟩)) W := fun W => run_string_add_sum (P := Tryd.prog) (w := W) _ _ (by show Y.size + 1 ≤ _; omega)
  clear hnum hlen hY
  clear hb hX hops hf hW hWs hd hnm
  go_enter Tryd.func22, Tryd.ntmps22
  go_wp2_with fail
  refine (HSG.out _).mono ?_
  rintro x w2 ⟨rfl, hb2⟩
  have HB2 := Lib.hid (HW.out.trans (hb2.mono (by rw [HWS.out]; omega)))
  have HD2 := Lib.hid ((hb2.block _ (by rw [HWS.out]; omega)).trans HD.out)
  clear hb2
  obtain ⟨k0, k1, k2⟩ := cells3_at HD2.out
  go_wp2_with fail
  refine (HOP.out _).mono ?_
  rintro x w3 ⟨rfl, hb3⟩
  have HB3 := Lib.hid (HB2.out.trans (hb3.mono HB2.out.size))
  have HD3 := Lib.hid ((hb3.block _ (lt_of_block HD2.out)).trans HD2.out)
  clear hb3 k0 k1 k2
  obtain ⟨k0, k1, k2⟩ := cells3_at HD3.out
  simp only [show operN 2 = 0 from rfl]
  go_wp2_with fail
  refine (HDG.out _).mono ?_
  rintro x w4 ⟨rfl, hb4⟩
  have HB4 := Lib.hid (HB3.out.trans (hb4.mono HB3.out.size))
  clear hb4
  go_wp2
  go_ret
  exact ToldPost.of (by rw [← HY.out]; exact bytes_join _ [105]) HB4.out

set_option maxRecDepth 100000 in
set_option maxHeartbeats 2000000 in
theorem told_3 (a : Int) (nm : List UInt8) (b o n cc : Nat) (e : Nat) (least : Int) (w : World) (he : e < n) (h6 : least ≤ 6) (hf : formedB ⟨3, a, nm⟩ = true)
    (d0 : w.cell? ⟨b, o + e * 3, none⟩ = some (.int .i64 3)) (d1 : w.cell? ⟨b, o + e * 3 + 1, none⟩ = some (.int .i64 a)) (d2 : w.cell? ⟨b, o + e * 3 + 2, none⟩ = some (bstr nm)) :
    Calls Tryd.prog 22 #[.slice (some ⟨b, o, none⟩) n cc, .int .i64 e, .int .i64 least] w (ToldPost (wTrue) w) := by
  have hnm := formed_name hf
  have hops := fun W => refOperands_any ⟨3, a, nm⟩ W (by omega)
  rw [opsR_yes hf] at hops
  simp only at hops hnm
  have HSG : Hid (∀ W, Calls Tryd.prog 32 #[.int .i64 3] W fun x w' => x = .returned (.tuple #[.string ⟨#[]⟩, .int .i64 7]) ∧ Below W.heap.size W w') := fun W => sign_any 3 (by omega) W
  obtain ⟨X, hX⟩ : ∃ X : ByteArray, (⟨nm.toArray⟩ : ByteArray) = X := ⟨_, rfl⟩
  have hb : bstr nm = .string X := by rw [← hX]; rfl
  have hXs : X.size ≤ 12 := by rw [← hX, size_list]; exact hnm
  have HX := Lib.hid hX
  rw [hb] at d2 hops
  have HOP := Lib.hid hops
  obtain ⟨hW, hWs, hd⟩ := cell_new w (.int .i64 3) (.int .i64 a) (.string X) 38
  have HW := Lib.hid hW; have HWS := Lib.hid hWs; have HD := Lib.hid hd
  have hlt : decide ((7 : Int) < least) = false := decide_eq_false (by omega)
  have hlt' : ¬ ((7 : Int) < least) := by omega
  clear hb hX hops hf hW hWs hd hnm
  go_enter Tryd.func22, Tryd.ntmps22
  go_wp2_with fail
  refine (HSG.out _).mono ?_
  rintro x w2 ⟨rfl, hb2⟩
  have HB2 := Lib.hid (HW.out.trans (hb2.mono (by rw [HWS.out]; omega)))
  have HD2 := Lib.hid ((hb2.block _ (by rw [HWS.out]; omega)).trans HD.out)
  clear hb2
  obtain ⟨k0, k1, k2⟩ := cells3_at HD2.out
  go_wp2_with fail
  refine (HOP.out _).mono ?_
  rintro x w3 ⟨rfl, hb3⟩
  have HB3 := Lib.hid (HB2.out.trans (hb3.mono HB2.out.size))
  have HD3 := Lib.hid ((hb3.block _ (lt_of_block HD2.out)).trans HD2.out)
  clear hb3 k0 k1 k2
  obtain ⟨k0, k1, k2⟩ := cells3_at HD3.out
  simp only [show operN 3 = 0 from rfl]
  go_wp2
  go_ret
  exact ToldPost.of (rfl) HB3.out

set_option maxRecDepth 100000 in
set_option maxHeartbeats 2000000 in
theorem told_4 (a : Int) (nm : List UInt8) (b o n cc : Nat) (e : Nat) (least : Int) (w : World) (he : e < n) (h6 : least ≤ 6) (hf : formedB ⟨4, a, nm⟩ = true)
    (d0 : w.cell? ⟨b, o + e * 3, none⟩ = some (.int .i64 4)) (d1 : w.cell? ⟨b, o + e * 3 + 1, none⟩ = some (.int .i64 a)) (d2 : w.cell? ⟨b, o + e * 3 + 2, none⟩ = some (bstr nm)) :
    Calls Tryd.prog 22 #[.slice (some ⟨b, o, none⟩) n cc, .int .i64 e, .int .i64 least] w (ToldPost (wFalse) w) := by
  have hnm := formed_name hf
  have hops := fun W => refOperands_any ⟨4, a, nm⟩ W (by omega)
  rw [opsR_yes hf] at hops
  simp only at hops hnm
  have HSG : Hid (∀ W, Calls Tryd.prog 32 #[.int .i64 4] W fun x w' => x = .returned (.tuple #[.string ⟨#[]⟩, .int .i64 7]) ∧ Below W.heap.size W w') := fun W => sign_any 4 (by omega) W
  obtain ⟨X, hX⟩ : ∃ X : ByteArray, (⟨nm.toArray⟩ : ByteArray) = X := ⟨_, rfl⟩
  have hb : bstr nm = .string X := by rw [← hX]; rfl
  have hXs : X.size ≤ 12 := by rw [← hX, size_list]; exact hnm
  have HX := Lib.hid hX
  rw [hb] at d2 hops
  have HOP := Lib.hid hops
  obtain ⟨hW, hWs, hd⟩ := cell_new w (.int .i64 4) (.int .i64 a) (.string X) 38
  have HW := Lib.hid hW; have HWS := Lib.hid hWs; have HD := Lib.hid hd
  have hlt : decide ((7 : Int) < least) = false := decide_eq_false (by omega)
  have hlt' : ¬ ((7 : Int) < least) := by omega
  clear hb hX hops hf hW hWs hd hnm
  go_enter Tryd.func22, Tryd.ntmps22
  go_wp2_with fail
  refine (HSG.out _).mono ?_
  rintro x w2 ⟨rfl, hb2⟩
  have HB2 := Lib.hid (HW.out.trans (hb2.mono (by rw [HWS.out]; omega)))
  have HD2 := Lib.hid ((hb2.block _ (by rw [HWS.out]; omega)).trans HD.out)
  clear hb2
  obtain ⟨k0, k1, k2⟩ := cells3_at HD2.out
  go_wp2_with fail
  refine (HOP.out _).mono ?_
  rintro x w3 ⟨rfl, hb3⟩
  have HB3 := Lib.hid (HB2.out.trans (hb3.mono HB2.out.size))
  have HD3 := Lib.hid ((hb3.block _ (lt_of_block HD2.out)).trans HD2.out)
  clear hb3 k0 k1 k2
  obtain ⟨k0, k1, k2⟩ := cells3_at HD3.out
  simp only [show operN 4 = 0 from rfl]
  go_wp2
  go_ret
  exact ToldPost.of (rfl) HB3.out

set_option maxRecDepth 100000 in
set_option maxHeartbeats 2000000 in
theorem told_6 (a : Int) (nm : List UInt8) (b o n cc : Nat) (e : Nat) (least : Int) (w : World) (he : e < n) (h6 : least ≤ 6) (hf : formedB ⟨6, a, nm⟩ = true)
    (d0 : w.cell? ⟨b, o + e * 3, none⟩ = some (.int .i64 6)) (d1 : w.cell? ⟨b, o + e * 3 + 1, none⟩ = some (.int .i64 a)) (d2 : w.cell? ⟨b, o + e * 3 + 2, none⟩ = some (bstr nm)) :
    Calls Tryd.prog 22 #[.slice (some ⟨b, o, none⟩) n cc, .int .i64 e, .int .i64 least] w (ToldPost ([105, 110, 40] ++ nm ++ [41]) w) := by
  have hnm := formed_name hf
  have hops := fun W => refOperands_any ⟨6, a, nm⟩ W (by omega)
  rw [opsR_yes hf] at hops
  simp only at hops hnm
  have HSG : Hid (∀ W, Calls Tryd.prog 32 #[.int .i64 6] W fun x w' => x = .returned (.tuple #[.string ⟨#[]⟩, .int .i64 7]) ∧ Below W.heap.size W w') := fun W => sign_any 6 (by omega) W
  obtain ⟨X, hX⟩ : ∃ X : ByteArray, (⟨nm.toArray⟩ : ByteArray) = X := ⟨_, rfl⟩
  have hb : bstr nm = .string X := by rw [← hX]; rfl
  have hXs : X.size ≤ 12 := by rw [← hX, size_list]; exact hnm
  have HX := Lib.hid hX
  rw [hb] at d2 hops
  have HOP := Lib.hid hops
  obtain ⟨hW, hWs, hd⟩ := cell_new w (.int .i64 6) (.int .i64 a) (.string X) 38
  have HW := Lib.hid hW; have HWS := Lib.hid hWs; have HD := Lib.hid hd
  have hlt : decide ((7 : Int) < least) = false := decide_eq_false (by omega)
  have hlt' : ¬ ((7 : Int) < least) := by omega
  have s1 : ∀ W : World, (Op.stringOp .add ⟨#[105, 110, 40]⟩ X).run Tryd.prog W = .ok (.string (⟨#[105, 110, 40]⟩ ++ X)) W := fun W => run_string_add_sum (P := Tryd.prog) (w := W) _ _ (by show 3 + X.size ≤ _; omega)
  have s2 : ∀ W : World, (Op.stringOp .add (⟨#[105, 110, 40]⟩ ++ X) ⟨#[41]⟩).run Tryd.prog W = .ok (.string ((⟨#[105, 110, 40]⟩ ++ X) ++ ⟨#[41]⟩)) W := fun W => run_string_add_sum (P := Tryd.prog) (w := W) _ _ (by rw [ByteArray.size_append]; show 3 + X.size + 1 ≤ _; omega)
  clear hb hX hops hf hW hWs hd hnm
  go_enter Tryd.func22, Tryd.ntmps22
  go_wp2_with fail
  refine (HSG.out _).mono ?_
  rintro x w2 ⟨rfl, hb2⟩
  have HB2 := Lib.hid (HW.out.trans (hb2.mono (by rw [HWS.out]; omega)))
  have HD2 := Lib.hid ((hb2.block _ (by rw [HWS.out]; omega)).trans HD.out)
  clear hb2
  obtain ⟨k0, k1, k2⟩ := cells3_at HD2.out
  go_wp2_with fail
  refine (HOP.out _).mono ?_
  rintro x w3 ⟨rfl, hb3⟩
  have HB3 := Lib.hid (HB2.out.trans (hb3.mono HB2.out.size))
  have HD3 := Lib.hid ((hb3.block _ (lt_of_block HD2.out)).trans HD2.out)
  clear hb3 k0 k1 k2
  obtain ⟨k0, k1, k2⟩ := cells3_at HD3.out
  simp only [show operN 6 = 0 from rfl]
  go_wp2
  go_ret
  exact ToldPost.of (by rw [← HX.out]; exact (congrArg (· ++ (⟨#[41]⟩ : ByteArray)) (bytes_join [105, 110, 40] nm)).trans (bytes_join _ [41])) HB3.out
end Go.Proofs.YtfgocdeaanalgaaDoor
