/- Own texts, joined: Bw, Bx. -/
import Derived.Test.YtdelihhbmagphaaGreatDoorR28
import Derived.Test.YtdelihhbmagphaaGreatDoorR30
namespace Go.Proofs.YtdelihhbmagphaaGreatDoor.Ch
open Go.RowKit
def sumL (ls : List (List UInt8)) : Nat := (ls.map List.length).sum
theorem sumL_take {ls : List (List UInt8)} {k : Nat} (hk : k < ls.length) : sumL (ls.take (k + 1)) = sumL (ls.take k) + ls[k].length := by
 unfold sumL
 rw [List.take_succ_eq_append_getElem hk, List.map_append, List.sum_append]
 simp
theorem sumL_le {ls : List (List UInt8)} (hw : ∀ x ∈ ls, x.length ≤ 140737488355328) (k : Nat) : sumL (ls.take k) ≤ ls.length * 140737488355328 := by
 have h : ∀ m : List (List UInt8), (∀ x ∈ m, x.length ≤ 140737488355328) → sumL m ≤ m.length * 140737488355328 := by
  intro m hm
  induction m with
  | nil => simp [sumL]
  | cons x r ih =>
   have h1 := hm x (by simp)
   have h2 := ih (fun y hy => hm y (by simp [hy]))
   unfold sumL at h2 ⊢
   rw [List.map_cons, List.sum_cons, List.length_cons, Nat.succ_mul]
   omega
 refine Nat.le_trans (h _ (fun x hx => hw x (List.take_subset _ _ hx))) (Nat.mul_le_mul_right _ ?_)
 rw [List.length_take]; omega
theorem rep32 : ∀ m, Lib.repeatL [32] m = List.replicate m 32
 | 0 => rfl
 | m + 1 => by rw [Lib.repeatL, rep32 m]; rfl
theorem join_cons2 (x : List UInt8) (r : List (List UInt8)) : (Lib.join (x :: r) [32]).length = x.length + (sumL r + r.length) := by
 rw [Lib.join_cons, List.length_append]
 congr 1
 unfold Lib.joinTail
 induction r with
 | nil => rfl
 | cons y q ih =>
  unfold sumL at ih ⊢
  rw [List.map_cons, List.flatten_cons, List.length_append, ih, List.map_cons, List.sum_cons]
  simp
  omega
theorem join_any (ls : List (List UInt8)) (A : Option Addr) (n c : Nat) (hn : ls.length = n) (hs : sumL ls ≤ 6000) (h5 : n ≤ 5) : ∃ X : ByteArray, X.data.toList = Lib.join ls [32] ∧ ∀ W, W.ownsRow 0 9 1 (.slice A n c) n (strsV ls) → Calls Tryz.prog 95 #[.slice A n c, .string ⟨#[32]⟩] W fun e w' => e = .returned (.string X) ∧ Below W.heap.size W w' := by
 cases hls : ls with
 | nil =>
  rw [hls] at hn
  subst hn
  exact ⟨⟨#[]⟩, rfl, fun W _ => (Tryz.strings_Join_none A c _ W).mono fun e w' ⟨h1, h2⟩ => ⟨h1, h2 ▸ Below.refl _ _⟩⟩
 | cons x r =>
  have hne : n ≠ 0 := by rw [← hn, hls]; simp
  have hxs : (ls.map fun y => (⟨y.toArray⟩ : ByteArray)).map (·.data.toList) = ls := by
   rw [List.map_map]
   conv => rhs; rw [← List.map_id ls]
   exact List.map_congr_left fun y _ => rfl
  refine ⟨⟨(Lib.join ls [32]).toArray⟩, by rw [← hls], fun W hW => ?_⟩
  rw [← hls] at hW
  rcases own_form hW with ⟨_, h0⟩ | ⟨g, cap, h1, h2, h3⟩
  ·exact absurd h0 hne
  ·injection h1 with h4 _ h6
   subst h4; subst h6
   have hl : (Lib.join ls [32]).length ≤ 140737488355328 := by
    rw [hls, join_cons2]
    rw [hls] at hs hn
    unfold sumL at hs ⊢
    simp at hs hn ⊢
    omega
   have := Tryz.strings_Join g 0 c (ls.map fun y => (⟨y.toArray⟩ : ByteArray)) ⟨#[32]⟩ W (fun j y hy => by
    rw [List.getElem?_map] at hy
    obtain ⟨z, hz, rfl⟩ := Option.map_eq_some_iff.1 hy
    have := hW.cells (g := g) rfl j (bstr z) (by simp [strsV, hz])
    rw [add_lit'] at this
    simpa [bstr] using this) (hW.lt g rfl).2 (by rw [List.length_map]; omega) (by rw [List.length_map, hn]; exact h2) (by rw [hxs]; exact hl)
   rw [List.length_map, hn, hxs] at this
   exact this
def lineTx (d : Nat) (ls : List (List UInt8)) : List UInt8 := List.replicate d 32 ++ Lib.join ls [32] ++ [10]
def fitsB (l : List UInt8) (d : Int) (ls : List (List UInt8)) : Bool := decide (0 ≤ d) && decide (d ≤ 6000) && decide (d + (l.length + ls.length + sumL ls : Nat) ≤ 6000)
def putL (l : List UInt8) (d : Int) (ls : List (List UInt8)) : List UInt8 := if fitsB l d ls = true then l ++ lineTx d.toNat ls else l
set_option maxRecDepth 100000 in
set_option maxHeartbeats 8000000 in
theorem line_any {b B : Nat} {w : World} {l : List UInt8} (h : Wr b B w l) (hl : l.length ≤ 6000) (d : Int) (ls : List (List UInt8)) (v : Value) (hv : w.ownsRow 0 9 1 v ls.length (strsV ls)) (hls : ls.length ≤ 5) (hw : ∀ x ∈ ls, x.length ≤ 140737488355328) :
  Calls Tryz.prog 54 #[.pointer (some ⟨b, 0, none⟩), .int .i64 d, v] w fun e w' => e = .returned (.tuple #[]) ∧ Wr b B w' (putL l d ls) ∧ KeptB b B w w' ∧ KeptU b w w' := by
 obtain ⟨A, c, rfl⟩ := own_slice hv
 have HOV := Lib.hid hv
 replace hv := Inn.of_own hv
 have HLN := Lib.hid (len_any h)
 have HV := Lib.hid hv; have HW := Lib.hid hw
 obtain ⟨n, hn⟩ : ∃ n, ls.length = n := ⟨_, rfl⟩
 have HH := Lib.hid h
 have HN := Lib.hid hn
 rw [hn] at hls ⊢
 clear hv hw h hn
 go_enter Tryz.func54, Tryz.ntmps54
 go_wp2_with (go_at_call 92; refine HLN.out.mono ?_; rintro e w1 ⟨rfl, h1⟩; obtain rfl := h1)
 have hsum : ∀ k, sumL (ls.take k) ≤ 5 * 140737488355328 := fun k => Nat.le_trans (sumL_le HW.out k) (Nat.mul_le_mul_right _ (by rw [HN.out]; exact hls))
 have HS := Lib.hid hsum
 clear hsum
 go_loopw [6, 8, 18] (fun x y i wr => y = y ∧ ∃ k : Nat, k ≤ n ∧ wr = w1 ∧ i = .int .i64 k ∧ x = .int .i64 ((l.length + n + sumL (ls.take k) : Nat) : Int)) (fun _ _ i _ => n - (intOf i).toNat)
 case atStart => exact ⟨rfl, 0, by omega, rfl, rfl, by simp [sumL]⟩
 case round =>
  obtain ⟨_, k, hk, rfl, rfl, rfl⟩ := hrel
  by_cases hkn : k < n
  ·have hkl : k < ls.length := by rw [HN.out]; exact hkn
   obtain ⟨q, o, rfl, hq, hc⟩ := Inn.at_ HV.out hkl
   obtain ⟨X, hX, hXl⟩ := bstr_some ls[k]
   have cx : wr.cell? ⟨q, o + k, none⟩ = some (.string X) := by
    have := hc 0 (bstr ls[k]) (by simp [strsV, hkl])
    rw [hX] at this
    simpa using this
   have hs1 := HS.out k
   have hs2 := HS.out (k + 1)
   rw [sumL_take hkl, ← hXl, ← Lib.size_eq] at hs2
   have hst : sumL (ls.take (k + 1)) = sumL (ls.take k) + X.size := by rw [sumL_take hkl, ← hXl, ← Lib.size_eq]
   have hw1 : IntKind.i64.wrap (((l.length + n + sumL (ls.take k) : Nat) : Int) + (X.size : Int)) = ((l.length + n + sumL (ls.take (k + 1)) : Nat) : Int) := by rw [hst, IntWalk.i64_in _ (by omega)]; omega
   have HST := Lib.hid hst
   generalize hS1 : sumL (ls.take (k + 1)) = S1 at *
   generalize sumL (ls.take k) = S0 at *
   have HS1 := Lib.hid hS1; clear hS1
   clear hc hX hXl hst
   go_wp2
   go_roundw
   case rel => exact ⟨trivial, k + 1, by omega, trivial, by go_num, by rw [HS1.out, HST.out]; congr 1; omega⟩
   case measure => simp [intOf]; omega
  ·have hkn2 : k = n := by omega
   subst hkn2
   have ht : ls.take k = ls := List.take_of_length_le (by rw [HN.out]; omega)
   have hb := HS.out k
   rw [ht] at hb ⊢
   obtain ⟨T, hT⟩ : ∃ T, l.length + k + sumL ls = T := ⟨_, rfl⟩
   have hT2 : T ≤ 6000 + 5 + 5 * 140737488355328 := by omega
   rw [hT]
   have hf : fitsB l d ls = (decide (0 ≤ d) && decide (d ≤ 6000) && decide (d + (T : Int) ≤ 6000)) := by unfold fitsB; rw [HN.out, hT]
   have HF := Lib.hid hf; have HT := Lib.hid hT
   clear hf hT ht hb hkn
   by_cases h0 : d < 0
   ·have hp : putL l d ls = l := by unfold putL; rw [HF.out, decide_eq_false (show ¬ 0 ≤ d by omega)]; rfl
    have HP := Lib.hid hp; clear hp
    go_wp2
    refine bodyPost_ret (results_none rfl _ _ _) rfl ?_
    exact ⟨rfl, by rw [HP.out]; exact HH.out, KeptB.refl _ _ _, KeptU.refl _ _⟩
   ·by_cases h1 : 6000 < d
    ·have hp : putL l d ls = l := by unfold putL; rw [HF.out, decide_eq_false (show ¬ d ≤ 6000 by omega), Bool.and_false]; rfl
     have HP := Lib.hid hp; clear hp
     go_wp2
     refine bodyPost_ret (results_none rfl _ _ _) rfl ?_
     exact ⟨rfl, by rw [HP.out]; exact HH.out, KeptB.refl _ _ _, KeptU.refl _ _⟩
    ·have hw2 : IntKind.i64.wrap (d + (T : Int)) = d + (T : Int) := IntWalk.i64_in _ (by omega)
     by_cases h2 : 6000 < d + (T : Int)
     ·have hp : putL l d ls = l := by unfold putL; rw [HF.out, decide_eq_false (show ¬ d + (T : Int) ≤ 6000 by omega), Bool.and_false]; rfl
      have HP := Lib.hid hp; clear hp
      go_wp2
      refine bodyPost_ret (results_none rfl _ _ _) rfl ?_
      exact ⟨rfl, by rw [HP.out]; exact HH.out, KeptB.refl _ _ _, KeptU.refl _ _⟩
     ·obtain ⟨m, rfl⟩ : ∃ m : Nat, d = (m : Int) := ⟨d.toNat, by omega⟩
      have hp : putL l m ls = l ++ lineTx m ls := by unfold putL; rw [HF.out, decide_eq_true (show (0 : Int) ≤ m by omega), decide_eq_true (show (m : Int) ≤ 6000 by omega), decide_eq_true (show (m : Int) + (T : Int) ≤ 6000 by omega)]; rfl
      have HP := Lib.hid hp; clear hp
      obtain ⟨X1, hX1, hX1l⟩ : ∃ X : ByteArray, X = ⟨(Lib.repeatL [32] m).toArray⟩ ∧ X.data.toList = List.replicate m 32 := ⟨_, rfl, rep32 m⟩
      have HRP : Hid (∀ W, Calls Tryz.prog 94 #[.string ⟨#[32]⟩, .int .i64 m] W fun e w' => e = .returned (.string X1) ∧ Below W.heap.size W w') := fun W => by
       rw [hX1]
       exact Tryz.strings_Repeat ⟨#[32]⟩ m W (by omega) (by show 1 * m ≤ _; omega)
      have hX1s : X1.size = m := by rw [Lib.size_eq, hX1l, List.length_replicate]
      have HX1 := Lib.hid hX1l
      obtain ⟨X2, hX2, hJN⟩ := join_any ls A k c HN.out (by have := HT.out; omega) hls
      have hX2s : X2.size ≤ 6000 := by
       rw [Lib.size_eq, hX2]
       have h1 := HT.out; have h2 := HN.out
       cases hq : ls with
       | nil => simp [Lib.join]
       | cons x r => rw [join_cons2]; rw [hq] at h1 h2; unfold sumL at h1 ⊢; simp at h1 h2 ⊢; omega
      have HX2 := Lib.hid hX2; have HJN := Lib.hid hJN
      clear hX1 hX1l hX2 hJN
      go_wp2
      go_region_with (first | (go_at_call 94; refine (HRP.out _).mono ?_; rintro e w5 ⟨rfl, hb5⟩) | (go_at_call 93; refine (write_any (Wr.below HH.out (by first | exact hb5 | exact (Below.drew (Below.refl _ _)).trans hb5)) X1 (by omega)).mono ?_; rintro e w6 ⟨rfl, hwr, hk6, hu6⟩))
      all_goals (
       have hb15 : Below wr.heap.size wr w5 := (by first | exact hb5 | exact (Below.drew (Below.refl _ _)).trans hb5)
       have hk := (KeptB.of_below (b := b) hb15 HH.out.le).trans hk6
       have hu := (KeptU.of_below (b := b) hb15).trans hu6
       clear hk6 hu6 hb5 hb15)
      obtain ⟨w7, hw7⟩ : ∃ W, W = w6 := ⟨_, rfl⟩
      rw [← hw7] at hwr hk hu ⊢
      clear hw7
      have hov : w7.ownsRow 0 9 1 (.slice A k c) k (strsV ls) := by
       obtain ⟨_, _, _, hbx, _⟩ := HH.out.box
       have := HOV.out
       rw [HN.out] at this
       exact hu.own hbx (by decide) (by decide) this
      have hl1 : (l ++ X1.data.toList).length = l.length + m := by rw [List.length_append, ← Lib.size_eq, hX1s]
      have HWR := Lib.hid hwr; have HK := Lib.hid hk; have HU := Lib.hid hu; have HOV7 := Lib.hid hov; have HL1 := Lib.hid hl1
      clear hwr hk hu hov hl1
      go_wp2
      go_region_with (first | (go_at_call 95; refine (HJN.out _ (by first | exact HOV7.out | exact HOV7.out.drew)).mono ?_; rintro e w8 ⟨rfl, hb8⟩) | (go_at_call 93; refine (write_any (Wr.below HWR.out (by first | exact hb8 | exact (Below.drew (Below.refl _ _)).trans hb8)) X2 (by have := HL1.out; omega)).mono ?_; rintro e w9 ⟨rfl, hwr, hk9, hu9⟩))
      all_goals (
       have hb15 : Below w7.heap.size w7 w8 := (by first | exact hb8 | exact (Below.drew (Below.refl _ _)).trans hb8)
       have hk := HK.out.trans ((KeptB.of_below (b := b) hb15 HWR.out.le).trans hk9)
       have hu := HU.out.trans ((KeptU.of_below (b := b) hb15).trans hu9)
       clear hk9 hu9 hb8 hb15)
      have hl2 : (l ++ X1.data.toList ++ X2.data.toList).length = l.length + m + X2.size := by rw [List.length_append, HL1.out, ← Lib.size_eq]
      have HWR9 := Lib.hid hwr; have HK9 := Lib.hid hk; have HU9 := Lib.hid hu; have HL2 := Lib.hid hl2
      clear hwr hk hu hl2
      go_wp2_with (go_at_call 93; refine (write_any HWR9.out ⟨#[10]⟩ (by have := HL2.out; rw [this, show (⟨#[10]⟩ : ByteArray).size = 1 from rfl]; omega)).mono ?_; rintro e w10 ⟨rfl, hwr, hk9, hu9⟩)
      go_end0
      refine ⟨rfl, ?_, HK9.out.trans hk9, HU9.out.trans hu9⟩
      rw [HP.out]
      unfold lineTx
      rw [HX1.out, HX2.out] at hwr
      rw [← List.append_assoc, ← List.append_assoc]
      exact hwr
end Go.Proofs.YtdelihhbmagphaaGreatDoor.Ch
namespace Go.Proofs.YtdelihhbmagphaaGreatDoor.Ch
open Go.RowKit
theorem blockText_any (v : Value) (l : List AM) (w : World) (h : BlkR w v l) (hl : l.length ≤ 4611686018427387904) (hE : Env w) : Calls Tryz.prog 99 #[v] w fun e w' => e = .returned (bstr (showA l).1) ∧ Below w.heap.size w w' := by
 obtain ⟨ps, h1, h2, _⟩ := h
 have hps : ps.length ≤ 4611686018427387904 := by rw [← h1, List.length_map] at hl; exact hl
 have HS := Lib.hid (aShow_any v ps w h2 hps hE.ops hE.laid)
 rw [h1] at HS
 obtain ⟨X, hX, _⟩ := bstr_some (showA l).1
 obtain ⟨A, c, rfl⟩ := h2.form
 unfold ShowAPost at HS
 rw [hX] at HS ⊢
 generalize ps.length = n at *
 clear h1 h2 hX hE
 go_enter Tryz.func99, Tryz.ntmps99
 go_wp2_with (go_at_call 135; refine HS.out.mono ?_; rintro e w1 ⟨rfl, hb1⟩)
 go_ret
 exact ⟨rfl, hb1⟩
end Go.Proofs.YtdelihhbmagphaaGreatDoor.Ch
