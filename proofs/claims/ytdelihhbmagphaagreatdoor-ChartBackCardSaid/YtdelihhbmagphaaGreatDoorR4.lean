/- Own texts, joined: Eg, Eh, Di. -/
import Derived.Test.YtdelihhbmagphaaGreatDoorR2
import Derived.Test.YtdelihhbmagphaaGreatDoorR3
import Derived.IntWalk
import Derived.Lib.AppendIntMem
import Derived.Laws.IdiomStrings
import Derived.Laws.Concat
namespace Go.Proofs.YtdelihhbmagphaaGreatDoor
open Go.RowKit
def Dd (l : List UInt8) (p k : Nat) : Prop := p < k ∧ k ≤ l.length ∧ ((l.drop p).take (k - p)).all isD = true ∧ (nx l p = 48 → k = p + 1)
theorem Dd.start {l : List UInt8} {p : Nat} (h : p < l.length) (hd : isD (nx l p) = true) : Dd l p (p + 1) := by
 refine ⟨by omega, h, ?_, fun _ => rfl⟩
 rw [nx_at h] at hd
 rw [take_one l p h]; simp [hd]
theorem Dd.step {l : List UInt8} {p k : Nat} (h : Dd l p k) (h0 : nx l p ≠ 48) (hk : k < l.length) (ho : isD l[k] = true) : Dd l p (k + 1) := by
 refine ⟨by have := h.1; omega, hk, ?_, fun e => absurd e h0⟩
 rw [take_at l p k (by have := h.1; omega) hk, List.all_append, h.2.2.1]
 simp [ho]
theorem Dd.stop {l : List UInt8} {p k : Nat} (h : Dd l p k) (hs : nx l p = 48 ∨ k = l.length ∨ ∃ hk : k < l.length, isD l[k] = false) : numT l p = (l.drop p).take (k - p) ∧ k = p + (numT l p).length := by
 have h1 := h.1; have h2 := h.2.1
 have hlen : ((l.drop p).take (k - p)).length = k - p := by rw [List.length_take, List.length_drop]; omega
 have e : numT l p = (l.drop p).take (k - p) := by
  unfold numT
  by_cases h48 : nx l p = 48
  ·rw [if_pos h48]
   have hk := h.2.2.2 h48
   subst hk
   rw [take_one l p (by omega), ← nx_at (by omega), h48]
  ·rw [if_neg h48]
   refine takeWhile_take _ _ (by rw [List.length_drop]; omega) h.2.2.1 (fun hl => ?_)
   rw [List.length_drop] at hl
   rw [List.getElem_drop]
   rcases hs with e | e | ⟨hk, hf⟩
   ·exact absurd e h48
   ·omega
   ·rw [← hf]; congr 2; omega
 exact ⟨e, by rw [e, hlen]; omega⟩
theorem quiet_on {P : Program} {f : FuncId} {args : Array Value} {w : World} {a n : Nat} {v : Value} (h : Calls P f args (w.drewN (a + n)) fun e w' => e = .returned v ∧ w.drewN (a + n) = w') :
  Calls P f args (w.drewN (a + n)) fun e w'' => e = .returned v ∧ ∃ m, w'' = w.drewN (a + m) := h.mono fun _ _ ⟨he, hm⟩ => ⟨he, n, hm.symm⟩
theorem quiet_at {P : Program} {f : FuncId} {args : Array Value} {w : World} {n : Nat} {v : Value} (h : Calls P f args (w.drewN n) fun e w' => e = .returned v ∧ w.drewN n = w') :
  Calls P f args (w.drewN n) fun e w'' => e = .returned v ∧ ∃ m, w'' = w.drewN m := h.mono fun _ _ ⟨he, hm⟩ => ⟨he, n, hm.symm⟩
theorem number_list (l : List UInt8) (w : World) (hs : l.length ≤ 281474976710656) :
  Calls Tryz.prog 72 #[.string ⟨l.toArray⟩] w fun e w' => e = .returned (.tuple #[.int .i64 (numP l).1, .int .i64 (numP l).2]) ∧ w = w' := by
 have := number_any ⟨l.toArray⟩ w (by rw [size_list]; exact hs)
 exact this
theorem ext_num {s : ByteArray} {p k : Nat} {T : List UInt8} (h : T = (s.data.toList.drop p).take (k - p)) : s.extract p k = ⟨T.toArray⟩ := by
 subst h
 apply ByteArray.ext
 apply Array.toList_inj.1
 rw [Lib.extract_data]
theorem pre_one (l : List UInt8) (c : UInt8) (k : Nat) : Lib.hasPrefix (l.drop k) [c] = (decide (k < l.length) && (nx l k == c)) := by
 unfold Lib.hasPrefix
 by_cases h : k < l.length
 ·rw [List.drop_eq_getElem_cons h, nx_at h]
  simp [h, List.isPrefixOf]
  exact Bool.eq_iff_iff.2 ⟨fun e => beq_iff_eq.2 (beq_iff_eq.1 e).symm, fun e => beq_iff_eq.2 (beq_iff_eq.1 e).symm⟩
 ·rw [List.drop_of_length_le (by omega)]; simp [h]
theorem prefix_at (s : ByteArray) (c : UInt8) (k : Nat) (hc : c ≠ 0) (hk : k ≤ s.size) (w : World) :
  Calls Tryz.prog 131 #[.string (s.extract k s.size), .string ⟨#[c]⟩] w fun e w' => e = .returned (.bool (nx s.data.toList k == c)) ∧ w = w' := by
 have hl : s.data.toList.length = s.size := (Lib.size_eq s).symm
 refine (Tryz.strings_HasPrefix _ _ w).mono ?_
 rintro e w' ⟨rfl, rfl⟩
 refine ⟨?_, rfl⟩
 have e1 : (s.extract k s.size).data.toList = s.data.toList.drop k := by
  rw [Lib.extract_data, List.take_of_length_le (by rw [List.length_drop]; omega)]
 rw [e1, show (⟨#[c]⟩ : ByteArray).data.toList = [c] from rfl, pre_one]
 by_cases h : k < s.data.toList.length
 ·rw [decide_eq_true h]; simp
 ·rw [decide_eq_false h, nx_end (by omega)]
  have : ((0 : UInt8) == c) = false := beq_eq_false_iff_ne.2 (Ne.symm hc)
  rw [this]; rfl
theorem wp_region_tail {P : Program} {id : Nat} {Q : Exit → Act → World → Prop} {a : Act} {w : World} {l : List Oper} (n : Nat) (hm : P.follows .mixedOrders = true) (hB : Region.lexTailB .any l.toArray n = true)
  (h : wpStill P l.toArray w.drew (fun a' => wpList P l.toArray Q (l.drop n) a' w.drew) (l.take n) a) : (Code.region id l.toArray true).wp P Q a w := wp_region_still_tail n hm hB h
theorem St.drew {w0 wa w : World} {g : Nat} {s : ByteArray} {p : Nat} {cs : List CM} (h : St w0 wa g s p cs w) : St w0 wa g s p cs w.drew := by
 obtain ⟨v, hbox, hown⟩ := h.box
 exact ⟨⟨v, hbox, hown⟩, h.ge, h.below.drew, ⟨h.keep.size, h.keep.same⟩⟩
theorem size_ext (s : ByteArray) (p k : Nat) (h : p ≤ k) (hk : k ≤ s.size) : p + (s.extract p k).size = k := by
 rw [ByteArray.size_extract]; omega
theorem take_ext {w0 wa w : World} {g : Nat} {s : ByteArray} {p k : Nat} {cs : List CM} (h : St w0 wa g s p cs w) (o a : Int) (hp : p ≤ k) (hk : k ≤ s.size) (hs : s.size ≤ 600) (hc : cs.length ≤ 600) :
  Calls Tryz.prog 211 #[rp g, .string (s.extract p k), .agg #[.int .i64 o, .int .i64 a, .string ⟨#[]⟩]] w fun e w' => e = .returned (.bool true) ∧ St w0 wa g s k (cs ++ [⟨o, a, []⟩]) w' := by
 have := take_any h (s.extract p k) ⟨o, a, []⟩ (by rw [size_ext s p k hp hk]; exact hk) hs hc
 rw [size_ext s p k hp hk] at this
 exact this
set_option maxRecDepth 100000 in
set_option maxHeartbeats 4000000 in
theorem number_walk {w0 wa w : World} {g : Nat} {s : ByteArray} {p : Nat} {cs : List CM} (h : St w0 wa g s p cs w) (hp : p < s.size) (hd : isD (nx s.data.toList p) = true) (hs : s.size ≤ 600) (hc : cs.length ≤ 600) :
  Calls Tryz.prog 209 #[rp g] w (RPost w0 wa g s (numD s.data.toList p cs)) := by
 have hl : s.data.toList.length = s.size := (Lib.size_eq s).symm
 have HS := Lib.hid h
 obtain ⟨v, ⟨c0, c1, c2, f1, f2⟩, hbox, hown⟩ := h.at_
 clear hbox hown h
 obtain ⟨T, hT⟩ : ∃ T, numT s.data.toList p = T := ⟨_, rfl⟩
 have hTl : p + T.length ≤ s.size := by rw [← hT, ← hl]; exact num_le _ _ (by omega)
 have hR : numD s.data.toList p cs = if (numP T).2 ≠ 0 then (false, p, cs)
   else if nx s.data.toList (p + T.length) = 105 then (if (numP T).1 ≤ 1048576 then (true, p + T.length + 1, cs ++ [⟨2, (numP T).1, []⟩]) else (false, p, cs))
   else (true, p + T.length, cs ++ [⟨1, (numP T).1, []⟩]) := by rw [← hT]; rfl
 have HR := Lib.hid hR; clear hR
 have hstart : Dd s.data.toList p (p + 1) := Dd.start (by omega) hd
 have hstop : ∀ k, Dd s.data.toList p k → (s[p] = 48 ∨ k = s.size ∨ ∃ hk : k < s.size, isD s[k] = false) → s.extract p k = ⟨T.toArray⟩ ∧ k = p + T.length := by
  intro k hk ho
  have hh := hk.stop (by
   rcases ho with e | e | ⟨h1, h2⟩
   ·exact Or.inl (by rw [lst_at s p hp]; exact e)
   ·exact Or.inr (Or.inl (by omega))
   ·exact Or.inr (Or.inr ⟨by omega, by rw [at_list s k h1]; exact h2⟩))
  rw [hT] at hh
  exact ⟨ext_num hh.1, hh.2⟩
 have hstep : ∀ k (hk : k < s.size), Dd s.data.toList p k → s[p] ≠ 48 → isD s[k] = true → Dd s.data.toList p (k + 1) := by
  intro k hk hw h48 ho
  exact hw.step (by rw [lst_at s p hp]; exact h48) (by omega) (by rw [at_list s k hk]; exact ho)
 have HST := Lib.hid hstop; have HSP := Lib.hid hstep; have HB := Lib.hid hstart; have HT := Lib.hid hT
 clear hstop hstep hstart hT hl hd
 unfold rp
 go_enter Tryz.func209, Tryz.ntmps209
 go_wp2
 go_loopw [3] (fun i wr => ∃ k m : Nat, p < k ∧ k ≤ s.size ∧ Hid (Dd s.data.toList p k) ∧ wr = w.drewN m ∧ i = .int .i64 k) (fun i _ => s.size - (intOf i).toNat)
 case atStart => exact ⟨p + 1, 0, by omega, by omega, HB, rfl, by go_num⟩
 case round =>
  obtain ⟨k, m, hpk, hk, HK, rfl, rfl⟩ := hrel
  have hways : (s[p] ≠ 48 ∧ ∃ hlt : k < s.size, isD s[k] = true) ∨ (s[p] = 48 ∨ (s[p] ≠ 48 ∧ k = s.size) ∨ (s[p] ≠ 48 ∧ ∃ hk : k < s.size, isD s[k] = false)) := by
   by_cases h48 : s[p] = 48
   ·exact Or.inr (Or.inl h48)
   ·by_cases hlt : k < s.size
    ·cases ho : isD s[k]
     ·exact Or.inr (Or.inr (Or.inr ⟨h48, hlt, ho⟩))
     ·exact Or.inl ⟨h48, hlt, ho⟩
    ·exact Or.inr (Or.inr (Or.inl ⟨h48, by omega⟩))
  rcases hways with ⟨h48, hlt, ho⟩ | hw
  ·have HE := Lib.hid (HSP.out k hlt HK.out h48 ho)
   have t48 : ((s[p].toNat : Int) != 48) = true := by
    have : ((s[p].toNat : Int) == 48) = false := byte_not (k := 48) (by decide) h48
    rw [bne, this]; rfl
   clear h48
   go_wp2
   go_quiet ((go_at_call 208; exact quiet_on (exDigit_any _ _)))
   go_wp2
   go_roundw
   case rel => exact ⟨k + 1, _, by omega, hlt, HE, rfl, by go_num⟩
   case measure => simp [intOf]; omega
  ·obtain ⟨hx, hkT⟩ := HST.out k HK.out (by rcases hw with h | ⟨_, h⟩ | ⟨_, h⟩; exact Or.inl h; exact Or.inr (Or.inl h); exact Or.inr (Or.inr h))
   have hRk : numD s.data.toList p cs = if (numP T).2 ≠ 0 then (false, p, cs)
     else if nx s.data.toList k = 105 then (if (numP T).1 ≤ 1048576 then (true, k + 1, cs ++ [⟨2, (numP T).1, []⟩]) else (false, p, cs))
     else (true, k, cs ++ [⟨1, (numP T).1, []⟩]) := by rw [hkT]; exact HR.out
   have HX := Lib.hid hx; have HRk := Lib.hid hRk
   clear hx hkT HST HSP HK HB HR hRk HT
   have hTl2 : T.length ≤ 600 := by omega
   clear hTl
   obtain ⟨n, hn⟩ : ∃ n, (numP T).1 = n := ⟨_, rfl⟩
   obtain ⟨e2, he⟩ : ∃ e2, (numP T).2 = e2 := ⟨_, rfl⟩
   rw [hn, he] at HRk
   have HN : ∀ W : World, Calls Tryz.prog 72 #[.string (s.extract p k)] W fun e w' => e = .returned (.tuple #[.int .i64 n, .int .i64 e2]) ∧ W = w' := by
    intro W
    have := number_list T W (by omega)
    rw [hn, he] at this
    rw [HX.out]; exact this
   have HNN := Lib.hid HN; clear HN hn he HX
   rcases hw with h48 | ⟨h48, hks⟩ | ⟨h48, hlt, ho⟩
   ·have t48 : ((s[p].toNat : Int) != 48) = false := by
     have : ((s[p].toNat : Int) == 48) = true := byte_is (k := 48) (by decide) h48
     rw [bne, this]; rfl
    clear h48
    go_wp2
    go_quiet (fail)
    go_wp2
    go_quiet ((go_at_call 72; exact quiet_on (HNN.out _)))
    by_cases he2 : e2 = 0
    ·subst he2
     by_cases h105 : nx s.data.toList k = 105
     ·have hk2 : k < s.size := by
       have := nx_lt (s := s.data.toList) (p := k) (by rw [h105]; decide)
       rw [← Lib.size_eq] at this; exact this
      have hpre : (nx s.data.toList k == 105) = true := beq_iff_eq.2 h105
      by_cases hn : n ≤ 1048576
      ·have HP : Hid (numD s.data.toList p cs = (true, k + 1, cs ++ [⟨2, n, []⟩])) := by
        have := HRk.out
        rw [if_neg (by simp), if_pos h105, if_pos hn] at this
        exact this
       clear h105
       go_wp2_with (go_at_call 131; refine (prefix_at s 105 k (by decide) hk _).mono ?_; rintro e w' ⟨rfl, rfl⟩)
       have hpk2 : p ≤ k + 1 := by omega
       have hpk3 : (p : Int) ≤ (k : Int) + 1 := by omega
       have hk3 : k + 1 ≤ s.size := hk2
       have hk4 : (k : Int) + 1 ≤ s.size := by omega
       have hk5 : 0 ≤ (k : Int) + 1 := by omega
       have hk6 : IntKind.i64.wrap ((k : Int) + 1) = (k : Int) + 1 := IntWalk.i64_in _ (by omega)
       have hk7 : ((k : Int) + 1).toNat = k + 1 := by omega
       refine wp_region_tail 17 (by kernel_rfl) (by kernel_rfl) ?_
       simp only [List.take_succ_cons, List.take_zero, List.drop_succ_cons, List.drop_zero]
       repeat still_step
       refine wpStill_nil ?_
       go_wp2_with fail
       refine (take_ext (k := k + 1) (by first | exact HS.out.drew | exact (HS.out.drewN _).drew | exact ((HS.out.drewN _).drewN _).drew) 2 n hpk2 hk3 hs hc).mono ?_
       rintro e w1 ⟨rfl, h1⟩
       have H1 := Lib.hid h1; clear h1
       go_wp2
       go_ret
       rw [HP.out]
       exact ⟨rfl, H1.out⟩
      ·have HP : Hid (numD s.data.toList p cs = (false, p, cs)) := by
        have := HRk.out
        rw [if_neg (by simp), if_pos h105, if_neg hn] at this
        exact this
       clear h105
       have hn' : decide (n ≤ 1048576) = false := decide_eq_false hn
       clear hn
       go_wp2_with (go_at_call 131; refine (prefix_at s 105 k (by decide) hk _).mono ?_; rintro e w' ⟨rfl, rfl⟩)
       go_quiet (fail)
       go_wp2
       go_ret
       rw [HP.out]
       exact ⟨rfl, by first | exact HS.out.drewN _ | exact (HS.out.drewN _).drewN _⟩
     ·have hpre : (nx s.data.toList k == 105) = false := beq_eq_false_iff_ne.2 h105
      have HP : Hid (numD s.data.toList p cs = (true, k, cs ++ [⟨1, n, []⟩])) := by
       have := HRk.out
       rw [if_neg (by simp), if_neg h105] at this
       exact this
      clear h105
      go_wp2_with (go_at_call 131; refine (prefix_at s 105 k (by decide) hk _).mono ?_; rintro e w' ⟨rfl, rfl⟩)
      have hpk2 : p ≤ k := by omega
      have hpk3 : (p : Int) ≤ (k : Int) := by omega
      refine wp_region_tail 13 (by kernel_rfl) (by kernel_rfl) ?_
      simp only [List.take_succ_cons, List.take_zero, List.drop_succ_cons, List.drop_zero]
      repeat still_step
      refine wpStill_nil ?_
      go_wp2_with fail
      refine (take_ext (by first | exact HS.out.drew | exact (HS.out.drewN _).drew | exact ((HS.out.drewN _).drewN _).drew) 1 n hpk2 hk hs hc).mono ?_
      rintro e w1 ⟨rfl, h1⟩
      have H1 := Lib.hid h1; clear h1
      go_wp2
      go_ret
      rw [HP.out]
      exact ⟨rfl, H1.out⟩
    ·have te2 : (e2 != 0) = true := bne_iff_ne.2 he2
     have HP : Hid (numD s.data.toList p cs = (false, p, cs)) := by
      have := HRk.out
      rw [if_pos he2] at this
      exact this
     clear he2
     go_wp2
     go_ret
     rw [HP.out]
     exact ⟨rfl, by first | exact HS.out.drewN _ | exact (HS.out.drewN _).drewN _⟩
   ·have t48 : ((s[p].toNat : Int) != 48) = true := by
     have : ((s[p].toNat : Int) == 48) = false := byte_not (k := 48) (by decide) h48
     rw [bne, this]; rfl
    have tk : decide (k < s.size) = false := decide_eq_false (by omega)
    clear h48 hks
    go_wp2
    go_quiet (fail)
    go_wp2
    go_quiet ((go_at_call 72; exact quiet_on (HNN.out _)))
    by_cases he2 : e2 = 0
    ·subst he2
     by_cases h105 : nx s.data.toList k = 105
     ·have hk2 : k < s.size := by
       have := nx_lt (s := s.data.toList) (p := k) (by rw [h105]; decide)
       rw [← Lib.size_eq] at this; exact this
      have hpre : (nx s.data.toList k == 105) = true := beq_iff_eq.2 h105
      by_cases hn : n ≤ 1048576
      ·have HP : Hid (numD s.data.toList p cs = (true, k + 1, cs ++ [⟨2, n, []⟩])) := by
        have := HRk.out
        rw [if_neg (by simp), if_pos h105, if_pos hn] at this
        exact this
       clear h105
       go_wp2_with (go_at_call 131; refine (prefix_at s 105 k (by decide) hk _).mono ?_; rintro e w' ⟨rfl, rfl⟩)
       have hpk2 : p ≤ k + 1 := by omega
       have hpk3 : (p : Int) ≤ (k : Int) + 1 := by omega
       have hk3 : k + 1 ≤ s.size := hk2
       have hk4 : (k : Int) + 1 ≤ s.size := by omega
       have hk5 : 0 ≤ (k : Int) + 1 := by omega
       have hk6 : IntKind.i64.wrap ((k : Int) + 1) = (k : Int) + 1 := IntWalk.i64_in _ (by omega)
       have hk7 : ((k : Int) + 1).toNat = k + 1 := by omega
       refine wp_region_tail 17 (by kernel_rfl) (by kernel_rfl) ?_
       simp only [List.take_succ_cons, List.take_zero, List.drop_succ_cons, List.drop_zero]
       repeat still_step
       refine wpStill_nil ?_
       go_wp2_with fail
       refine (take_ext (k := k + 1) (by first | exact HS.out.drew | exact (HS.out.drewN _).drew | exact ((HS.out.drewN _).drewN _).drew) 2 n hpk2 hk3 hs hc).mono ?_
       rintro e w1 ⟨rfl, h1⟩
       have H1 := Lib.hid h1; clear h1
       go_wp2
       go_ret
       rw [HP.out]
       exact ⟨rfl, H1.out⟩
      ·have HP : Hid (numD s.data.toList p cs = (false, p, cs)) := by
        have := HRk.out
        rw [if_neg (by simp), if_pos h105, if_neg hn] at this
        exact this
       clear h105
       have hn' : decide (n ≤ 1048576) = false := decide_eq_false hn
       clear hn
       go_wp2_with (go_at_call 131; refine (prefix_at s 105 k (by decide) hk _).mono ?_; rintro e w' ⟨rfl, rfl⟩)
       go_quiet (fail)
       go_wp2
       go_ret
       rw [HP.out]
       exact ⟨rfl, by first | exact HS.out.drewN _ | exact (HS.out.drewN _).drewN _⟩
     ·have hpre : (nx s.data.toList k == 105) = false := beq_eq_false_iff_ne.2 h105
      have HP : Hid (numD s.data.toList p cs = (true, k, cs ++ [⟨1, n, []⟩])) := by
       have := HRk.out
       rw [if_neg (by simp), if_neg h105] at this
       exact this
      clear h105
      go_wp2_with (go_at_call 131; refine (prefix_at s 105 k (by decide) hk _).mono ?_; rintro e w' ⟨rfl, rfl⟩)
      have hpk2 : p ≤ k := by omega
      have hpk3 : (p : Int) ≤ (k : Int) := by omega
      refine wp_region_tail 13 (by kernel_rfl) (by kernel_rfl) ?_
      simp only [List.take_succ_cons, List.take_zero, List.drop_succ_cons, List.drop_zero]
      repeat still_step
      refine wpStill_nil ?_
      go_wp2_with fail
      refine (take_ext (by first | exact HS.out.drew | exact (HS.out.drewN _).drew | exact ((HS.out.drewN _).drewN _).drew) 1 n hpk2 hk hs hc).mono ?_
      rintro e w1 ⟨rfl, h1⟩
      have H1 := Lib.hid h1; clear h1
      go_wp2
      go_ret
      rw [HP.out]
      exact ⟨rfl, H1.out⟩
    ·have te2 : (e2 != 0) = true := bne_iff_ne.2 he2
     have HP : Hid (numD s.data.toList p cs = (false, p, cs)) := by
      have := HRk.out
      rw [if_pos he2] at this
      exact this
     clear he2
     go_wp2
     go_ret
     rw [HP.out]
     exact ⟨rfl, by first | exact HS.out.drewN _ | exact (HS.out.drewN _).drewN _⟩
   ·have t48 : ((s[p].toNat : Int) != 48) = true := by
     have : ((s[p].toNat : Int) == 48) = false := byte_not (k := 48) (by decide) h48
     rw [bne, this]; rfl
    clear h48
    go_wp2
    go_quiet ((go_at_call 208; exact quiet_on (exDigit_any _ _)))
    go_wp2
    go_quiet ((go_at_call 72; exact quiet_on (HNN.out _)))
    by_cases he2 : e2 = 0
    ·subst he2
     by_cases h105 : nx s.data.toList k = 105
     ·have hk2 : k < s.size := by
       have := nx_lt (s := s.data.toList) (p := k) (by rw [h105]; decide)
       rw [← Lib.size_eq] at this; exact this
      have hpre : (nx s.data.toList k == 105) = true := beq_iff_eq.2 h105
      by_cases hn : n ≤ 1048576
      ·have HP : Hid (numD s.data.toList p cs = (true, k + 1, cs ++ [⟨2, n, []⟩])) := by
        have := HRk.out
        rw [if_neg (by simp), if_pos h105, if_pos hn] at this
        exact this
       clear h105
       go_wp2_with (go_at_call 131; refine (prefix_at s 105 k (by decide) hk _).mono ?_; rintro e w' ⟨rfl, rfl⟩)
       have hpk2 : p ≤ k + 1 := by omega
       have hpk3 : (p : Int) ≤ (k : Int) + 1 := by omega
       have hk3 : k + 1 ≤ s.size := hk2
       have hk4 : (k : Int) + 1 ≤ s.size := by omega
       have hk5 : 0 ≤ (k : Int) + 1 := by omega
       have hk6 : IntKind.i64.wrap ((k : Int) + 1) = (k : Int) + 1 := IntWalk.i64_in _ (by omega)
       have hk7 : ((k : Int) + 1).toNat = k + 1 := by omega
       refine wp_region_tail 17 (by kernel_rfl) (by kernel_rfl) ?_
       simp only [List.take_succ_cons, List.take_zero, List.drop_succ_cons, List.drop_zero]
       repeat still_step
       refine wpStill_nil ?_
       go_wp2_with fail
       refine (take_ext (k := k + 1) (by first | exact HS.out.drew | exact (HS.out.drewN _).drew | exact ((HS.out.drewN _).drewN _).drew) 2 n hpk2 hk3 hs hc).mono ?_
       rintro e w1 ⟨rfl, h1⟩
       have H1 := Lib.hid h1; clear h1
       go_wp2
       go_ret
       rw [HP.out]
       exact ⟨rfl, H1.out⟩
      ·have HP : Hid (numD s.data.toList p cs = (false, p, cs)) := by
        have := HRk.out
        rw [if_neg (by simp), if_pos h105, if_neg hn] at this
        exact this
       clear h105
       have hn' : decide (n ≤ 1048576) = false := decide_eq_false hn
       clear hn
       go_wp2_with (go_at_call 131; refine (prefix_at s 105 k (by decide) hk _).mono ?_; rintro e w' ⟨rfl, rfl⟩)
       go_quiet (fail)
       go_wp2
       go_ret
       rw [HP.out]
       exact ⟨rfl, by first | exact HS.out.drewN _ | exact (HS.out.drewN _).drewN _⟩
     ·have hpre : (nx s.data.toList k == 105) = false := beq_eq_false_iff_ne.2 h105
      have HP : Hid (numD s.data.toList p cs = (true, k, cs ++ [⟨1, n, []⟩])) := by
       have := HRk.out
       rw [if_neg (by simp), if_neg h105] at this
       exact this
      clear h105
      go_wp2_with (go_at_call 131; refine (prefix_at s 105 k (by decide) hk _).mono ?_; rintro e w' ⟨rfl, rfl⟩)
      have hpk2 : p ≤ k := by omega
      have hpk3 : (p : Int) ≤ (k : Int) := by omega
      refine wp_region_tail 13 (by kernel_rfl) (by kernel_rfl) ?_
      simp only [List.take_succ_cons, List.take_zero, List.drop_succ_cons, List.drop_zero]
      repeat still_step
      refine wpStill_nil ?_
      go_wp2_with fail
      refine (take_ext (by first | exact HS.out.drew | exact (HS.out.drewN _).drew | exact ((HS.out.drewN _).drewN _).drew) 1 n hpk2 hk hs hc).mono ?_
      rintro e w1 ⟨rfl, h1⟩
      have H1 := Lib.hid h1; clear h1
      go_wp2
      go_ret
      rw [HP.out]
      exact ⟨rfl, H1.out⟩
    ·have te2 : (e2 != 0) = true := bne_iff_ne.2 he2
     have HP : Hid (numD s.data.toList p cs = (false, p, cs)) := by
      have := HRk.out
      rw [if_pos he2] at this
      exact this
     clear he2
     go_wp2
     go_ret
     rw [HP.out]
     exact ⟨rfl, by first | exact HS.out.drewN _ | exact (HS.out.drewN _).drewN _⟩
end Go.Proofs.YtdelihhbmagphaaGreatDoor
namespace Go.Proofs.YtdelihhbmagphaaGreatDoor
open Go.RowKit
def tabOps : List (Int × List UInt8 × Int) :=
 [(11, [43], 4), (12, [45], 4), (13, [42], 5), (14, [47], 5), (15, [37], 5), (16, [61], 3), (17, [33, 61], 3), (18, [60], 3), (19, [60, 61], 3), (20, [62], 3), (21, [62, 61], 3), (22, [38], 2), (23, [124], 1)]
def opRow (o : Int × List UInt8 × Int) : List Value := [.int .i64 o.1, .string ⟨o.2.1.toArray⟩, .int .i64 o.2.2]
def opsCells : Array Value := (tabOps.flatMap opRow).toArray
def Ops (w : World) : Prop := w.var? Tryz.prog "quintain/expr.operators" = some opsCells
theorem gOps : Tryz.prog.globalNamed "quintain/expr.operators" = some 1 := by kernel_rfl
theorem Ops.at_ {w : World} (h : Ops w) : ∃ t fr, w.heap[1]? = some (.cells opsCells t fr) := by
 unfold Ops World.var? at h
 simp only [gOps, Option.bind_some] at h
 split at h
 ·rename_i cs t fr hh
  injection h with h
  subst h
  exact ⟨_, _, hh⟩
 ·cases h
theorem Ops.lt {w : World} (h : Ops w) : 1 < w.heap.size := by
 obtain ⟨t, fr, hh⟩ := h.at_
 exact lt_of_block hh
theorem Ops.same {w w' : World} (h : Ops w) (hb : w'.heap[1]? = w.heap[1]?) : Ops w' := by
 unfold Ops World.var? at h ⊢
 simp only [gOps, Option.bind_some] at h ⊢
 rw [hb]; exact h
theorem Ops.below {w w' : World} (h : Ops w) (hb : Below w.heap.size w w') : Ops w' := h.same (hb.block _ h.lt)
def tabAt (k : Nat) : Int × List UInt8 × Int := tabOps.getD k (0, [], 0)
theorem index_ops0 (w : World) : (Instr.index 224 (.agg opsCells) (.int .i64 0)).run Tryz.prog w = .ok (.agg (opRow (tabAt 0)).toArray) w := by kernel_rfl
theorem index_ops1 (w : World) : (Instr.index 224 (.agg opsCells) (.int .i64 1)).run Tryz.prog w = .ok (.agg (opRow (tabAt 1)).toArray) w := by kernel_rfl
theorem index_ops2 (w : World) : (Instr.index 224 (.agg opsCells) (.int .i64 2)).run Tryz.prog w = .ok (.agg (opRow (tabAt 2)).toArray) w := by kernel_rfl
theorem index_ops3 (w : World) : (Instr.index 224 (.agg opsCells) (.int .i64 3)).run Tryz.prog w = .ok (.agg (opRow (tabAt 3)).toArray) w := by kernel_rfl
theorem index_ops4 (w : World) : (Instr.index 224 (.agg opsCells) (.int .i64 4)).run Tryz.prog w = .ok (.agg (opRow (tabAt 4)).toArray) w := by kernel_rfl
theorem index_ops5 (w : World) : (Instr.index 224 (.agg opsCells) (.int .i64 5)).run Tryz.prog w = .ok (.agg (opRow (tabAt 5)).toArray) w := by kernel_rfl
theorem index_ops6 (w : World) : (Instr.index 224 (.agg opsCells) (.int .i64 6)).run Tryz.prog w = .ok (.agg (opRow (tabAt 6)).toArray) w := by kernel_rfl
theorem index_ops7 (w : World) : (Instr.index 224 (.agg opsCells) (.int .i64 7)).run Tryz.prog w = .ok (.agg (opRow (tabAt 7)).toArray) w := by kernel_rfl
theorem index_ops8 (w : World) : (Instr.index 224 (.agg opsCells) (.int .i64 8)).run Tryz.prog w = .ok (.agg (opRow (tabAt 8)).toArray) w := by kernel_rfl
theorem index_ops9 (w : World) : (Instr.index 224 (.agg opsCells) (.int .i64 9)).run Tryz.prog w = .ok (.agg (opRow (tabAt 9)).toArray) w := by kernel_rfl
theorem index_ops10 (w : World) : (Instr.index 224 (.agg opsCells) (.int .i64 10)).run Tryz.prog w = .ok (.agg (opRow (tabAt 10)).toArray) w := by kernel_rfl
theorem index_ops11 (w : World) : (Instr.index 224 (.agg opsCells) (.int .i64 11)).run Tryz.prog w = .ok (.agg (opRow (tabAt 11)).toArray) w := by kernel_rfl
theorem index_ops12 (w : World) : (Instr.index 224 (.agg opsCells) (.int .i64 12)).run Tryz.prog w = .ok (.agg (opRow (tabAt 12)).toArray) w := by kernel_rfl
theorem index_ops (k : Nat) (hk : k < 13) (w : World) : (Instr.index 224 (.agg opsCells) (.int .i64 (k : Int))).run Tryz.prog w = .ok (.agg (opRow (tabAt k)).toArray) w := by
 have h : k = 0 ∨ k = 1 ∨ k = 2 ∨ k = 3 ∨ k = 4 ∨ k = 5 ∨ k = 6 ∨ k = 7 ∨ k = 8 ∨ k = 9 ∨ k = 10 ∨ k = 11 ∨ k = 12 := by omega
 rcases h with rfl | rfl | rfl | rfl | rfl | rfl | rfl | rfl | rfl | rfl | rfl | rfl | rfl
 ·exact index_ops0 w
 ·exact index_ops1 w
 ·exact index_ops2 w
 ·exact index_ops3 w
 ·exact index_ops4 w
 ·exact index_ops5 w
 ·exact index_ops6 w
 ·exact index_ops7 w
 ·exact index_ops8 w
 ·exact index_ops9 w
 ·exact index_ops10 w
 ·exact index_ops11 w
 ·exact index_ops12 w
def bestO (l : List UInt8) (p : Nat) : Nat → Int × List UInt8 × Int
 | 0 => (0, [], 0)
 | k + 1 => if Lib.hasPrefix (l.drop p) (tabAt k).2.1 = true ∧ (bestO l p k).2.1.length < (tabAt k).2.1.length then tabAt k else bestO l p k
theorem bestO_succ (l : List UInt8) (p k : Nat) : bestO l p (k + 1) = if Lib.hasPrefix (l.drop p) (tabAt k).2.1 = true ∧ (bestO l p k).2.1.length < (tabAt k).2.1.length then tabAt k else bestO l p k := rfl
theorem pre_two (l : List UInt8) (c d : UInt8) (k : Nat) (hc : c ≠ 0) (hd : d ≠ 0) : Lib.hasPrefix (l.drop k) [c, d] = (nx l k == c && nx l (k + 1) == d) := by
 unfold Lib.hasPrefix
 have bc : ∀ x y : UInt8, (x == y) = (y == x) := fun x y => Bool.eq_iff_iff.2 ⟨fun e => beq_iff_eq.2 (beq_iff_eq.1 e).symm, fun e => beq_iff_eq.2 (beq_iff_eq.1 e).symm⟩
 by_cases h : k < l.length
 ·rw [List.drop_eq_getElem_cons h, nx_at h]
  by_cases h1 : k + 1 < l.length
  ·rw [List.drop_eq_getElem_cons h1, nx_at h1]
   simp only [List.isPrefixOf, Bool.and_true]
   rw [bc c, bc d]
  ·rw [List.drop_of_length_le (by omega), nx_end (by omega)]
   simp [List.isPrefixOf, Ne.symm hd]
 ·rw [List.drop_of_length_le (by omega), nx_end (by omega)]
  simp [List.isPrefixOf, Ne.symm hc]
theorem pre_one' (l : List UInt8) (c : UInt8) (k : Nat) (hc : c ≠ 0) : Lib.hasPrefix (l.drop k) [c] = (nx l k == c) := by
 rw [pre_one]
 by_cases h : k < l.length
 ·simp [h]
 ·rw [nx_end (by omega)]
  simp [Ne.symm hc, h]
def bestB (c : UInt8) (d : Bool) : Nat → Int × List UInt8 × Int
 | 0 => (0, [], 0)
 | k + 1 => if (match (tabAt k).2.1 with | [x] => c == x | [x, _] => c == x && d | _ => false) = true ∧ (bestB c d k).2.1.length < (tabAt k).2.1.length then tabAt k else bestB c d k
theorem best_same (l : List UInt8) (p : Nat) : ∀ k, k ≤ 13 → bestO l p k = bestB (nx l p) (nx l (p + 1) == 61) k := by
 intro k hk
 induction k with
 | zero => rfl
 | succ k ih =>
  have e := ih (by omega)
  have e2 : Lib.hasPrefix (l.drop p) (tabAt k).2.1 = (match (tabAt k).2.1 with | [x] => nx l p == x | [x, _] => nx l p == x && nx l (p + 1) == 61 | _ => false) := by
   match k, (show k < 13 by omega) with
   | 0, _ => exact pre_one' _ _ _ (by decide)
   | 1, _ => exact pre_one' _ _ _ (by decide)
   | 2, _ => exact pre_one' _ _ _ (by decide)
   | 3, _ => exact pre_one' _ _ _ (by decide)
   | 4, _ => exact pre_one' _ _ _ (by decide)
   | 5, _ => exact pre_one' _ _ _ (by decide)
   | 6, _ => exact pre_two _ _ _ _ (by decide) (by decide)
   | 7, _ => exact pre_one' _ _ _ (by decide)
   | 8, _ => exact pre_two _ _ _ _ (by decide) (by decide)
   | 9, _ => exact pre_one' _ _ _ (by decide)
   | 10, _ => exact pre_two _ _ _ _ (by decide) (by decide)
   | 11, _ => exact pre_one' _ _ _ (by decide)
   | 12, _ => exact pre_one' _ _ _ (by decide)
   | k + 13, hk => omega
  show (if _ then _ else _) = (if _ then _ else _)
  rw [e2, e]
theorem best_is : ∀ n : Fin 256, ∀ d : Bool, (bestB (UInt8.ofNat n.val) d 13).1 = (opOf (UInt8.ofNat n.val) (if d then 61 else 0)).1 ∧ (bestB (UInt8.ofNat n.val) d 13).2.1.length = (opOf (UInt8.ofNat n.val) (if d then 61 else 0)).2.1 ∧ (bestB (UInt8.ofNat n.val) d 13).2.2 = ((opOf (UInt8.ofNat n.val) (if d then 61 else 0)).2.2 : Int) := by
 decide +kernel
theorem opOf_two (c d : UInt8) : opOf c d = opOf c (if (d == 61) = true then 61 else 0) := by
 by_cases h : d = 61
 ·simp [h]
 ·simp [h, opOf]
theorem best_op (l : List UInt8) (p : Nat) : (bestO l p 13).1 = (opAt l p).1 ∧ (bestO l p 13).2.1.length = (opAt l p).2.1 ∧ (bestO l p 13).2.2 = ((opAt l p).2.2 : Int) := by
 rw [best_same l p 13 (by omega)]
 unfold opAt
 rw [opOf_two]
 have hc : nx l p = UInt8.ofNat (nx l p).toNat := by simp
 have := best_is ⟨(nx l p).toNat, (nx l p).toNat_lt⟩ (nx l (p + 1) == 61)
 simp only at this
 rw [← hc] at this
 exact this
theorem tab_len (k : Nat) : (tabAt k).2.1.length ≤ 2 := by
 by_cases hk : k < 13
 ·have h : k = 0 ∨ k = 1 ∨ k = 2 ∨ k = 3 ∨ k = 4 ∨ k = 5 ∨ k = 6 ∨ k = 7 ∨ k = 8 ∨ k = 9 ∨ k = 10 ∨ k = 11 ∨ k = 12 := by omega
  rcases h with rfl | rfl | rfl | rfl | rfl | rfl | rfl | rfl | rfl | rfl | rfl | rfl | rfl <;> decide
 ·unfold tabAt
  rw [List.getD_eq_getElem?_getD, List.getElem?_eq_none (by simp [tabOps]; omega)]
  simp
theorem three_at {w : World} {b : Nat} {x y z : Value} {t : TypeId} (h : w.heap[b]? = some (.cells #[x, y, z] t (0, 0))) : w.cell? ⟨b, 0, none⟩ = some x ∧ w.cell? ⟨b, 1, none⟩ = some y ∧ w.cell? ⟨b, 2, none⟩ = some z ∧ w.frozen? ⟨b, 0, none⟩ = false ∧ w.frozen? ⟨b, 1, none⟩ = false ∧ w.frozen? ⟨b, 2, none⟩ = false :=
 ⟨(cell_of_row w b 0 _ _ _ h).trans rfl, (cell_of_row w b 1 _ _ _ h).trans rfl, (cell_of_row w b 2 _ _ _ h).trans rfl, frozen_of_row w b 0 _ _ h, frozen_of_row w b 1 _ _ h, frozen_of_row w b 2 _ _ h⟩
structure OpR (s : ByteArray) (w : World) (p k : Nat) (wr : World) : Prop where
 below : Below w.heap.size w wr
 best : ∃ (li : Int) (lt : ByteArray) (ls : Int), wr.heap[w.heap.size + 1]? = some (.cells #[.int .i64 li, .string lt, .int .i64 ls] 198 (0, 0)) ∧ bestO s.data.toList p k = (li, lt.data.toList, ls)
 res : ∃ x y z, wr.heap[w.heap.size]? = some (.cells #[x, y, z] 198 (0, 0))
theorem OpR.parts {s : ByteArray} {w : World} {p k : Nat} {wr : World} (h : OpR s w p k wr) : Below w.heap.size w wr ∧ (∃ (li : Int) (lt : ByteArray) (ls : Int), wr.heap[w.heap.size + 1]? = some (.cells #[.int .i64 li, .string lt, .int .i64 ls] 198 (0, 0)) ∧ bestO s.data.toList p k = (li, lt.data.toList, ls)) ∧ ∃ x y z, wr.heap[w.heap.size]? = some (.cells #[x, y, z] 198 (0, 0)) := ⟨h.below, h.best, h.res⟩
theorem OpR.start {s : ByteArray} {w : World} {p : Nat} : OpR s w p 0 ((w.alloc (.cells #[.int .i64 0, .string ⟨#[]⟩, .int .i64 0] 198)).alloc (.cells #[.int .i64 0, .string ⟨#[]⟩, .int .i64 0] 198)) := by
 refine ⟨((Below.refl _ _).alloc (Nat.le_refl _) _).alloc (by simp) _, ⟨0, ⟨#[]⟩, 0, ?_, rfl⟩, ⟨_, _, _, (Below.heap_alloc _ _ _ (by simp)).trans (heap_alloc_new w _)⟩⟩
 have := heap_alloc_new (w.alloc (.cells #[.int .i64 0, .string ⟨#[]⟩, .int .i64 0] 198)) (.cells #[.int .i64 0, .string ⟨#[]⟩, .int .i64 0] 198)
 simpa using this
theorem OpR.keep {s : ByteArray} {w : World} {p k : Nat} {wr : World} (h : OpR s w p k wr) (hno : ¬ (Lib.hasPrefix (s.data.toList.drop p) (tabAt k).2.1 = true ∧ (bestO s.data.toList p k).2.1.length < (tabAt k).2.1.length)) (o : Obj) (n : Nat) : OpR s w p (k + 1) ((wr.alloc o).drewN n) := by
 obtain ⟨hb, ⟨li, lt, ls, hlb, he⟩, ⟨x, y, z, hr⟩⟩ := h
 have hl1 := lt_of_block hlb
 have hb2 := hb.alloc hb.size o
 refine ⟨⟨hb2.os, hb2.tape, hb2.output, hb2.size, hb2.block⟩, ⟨li, lt, ls, ?_, ?_⟩, ⟨x, y, z, ?_⟩⟩
 ·exact (Below.heap_alloc wr o _ hl1).trans hlb
 ·rw [← he, bestO_succ, if_neg hno]
 ·exact (Below.heap_alloc wr o _ (lt_of_block hr)).trans hr
theorem set_three {w : World} {b : Nat} {x y z x' y' z' : Value} {t : TypeId} (h : w.heap[b]? = some (.cells #[x, y, z] t (0, 0))) : (((w.setCell ⟨b, 0, none⟩ x').setCell ⟨b, 1, none⟩ y').setCell ⟨b, 2, none⟩ z').heap[b]? = some (.cells #[x', y', z'] t (0, 0)) := by
 have h1 := heap_setCell_same w b 0 _ _ x' h
 have h2 := heap_setCell_same _ b 1 _ _ y' h1
 exact heap_setCell_same _ b 2 _ _ z' h2
theorem OpR.turn {s : ByteArray} {w : World} {p k : Nat} {wr : World} (h : OpR s w p k wr) {oi os : Int} {ot : ByteArray} (ht : tabAt k = (oi, ot.data.toList, os)) (hy : Lib.hasPrefix (s.data.toList.drop p) (tabAt k).2.1 = true ∧ (bestO s.data.toList p k).2.1.length < (tabAt k).2.1.length) (o : Obj) (n : Nat) :
  OpR s w p (k + 1) (((((wr.alloc o).drewN n).setCell ⟨w.heap.size + 1, 0, none⟩ (.int .i64 oi)).setCell ⟨w.heap.size + 1, 1, none⟩ (.string ot)).setCell ⟨w.heap.size + 1, 2, none⟩ (.int .i64 os)) := by
 obtain ⟨hb, ⟨li, lt, ls, hlb, he⟩, ⟨x, y, z, hr⟩⟩ := h
 have hl1 := lt_of_block hlb
 have hb2 := hb.alloc hb.size o
 have hb3 : Below w.heap.size w ((wr.alloc o).drewN n) := ⟨hb2.os, hb2.tape, hb2.output, hb2.size, hb2.block⟩
 have hl2 : ((wr.alloc o).drewN n).heap[w.heap.size + 1]? = some (.cells #[.int .i64 li, .string lt, .int .i64 ls] 198 (0, 0)) := (Below.heap_alloc wr o _ hl1).trans hlb
 have hr2 : ((wr.alloc o).drewN n).heap[w.heap.size]? = some (.cells #[x, y, z] 198 (0, 0)) := (Below.heap_alloc wr o _ (lt_of_block hr)).trans hr
 refine ⟨((hb3.setCell (by simp) _).setCell (by simp) _).setCell (by simp) _, ⟨oi, ot, os, set_three hl2, ?_⟩, ⟨x, y, z, ?_⟩⟩
 ·rw [bestO_succ, if_pos hy, ht]
 ·rw [heap_setCell_other _ _ _ _ (by simp), heap_setCell_other _ _ _ _ (by simp), heap_setCell_other _ _ _ _ (by simp)]
  exact hr2
theorem row_at (k : Nat) (hk : k < 13) : ∃ (oi : Int) (ot : ByteArray) (os : Int), (∀ W : World, (Instr.index 224 (.agg opsCells) (.int .i64 (k : Int))).run Tryz.prog W = .ok (.agg #[.int .i64 oi, .string ot, .int .i64 os]) W) ∧ tabAt k = (oi, ot.data.toList, os) :=
 ⟨(tabAt k).1, ⟨(tabAt k).2.1.toArray⟩, (tabAt k).2.2, fun W => index_ops k hk W, rfl⟩
set_option maxRecDepth 100000 in
set_option maxHeartbeats 4000000 in
theorem operator_any {w0 wa w : World} {g : Nat} {s : ByteArray} {p : Nat} {cs : List CM} (h : St w0 wa g s p cs w) (hO : Ops w) (hp : p ≤ s.size) (_hs : s.size ≤ 600) :
  Calls Tryz.prog 151 #[rp g] w fun e w' => ∃ X : ByteArray, X.size = (opAt s.data.toList p).2.1 ∧ e = .returned (.agg #[.int .i64 (opAt s.data.toList p).1, .string X, .int .i64 (opAt s.data.toList p).2.2]) ∧ Below w.heap.size w w' := by
 have hg := h.lt
 obtain ⟨v, ⟨c0, c1, c2, f1, f2⟩, hbox, hown⟩ := h.at_
 clear hbox hown h
 obtain ⟨tO, frO, hO⟩ := hO.at_
 have hOl := lt_of_block hO
 have hO2 : ∀ o1 o2 : Obj, ((w.alloc o1).alloc o2).heap[1]? = some (.cells opsCells tO frO) := fun o1 o2 => (Below.heap_alloc _ _ _ (by simp <;> omega)).trans ((Below.heap_alloc _ _ _ hOl).trans hO)
 have HO2 := Lib.hid hO2; clear hO hO2
 unfold rp
 go_enter Tryz.func151, Tryz.ntmps151
 go_wp2_with (refine wpList_load_row rfl 224 _ rfl 1 rfl tO _ frO _ (HO2.out _ _) Tryz.underlying224 rfl (by kernel_rfl) ?_)
 go_loopw [7] (fun i wr => ∃ k : Nat, k ≤ 13 ∧ i = .int .i64 k ∧ OpR s w p k wr) (fun i _ => 13 - (intOf i).toNat)
 case atStart => exact ⟨0, by omega, rfl, OpR.start⟩
 case round =>
  obtain ⟨k, hk, rfl, HR⟩ := hrel
  obtain ⟨hb, ⟨li, lt, ls, hlb, he⟩, hrb⟩ := HR.parts
  have hwl := lt_of_block hlb
  have HE := Lib.hid he; clear he
  have hgw : g < wr.heap.size := Nat.lt_of_lt_of_le hg hb.size
  have hgw2 : wr.heap.size ≠ g := by omega
  have hgw3 : wr.heap.size ≠ w.heap.size + 1 := by omega
  have hc0 : wr.cell? ⟨g, 0, none⟩ = some (.string s) := (hb.cell hg).trans c0
  have hc1 : wr.cell? ⟨g, 1, none⟩ = some (.int .i64 p) := (hb.cell hg).trans c1
  obtain ⟨l0, l1, l2, lf0, lf1, lf2⟩ := three_at hlb
  obtain ⟨rx, ry, rz, hrb⟩ := hrb
  obtain ⟨r0, r1, r2, rf0, rf1, rf2⟩ := three_at hrb
  have HLB := Lib.hid hlb; have HB := Lib.hid hb; have HRB := Lib.hid hrb
  clear hlb hb hrb
  by_cases hk13 : k < 13
  ·obtain ⟨oi, ot, os, hix, ht⟩ := row_at k hk13
   have HT := Lib.hid ht; clear ht
   have hpre : ∀ (W : World) (b : Bool), Lib.hasPrefix (s.data.toList.drop p) ot.data.toList = b → Calls Tryz.prog 131 #[.string (s.extract p s.size), .string ot] W fun e w' => e = .returned (.bool b) ∧ W = w' := by
    intro W b hb
    refine (Tryz.strings_HasPrefix _ _ W).mono ?_
    rintro e w' ⟨rfl, rfl⟩
    refine ⟨?_, rfl⟩
    rw [← hb, Lib.extract_data, List.take_of_length_le (by rw [List.length_drop, ← Lib.size_eq]; omega)]
   have HPRE := Lib.hid hpre; clear hpre
   cases hb1 : Lib.hasPrefix (s.data.toList.drop p) ot.data.toList
   ·have HN := Lib.hid (HPRE.out · false hb1)
    have hb1F := Lib.hid hb1
    clear hb1
    go_wp2
    go_quiet ((go_at_call 131; first | exact quiet_at (HN.out _) | exact quiet_on (HN.out _)))
    go_wp2
    go_roundw
    case rel => exact ⟨k + 1, by omega, by go_num, HR.keep (by rw [HT.out]; simp only [hb1F.out]; simp) _ _⟩
    case measure => simp [intOf]; omega
   ·have HN := Lib.hid (HPRE.out · true hb1)
    have hb1T := Lib.hid hb1
    clear hb1
    by_cases hlen : lt.size < ot.size
    ·have hlen' : (lt.size : Int) < (ot.size : Int) := by omega
     go_wp2
     go_quiet ((go_at_call 131; first | exact quiet_at (HN.out _) | exact quiet_on (HN.out _)))
     go_wp2
     go_roundw
     case rel => exact ⟨k + 1, by omega, by go_num, HR.turn HT.out (by rw [HT.out, HE.out]; exact ⟨hb1T.out, by simp only [← Lib.size_eq]; omega⟩) _ _⟩
     case measure => simp [intOf]; omega
    ·have hlen' : decide ((lt.size : Int) < (ot.size : Int)) = false := decide_eq_false (by omega)
     go_wp2
     go_quiet ((go_at_call 131; first | exact quiet_at (HN.out _) | exact quiet_on (HN.out _)))
     go_wp2
     go_roundw
     case rel => exact ⟨k + 1, by omega, by go_num, HR.keep (by rw [HT.out, HE.out]; simp only [← Lib.size_eq]; omega) _ _⟩
     case measure => simp [intOf]; omega
  ·obtain rfl : k = 13 := by omega
   have hfin := best_op s.data.toList p
   rw [HE.out] at hfin
   obtain ⟨hf1, hf2, hf3⟩ := hfin
   have hX : lt.size = (opAt s.data.toList p).2.1 := by rw [← hf2, Lib.size_eq]
   have HF : Hid (li = (opAt s.data.toList p).1 ∧ lt.size = (opAt s.data.toList p).2.1 ∧ ls = ((opAt s.data.toList p).2.2 : Int)) := ⟨hf1, hX, hf3⟩
   have HBS : Hid (Below w.heap.size w (((wr.setCell ⟨w.heap.size, 0, none⟩ (.int .i64 li)).setCell ⟨w.heap.size, 1, none⟩ (.string lt)).setCell ⟨w.heap.size, 2, none⟩ (.int .i64 ls))) := ((HB.out.setCell (Nat.le_refl _) _).setCell (Nat.le_refl _) _).setCell (Nat.le_refl _) _
   clear hf1 hf2 hX hf3
   go_wp2
   exact bodyPost_ret (v := .agg #[.int .i64 li, .string lt, .int .i64 ls]) (by simp [results, Tryz.results151, go_sem, r0, r1, r2]) rfl ⟨lt, HF.out.2.1, by rw [← HF.out.1, ← HF.out.2.2], HBS.out⟩
end Go.Proofs.YtdelihhbmagphaaGreatDoor
namespace Go.Proofs.YtdelihhbmagphaaGreatDoor
open Go.RowKit
def Laid (w : World) : Prop := Lib.TabIs Tryz.prog w "internal/strconv.uint64pow10" .u64 Lib.pow10Tab
theorem gTab : Tryz.prog.globalNamed "internal/strconv.uint64pow10" = some 2 := by kernel_rfl
theorem var_lt {w : World} {n : String} {g : Nat} {cs : Array Value} (hg : Tryz.prog.globalNamed n = some g) (h : w.var? Tryz.prog n = some cs) : g < w.heap.size := by
 unfold World.var? at h
 simp only [hg, Option.bind_some] at h
 rcases Nat.lt_or_ge g w.heap.size with h' | h'
 ·exact h'
 ·rw [Array.getElem?_eq_none h'] at h; cases h
theorem Laid.below {w w' : World} (h : Laid w) (hb : Below w.heap.size w w') : Laid w' := var?_below hb gTab (var_lt gTab h) h
theorem digits_any (n : Int) (w : World) (h0 : -9223372036854775808 ≤ n) (h1 : n ≤ 9223372036854775807) (hL : Laid w) :
  Calls Tryz.prog 96 #[.int .i64 n] w fun e w' => e = .returned (.string ⟨(Lib.itoa n).toArray⟩) ∧ Below w.heap.size w w' := by
 have HL := Lib.hid hL; clear hL
 go_enter Tryz.func96, Tryz.ntmps96
 go_wp2_with fail
 refine (Tryz.strconv_FormatInt_10 n h0 h1 w HL.out).mono ?_
 rintro e w' ⟨rfl, hw⟩
 have HW : Hid (Below w.heap.size w w') := by
  obtain ⟨k, os, rfl⟩ := hw
  exact Lib.below_grow _ _ (Nat.le_refl _) _ _
 clear hw
 go_wp2
 go_ret
 exact ⟨rfl, HW.out⟩
theorem bytes_join (l m : List UInt8) : (⟨l.toArray⟩ : ByteArray) ++ (⟨m.toArray⟩ : ByteArray) = ⟨(l ++ m).toArray⟩ := by
 apply ByteArray.ext
 simp
end Go.Proofs.YtdelihhbmagphaaGreatDoor
