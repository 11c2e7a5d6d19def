/- Own texts, joined: Ef, Eg. -/
import Derived.Test.YtkjkcgbmaojpiaaGreatDoorR2
import Derived.Test.YtkjkcgbmaojpiaaGreatDoorR3
import Derived.IntWalk
namespace Go.Proofs.YtkjkcgbmaojpiaaGreatDoor
open Go.RowKit
theorem clone_any (s : ByteArray) (w : World) (hs : s.size ≤ 281474976710656) :
  Calls Tryz.prog 116 #[.string s] w fun e w' => e = .returned (.string s) ∧ Below w.heap.size w w' := by
 go_enter Tryz.func116, Tryz.ntmps116
 go_wp2_with fail
 refine (Tryz.stringslite_Clone s w hs).mono ?_
 rintro e w' ⟨rfl, hb⟩
 have HB := Lib.hid hb; clear hb
 go_wp2
 go_ret
 exact ⟨rfl, HB.out⟩
theorem clone_list (l : List UInt8) (w : World) (hs : l.length ≤ 281474976710656) :
  Calls Tryz.prog 116 #[bstr l] w fun e w' => e = .returned (.string ⟨l.toArray⟩) ∧ Below w.heap.size w w' := clone_any ⟨l.toArray⟩ w (by show l.toArray.size ≤ _; simpa using hs)
theorem name_list (l : List UInt8) (w : World) :
  Calls Tryz.prog 82 #[bstr l] w fun e w' => e = .returned (.bool (nameB l)) ∧ w = w' := name_any ⟨l.toArray⟩ w
theorem word_len (s : ByteArray) (p : Nat) (h : p ≤ s.size) : p + (wordP s.data.toList p).length ≤ s.size := by
 have hl : s.data.toList.length = s.size := (Lib.size_eq s).symm
 have := word_le s.data.toList p (by omega)
 omega
theorem size_list (l : List UInt8) : (⟨l.toArray⟩ : ByteArray).size = l.length := by show l.toArray.size = _; simp
theorem take_list {w0 wa w : World} {g : Nat} {s : ByteArray} {p : Nat} {cs : List CM} (h : St w0 wa g s p cs w) (l : List UInt8) (o a : Int) (nm : List UInt8) (hp : p + l.length ≤ s.size) (hs : s.size ≤ 600) (hc : cs.length ≤ 600) :
  Calls Tryz.prog 225 #[rp g, bstr l, .agg #[.int .i64 o, .int .i64 a, bstr nm]] w fun e w' => e = .returned (.bool true) ∧ St w0 wa g s (p + l.length) (cs ++ [⟨o, a, nm⟩]) w' := by
 have := take_any h ⟨l.toArray⟩ ⟨o, a, nm⟩ (by rw [size_list]; exact hp) hs hc
 rw [size_list] at this
 exact this
set_option maxHeartbeats 1000000 in
theorem state_any {w0 wa w : World} {g : Nat} {s : ByteArray} {p : Nat} {cs : List CM} (h : St w0 wa g s p cs w) (hp : p + 3 ≤ s.size) (hs : s.size ≤ 600) (hc : cs.length ≤ 600) :
  Calls Tryz.prog 226 #[rp g] w (RPost w0 wa g s (stateD s.data.toList p cs)) := by
 have HS := Lib.hid (h.setAt ((p : Int) + 3) (p' := p + 3) (by omega))
 have hwl := word_len s (p + 3) hp
 obtain ⟨v, ⟨c0, c1, c2, f1, f2⟩, hbox, hown⟩ := h.at_
 clear hbox hown h
 obtain ⟨W, hW⟩ : ∃ W, wordP s.data.toList (p + 3) = W := ⟨_, rfl⟩
 have hR : stateD s.data.toList p cs = if nameB W = true then closeD s.data.toList (true, p + 3 + W.length, cs ++ [⟨6, 0, W⟩]) else (false, p + 3, cs) := by rw [← hW]; rfl
 have HW := Lib.hid hW
 rw [hW] at hwl
 cases hn : nameB W
 ·rw [hR, hn, if_neg (by decide)]
  clear hR hW
  have HN : Hid (nameB W = false) := hn
  clear hn
  unfold rp
  go_enter Tryz.func226, Tryz.ntmps226
  go_wp2_with fail
  refine (word_any HS.out hp hs).mono ?_
  rintro e w' ⟨rfl, n, rfl⟩
  rw [HW.out]
  go_wp2_with fail
  refine (name_list W _).mono ?_
  rintro e w' ⟨rfl, rfl⟩
  rw [HN.out]
  go_wp2
  go_ret
  exact ⟨rfl, HS.out.drewN _⟩
 ·rw [hR, hn, if_pos rfl]
  clear hR hW
  have HN : Hid (nameB W = true) := hn
  clear hn
  unfold rp
  go_enter Tryz.func226, Tryz.ntmps226
  go_wp2_with fail
  refine (word_any HS.out hp hs).mono ?_
  rintro e w' ⟨rfl, n, rfl⟩
  rw [HW.out]
  go_wp2_with fail
  refine (name_list W _).mono ?_
  rintro e w' ⟨rfl, rfl⟩
  rw [HN.out]
  go_wp2_with fail
  refine (clone_list W _ (by omega)).mono ?_
  rintro e w1 ⟨rfl, hb⟩
  have H1 := Lib.hid ((HS.out.drewN n).to_below hb)
  clear hb
  go_wp2_with fail
  refine (take_list H1.out W 6 0 W (by omega) hs hc).mono ?_
  rintro e w2 ⟨rfl, h2⟩
  have H2 := Lib.hid h2; clear h2
  go_wp2_with fail
  refine (closed_any H2.out (by omega) hs).mono ?_
  rintro e w3 ⟨rfl, h3⟩
  have H3 := Lib.hid h3; clear h3
  go_wp2
  go_ret
  exact ⟨rfl, H3.out⟩
end Go.Proofs.YtkjkcgbmaojpiaaGreatDoor
namespace Go.Proofs.YtkjkcgbmaojpiaaGreatDoor
open Go.RowKit
def Dd (l : List UInt8) (p k : Nat) : Prop := p < k ∧ k ≤ l.length ∧ ((l.drop p).take (k - p)).all isD = true ∧ (nx l p = 48 → k = p + 1)
theorem Dd.start {l : List UInt8} {p : Nat} (h : p < l.length) (hd : isD (nx l p) = true) : Dd l p (p + 1) := by
 refine ⟨by omega, h, ?_, fun _ => rfl⟩
 rw [nx_at h] at hd
 rw [take_one l p h]; simp [hd]
theorem Dd.step {l : List UInt8} {p k : Nat} (h : Dd l p k) (h0 : nx l p ≠ 48) (hk : k < l.length) (ho : isD l[k] = true) : Dd l p (k + 1) := by
 refine ⟨by have := h.1; omega, hk, ?_, fun e => absurd e h0⟩
 rw [take_at l p k (by have := h.1; omega) hk, List.all_append, h.2.2.1]
 simp [ho]
theorem Dd.stop {l : List UInt8} {p k : Nat} (h : Dd l p k) (hs : nx l p = 48 ∨ k = l.length ∨ ∃ hk : k < l.length, isD l[k] = false) : numT l p = (l.drop p).take (k - p) ∧ k = p + (numT l p).length := by
 have h1 := h.1; have h2 := h.2.1
 have hlen : ((l.drop p).take (k - p)).length = k - p := by rw [List.length_take, List.length_drop]; omega
 have e : numT l p = (l.drop p).take (k - p) := by
  unfold numT
  by_cases h48 : nx l p = 48
  ·rw [if_pos h48]
   have hk := h.2.2.2 h48
   subst hk
   rw [take_one l p (by omega), ← nx_at (by omega), h48]
  ·rw [if_neg h48]
   refine takeWhile_take _ _ (by rw [List.length_drop]; omega) h.2.2.1 (fun hl => ?_)
   rw [List.length_drop] at hl
   rw [List.getElem_drop]
   rcases hs with e | e | ⟨hk, hf⟩
   ·exact absurd e h48
   ·omega
   ·rw [← hf]; congr 2; omega
 exact ⟨e, by rw [e, hlen]; omega⟩
theorem quiet_on {P : Program} {f : FuncId} {args : Array Value} {w : World} {a n : Nat} {v : Value} (h : Calls P f args (w.drewN (a + n)) fun e w' => e = .returned v ∧ w.drewN (a + n) = w') :
  Calls P f args (w.drewN (a + n)) fun e w'' => e = .returned v ∧ ∃ m, w'' = w.drewN (a + m) := h.mono fun _ _ ⟨he, hm⟩ => ⟨he, n, hm.symm⟩
theorem quiet_at {P : Program} {f : FuncId} {args : Array Value} {w : World} {n : Nat} {v : Value} (h : Calls P f args (w.drewN n) fun e w' => e = .returned v ∧ w.drewN n = w') :
  Calls P f args (w.drewN n) fun e w'' => e = .returned v ∧ ∃ m, w'' = w.drewN m := h.mono fun _ _ ⟨he, hm⟩ => ⟨he, n, hm.symm⟩
theorem number_list (l : List UInt8) (w : World) (hs : l.length ≤ 281474976710656) :
  Calls Tryz.prog 103 #[.string ⟨l.toArray⟩] w fun e w' => e = .returned (.tuple #[.int .i64 (numP l).1, .int .i64 (numP l).2]) ∧ w = w' := by
 have := number_any ⟨l.toArray⟩ w (by rw [size_list]; exact hs)
 exact this
theorem ext_num {s : ByteArray} {p k : Nat} {T : List UInt8} (h : T = (s.data.toList.drop p).take (k - p)) : s.extract p k = ⟨T.toArray⟩ := by
 subst h
 apply ByteArray.ext
 apply Array.toList_inj.1
 rw [Lib.extract_data]
theorem pre_one (l : List UInt8) (c : UInt8) (k : Nat) : Lib.hasPrefix (l.drop k) [c] = (decide (k < l.length) && (nx l k == c)) := by
 unfold Lib.hasPrefix
 by_cases h : k < l.length
 ·rw [List.drop_eq_getElem_cons h, nx_at h]
  simp [h, List.isPrefixOf]
  exact Bool.eq_iff_iff.2 ⟨fun e => beq_iff_eq.2 (beq_iff_eq.1 e).symm, fun e => beq_iff_eq.2 (beq_iff_eq.1 e).symm⟩
 ·rw [List.drop_of_length_le (by omega)]; simp [h]
theorem prefix_at (s : ByteArray) (c : UInt8) (k : Nat) (hc : c ≠ 0) (hk : k ≤ s.size) (w : World) :
  Calls Tryz.prog 198 #[.string (s.extract k s.size), .string ⟨#[c]⟩] w fun e w' => e = .returned (.bool (nx s.data.toList k == c)) ∧ w = w' := by
 have hl : s.data.toList.length = s.size := (Lib.size_eq s).symm
 refine (Tryz.strings_HasPrefix _ _ w).mono ?_
 rintro e w' ⟨rfl, rfl⟩
 refine ⟨?_, rfl⟩
 have e1 : (s.extract k s.size).data.toList = s.data.toList.drop k := by
  rw [Lib.extract_data, List.take_of_length_le (by rw [List.length_drop]; omega)]
 rw [e1, show (⟨#[c]⟩ : ByteArray).data.toList = [c] from rfl, pre_one]
 by_cases h : k < s.data.toList.length
 ·rw [decide_eq_true h]; simp
 ·rw [decide_eq_false h, nx_end (by omega)]
  have : ((0 : UInt8) == c) = false := beq_eq_false_iff_ne.2 (Ne.symm hc)
  rw [this]; rfl
theorem wp_region_tail {P : Program} {id : Nat} {Q : Exit → Act → World → Prop} {a : Act} {w : World} {l : List Oper} (n : Nat) (hm : P.follows .mixedOrders = true) (hB : Region.lexTailB .any l.toArray n = true)
  (h : wpStill P l.toArray w.drew (fun a' => wpList P l.toArray Q (l.drop n) a' w.drew) (l.take n) a) : (Code.region id l.toArray true).wp P Q a w := wp_region_still_tail n hm hB h
theorem St.drew {w0 wa w : World} {g : Nat} {s : ByteArray} {p : Nat} {cs : List CM} (h : St w0 wa g s p cs w) : St w0 wa g s p cs w.drew := by
 obtain ⟨v, hbox, hown⟩ := h.box
 exact ⟨⟨v, hbox, hown⟩, h.ge, h.below.drew, ⟨h.keep.size, h.keep.same⟩⟩
theorem size_ext (s : ByteArray) (p k : Nat) (h : p ≤ k) (hk : k ≤ s.size) : p + (s.extract p k).size = k := by
 rw [ByteArray.size_extract]; omega
theorem take_ext {w0 wa w : World} {g : Nat} {s : ByteArray} {p k : Nat} {cs : List CM} (h : St w0 wa g s p cs w) (o a : Int) (hp : p ≤ k) (hk : k ≤ s.size) (hs : s.size ≤ 600) (hc : cs.length ≤ 600) :
  Calls Tryz.prog 225 #[rp g, .string (s.extract p k), .agg #[.int .i64 o, .int .i64 a, .string ⟨#[]⟩]] w fun e w' => e = .returned (.bool true) ∧ St w0 wa g s k (cs ++ [⟨o, a, []⟩]) w' := by
 have := take_any h (s.extract p k) ⟨o, a, []⟩ (by rw [size_ext s p k hp hk]; exact hk) hs hc
 rw [size_ext s p k hp hk] at this
 exact this
set_option maxRecDepth 100000 in
set_option maxHeartbeats 4000000 in
theorem number_walk {w0 wa w : World} {g : Nat} {s : ByteArray} {p : Nat} {cs : List CM} (h : St w0 wa g s p cs w) (hp : p < s.size) (hd : isD (nx s.data.toList p) = true) (hs : s.size ≤ 600) (hc : cs.length ≤ 600) :
  Calls Tryz.prog 223 #[rp g] w (RPost w0 wa g s (numD s.data.toList p cs)) := by
 have hl : s.data.toList.length = s.size := (Lib.size_eq s).symm
 have HS := Lib.hid h
 obtain ⟨v, ⟨c0, c1, c2, f1, f2⟩, hbox, hown⟩ := h.at_
 clear hbox hown h
 obtain ⟨T, hT⟩ : ∃ T, numT s.data.toList p = T := ⟨_, rfl⟩
 have hTl : p + T.length ≤ s.size := by rw [← hT, ← hl]; exact num_le _ _ (by omega)
 have hR : numD s.data.toList p cs = if (numP T).2 ≠ 0 then (false, p, cs)
   else if nx s.data.toList (p + T.length) = 105 then (if (numP T).1 ≤ 1048576 then (true, p + T.length + 1, cs ++ [⟨2, (numP T).1, []⟩]) else (false, p, cs))
   else (true, p + T.length, cs ++ [⟨1, (numP T).1, []⟩]) := by rw [← hT]; rfl
 have HR := Lib.hid hR; clear hR
 have hstart : Dd s.data.toList p (p + 1) := Dd.start (by omega) hd
 have hstop : ∀ k, Dd s.data.toList p k → (s[p] = 48 ∨ k = s.size ∨ ∃ hk : k < s.size, isD s[k] = false) → s.extract p k = ⟨T.toArray⟩ ∧ k = p + T.length := by
  intro k hk ho
  have hh := hk.stop (by
   rcases ho with e | e | ⟨h1, h2⟩
   ·exact Or.inl (by rw [lst_at s p hp]; exact e)
   ·exact Or.inr (Or.inl (by omega))
   ·exact Or.inr (Or.inr ⟨by omega, by rw [at_list s k h1]; exact h2⟩))
  rw [hT] at hh
  exact ⟨ext_num hh.1, hh.2⟩
 have hstep : ∀ k (hk : k < s.size), Dd s.data.toList p k → s[p] ≠ 48 → isD s[k] = true → Dd s.data.toList p (k + 1) := by
  intro k hk hw h48 ho
  exact hw.step (by rw [lst_at s p hp]; exact h48) (by omega) (by rw [at_list s k hk]; exact ho)
 have HST := Lib.hid hstop; have HSP := Lib.hid hstep; have HB := Lib.hid hstart; have HT := Lib.hid hT
 clear hstop hstep hstart hT hl hd
 unfold rp
 go_enter Tryz.func223, Tryz.ntmps223
 go_wp2
 go_loopw [3] (fun i wr => ∃ k m : Nat, p < k ∧ k ≤ s.size ∧ Hid (Dd s.data.toList p k) ∧ wr = w.drewN m ∧ i = .int .i64 k) (fun i _ => s.size - (intOf i).toNat)
 case atStart => exact ⟨p + 1, 0, by omega, by omega, HB, rfl, by go_num⟩
 case round =>
  obtain ⟨k, m, hpk, hk, HK, rfl, rfl⟩ := hrel
  have hways : (s[p] ≠ 48 ∧ ∃ hlt : k < s.size, isD s[k] = true) ∨ (s[p] = 48 ∨ (s[p] ≠ 48 ∧ k = s.size) ∨ (s[p] ≠ 48 ∧ ∃ hk : k < s.size, isD s[k] = false)) := by
   by_cases h48 : s[p] = 48
   ·exact Or.inr (Or.inl h48)
   ·by_cases hlt : k < s.size
    ·cases ho : isD s[k]
     ·exact Or.inr (Or.inr (Or.inr ⟨h48, hlt, ho⟩))
     ·exact Or.inl ⟨h48, hlt, ho⟩
    ·exact Or.inr (Or.inr (Or.inl ⟨h48, by omega⟩))
  rcases hways with ⟨h48, hlt, ho⟩ | hw
  ·have HE := Lib.hid (HSP.out k hlt HK.out h48 ho)
   have t48 : ((s[p].toNat : Int) != 48) = true := by
    have : ((s[p].toNat : Int) == 48) = false := byte_not (k := 48) (by decide) h48
    rw [bne, this]; rfl
   clear h48
   go_wp2
   go_quiet ((go_at_call 222; exact quiet_on (exDigit_any _ _)))
   go_wp2
   go_roundw
   case rel => exact ⟨k + 1, _, by omega, hlt, HE, rfl, by go_num⟩
   case measure => simp [intOf]; omega
  ·obtain ⟨hx, hkT⟩ := HST.out k HK.out (by rcases hw with h | ⟨_, h⟩ | ⟨_, h⟩; exact Or.inl h; exact Or.inr (Or.inl h); exact Or.inr (Or.inr h))
   have hRk : numD s.data.toList p cs = if (numP T).2 ≠ 0 then (false, p, cs)
     else if nx s.data.toList k = 105 then (if (numP T).1 ≤ 1048576 then (true, k + 1, cs ++ [⟨2, (numP T).1, []⟩]) else (false, p, cs))
     else (true, k, cs ++ [⟨1, (numP T).1, []⟩]) := by rw [hkT]; exact HR.out
   have HX := Lib.hid hx; have HRk := Lib.hid hRk
   clear hx hkT HST HSP HK HB HR hRk HT
   have hTl2 : T.length ≤ 600 := by omega
   clear hTl
   obtain ⟨n, hn⟩ : ∃ n, (numP T).1 = n := ⟨_, rfl⟩
   obtain ⟨e2, he⟩ : ∃ e2, (numP T).2 = e2 := ⟨_, rfl⟩
   rw [hn, he] at HRk
   have HN : ∀ W : World, Calls Tryz.prog 103 #[.string (s.extract p k)] W fun e w' => e = .returned (.tuple #[.int .i64 n, .int .i64 e2]) ∧ W = w' := by
    intro W
    have := number_list T W (by omega)
    rw [hn, he] at this
    rw [HX.out]; exact this
   have HNN := Lib.hid HN; clear HN hn he HX
   rcases hw with h48 | ⟨h48, hks⟩ | ⟨h48, hlt, ho⟩
   ·have t48 : ((s[p].toNat : Int) != 48) = false := by
     have : ((s[p].toNat : Int) == 48) = true := byte_is (k := 48) (by decide) h48
     rw [bne, this]; rfl
    clear h48
    go_wp2
    go_quiet (fail)
    go_wp2
    go_quiet ((go_at_call 103; exact quiet_on (HNN.out _)))
    by_cases he2 : e2 = 0
    ·subst he2
     by_cases h105 : nx s.data.toList k = 105
     ·have hk2 : k < s.size := by
       have := nx_lt (s := s.data.toList) (p := k) (by rw [h105]; decide)
       rw [← Lib.size_eq] at this; exact this
      have hpre : (nx s.data.toList k == 105) = true := beq_iff_eq.2 h105
      by_cases hn : n ≤ 1048576
      ·have HP : Hid (numD s.data.toList p cs = (true, k + 1, cs ++ [⟨2, n, []⟩])) := by
        have := HRk.out
        rw [if_neg (by simp), if_pos h105, if_pos hn] at this
        exact this
       clear h105
       go_wp2_with (go_at_call 198; refine (prefix_at s 105 k (by decide) hk _).mono ?_; rintro e w' ⟨rfl, rfl⟩)
       have hpk2 : p ≤ k + 1 := by omega
       have hpk3 : (p : Int) ≤ (k : Int) + 1 := by omega
       have hk3 : k + 1 ≤ s.size := hk2
       have hk4 : (k : Int) + 1 ≤ s.size := by omega
       have hk5 : 0 ≤ (k : Int) + 1 := by omega
       have hk6 : IntKind.i64.wrap ((k : Int) + 1) = (k : Int) + 1 := IntWalk.i64_in _ (by omega)
       have hk7 : ((k : Int) + 1).toNat = k + 1 := by omega
       refine wp_region_tail 17 (by kernel_rfl) (by kernel_rfl) ?_
       simp only [List.take_succ_cons, List.take_zero, List.drop_succ_cons, List.drop_zero]
       repeat still_step
       refine wpStill_nil ?_
       go_wp2_with fail
       refine (take_ext (k := k + 1) (by first | exact HS.out.drew | exact (HS.out.drewN _).drew | exact ((HS.out.drewN _).drewN _).drew) 2 n hpk2 hk3 hs hc).mono ?_
       rintro e w1 ⟨rfl, h1⟩
       have H1 := Lib.hid h1; clear h1
       go_wp2
       go_ret
       rw [HP.out]
       exact ⟨rfl, H1.out⟩
      ·have HP : Hid (numD s.data.toList p cs = (false, p, cs)) := by
        have := HRk.out
        rw [if_neg (by simp), if_pos h105, if_neg hn] at this
        exact this
       clear h105
       have hn' : decide (n ≤ 1048576) = false := decide_eq_false hn
       clear hn
       go_wp2_with (go_at_call 198; refine (prefix_at s 105 k (by decide) hk _).mono ?_; rintro e w' ⟨rfl, rfl⟩)
       go_quiet (fail)
       go_wp2
       go_ret
       rw [HP.out]
       exact ⟨rfl, by first | exact HS.out.drewN _ | exact (HS.out.drewN _).drewN _⟩
     ·have hpre : (nx s.data.toList k == 105) = false := beq_eq_false_iff_ne.2 h105
      have HP : Hid (numD s.data.toList p cs = (true, k, cs ++ [⟨1, n, []⟩])) := by
       have := HRk.out
       rw [if_neg (by simp), if_neg h105] at this
       exact this
      clear h105
      go_wp2_with (go_at_call 198; refine (prefix_at s 105 k (by decide) hk _).mono ?_; rintro e w' ⟨rfl, rfl⟩)
      have hpk2 : p ≤ k := by omega
      have hpk3 : (p : Int) ≤ (k : Int) := by omega
      refine wp_region_tail 13 (by kernel_rfl) (by kernel_rfl) ?_
      simp only [List.take_succ_cons, List.take_zero, List.drop_succ_cons, List.drop_zero]
      repeat still_step
      refine wpStill_nil ?_
      go_wp2_with fail
      refine (take_ext (by first | exact HS.out.drew | exact (HS.out.drewN _).drew | exact ((HS.out.drewN _).drewN _).drew) 1 n hpk2 hk hs hc).mono ?_
      rintro e w1 ⟨rfl, h1⟩
      have H1 := Lib.hid h1; clear h1
      go_wp2
      go_ret
      rw [HP.out]
      exact ⟨rfl, H1.out⟩
    ·have te2 : (e2 != 0) = true := bne_iff_ne.2 he2
     have HP : Hid (numD s.data.toList p cs = (false, p, cs)) := by
      have := HRk.out
      rw [if_pos he2] at this
      exact this
     clear he2
     go_wp2
     go_ret
     rw [HP.out]
     exact ⟨rfl, by first | exact HS.out.drewN _ | exact (HS.out.drewN _).drewN _⟩
   ·have t48 : ((s[p].toNat : Int) != 48) = true := by
     have : ((s[p].toNat : Int) == 48) = false := byte_not (k := 48) (by decide) h48
     rw [bne, this]; rfl
    have tk : decide (k < s.size) = false := decide_eq_false (by omega)
    clear h48 hks
    go_wp2
    go_quiet (fail)
    go_wp2
    go_quiet ((go_at_call 103; exact quiet_on (HNN.out _)))
    by_cases he2 : e2 = 0
    ·subst he2
     by_cases h105 : nx s.data.toList k = 105
     ·have hk2 : k < s.size := by
       have := nx_lt (s := s.data.toList) (p := k) (by rw [h105]; decide)
       rw [← Lib.size_eq] at this; exact this
      have hpre : (nx s.data.toList k == 105) = true := beq_iff_eq.2 h105
      by_cases hn : n ≤ 1048576
      ·have HP : Hid (numD s.data.toList p cs = (true, k + 1, cs ++ [⟨2, n, []⟩])) := by
        have := HRk.out
        rw [if_neg (by simp), if_pos h105, if_pos hn] at this
        exact this
       clear h105
       go_wp2_with (go_at_call 198; refine (prefix_at s 105 k (by decide) hk _).mono ?_; rintro e w' ⟨rfl, rfl⟩)
       have hpk2 : p ≤ k + 1 := by omega
       have hpk3 : (p : Int) ≤ (k : Int) + 1 := by omega
       have hk3 : k + 1 ≤ s.size := hk2
       have hk4 : (k : Int) + 1 ≤ s.size := by omega
       have hk5 : 0 ≤ (k : Int) + 1 := by omega
       have hk6 : IntKind.i64.wrap ((k : Int) + 1) = (k : Int) + 1 := IntWalk.i64_in _ (by omega)
       have hk7 : ((k : Int) + 1).toNat = k + 1 := by omega
       refine wp_region_tail 17 (by kernel_rfl) (by kernel_rfl) ?_
       simp only [List.take_succ_cons, List.take_zero, List.drop_succ_cons, List.drop_zero]
       repeat still_step
       refine wpStill_nil ?_
       go_wp2_with fail
       refine (take_ext (k := k + 1) (by first | exact HS.out.drew | exact (HS.out.drewN _).drew | exact ((HS.out.drewN _).drewN _).drew) 2 n hpk2 hk3 hs hc).mono ?_
       rintro e w1 ⟨rfl, h1⟩
       have H1 := Lib.hid h1; clear h1
       go_wp2
       go_ret
       rw [HP.out]
       exact ⟨rfl, H1.out⟩
      ·have HP : Hid (numD s.data.toList p cs = (false, p, cs)) := by
        have := HRk.out
        rw [if_neg (by simp), if_pos h105, if_neg hn] at this
        exact this
       clear h105
       have hn' : decide (n ≤ 1048576) = false := decide_eq_false hn
       clear hn
       go_wp2_with (go_at_call 198; refine (prefix_at s 105 k (by decide) hk _).mono ?_; rintro e w' ⟨rfl, rfl⟩)
       go_quiet (fail)
       go_wp2
       go_ret
       rw [HP.out]
       exact ⟨rfl, by first | exact HS.out.drewN _ | exact (HS.out.drewN _).drewN _⟩
     ·have hpre : (nx s.data.toList k == 105) = false := beq_eq_false_iff_ne.2 h105
      have HP : Hid (numD s.data.toList p cs = (true, k, cs ++ [⟨1, n, []⟩])) := by
       have := HRk.out
       rw [if_neg (by simp), if_neg h105] at this
       exact this
      clear h105
      go_wp2_with (go_at_call 198; refine (prefix_at s 105 k (by decide) hk _).mono ?_; rintro e w' ⟨rfl, rfl⟩)
      have hpk2 : p ≤ k := by omega
      have hpk3 : (p : Int) ≤ (k : Int) := by omega
      refine wp_region_tail 13 (by kernel_rfl) (by kernel_rfl) ?_
      simp only [List.take_succ_cons, List.take_zero, List.drop_succ_cons, List.drop_zero]
      repeat still_step
      refine wpStill_nil ?_
      go_wp2_with fail
      refine (take_ext (by first | exact HS.out.drew | exact (HS.out.drewN _).drew | exact ((HS.out.drewN _).drewN _).drew) 1 n hpk2 hk hs hc).mono ?_
      rintro e w1 ⟨rfl, h1⟩
      have H1 := Lib.hid h1; clear h1
      go_wp2
      go_ret
      rw [HP.out]
      exact ⟨rfl, H1.out⟩
    ·have te2 : (e2 != 0) = true := bne_iff_ne.2 he2
     have HP : Hid (numD s.data.toList p cs = (false, p, cs)) := by
      have := HRk.out
      rw [if_pos he2] at this
      exact this
     clear he2
     go_wp2
     go_ret
     rw [HP.out]
     exact ⟨rfl, by first | exact HS.out.drewN _ | exact (HS.out.drewN _).drewN _⟩
   ·have t48 : ((s[p].toNat : Int) != 48) = true := by
     have : ((s[p].toNat : Int) == 48) = false := byte_not (k := 48) (by decide) h48
     rw [bne, this]; rfl
    clear h48
    go_wp2
    go_quiet ((go_at_call 222; exact quiet_on (exDigit_any _ _)))
    go_wp2
    go_quiet ((go_at_call 103; exact quiet_on (HNN.out _)))
    by_cases he2 : e2 = 0
    ·subst he2
     by_cases h105 : nx s.data.toList k = 105
     ·have hk2 : k < s.size := by
       have := nx_lt (s := s.data.toList) (p := k) (by rw [h105]; decide)
       rw [← Lib.size_eq] at this; exact this
      have hpre : (nx s.data.toList k == 105) = true := beq_iff_eq.2 h105
      by_cases hn : n ≤ 1048576
      ·have HP : Hid (numD s.data.toList p cs = (true, k + 1, cs ++ [⟨2, n, []⟩])) := by
        have := HRk.out
        rw [if_neg (by simp), if_pos h105, if_pos hn] at this
        exact this
       clear h105
       go_wp2_with (go_at_call 198; refine (prefix_at s 105 k (by decide) hk _).mono ?_; rintro e w' ⟨rfl, rfl⟩)
       have hpk2 : p ≤ k + 1 := by omega
       have hpk3 : (p : Int) ≤ (k : Int) + 1 := by omega
       have hk3 : k + 1 ≤ s.size := hk2
       have hk4 : (k : Int) + 1 ≤ s.size := by omega
       have hk5 : 0 ≤ (k : Int) + 1 := by omega
       have hk6 : IntKind.i64.wrap ((k : Int) + 1) = (k : Int) + 1 := IntWalk.i64_in _ (by omega)
       have hk7 : ((k : Int) + 1).toNat = k + 1 := by omega
       refine wp_region_tail 17 (by kernel_rfl) (by kernel_rfl) ?_
       simp only [List.take_succ_cons, List.take_zero, List.drop_succ_cons, List.drop_zero]
       repeat still_step
       refine wpStill_nil ?_
       go_wp2_with fail
       refine (take_ext (k := k + 1) (by first | exact HS.out.drew | exact (HS.out.drewN _).drew | exact ((HS.out.drewN _).drewN _).drew) 2 n hpk2 hk3 hs hc).mono ?_
       rintro e w1 ⟨rfl, h1⟩
       have H1 := Lib.hid h1; clear h1
       go_wp2
       go_ret
       rw [HP.out]
       exact ⟨rfl, H1.out⟩
      ·have HP : Hid (numD s.data.toList p cs = (false, p, cs)) := by
        have := HRk.out
        rw [if_neg (by simp), if_pos h105, if_neg hn] at this
        exact this
       clear h105
       have hn' : decide (n ≤ 1048576) = false := decide_eq_false hn
       clear hn
       go_wp2_with (go_at_call 198; refine (prefix_at s 105 k (by decide) hk _).mono ?_; rintro e w' ⟨rfl, rfl⟩)
       go_quiet (fail)
       go_wp2
       go_ret
       rw [HP.out]
       exact ⟨rfl, by first | exact HS.out.drewN _ | exact (HS.out.drewN _).drewN _⟩
     ·have hpre : (nx s.data.toList k == 105) = false := beq_eq_false_iff_ne.2 h105
      have HP : Hid (numD s.data.toList p cs = (true, k, cs ++ [⟨1, n, []⟩])) := by
       have := HRk.out
       rw [if_neg (by simp), if_neg h105] at this
       exact this
      clear h105
      go_wp2_with (go_at_call 198; refine (prefix_at s 105 k (by decide) hk _).mono ?_; rintro e w' ⟨rfl, rfl⟩)
      have hpk2 : p ≤ k := by omega
      have hpk3 : (p : Int) ≤ (k : Int) := by omega
      refine wp_region_tail 13 (by kernel_rfl) (by kernel_rfl) ?_
      simp only [List.take_succ_cons, List.take_zero, List.drop_succ_cons, List.drop_zero]
      repeat still_step
      refine wpStill_nil ?_
      go_wp2_with fail
      refine (take_ext (by first | exact HS.out.drew | exact (HS.out.drewN _).drew | exact ((HS.out.drewN _).drewN _).drew) 1 n hpk2 hk hs hc).mono ?_
      rintro e w1 ⟨rfl, h1⟩
      have H1 := Lib.hid h1; clear h1
      go_wp2
      go_ret
      rw [HP.out]
      exact ⟨rfl, H1.out⟩
    ·have te2 : (e2 != 0) = true := bne_iff_ne.2 he2
     have HP : Hid (numD s.data.toList p cs = (false, p, cs)) := by
      have := HRk.out
      rw [if_pos he2] at this
      exact this
     clear he2
     go_wp2
     go_ret
     rw [HP.out]
     exact ⟨rfl, by first | exact HS.out.drewN _ | exact (HS.out.drewN _).drewN _⟩
end Go.Proofs.YtkjkcgbmaojpiaaGreatDoor
