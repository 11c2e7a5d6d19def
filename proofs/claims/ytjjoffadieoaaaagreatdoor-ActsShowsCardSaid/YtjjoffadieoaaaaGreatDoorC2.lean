/- Own texts, joined: Ev, A19, FJ, FK. -/
import Derived.Test.YtjjoffadieoaaaaGreatDoorB1
import Derived.Test.YtjjoffadieoaaaaGreatDoorB2
import Derived.Test.YtjjoffadieoaaaaGreatDoorB3
import Derived.Test.YtjjoffadieoaaaaGreatDoorB4
import Derived.Test.YtjjoffadieoaaaaGreatDoorB5
import Derived.Test.YtjjoffadieoaaaaGreatDoorB6
import Derived.Test.YtjjoffadieoaaaaGreatDoorB7
import Derived.Test.YtjjoffadieoaaaaGreatDoorB8
import Derived.Test.YtjjoffadieoaaaaGreatDoorB9
import Derived.Test.YtjjoffadieoaaaaGreatDoorB10
import Derived.Test.YtjjoffadieoaaaaGreatDoorB11
import Derived.Test.YtjjoffadieoaaaaGreatDoorB12
import Derived.Test.YtjjoffadieoaaaaGreatDoorB13
import Derived.Test.YtjjoffadieoaaaaGreatDoorB14
import Derived.Test.YtjjoffadieoaaaaGreatDoorB15
import Derived.Test.YtjjoffadieoaaaaGreatDoorB16
import Derived.Test.YtjjoffadieoaaaaGreatDoorB17
import Derived.Test.YtjjoffadieoaaaaGreatDoorB18
import Derived.Test.YtjjoffadieoaaaaGreatDoorB19
import Derived.Test.YtjjoffadieoaaaaGreatDoorB20
import Derived.Test.YtjjoffadieoaaaaGreatDoorB21
import Derived.Test.YtjjoffadieoaaaaGreatDoorB22
import Derived.Test.YtjjoffadieoaaaaGreatDoorB23
import Derived.Test.YtjjoffadieoaaaaGreatDoorB24
import Derived.Test.YtjjoffadieoaaaaGreatDoorB25
import Derived.Test.YtjjoffadieoaaaaGreatDoorB26
import Derived.Test.YtjjoffadieoaaaaGreatDoorC1
import Derived.Orders
import Derived.Below
import Derived.Laws.AppendOwn
import Derived.Lib.AtoiTie
import Derived.Lib.ItoaLen
import Derived.Lib.ParseIntBTie
import Derived.Lib.IndexAny
import Derived.Lib.Strings
import Derived.Scope
import Derived.ScopeJumps
import Derived.WalkMore
import Derived.Test.YtjjoffadieoaaaaGreatDoorProg
import Derived.WalkKit
import Derived.WalkSpells
import Derived.WalkLawsBesides
import Derived.Lib.Hide
import Derived.Laws.OwnMore
import Derived.OneCell
import Derived.Deep.Onto
import Derived.Deep.QuietTactic
import Derived.BigQuiet
import Derived.Deep.Draws
import Derived.RegionTactic
import Derived.Deep.RegionLaw
import Derived.Laws.Rows
import Derived.Deep.RegionHeld3
import Derived.Deep.AppendLies
import Derived.StillTailTactics
import Derived.Shelf.Strings.Builder1
import Derived.Shelf.Strings.Builder2
import Derived.Shelf.Strconv.Itoa0
import Derived.Shelf.Strconv.Itoa1
import Derived.Shelf.LaysM
import Derived.Shelf.Strconv.Itoa2
import Derived.Shelf.Strconv.Itoa3
import Derived.Shelf.Strconv.Itoa4
import Derived.Shelf.Strconv.Clone
import Derived.Shelf.Strings.Search1
import Derived.Shelf.Strings.Search2
import Derived.Shelf.Strings.Search3
import Derived.Shelf.Strings.Cut
import Derived.Shelf.Strings.Count
import Derived.Shelf.Strings.Shaped
import Derived.Shelf.Strings.Prefix
import Derived.Shelf.Strings.Split
import Derived.Shelf.Unicode.DecodeSlow
import Derived.IntWalk
import Derived.Lib.AppendIntMem
import Derived.Laws.IdiomStrings
import Derived.Laws.Concat
import Derived.Laws.AppendOwnNone
import Derived.ProofKit
import Derived.Deep.Slices
import Derived.Lib.SmallJoins
import Derived.SizedLaws
import Derived.Lib.LaidTab
import Derived.Lib.LaidU8
import Derived.LaidMore
import Derived.KernelRfl
import Derived.Laws.ComplexArith
import Derived.Laws.Tables
import Derived.Laws.CopyOwn
import Derived.Test.YtjjoffadieoaaaaGreatDoorRows
import Derived.Lib.SplitLaws
import Derived.Lib.Split
import Derived.Lib.IndexBytes
import Derived.Lib.Join
import Derived.Lib.BufferOwn
import Derived.Shelf.Strings.OnBuilder
import Derived.Shelf.Small.Wraps
import Derived.Shelf.Utf8.RuneCount
import Derived.Shelf.Strings.SplitShaped
import Derived.Shelf.Unicode.Decode
import Derived.Shelf.Strings.RuneCount
import Derived.Shelf.Strings.Explode
import Derived.Shelf.Unicode.DecodeAny
import Derived.Laws.StructEq
namespace Go.Proofs.YtjjoffadieoaaaaGreatDoor
open Go.RowKit

/-- names have no dot -/
theorem nameB_nodot {l : List UInt8} (h : nameB l = true) : ∀ c ∈ l, c ≠ 46 := by
  cases l with
  | nil => intro c hc; simp at hc
  | cons a r =>
    simp only [nameB, Bool.and_eq_true] at h
    obtain ⟨⟨⟨_, ha⟩, hr⟩, _⟩ := h
    intro c hc e
    subst e
    rcases List.mem_cons.1 hc with hc | hc
    · subst hc; revert ha; decide
    · have := List.all_eq_true.1 hr _ hc
      revert this; decide

theorem nameB_done {l : List UInt8} (h : l.take 5 = [100, 111, 110, 101, 46]) : nameB l = false := by
  cases hn : nameB l
  · rfl
  · have hm : (46 : UInt8) ∈ l.take 5 := by rw [h]; decide
    exact absurd rfl (nameB_nodot hn 46 (List.mem_of_mem_take hm))

theorem eventB_name {l : List UInt8} (h : nameB l = true) : eventB l = true := by
  unfold eventB Lib.trimPrefix
  rw [if_neg]
  · exact h
  · intro hp
    have := nameB_done ((hasPrefix_iff _ _).1 hp)
    rw [h] at this; cases this
theorem eventB_short {l : List UInt8} (h : nameB l = false) (h5 : ¬ 5 < l.length) : eventB l = false := by
  unfold eventB Lib.trimPrefix
  split
  · rw [List.drop_of_length_le (by simp; omega)]; rfl
  · exact h
theorem eventB_other {l : List UInt8} (h : nameB l = false) (h5 : l.take 5 ≠ [100, 111, 110, 101, 46]) : eventB l = false := by
  unfold eventB Lib.trimPrefix
  rw [if_neg]
  · exact h
  · intro hp
    exact h5 ((hasPrefix_iff _ _).1 hp)
theorem eventB_done {l : List UInt8} (h5 : l.take 5 = [100, 111, 110, 101, 46]) : eventB l = nameB (l.drop 5) := by
  unfold eventB Lib.trimPrefix
  rw [if_pos ((hasPrefix_iff l [100, 111, 110, 101, 46]).2 h5)]; rfl

theorem refEvent_any (s : ByteArray) (w : World) (hs : s.size ≤ 281474976710656) :
    Calls Tryz.prog 54 #[.string s] w fun e w' => e = .returned (.bool (eventB s.data.toList)) ∧ w = w' := by
  have hl : s.data.toList.length = s.size := (Lib.size_eq s).symm
  cases hn : nameB s.data.toList
  · by_cases h5 : 5 < s.size
    · have et : (s.extract 0 5).data.toList = s.data.toList.take 5 := by rw [Lib.extract_data, List.drop_zero]
      have ed : (s.extract 5 s.size).data.toList = s.data.toList.drop 5 := by rw [Lib.extract_to_end]
      by_cases hd : s.data.toList.take 5 = [100, 111, 110, 101, 46]
      · have hr := eventB_done hd
        have ht : ((s.extract 0 5).toList == [100, 111, 110, 101, 46]) = true := by rw [Lib.toList_data, et, hd]; rfl
        have HR := Lib.hid hr
        clear hr hd et ed
        go_enter Tryz.func54, Tryz.ntmps54
        go_wp2_with (go_at_call 52; refine (refName_any _ _).mono ?_; rintro e w' ⟨rfl, rfl⟩)
        go_ret
        refine ⟨ret_bool ?_, rfl⟩
        rw [HR.out, List.take_of_length_le (by rw [List.length_drop]; omega)]
      · have hr := eventB_other hn hd
        have ht : ((s.extract 0 5).toList == [100, 111, 110, 101, 46]) = false := by
          rw [Lib.toList_data, et]; exact beq_eq_false_iff_ne.2 hd
        have HR := Lib.hid hr
        clear hr hd et ed
        go_enter Tryz.func54, Tryz.ntmps54
        go_wp2_with (go_at_call 52; refine (refName_any _ _).mono ?_; rintro e w' ⟨rfl, rfl⟩)
        go_ret
        exact ⟨ret_bool HR.out.symm, rfl⟩
    · have hr := eventB_short hn (by omega)
      have HR := Lib.hid hr
      clear hr
      go_enter Tryz.func54, Tryz.ntmps54
      go_wp2_with (go_at_call 52; refine (refName_any _ _).mono ?_; rintro e w' ⟨rfl, rfl⟩)
      go_ret
      exact ⟨ret_bool HR.out.symm, rfl⟩
  · have hr := eventB_name hn
    have HR := Lib.hid hr
    clear hr
    go_enter Tryz.func54, Tryz.ntmps54
    go_wp2_with (go_at_call 52; refine (refName_any _ _).mono ?_; rintro e w' ⟨rfl, rfl⟩)
    go_ret
    exact ⟨ret_bool HR.out.symm, rfl⟩
end Go.Proofs.YtjjoffadieoaaaaGreatDoor
namespace Go.Proofs.YtjjoffadieoaaaaGreatDoor
open Go.RowKit

theorem any_take {α : Type} {p : α → Bool} {l : List α} {k : Nat} (hk : k < l.length) (h : (l.take k).any p = false) : (l.take (k + 1)).any p = p l[k] := by
  rw [List.take_succ_eq_append_getElem hk, List.any_append, h]; simp
theorem any_hit {α : Type} {p : α → Bool} {l : List α} {k : Nat} (hk : k < l.length) (h : p l[k] = true) : l.any p = true :=
  List.any_eq_true.2 ⟨_, List.getElem_mem hk, h⟩
theorem any_end {α : Type} {p : α → Bool} {l : List α} {k : Nat} (hk : ¬ k < l.length) (h : (l.take k).any p = false) : l.any p = false := by
  rw [List.take_of_length_le (by omega)] at h; exact h

set_option maxRecDepth 100000 in
set_option maxHeartbeats 2000000 in
theorem refAsks_any (v : Value) (cs : List CM) (w : World) (hR : RdC w v cs) (hl : cs.length ≤ 4611686018427387904) :
    Calls Tryz.prog 53 #[v] w fun e w' => e = .returned (.bool (asksB cs)) ∧ w' = w := by
  obtain ⟨A, c, rfl⟩ := hR.form
  have HR := Lib.hid hR; clear hR
  obtain ⟨n, hn⟩ : ∃ n, cs.length = n := ⟨_, rfl⟩
  have HN := Lib.hid hn
  rw [hn] at hl HR ⊢
  clear hn
  go_enter Tryz.func53, Tryz.ntmps53
  go_wp2
  go_loopw [2, 3] (fun x i wr => x = .bool false ∧ ∃ k : Nat, k ≤ n ∧ Hid ((cs.take k).any isIn = false) ∧ wr = w ∧ i = .int .i64 k) (fun _ i _ => n - (intOf i).toNat)
  case atStart => exact ⟨rfl, 0, by omega, rfl, rfl, rfl⟩
  case round =>
    obtain ⟨rfl, k, hk, HT, hw, rfl⟩ := hrel
    replace hw := hw.symm
    subst hw
    by_cases hkn : k < n
    · have hkc : k < cs.length := by rw [HN.out]; exact hkn
      obtain ⟨b, o, rfl, c0, _, _⟩ := HR.out.at_ hkc
      have hat := any_take hkc HT.out
      have hhit := any_hit (p := isIn) hkc
      generalize cs[k] = x at *
      by_cases h6 : x.op = 6
      · have hL : asksB cs = true := hhit (decide_eq_true h6)
        have HL := Lib.hid hL
        rw [h6] at c0
        clear hat hhit h6 hL
        go_wp2
        go_ret
        exact ⟨ret_bool HL.out.symm, rfl⟩
      · have HL : Hid ((cs.take (k + 1)).any isIn = false) := hat.trans (decide_eq_false h6)
        have h6' := int_ne h6
        clear hat hhit
        go_wp2
        go_roundw
        case rel => exact ⟨rfl, k + 1, by omega, HL.out, (by first | exact trivial | rfl), by go_num⟩
        case measure => simp [intOf]; omega
    · have HL : Hid (asksB cs = false) := any_end (by rw [HN.out]; exact hkn) HT.out
      go_wp2
      go_ret
      exact ⟨ret_bool HL.out.symm, rfl⟩

set_option maxRecDepth 100000 in
set_option maxHeartbeats 4000000 in
theorem refOne_any (k : Int) (X : ByteArray) (v : Value) (cs : List CM) (w : World) (hR : RdI w v cs) (hl : cs.length * 32 ≤ 140737488355328) (hN : Names cs) (hX : X.size ≤ 281474976710656) :
    Calls Tryz.prog 29 #[.agg #[.int .i64 k, .string X, v]] w fun e w' => e = .returned (.bool (oneB ⟨k, X.data.toList, cs⟩)) ∧ Below w.heap.size w w' := by
  have HC0 : Hid (∀ W, Below w.heap.size w W → Calls Tryz.prog 44 #[v] W fun e w' => e = .returned (.bool (rightB cs)) ∧ Below W.heap.size W w') := fun W hb => refRight_any v cs W (hR.below hb).rd (by omega) hN
  have HC1 : Hid (∀ W, Below w.heap.size w W → Calls Tryz.prog 53 #[v] W fun e w' => e = .returned (.bool (asksB cs)) ∧ w' = W) := fun W hb => refAsks_any v cs W (hR.below hb).rd (by omega)
  have HN := Lib.hid (refName_any X)
  have HE := Lib.hid (fun W => refEvent_any X W hX)
  obtain ⟨A, c, rfl⟩ := hR.slice
  have HB0 : Hid (Below w.heap.size w (w.alloc (.cells #[.int .i64 k, .string X, .slice A cs.length c] 59))) := (Below.refl _ _).alloc (Nat.le_refl _) _
  have d2 : (w.alloc (.cells #[.int .i64 k, .string X, .slice A cs.length c] 59)).cell? ⟨w.heap.size, 2, none⟩ = some (.slice A cs.length c) := by simp
  have hlen : (cs.length : Int) ≤ 4398046511104 := by omega
  have HBA : Hid (∀ o : Obj, Below w.heap.size w (w.alloc o)) := fun o => (Below.refl _ _).alloc (Nat.le_refl _) o
  clear hR hl hN
  by_cases h1 : k = 1
  · subst h1
    cases hn : nameB X.data.toList with
    | false =>
      have hL : Hid (oneB ⟨1, X.data.toList, cs⟩ = false) := by show oneB _ = false; unfold oneB; rw [if_pos rfl]; simp only [hn]; rfl
      have HH := Lib.hid hn; clear hn
      go_enter Tryz.func29, Tryz.ntmps29
      go_wp2_with fail
      refine (HN.out _).mono ?_
      rintro e w1 ⟨rfl, rfl⟩
      rw [HH.out]
      go_wp2
      go_ret
      exact ⟨by rw [hL.out]; rfl, HB0.out⟩
    | true =>
      have HH := Lib.hid hn
      cases hr : rightB cs with
      | false =>
        have hL : Hid (oneB ⟨1, X.data.toList, cs⟩ = false) := by show oneB _ = false; unfold oneB; rw [if_pos rfl]; simp only [hr, Bool.and_false, Bool.false_and]
        have HH2 := Lib.hid hr; clear hr hn
        go_enter Tryz.func29, Tryz.ntmps29
        go_wp2_with fail
        refine (HN.out _).mono ?_
        rintro e w1 ⟨rfl, rfl⟩
        rw [HH.out]
        go_wp2_with fail
        refine (HC0.out _ HB0.out).mono ?_
        rintro e w2 ⟨rfl, hb2⟩
        rw [HH2.out]
        have HB2 := Lib.hid (HB0.out.trans (hb2.mono HB0.out.size)); clear hb2
        go_wp2
        go_ret
        exact ⟨by rw [hL.out]; rfl, HB2.out⟩
      | true =>
        have hL : Hid (oneB ⟨1, X.data.toList, cs⟩ = !asksB cs) := by show oneB _ = _; unfold oneB; rw [if_pos rfl]; simp only [hr, hn, Bool.true_and]
        have HH2 := Lib.hid hr; clear hr hn
        go_enter Tryz.func29, Tryz.ntmps29
        go_wp2_with fail
        refine (HN.out _).mono ?_
        rintro e w1 ⟨rfl, rfl⟩
        rw [HH.out]
        go_wp2_with fail
        refine (HC0.out _ HB0.out).mono ?_
        rintro e w2 ⟨rfl, hb2⟩
        rw [HH2.out]
        have HB2 := Lib.hid (HB0.out.trans (hb2.mono HB0.out.size))
        have e2 := (hb2.cell (by simp)).trans d2
        clear hb2
        go_wp2_with fail
        refine (HC1.out _ HB2.out).mono ?_
        rintro e w3 ⟨rfl, hw3⟩
        obtain rfl := hw3.symm
        go_wp2
        go_ret
        exact ⟨by rw [hL.out]; rfl, HB2.out⟩
  · have h1' := int_ne h1
    by_cases h23 : k = 2 ∨ k = 3
    · cases he : eventB X.data.toList with
      | false =>
        have hL : Hid (oneB ⟨k, X.data.toList, cs⟩ = false) := by show oneB _ = false; unfold oneB; rw [if_neg h1, if_pos h23]; simp only [he]; rfl
        have HH := Lib.hid he; clear he
        rcases h23 with rfl | rfl
        all_goals
          go_enter Tryz.func29, Tryz.ntmps29
          go_wp2_with fail
          refine (HE.out _).mono ?_
          rintro e w1 ⟨rfl, rfl⟩
          rw [HH.out]
          go_wp2
          go_ret
          exact ⟨by rw [hL.out]; rfl, HB0.out⟩
      | true =>
        have hL : Hid (oneB ⟨k, X.data.toList, cs⟩ = decide (cs.length = 0)) := by show oneB _ = _; unfold oneB; rw [if_neg h1, if_pos h23]; simp only [he, Bool.true_and]
        have HH := Lib.hid he; clear he
        by_cases h0 : cs.length = 0
        · have HL : Hid (oneB ⟨k, X.data.toList, cs⟩ = true) := hL.out.trans (decide_eq_true h0)
          have h0' : ((cs.length : Int) == 0) = true := by simp [h0]
          rcases h23 with rfl | rfl
          all_goals
            go_enter Tryz.func29, Tryz.ntmps29
            go_wp2_with fail
            refine (HE.out _).mono ?_
            rintro e w1 ⟨rfl, rfl⟩
            rw [HH.out]
            go_wp2
            go_ret
            exact ⟨ret_bool HL.out.symm, HBA.out _⟩
        · have HL : Hid (oneB ⟨k, X.data.toList, cs⟩ = false) := hL.out.trans (decide_eq_false h0)
          have h0' : ((cs.length : Int) == 0) = false := int_ne (by omega)
          rcases h23 with rfl | rfl
          all_goals
            go_enter Tryz.func29, Tryz.ntmps29
            go_wp2_with fail
            refine (HE.out _).mono ?_
            rintro e w1 ⟨rfl, rfl⟩
            rw [HH.out]
            go_wp2
            go_ret
            exact ⟨ret_bool HL.out.symm, HB0.out⟩
    · have HL : Hid (oneB ⟨k, X.data.toList, cs⟩ = false) := by show oneB _ = false; unfold oneB; rw [if_neg h1, if_neg h23]
      have h2' := int_ne (fun h => h23 (Or.inl h) : ¬ k = 2)
      have h3' := int_ne (fun h => h23 (Or.inr h) : ¬ k = 3)
      go_enter Tryz.func29, Tryz.ntmps29
      go_wp2
      go_ret
      exact ⟨ret_bool HL.out.symm, HB0.out⟩
end Go.Proofs.YtjjoffadieoaaaaGreatDoor
namespace Go.Proofs.YtjjoffadieoaaaaGreatDoor
open Go.RowKit

theorem cell_new (w : World) (x y z : Value) (t : TypeId) : Below w.heap.size w (w.alloc (.cells #[x, y, z] t)) ∧ (w.alloc (.cells #[x, y, z] t)).heap.size = w.heap.size + 1 ∧ (w.alloc (.cells #[x, y, z] t)).heap[w.heap.size]? = some (.cells #[x, y, z] t (0, 0)) :=
  ⟨(Below.refl _ _).alloc (Nat.le_refl _) _, by simp, heap_alloc_new w _⟩
theorem cells3_at {w : World} {b : Nat} {x y z : Value} {t : TypeId} (h : w.heap[b]? = some (.cells #[x, y, z] t (0, 0))) : w.cell? ⟨b, 0, none⟩ = some x ∧ w.cell? ⟨b, 1, none⟩ = some y ∧ w.cell? ⟨b, 2, none⟩ = some z :=
  ⟨(cell_of_row w b 0 _ _ _ h).trans rfl, (cell_of_row w b 1 _ _ _ h).trans rfl, (cell_of_row w b 2 _ _ _ h).trans rfl⟩
def ToldPost (x : List UInt8) (w : World) (e : Ending) (w' : World) : Prop := e = .returned (bstr x) ∧ Below w.heap.size w w'
theorem ToldPost.of {x : List UInt8} {w w' : World} {X : ByteArray} (hX : X = ⟨x.toArray⟩) (hb : Below w.heap.size w w') : ToldPost x w (.returned (.string X)) w' := by subst hX; exact ⟨rfl, hb⟩
theorem sg_bin {k : Nat} (hk : k < 13) (W : World) : Calls Tryz.prog 76 #[.int .i64 ((k : Int) + 11)] W fun x w' => x = .returned (.tuple #[.string ⟨(tabAt k).2.1.toArray⟩, .int .i64 (tabAt k).2.2]) ∧ Below W.heap.size W w' := by
  have h := sign_any (k + 11) (by omega) W
  have e1 : sgT (k + 11) = (tabAt k).2.1 := by unfold sgT; rw [if_neg (by omega), if_neg (by omega), if_neg (by omega), Nat.add_sub_cancel]
  have e2 : pwT (k + 11) = (tabAt k).2.2 := by unfold pwT; rw [if_neg (by omega), if_neg (by omega), if_neg (by omega), Nat.add_sub_cancel]
  unfold SignPost at h
  rw [e1, e2, show ((k + 11 : Nat) : Int) = (k : Int) + 11 by omega] at h
  exact h

set_option maxRecDepth 100000 in
set_option maxHeartbeats 2000000 in
theorem told_5 (a : Int) (nm : List UInt8) (b o n cc : Nat) (e : Nat) (least : Int) (w : World) (he : e < n) (h6 : least ≤ 6) (hf : formedB ⟨5, a, nm⟩ = true)
    (d0 : w.cell? ⟨b, o + e * 3, none⟩ = some (.int .i64 5)) (d1 : w.cell? ⟨b, o + e * 3 + 1, none⟩ = some (.int .i64 a)) (d2 : w.cell? ⟨b, o + e * 3 + 2, none⟩ = some (bstr nm)) :
    Calls Tryz.prog 45 #[.slice (some ⟨b, o, none⟩) n cc, .int .i64 e, .int .i64 least] w (ToldPost (nm) w) := by
  have hnm := formed_name hf
  have hops := fun W => refOperands_any ⟨5, a, nm⟩ W (by omega)
  rw [opsR_yes hf] at hops
  simp only at hops hnm
  have HSG : Hid (∀ W, Calls Tryz.prog 76 #[.int .i64 5] W fun x w' => x = .returned (.tuple #[.string ⟨#[]⟩, .int .i64 7]) ∧ Below W.heap.size W w') := fun W => sign_any 5 (by omega) W
  obtain ⟨X, hX⟩ : ∃ X : ByteArray, (⟨nm.toArray⟩ : ByteArray) = X := ⟨_, rfl⟩
  have hb : bstr nm = .string X := by rw [← hX]; rfl
  have hXs : X.size ≤ 12 := by rw [← hX, size_list]; exact hnm
  have HX := Lib.hid hX
  rw [hb] at d2 hops
  have HOP := Lib.hid hops
  obtain ⟨hW, hWs, hd⟩ := cell_new w (.int .i64 5) (.int .i64 a) (.string X) 93
  have HW := Lib.hid hW; have HWS := Lib.hid hWs; have HD := Lib.hid hd
  have hlt : decide ((7 : Int) < least) = false := decide_eq_false (by omega)
  have hlt' : ¬ ((7 : Int) < least) := by omega
  clear hb hX hops hf hW hWs hd hnm
  go_enter Tryz.func45, Tryz.ntmps45
  go_wp2_with fail
  refine (HSG.out _).mono ?_
  rintro x w2 ⟨rfl, hb2⟩
  have HB2 := Lib.hid (HW.out.trans (hb2.mono (by rw [HWS.out]; omega)))
  have HD2 := Lib.hid ((hb2.block _ (by rw [HWS.out]; omega)).trans HD.out)
  clear hb2
  obtain ⟨k0, k1, k2⟩ := cells3_at HD2.out
  go_wp2_with fail
  refine (HOP.out _).mono ?_
  rintro x w3 ⟨rfl, hb3⟩
  have HB3 := Lib.hid (HB2.out.trans (hb3.mono HB2.out.size))
  have HD3 := Lib.hid ((hb3.block _ (lt_of_block HD2.out)).trans HD2.out)
  clear hb3 k0 k1 k2
  obtain ⟨k0, k1, k2⟩ := cells3_at HD3.out
  simp only [show operN 5 = 0 from rfl]
  go_wp2
  go_ret
  exact ToldPost.of (HX.out.symm) HB3.out

set_option maxRecDepth 100000 in
set_option maxHeartbeats 2000000 in
theorem told_1 (a : Int) (nm : List UInt8) (b o n cc : Nat) (e : Nat) (least : Int) (w : World) (he : e < n) (h6 : least ≤ 6) (hf : formedB ⟨1, a, nm⟩ = true)
    (d0 : w.cell? ⟨b, o + e * 3, none⟩ = some (.int .i64 1)) (d1 : w.cell? ⟨b, o + e * 3 + 1, none⟩ = some (.int .i64 a)) (d2 : w.cell? ⟨b, o + e * 3 + 2, none⟩ = some (bstr nm)) :
    Calls Tryz.prog 45 #[.slice (some ⟨b, o, none⟩) n cc, .int .i64 e, .int .i64 least] w (ToldPost (Lib.itoa a) w) := by
  have hnm := formed_name hf
  have hops := fun W => refOperands_any ⟨1, a, nm⟩ W (by omega)
  rw [opsR_yes hf] at hops
  simp only at hops hnm
  have HSG : Hid (∀ W, Calls Tryz.prog 76 #[.int .i64 1] W fun x w' => x = .returned (.tuple #[.string ⟨#[]⟩, .int .i64 7]) ∧ Below W.heap.size W w') := fun W => sign_any 1 (by omega) W
  obtain ⟨X, hX⟩ : ∃ X : ByteArray, (⟨nm.toArray⟩ : ByteArray) = X := ⟨_, rfl⟩
  have hb : bstr nm = .string X := by rw [← hX]; rfl
  have hXs : X.size ≤ 12 := by rw [← hX, size_list]; exact hnm
  have HX := Lib.hid hX
  rw [hb] at d2 hops
  have HOP := Lib.hid hops
  obtain ⟨hW, hWs, hd⟩ := cell_new w (.int .i64 1) (.int .i64 a) (.string X) 93
  have HW := Lib.hid hW; have HWS := Lib.hid hWs; have HD := Lib.hid hd
  have hlt : decide ((7 : Int) < least) = false := decide_eq_false (by omega)
  have hlt' : ¬ ((7 : Int) < least) := by omega
  have hnum := formed_num hf (Or.inl rfl)
  simp only at hnum
  have hlen : (Lib.itoa a).length ≤ 100 := itoa_short hnum.1 hnum.2
  have HDG := Lib.hid (fun W => ref2Digits_any a W (by omega) (by omega))
  obtain ⟨Y, hY⟩ : ∃ Y : ByteArray, (⟨(Lib.itoa a).toArray⟩ : ByteArray) = Y := ⟨_, rfl⟩
  rw [hY] at HDG
  have hYs : Y.size ≤ 100 := by rw [← hY, size_list]; exact hlen
  have HY := Lib.hid hY
  clear hnum hlen hY
  clear hb hX hops hf hW hWs hd hnm
  go_enter Tryz.func45, Tryz.ntmps45
  go_wp2_with fail
  refine (HSG.out _).mono ?_
  rintro x w2 ⟨rfl, hb2⟩
  have HB2 := Lib.hid (HW.out.trans (hb2.mono (by rw [HWS.out]; omega)))
  have HD2 := Lib.hid ((hb2.block _ (by rw [HWS.out]; omega)).trans HD.out)
  clear hb2
  obtain ⟨k0, k1, k2⟩ := cells3_at HD2.out
  go_wp2_with fail
  refine (HOP.out _).mono ?_
  rintro x w3 ⟨rfl, hb3⟩
  have HB3 := Lib.hid (HB2.out.trans (hb3.mono HB2.out.size))
  have HD3 := Lib.hid ((hb3.block _ (lt_of_block HD2.out)).trans HD2.out)
  clear hb3 k0 k1 k2
  obtain ⟨k0, k1, k2⟩ := cells3_at HD3.out
  simp only [show operN 1 = 0 from rfl]
  go_wp2_with fail
  refine (HDG.out _).mono ?_
  rintro x w4 ⟨rfl, hb4⟩
  have HB4 := Lib.hid (HB3.out.trans (hb4.mono HB3.out.size))
  clear hb4
  go_wp2
  go_ret
  exact ToldPost.of (HY.out.symm) HB4.out

set_option maxRecDepth 100000 in
set_option maxHeartbeats 2000000 in
theorem told_2 (a : Int) (nm : List UInt8) (b o n cc : Nat) (e : Nat) (least : Int) (w : World) (he : e < n) (h6 : least ≤ 6) (hf : formedB ⟨2, a, nm⟩ = true)
    (d0 : w.cell? ⟨b, o + e * 3, none⟩ = some (.int .i64 2)) (d1 : w.cell? ⟨b, o + e * 3 + 1, none⟩ = some (.int .i64 a)) (d2 : w.cell? ⟨b, o + e * 3 + 2, none⟩ = some (bstr nm)) :
    Calls Tryz.prog 45 #[.slice (some ⟨b, o, none⟩) n cc, .int .i64 e, .int .i64 least] w (ToldPost (Lib.itoa a ++ [105]) w) := by
  have hnm := formed_name hf
  have hops := fun W => refOperands_any ⟨2, a, nm⟩ W (by omega)
  rw [opsR_yes hf] at hops
  simp only at hops hnm
  have HSG : Hid (∀ W, Calls Tryz.prog 76 #[.int .i64 2] W fun x w' => x = .returned (.tuple #[.string ⟨#[]⟩, .int .i64 7]) ∧ Below W.heap.size W w') := fun W => sign_any 2 (by omega) W
  obtain ⟨X, hX⟩ : ∃ X : ByteArray, (⟨nm.toArray⟩ : ByteArray) = X := ⟨_, rfl⟩
  have hb : bstr nm = .string X := by rw [← hX]; rfl
  have hXs : X.size ≤ 12 := by rw [← hX, size_list]; exact hnm
  have HX := Lib.hid hX
  rw [hb] at d2 hops
  have HOP := Lib.hid hops
  obtain ⟨hW, hWs, hd⟩ := cell_new w (.int .i64 2) (.int .i64 a) (.string X) 93
  have HW := Lib.hid hW; have HWS := Lib.hid hWs; have HD := Lib.hid hd
  have hlt : decide ((7 : Int) < least) = false := decide_eq_false (by omega)
  have hlt' : ¬ ((7 : Int) < least) := by omega
  have hnum := formed_num hf (Or.inr rfl)
  simp only at hnum
  have hlen : (Lib.itoa a).length ≤ 100 := itoa_short hnum.1 hnum.2
  have HDG := Lib.hid (fun W => ref2Digits_any a W (by omega) (by omega))
  obtain ⟨Y, hY⟩ : ∃ Y : ByteArray, (⟨(Lib.itoa a).toArray⟩ : ByteArray) = Y := ⟨_, rfl⟩
  rw [hY] at HDG
  have hYs : Y.size ≤ 100 := by rw [← hY, size_list]; exact hlen
  have HY := Lib.hid hY
  have s1 : ∀ W : World, (Op.stringOp .add Y ⟨#[105]⟩).run Tryz.prog W = .ok (.string (Y ++ ⟨#[105]⟩)) W := fun W => run_string_add_sum (P := Tryz.prog) (w := W) _ _ (by show Y.size + 1 ≤ _; omega)
  clear hnum hlen hY
  clear hb hX hops hf hW hWs hd hnm
  go_enter Tryz.func45, Tryz.ntmps45
  go_wp2_with fail
  refine (HSG.out _).mono ?_
  rintro x w2 ⟨rfl, hb2⟩
  have HB2 := Lib.hid (HW.out.trans (hb2.mono (by rw [HWS.out]; omega)))
  have HD2 := Lib.hid ((hb2.block _ (by rw [HWS.out]; omega)).trans HD.out)
  clear hb2
  obtain ⟨k0, k1, k2⟩ := cells3_at HD2.out
  go_wp2_with fail
  refine (HOP.out _).mono ?_
  rintro x w3 ⟨rfl, hb3⟩
  have HB3 := Lib.hid (HB2.out.trans (hb3.mono HB2.out.size))
  have HD3 := Lib.hid ((hb3.block _ (lt_of_block HD2.out)).trans HD2.out)
  clear hb3 k0 k1 k2
  obtain ⟨k0, k1, k2⟩ := cells3_at HD3.out
  simp only [show operN 2 = 0 from rfl]
  go_wp2_with fail
  refine (HDG.out _).mono ?_
  rintro x w4 ⟨rfl, hb4⟩
  have HB4 := Lib.hid (HB3.out.trans (hb4.mono HB3.out.size))
  clear hb4
  go_wp2
  go_ret
  exact ToldPost.of (by rw [← HY.out]; exact bytes_join _ [105]) HB4.out

set_option maxRecDepth 100000 in
set_option maxHeartbeats 2000000 in
theorem told_3 (a : Int) (nm : List UInt8) (b o n cc : Nat) (e : Nat) (least : Int) (w : World) (he : e < n) (h6 : least ≤ 6) (hf : formedB ⟨3, a, nm⟩ = true)
    (d0 : w.cell? ⟨b, o + e * 3, none⟩ = some (.int .i64 3)) (d1 : w.cell? ⟨b, o + e * 3 + 1, none⟩ = some (.int .i64 a)) (d2 : w.cell? ⟨b, o + e * 3 + 2, none⟩ = some (bstr nm)) :
    Calls Tryz.prog 45 #[.slice (some ⟨b, o, none⟩) n cc, .int .i64 e, .int .i64 least] w (ToldPost (wTrue) w) := by
  have hnm := formed_name hf
  have hops := fun W => refOperands_any ⟨3, a, nm⟩ W (by omega)
  rw [opsR_yes hf] at hops
  simp only at hops hnm
  have HSG : Hid (∀ W, Calls Tryz.prog 76 #[.int .i64 3] W fun x w' => x = .returned (.tuple #[.string ⟨#[]⟩, .int .i64 7]) ∧ Below W.heap.size W w') := fun W => sign_any 3 (by omega) W
  obtain ⟨X, hX⟩ : ∃ X : ByteArray, (⟨nm.toArray⟩ : ByteArray) = X := ⟨_, rfl⟩
  have hb : bstr nm = .string X := by rw [← hX]; rfl
  have hXs : X.size ≤ 12 := by rw [← hX, size_list]; exact hnm
  have HX := Lib.hid hX
  rw [hb] at d2 hops
  have HOP := Lib.hid hops
  obtain ⟨hW, hWs, hd⟩ := cell_new w (.int .i64 3) (.int .i64 a) (.string X) 93
  have HW := Lib.hid hW; have HWS := Lib.hid hWs; have HD := Lib.hid hd
  have hlt : decide ((7 : Int) < least) = false := decide_eq_false (by omega)
  have hlt' : ¬ ((7 : Int) < least) := by omega
  clear hb hX hops hf hW hWs hd hnm
  go_enter Tryz.func45, Tryz.ntmps45
  go_wp2_with fail
  refine (HSG.out _).mono ?_
  rintro x w2 ⟨rfl, hb2⟩
  have HB2 := Lib.hid (HW.out.trans (hb2.mono (by rw [HWS.out]; omega)))
  have HD2 := Lib.hid ((hb2.block _ (by rw [HWS.out]; omega)).trans HD.out)
  clear hb2
  obtain ⟨k0, k1, k2⟩ := cells3_at HD2.out
  go_wp2_with fail
  refine (HOP.out _).mono ?_
  rintro x w3 ⟨rfl, hb3⟩
  have HB3 := Lib.hid (HB2.out.trans (hb3.mono HB2.out.size))
  have HD3 := Lib.hid ((hb3.block _ (lt_of_block HD2.out)).trans HD2.out)
  clear hb3 k0 k1 k2
  obtain ⟨k0, k1, k2⟩ := cells3_at HD3.out
  simp only [show operN 3 = 0 from rfl]
  go_wp2
  go_ret
  exact ToldPost.of (rfl) HB3.out

set_option maxRecDepth 100000 in
set_option maxHeartbeats 2000000 in
theorem told_4 (a : Int) (nm : List UInt8) (b o n cc : Nat) (e : Nat) (least : Int) (w : World) (he : e < n) (h6 : least ≤ 6) (hf : formedB ⟨4, a, nm⟩ = true)
    (d0 : w.cell? ⟨b, o + e * 3, none⟩ = some (.int .i64 4)) (d1 : w.cell? ⟨b, o + e * 3 + 1, none⟩ = some (.int .i64 a)) (d2 : w.cell? ⟨b, o + e * 3 + 2, none⟩ = some (bstr nm)) :
    Calls Tryz.prog 45 #[.slice (some ⟨b, o, none⟩) n cc, .int .i64 e, .int .i64 least] w (ToldPost (wFalse) w) := by
  have hnm := formed_name hf
  have hops := fun W => refOperands_any ⟨4, a, nm⟩ W (by omega)
  rw [opsR_yes hf] at hops
  simp only at hops hnm
  have HSG : Hid (∀ W, Calls Tryz.prog 76 #[.int .i64 4] W fun x w' => x = .returned (.tuple #[.string ⟨#[]⟩, .int .i64 7]) ∧ Below W.heap.size W w') := fun W => sign_any 4 (by omega) W
  obtain ⟨X, hX⟩ : ∃ X : ByteArray, (⟨nm.toArray⟩ : ByteArray) = X := ⟨_, rfl⟩
  have hb : bstr nm = .string X := by rw [← hX]; rfl
  have hXs : X.size ≤ 12 := by rw [← hX, size_list]; exact hnm
  have HX := Lib.hid hX
  rw [hb] at d2 hops
  have HOP := Lib.hid hops
  obtain ⟨hW, hWs, hd⟩ := cell_new w (.int .i64 4) (.int .i64 a) (.string X) 93
  have HW := Lib.hid hW; have HWS := Lib.hid hWs; have HD := Lib.hid hd
  have hlt : decide ((7 : Int) < least) = false := decide_eq_false (by omega)
  have hlt' : ¬ ((7 : Int) < least) := by omega
  clear hb hX hops hf hW hWs hd hnm
  go_enter Tryz.func45, Tryz.ntmps45
  go_wp2_with fail
  refine (HSG.out _).mono ?_
  rintro x w2 ⟨rfl, hb2⟩
  have HB2 := Lib.hid (HW.out.trans (hb2.mono (by rw [HWS.out]; omega)))
  have HD2 := Lib.hid ((hb2.block _ (by rw [HWS.out]; omega)).trans HD.out)
  clear hb2
  obtain ⟨k0, k1, k2⟩ := cells3_at HD2.out
  go_wp2_with fail
  refine (HOP.out _).mono ?_
  rintro x w3 ⟨rfl, hb3⟩
  have HB3 := Lib.hid (HB2.out.trans (hb3.mono HB2.out.size))
  have HD3 := Lib.hid ((hb3.block _ (lt_of_block HD2.out)).trans HD2.out)
  clear hb3 k0 k1 k2
  obtain ⟨k0, k1, k2⟩ := cells3_at HD3.out
  simp only [show operN 4 = 0 from rfl]
  go_wp2
  go_ret
  exact ToldPost.of (rfl) HB3.out

set_option maxRecDepth 100000 in
set_option maxHeartbeats 2000000 in
theorem told_6 (a : Int) (nm : List UInt8) (b o n cc : Nat) (e : Nat) (least : Int) (w : World) (he : e < n) (h6 : least ≤ 6) (hf : formedB ⟨6, a, nm⟩ = true)
    (d0 : w.cell? ⟨b, o + e * 3, none⟩ = some (.int .i64 6)) (d1 : w.cell? ⟨b, o + e * 3 + 1, none⟩ = some (.int .i64 a)) (d2 : w.cell? ⟨b, o + e * 3 + 2, none⟩ = some (bstr nm)) :
    Calls Tryz.prog 45 #[.slice (some ⟨b, o, none⟩) n cc, .int .i64 e, .int .i64 least] w (ToldPost ([105, 110, 40] ++ nm ++ [41]) w) := by
  have hnm := formed_name hf
  have hops := fun W => refOperands_any ⟨6, a, nm⟩ W (by omega)
  rw [opsR_yes hf] at hops
  simp only at hops hnm
  have HSG : Hid (∀ W, Calls Tryz.prog 76 #[.int .i64 6] W fun x w' => x = .returned (.tuple #[.string ⟨#[]⟩, .int .i64 7]) ∧ Below W.heap.size W w') := fun W => sign_any 6 (by omega) W
  obtain ⟨X, hX⟩ : ∃ X : ByteArray, (⟨nm.toArray⟩ : ByteArray) = X := ⟨_, rfl⟩
  have hb : bstr nm = .string X := by rw [← hX]; rfl
  have hXs : X.size ≤ 12 := by rw [← hX, size_list]; exact hnm
  have HX := Lib.hid hX
  rw [hb] at d2 hops
  have HOP := Lib.hid hops
  obtain ⟨hW, hWs, hd⟩ := cell_new w (.int .i64 6) (.int .i64 a) (.string X) 93
  have HW := Lib.hid hW; have HWS := Lib.hid hWs; have HD := Lib.hid hd
  have hlt : decide ((7 : Int) < least) = false := decide_eq_false (by omega)
  have hlt' : ¬ ((7 : Int) < least) := by omega
  have s1 : ∀ W : World, (Op.stringOp .add ⟨#[105, 110, 40]⟩ X).run Tryz.prog W = .ok (.string (⟨#[105, 110, 40]⟩ ++ X)) W := fun W => run_string_add_sum (P := Tryz.prog) (w := W) _ _ (by show 3 + X.size ≤ _; omega)
  have s2 : ∀ W : World, (Op.stringOp .add (⟨#[105, 110, 40]⟩ ++ X) ⟨#[41]⟩).run Tryz.prog W = .ok (.string ((⟨#[105, 110, 40]⟩ ++ X) ++ ⟨#[41]⟩)) W := fun W => run_string_add_sum (P := Tryz.prog) (w := W) _ _ (by rw [ByteArray.size_append]; show 3 + X.size + 1 ≤ _; omega)
  clear hb hX hops hf hW hWs hd hnm
  go_enter Tryz.func45, Tryz.ntmps45
  go_wp2_with fail
  refine (HSG.out _).mono ?_
  rintro x w2 ⟨rfl, hb2⟩
  have HB2 := Lib.hid (HW.out.trans (hb2.mono (by rw [HWS.out]; omega)))
  have HD2 := Lib.hid ((hb2.block _ (by rw [HWS.out]; omega)).trans HD.out)
  clear hb2
  obtain ⟨k0, k1, k2⟩ := cells3_at HD2.out
  go_wp2_with fail
  refine (HOP.out _).mono ?_
  rintro x w3 ⟨rfl, hb3⟩
  have HB3 := Lib.hid (HB2.out.trans (hb3.mono HB2.out.size))
  have HD3 := Lib.hid ((hb3.block _ (lt_of_block HD2.out)).trans HD2.out)
  clear hb3 k0 k1 k2
  obtain ⟨k0, k1, k2⟩ := cells3_at HD3.out
  simp only [show operN 6 = 0 from rfl]
  go_wp2
  go_ret
  exact ToldPost.of (by rw [← HX.out]; exact (congrArg (· ++ (⟨#[41]⟩ : ByteArray)) (bytes_join [105, 110, 40] nm)).trans (bytes_join _ [41])) HB3.out
end Go.Proofs.YtjjoffadieoaaaaGreatDoor
namespace Go.Proofs.YtjjoffadieoaaaaGreatDoor
open Go.RowKit

set_option maxRecDepth 100000 in
set_option maxHeartbeats 2000000 in
theorem told_7 (a : Int) (nm : List UInt8) (b o n cc : Nat) (e : Nat) (least : Int) (w : World) (he : e < n) (h6 : least ≤ 6) (hf : formedB ⟨7, a, nm⟩ = true)
    (d0 : w.cell? ⟨b, o + e * 3, none⟩ = some (.int .i64 7)) (d1 : w.cell? ⟨b, o + e * 3 + 1, none⟩ = some (.int .i64 a)) (d2 : w.cell? ⟨b, o + e * 3 + 2, none⟩ = some (bstr nm)) (h1 : 1 ≤ e) (hn : n ≤ 32) (x : List UInt8) (hx : x.length ≤ 1000)
    (HT : ∀ W, Below w.heap.size w W → Calls Tryz.prog 45 #[.slice (some ⟨b, o, none⟩) n cc, .int .i64 ((e : Int) - 1), .int .i64 6] W (ToldPost x W)) :
    Calls Tryz.prog 45 #[.slice (some ⟨b, o, none⟩) n cc, .int .i64 e, .int .i64 least] w (ToldPost ([45] ++ x) w) := by
  have hnm := formed_name hf
  have hops := fun W => refOperands_any ⟨7, a, nm⟩ W (by omega)
  rw [opsR_yes hf] at hops
  simp only at hops hnm
  have HSG : Hid (∀ W, Calls Tryz.prog 76 #[.int .i64 7] W fun x w' => x = .returned (.tuple #[.string ⟨#[45]⟩, .int .i64 6]) ∧ Below W.heap.size W w') := fun W => sign_any 7 (by omega) W
  obtain ⟨X, hX⟩ : ∃ X : ByteArray, (⟨nm.toArray⟩ : ByteArray) = X := ⟨_, rfl⟩
  have hb : bstr nm = .string X := by rw [← hX]; rfl
  have hXs : X.size ≤ 12 := by rw [← hX, size_list]; exact hnm
  have HX := Lib.hid hX
  rw [hb] at d2 hops
  have HOP := Lib.hid hops
  obtain ⟨hW, hWs, hd⟩ := cell_new w (.int .i64 7) (.int .i64 a) (.string X) 93
  have HW := Lib.hid hW; have HWS := Lib.hid hWs; have HD := Lib.hid hd
  have hlt : decide ((6 : Int) < least) = false := decide_eq_false (by omega)
  have hlt' : ¬ ((6 : Int) < least) := by omega
  have HT' := Lib.hid HT
  obtain ⟨Y, hY⟩ : ∃ Y : ByteArray, (⟨x.toArray⟩ : ByteArray) = Y := ⟨_, rfl⟩
  have hYb : bstr x = .string Y := by rw [← hY]; rfl
  have HYB := Lib.hid hYb
  have hYs : Y.size ≤ 1000 := by rw [← hY, size_list]; exact hx
  have HY := Lib.hid hY
  have s1 : ∀ W : World, (Op.stringOp .add ⟨#[45]⟩ Y).run Tryz.prog W = .ok (.string (⟨#[45]⟩ ++ Y)) W := fun W => run_string_add_sum (P := Tryz.prog) (w := W) _ _ (by show 1 + Y.size ≤ _; omega)
  clear HT hY hYb hx
  clear hb hX hops hf hW hWs hd hnm
  go_enter Tryz.func45, Tryz.ntmps45
  go_wp2_with fail
  refine (HSG.out _).mono ?_
  rintro x w2 ⟨rfl, hb2⟩
  have HB2 := Lib.hid (HW.out.trans (hb2.mono (by rw [HWS.out]; omega)))
  have HD2 := Lib.hid ((hb2.block _ (by rw [HWS.out]; omega)).trans HD.out)
  clear hb2
  obtain ⟨k0, k1, k2⟩ := cells3_at HD2.out
  go_wp2_with fail
  refine (HOP.out _).mono ?_
  rintro x w3 ⟨rfl, hb3⟩
  have HB3 := Lib.hid (HB2.out.trans (hb3.mono HB2.out.size))
  have HD3 := Lib.hid ((hb3.block _ (lt_of_block HD2.out)).trans HD2.out)
  clear hb3 k0 k1 k2
  obtain ⟨k0, k1, k2⟩ := cells3_at HD3.out
  simp only [show operN 7 = 1 from rfl]
  go_wp2_with fail
  refine (HT'.out _ HB3.out).mono ?_
  rintro y w4 ⟨rfl, hb4⟩
  rw [HYB.out]
  have HB4 := Lib.hid (HB3.out.trans (hb4.mono HB3.out.size))
  clear hb4
  go_wp2
  go_ret
  exact ToldPost.of (by rw [← HY.out]; exact bytes_join [45] x) HB4.out

set_option maxRecDepth 100000 in
set_option maxHeartbeats 2000000 in
theorem told_8 (a : Int) (nm : List UInt8) (b o n cc : Nat) (e : Nat) (least : Int) (w : World) (he : e < n) (h6 : least ≤ 6) (hf : formedB ⟨8, a, nm⟩ = true)
    (d0 : w.cell? ⟨b, o + e * 3, none⟩ = some (.int .i64 8)) (d1 : w.cell? ⟨b, o + e * 3 + 1, none⟩ = some (.int .i64 a)) (d2 : w.cell? ⟨b, o + e * 3 + 2, none⟩ = some (bstr nm)) (h1 : 1 ≤ e) (hn : n ≤ 32) (x : List UInt8) (hx : x.length ≤ 1000)
    (HT : ∀ W, Below w.heap.size w W → Calls Tryz.prog 45 #[.slice (some ⟨b, o, none⟩) n cc, .int .i64 ((e : Int) - 1), .int .i64 6] W (ToldPost x W)) :
    Calls Tryz.prog 45 #[.slice (some ⟨b, o, none⟩) n cc, .int .i64 e, .int .i64 least] w (ToldPost ([33] ++ x) w) := by
  have hnm := formed_name hf
  have hops := fun W => refOperands_any ⟨8, a, nm⟩ W (by omega)
  rw [opsR_yes hf] at hops
  simp only at hops hnm
  have HSG : Hid (∀ W, Calls Tryz.prog 76 #[.int .i64 8] W fun x w' => x = .returned (.tuple #[.string ⟨#[33]⟩, .int .i64 6]) ∧ Below W.heap.size W w') := fun W => sign_any 8 (by omega) W
  obtain ⟨X, hX⟩ : ∃ X : ByteArray, (⟨nm.toArray⟩ : ByteArray) = X := ⟨_, rfl⟩
  have hb : bstr nm = .string X := by rw [← hX]; rfl
  have hXs : X.size ≤ 12 := by rw [← hX, size_list]; exact hnm
  have HX := Lib.hid hX
  rw [hb] at d2 hops
  have HOP := Lib.hid hops
  obtain ⟨hW, hWs, hd⟩ := cell_new w (.int .i64 8) (.int .i64 a) (.string X) 93
  have HW := Lib.hid hW; have HWS := Lib.hid hWs; have HD := Lib.hid hd
  have hlt : decide ((6 : Int) < least) = false := decide_eq_false (by omega)
  have hlt' : ¬ ((6 : Int) < least) := by omega
  have HT' := Lib.hid HT
  obtain ⟨Y, hY⟩ : ∃ Y : ByteArray, (⟨x.toArray⟩ : ByteArray) = Y := ⟨_, rfl⟩
  have hYb : bstr x = .string Y := by rw [← hY]; rfl
  have HYB := Lib.hid hYb
  have hYs : Y.size ≤ 1000 := by rw [← hY, size_list]; exact hx
  have HY := Lib.hid hY
  have s1 : ∀ W : World, (Op.stringOp .add ⟨#[33]⟩ Y).run Tryz.prog W = .ok (.string (⟨#[33]⟩ ++ Y)) W := fun W => run_string_add_sum (P := Tryz.prog) (w := W) _ _ (by show 1 + Y.size ≤ _; omega)
  clear HT hY hYb hx
  clear hb hX hops hf hW hWs hd hnm
  go_enter Tryz.func45, Tryz.ntmps45
  go_wp2_with fail
  refine (HSG.out _).mono ?_
  rintro x w2 ⟨rfl, hb2⟩
  have HB2 := Lib.hid (HW.out.trans (hb2.mono (by rw [HWS.out]; omega)))
  have HD2 := Lib.hid ((hb2.block _ (by rw [HWS.out]; omega)).trans HD.out)
  clear hb2
  obtain ⟨k0, k1, k2⟩ := cells3_at HD2.out
  go_wp2_with fail
  refine (HOP.out _).mono ?_
  rintro x w3 ⟨rfl, hb3⟩
  have HB3 := Lib.hid (HB2.out.trans (hb3.mono HB2.out.size))
  have HD3 := Lib.hid ((hb3.block _ (lt_of_block HD2.out)).trans HD2.out)
  clear hb3 k0 k1 k2
  obtain ⟨k0, k1, k2⟩ := cells3_at HD3.out
  simp only [show operN 8 = 1 from rfl]
  go_wp2_with fail
  refine (HT'.out _ HB3.out).mono ?_
  rintro y w4 ⟨rfl, hb4⟩
  rw [HYB.out]
  have HB4 := Lib.hid (HB3.out.trans (hb4.mono HB3.out.size))
  clear hb4
  go_wp2
  go_ret
  exact ToldPost.of (by rw [← HY.out]; exact bytes_join [33] x) HB4.out

set_option maxRecDepth 100000 in
set_option maxHeartbeats 2000000 in
theorem told_9 (a : Int) (nm : List UInt8) (b o n cc : Nat) (e : Nat) (least : Int) (w : World) (he : e < n) (h6 : least ≤ 6) (hf : formedB ⟨9, a, nm⟩ = true)
    (d0 : w.cell? ⟨b, o + e * 3, none⟩ = some (.int .i64 9)) (d1 : w.cell? ⟨b, o + e * 3 + 1, none⟩ = some (.int .i64 a)) (d2 : w.cell? ⟨b, o + e * 3 + 2, none⟩ = some (bstr nm)) (h1 : 1 ≤ e) (hn : n ≤ 32) (x : List UInt8) (hx : x.length ≤ 1000)
    (HT : ∀ W, Below w.heap.size w W → Calls Tryz.prog 45 #[.slice (some ⟨b, o, none⟩) n cc, .int .i64 ((e : Int) - 1), .int .i64 0] W (ToldPost x W)) :
    Calls Tryz.prog 45 #[.slice (some ⟨b, o, none⟩) n cc, .int .i64 e, .int .i64 least] w (ToldPost ([114, 101, 40] ++ x ++ [41]) w) := by
  have hnm := formed_name hf
  have hops := fun W => refOperands_any ⟨9, a, nm⟩ W (by omega)
  rw [opsR_yes hf] at hops
  simp only at hops hnm
  have HSG : Hid (∀ W, Calls Tryz.prog 76 #[.int .i64 9] W fun x w' => x = .returned (.tuple #[.string ⟨#[]⟩, .int .i64 7]) ∧ Below W.heap.size W w') := fun W => sign_any 9 (by omega) W
  obtain ⟨X, hX⟩ : ∃ X : ByteArray, (⟨nm.toArray⟩ : ByteArray) = X := ⟨_, rfl⟩
  have hb : bstr nm = .string X := by rw [← hX]; rfl
  have hXs : X.size ≤ 12 := by rw [← hX, size_list]; exact hnm
  have HX := Lib.hid hX
  rw [hb] at d2 hops
  have HOP := Lib.hid hops
  obtain ⟨hW, hWs, hd⟩ := cell_new w (.int .i64 9) (.int .i64 a) (.string X) 93
  have HW := Lib.hid hW; have HWS := Lib.hid hWs; have HD := Lib.hid hd
  have hlt : decide ((7 : Int) < least) = false := decide_eq_false (by omega)
  have hlt' : ¬ ((7 : Int) < least) := by omega
  have HT' := Lib.hid HT
  obtain ⟨Y, hY⟩ : ∃ Y : ByteArray, (⟨x.toArray⟩ : ByteArray) = Y := ⟨_, rfl⟩
  have hYb : bstr x = .string Y := by rw [← hY]; rfl
  have HYB := Lib.hid hYb
  have hYs : Y.size ≤ 1000 := by rw [← hY, size_list]; exact hx
  have HY := Lib.hid hY
  have s1 : ∀ W : World, (Op.stringOp .add ⟨#[114, 101, 40]⟩ Y).run Tryz.prog W = .ok (.string (⟨#[114, 101, 40]⟩ ++ Y)) W := fun W => run_string_add_sum (P := Tryz.prog) (w := W) _ _ (by show 3 + Y.size ≤ _; omega)
  have s2 : ∀ W : World, (Op.stringOp .add (⟨#[114, 101, 40]⟩ ++ Y) ⟨#[41]⟩).run Tryz.prog W = .ok (.string ((⟨#[114, 101, 40]⟩ ++ Y) ++ ⟨#[41]⟩)) W := fun W => run_string_add_sum (P := Tryz.prog) (w := W) _ _ (by rw [ByteArray.size_append]; show 3 + Y.size + 1 ≤ _; omega)
  clear HT hY hYb hx
  clear hb hX hops hf hW hWs hd hnm
  go_enter Tryz.func45, Tryz.ntmps45
  go_wp2_with fail
  refine (HSG.out _).mono ?_
  rintro x w2 ⟨rfl, hb2⟩
  have HB2 := Lib.hid (HW.out.trans (hb2.mono (by rw [HWS.out]; omega)))
  have HD2 := Lib.hid ((hb2.block _ (by rw [HWS.out]; omega)).trans HD.out)
  clear hb2
  obtain ⟨k0, k1, k2⟩ := cells3_at HD2.out
  go_wp2_with fail
  refine (HOP.out _).mono ?_
  rintro x w3 ⟨rfl, hb3⟩
  have HB3 := Lib.hid (HB2.out.trans (hb3.mono HB2.out.size))
  have HD3 := Lib.hid ((hb3.block _ (lt_of_block HD2.out)).trans HD2.out)
  clear hb3 k0 k1 k2
  obtain ⟨k0, k1, k2⟩ := cells3_at HD3.out
  simp only [show operN 9 = 1 from rfl]
  go_wp2_with fail
  refine (HT'.out _ HB3.out).mono ?_
  rintro y w4 ⟨rfl, hb4⟩
  rw [HYB.out]
  have HB4 := Lib.hid (HB3.out.trans (hb4.mono HB3.out.size))
  clear hb4
  go_wp2
  go_ret
  exact ToldPost.of (by rw [← HY.out]; exact (congrArg (· ++ (⟨#[41]⟩ : ByteArray)) (bytes_join [114, 101, 40] x)).trans (bytes_join _ [41])) HB4.out

set_option maxRecDepth 100000 in
set_option maxHeartbeats 2000000 in
theorem told_10 (a : Int) (nm : List UInt8) (b o n cc : Nat) (e : Nat) (least : Int) (w : World) (he : e < n) (h6 : least ≤ 6) (hf : formedB ⟨10, a, nm⟩ = true)
    (d0 : w.cell? ⟨b, o + e * 3, none⟩ = some (.int .i64 10)) (d1 : w.cell? ⟨b, o + e * 3 + 1, none⟩ = some (.int .i64 a)) (d2 : w.cell? ⟨b, o + e * 3 + 2, none⟩ = some (bstr nm)) (h1 : 1 ≤ e) (hn : n ≤ 32) (x : List UInt8) (hx : x.length ≤ 1000)
    (HT : ∀ W, Below w.heap.size w W → Calls Tryz.prog 45 #[.slice (some ⟨b, o, none⟩) n cc, .int .i64 ((e : Int) - 1), .int .i64 0] W (ToldPost x W)) :
    Calls Tryz.prog 45 #[.slice (some ⟨b, o, none⟩) n cc, .int .i64 e, .int .i64 least] w (ToldPost ([105, 109, 40] ++ x ++ [41]) w) := by
  have hnm := formed_name hf
  have hops := fun W => refOperands_any ⟨10, a, nm⟩ W (by omega)
  rw [opsR_yes hf] at hops
  simp only at hops hnm
  have HSG : Hid (∀ W, Calls Tryz.prog 76 #[.int .i64 10] W fun x w' => x = .returned (.tuple #[.string ⟨#[]⟩, .int .i64 7]) ∧ Below W.heap.size W w') := fun W => sign_any 10 (by omega) W
  obtain ⟨X, hX⟩ : ∃ X : ByteArray, (⟨nm.toArray⟩ : ByteArray) = X := ⟨_, rfl⟩
  have hb : bstr nm = .string X := by rw [← hX]; rfl
  have hXs : X.size ≤ 12 := by rw [← hX, size_list]; exact hnm
  have HX := Lib.hid hX
  rw [hb] at d2 hops
  have HOP := Lib.hid hops
  obtain ⟨hW, hWs, hd⟩ := cell_new w (.int .i64 10) (.int .i64 a) (.string X) 93
  have HW := Lib.hid hW; have HWS := Lib.hid hWs; have HD := Lib.hid hd
  have hlt : decide ((7 : Int) < least) = false := decide_eq_false (by omega)
  have hlt' : ¬ ((7 : Int) < least) := by omega
  have HT' := Lib.hid HT
  obtain ⟨Y, hY⟩ : ∃ Y : ByteArray, (⟨x.toArray⟩ : ByteArray) = Y := ⟨_, rfl⟩
  have hYb : bstr x = .string Y := by rw [← hY]; rfl
  have HYB := Lib.hid hYb
  have hYs : Y.size ≤ 1000 := by rw [← hY, size_list]; exact hx
  have HY := Lib.hid hY
  have s1 : ∀ W : World, (Op.stringOp .add ⟨#[105, 109, 40]⟩ Y).run Tryz.prog W = .ok (.string (⟨#[105, 109, 40]⟩ ++ Y)) W := fun W => run_string_add_sum (P := Tryz.prog) (w := W) _ _ (by show 3 + Y.size ≤ _; omega)
  have s2 : ∀ W : World, (Op.stringOp .add (⟨#[105, 109, 40]⟩ ++ Y) ⟨#[41]⟩).run Tryz.prog W = .ok (.string ((⟨#[105, 109, 40]⟩ ++ Y) ++ ⟨#[41]⟩)) W := fun W => run_string_add_sum (P := Tryz.prog) (w := W) _ _ (by rw [ByteArray.size_append]; show 3 + Y.size + 1 ≤ _; omega)
  clear HT hY hYb hx
  clear hb hX hops hf hW hWs hd hnm
  go_enter Tryz.func45, Tryz.ntmps45
  go_wp2_with fail
  refine (HSG.out _).mono ?_
  rintro x w2 ⟨rfl, hb2⟩
  have HB2 := Lib.hid (HW.out.trans (hb2.mono (by rw [HWS.out]; omega)))
  have HD2 := Lib.hid ((hb2.block _ (by rw [HWS.out]; omega)).trans HD.out)
  clear hb2
  obtain ⟨k0, k1, k2⟩ := cells3_at HD2.out
  go_wp2_with fail
  refine (HOP.out _).mono ?_
  rintro x w3 ⟨rfl, hb3⟩
  have HB3 := Lib.hid (HB2.out.trans (hb3.mono HB2.out.size))
  have HD3 := Lib.hid ((hb3.block _ (lt_of_block HD2.out)).trans HD2.out)
  clear hb3 k0 k1 k2
  obtain ⟨k0, k1, k2⟩ := cells3_at HD3.out
  simp only [show operN 10 = 1 from rfl]
  go_wp2_with fail
  refine (HT'.out _ HB3.out).mono ?_
  rintro y w4 ⟨rfl, hb4⟩
  rw [HYB.out]
  have HB4 := Lib.hid (HB3.out.trans (hb4.mono HB3.out.size))
  clear hb4
  go_wp2
  go_ret
  exact ToldPost.of (by rw [← HY.out]; exact (congrArg (· ++ (⟨#[41]⟩ : ByteArray)) (bytes_join [105, 109, 40] x)).trans (bytes_join _ [41])) HB4.out
end Go.Proofs.YtjjoffadieoaaaaGreatDoor
