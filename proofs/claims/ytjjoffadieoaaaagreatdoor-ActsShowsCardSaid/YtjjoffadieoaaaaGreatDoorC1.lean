/- Own texts, joined: Sp, N4, N5, Di, F1, F6, F7, FE, FG, FI. -/
import Derived.Test.YtjjoffadieoaaaaGreatDoorB1
import Derived.Test.YtjjoffadieoaaaaGreatDoorB2
import Derived.Test.YtjjoffadieoaaaaGreatDoorB3
import Derived.Test.YtjjoffadieoaaaaGreatDoorB4
import Derived.Test.YtjjoffadieoaaaaGreatDoorB5
import Derived.Test.YtjjoffadieoaaaaGreatDoorB6
import Derived.Test.YtjjoffadieoaaaaGreatDoorB7
import Derived.Test.YtjjoffadieoaaaaGreatDoorB8
import Derived.Test.YtjjoffadieoaaaaGreatDoorB9
import Derived.Test.YtjjoffadieoaaaaGreatDoorB10
import Derived.Test.YtjjoffadieoaaaaGreatDoorB11
import Derived.Test.YtjjoffadieoaaaaGreatDoorB12
import Derived.Test.YtjjoffadieoaaaaGreatDoorB13
import Derived.Test.YtjjoffadieoaaaaGreatDoorB14
import Derived.Test.YtjjoffadieoaaaaGreatDoorB15
import Derived.Test.YtjjoffadieoaaaaGreatDoorB16
import Derived.Test.YtjjoffadieoaaaaGreatDoorB17
import Derived.Test.YtjjoffadieoaaaaGreatDoorB18
import Derived.Test.YtjjoffadieoaaaaGreatDoorB19
import Derived.Test.YtjjoffadieoaaaaGreatDoorB20
import Derived.Test.YtjjoffadieoaaaaGreatDoorB21
import Derived.Test.YtjjoffadieoaaaaGreatDoorB22
import Derived.Test.YtjjoffadieoaaaaGreatDoorB23
import Derived.Test.YtjjoffadieoaaaaGreatDoorB24
import Derived.Test.YtjjoffadieoaaaaGreatDoorB25
import Derived.Test.YtjjoffadieoaaaaGreatDoorB26
import Derived.Orders
import Derived.Below
import Derived.Laws.AppendOwn
import Derived.Lib.AtoiTie
import Derived.Lib.ItoaLen
import Derived.Lib.ParseIntBTie
import Derived.Lib.IndexAny
import Derived.Lib.Strings
import Derived.Scope
import Derived.ScopeJumps
import Derived.WalkMore
import Derived.Test.YtjjoffadieoaaaaGreatDoorProg
import Derived.WalkKit
import Derived.WalkSpells
import Derived.WalkLawsBesides
import Derived.Lib.Hide
import Derived.Laws.OwnMore
import Derived.OneCell
import Derived.Deep.Onto
import Derived.Deep.QuietTactic
import Derived.BigQuiet
import Derived.Deep.Draws
import Derived.RegionTactic
import Derived.Deep.RegionLaw
import Derived.Laws.Rows
import Derived.Deep.RegionHeld3
import Derived.Deep.AppendLies
import Derived.StillTailTactics
import Derived.Shelf.Strings.Builder1
import Derived.Shelf.Strings.Builder2
import Derived.Shelf.Strconv.Itoa0
import Derived.Shelf.Strconv.Itoa1
import Derived.Shelf.LaysM
import Derived.Shelf.Strconv.Itoa2
import Derived.Shelf.Strconv.Itoa3
import Derived.Shelf.Strconv.Itoa4
import Derived.Shelf.Strconv.Clone
import Derived.Shelf.Strings.Search1
import Derived.Shelf.Strings.Search2
import Derived.Shelf.Strings.Search3
import Derived.Shelf.Strings.Cut
import Derived.Shelf.Strings.Count
import Derived.Shelf.Strings.Shaped
import Derived.Shelf.Strings.Prefix
import Derived.Shelf.Strings.Split
import Derived.Shelf.Unicode.DecodeSlow
import Derived.IntWalk
import Derived.Lib.AppendIntMem
import Derived.Laws.IdiomStrings
import Derived.Laws.Concat
import Derived.Laws.AppendOwnNone
import Derived.ProofKit
import Derived.Deep.Slices
import Derived.Lib.SmallJoins
import Derived.SizedLaws
import Derived.Lib.LaidTab
import Derived.Lib.LaidU8
import Derived.LaidMore
import Derived.KernelRfl
import Derived.Laws.ComplexArith
import Derived.Laws.Tables
import Derived.Laws.CopyOwn
import Derived.Test.YtjjoffadieoaaaaGreatDoorRows
import Derived.Lib.SplitLaws
import Derived.Lib.Split
import Derived.Lib.IndexBytes
import Derived.Lib.Join
import Derived.Lib.BufferOwn
import Derived.Shelf.Strings.OnBuilder
import Derived.Shelf.Small.Wraps
import Derived.Shelf.Utf8.RuneCount
import Derived.Shelf.Strings.SplitShaped
import Derived.Shelf.Unicode.Decode
import Derived.Shelf.Strings.RuneCount
import Derived.Shelf.Strings.Explode
import Derived.Shelf.Unicode.DecodeAny
import Derived.Laws.StructEq
namespace Go.Proofs.YtjjoffadieoaaaaGreatDoor
open Go.Lib

theorem Word.bad {l : List UInt8} {xs : List (List UInt8)} {b k : Nat} (h : Word l xs b k) (hk : k + 1 < l.length) (hc : l[k + 1] ≠ 32) (hs : isSB l[k + 1] = false) : lineB l = false := by
  unfold lineB
  rw [h.eq, List.drop_eq_getElem_cons hk, pieces_cons hc, glue_glue]
  cases hp : pieces (l.drop (k + 1 + 1)) with
  | nil => exact absurd hp (pieces_ne _)
  | cons q r =>
    refine all_append_bad ?_
    rw [List.append_assoc]
    exact goodW_bad hs
end Go.Proofs.YtjjoffadieoaaaaGreatDoor
namespace Go.Proofs.YtjjoffadieoaaaaGreatDoor
open Go.RowKit

theorem Rig.bad {l : List UInt8} {b : Bool} {j : Nat} {n : Int} (h : Rig l b j n) (hj : j < l.length) (hd : isD l[j] = false) : numP l = (0, 1) := by
  obtain ⟨v, hv, hnv⟩ := h.ex
  exact numP_form (okN_bad hv.le hj hd)

end Go.Proofs.YtjjoffadieoaaaaGreatDoor
namespace Go.Proofs.YtjjoffadieoaaaaGreatDoor
open Go.RowKit

theorem refName_no (s : ByteArray) (w : World) (h : s.size < 1 ∨ 12 < s.size ∨ takenB s.data.toList = true) :
    Calls Tryz.prog 52 #[.string s] w fun e w' => e = .returned (.bool false) ∧ w = w' := by
  by_cases h1 : s.size < 1
  · have h1' : (s.size : Int) < 1 := by omega
    clear h h1
    go_enter Tryz.func52, Tryz.ntmps52
    go_wp2
    go_ret
    exact ⟨rfl, rfl⟩
  · by_cases h2 : 12 < s.size
    · have h2' : (12 : Int) < s.size := by omega
      clear h h2
      go_enter Tryz.func52, Tryz.ntmps52
      go_wp2
      go_ret
      exact ⟨rfl, rfl⟩
    · have h3 := h.resolve_left h1 |>.resolve_left h2
      clear h
      unfold takenB at h3
      simp only [Bool.or_eq_true, beq_iff_eq] at h3
      rcases h3 with (((h3 | h3) | h3) | h3) | h3
      all_goals
        have e : s = ⟨s.data.toList.toArray⟩ := by apply ByteArray.ext; simp
        rw [h3] at e
        clear h3 h1 h2
        subst e
        go_enter Tryz.func52, Tryz.ntmps52
        go_wp2
        go_ret
        exact ⟨rfl, rfl⟩

theorem Pn.bad {l : List UInt8} {j : Nat} (hj : j < l.length) (hc : okB l[j] = false) (h0 : 0 < j) : nameB l = false := by
  obtain ⟨k, rfl⟩ : ∃ k, j = k + 1 := ⟨j - 1, by omega⟩
  exact nameB_bad hj hc
theorem Pn.bad0 {l : List UInt8} (hj : 0 < l.length) (hc : isLB l[0] = false) : nameB l = false := nameB_first (fun _ => hc)

set_option maxHeartbeats 1600000 in
theorem refName_go (s : ByteArray) (w : World) (h1 : ¬ s.size < 1) (h2 : ¬ 12 < s.size) (ht : takenB s.data.toList = false) :
    Calls Tryz.prog 52 #[.string s] w fun e w' => e = .returned (.bool (nameB s.data.toList)) ∧ w = w' := by
  have hl : s.data.toList.length = s.size := (Lib.size_eq s).symm
  have h1d : decide ((s.size : Int) < 1) = false := decide_eq_false (by omega)
  have h2d : decide ((12 : Int) < s.size) = false := decide_eq_false (by omega)
  have HT := Lib.hid ht
  unfold takenB at ht
  simp only [Bool.or_eq_false_iff] at ht
  obtain ⟨⟨⟨⟨h3, h4⟩, h5⟩, h6⟩, h7⟩ := ht
  rw [← Lib.toList_data] at h3 h4 h5 h6 h7
  go_enter Tryz.func52, Tryz.ntmps52
  go_wp2
  go_loop [2, 3, 4, 5] (fun x2 i _ _ => x2 = .bool false ∧ ∃ j : Nat, Pn s.data.toList j ∧ j ≤ s.size ∧ i = .int .i64 j) (fun _ i _ _ => s.size - (intOf i).toNat)
  case atStart => exact ⟨rfl, 0, Or.inl rfl, by omega, rfl⟩
  case round =>
    obtain ⟨rfl, j, hp, hj, rfl⟩ := hrel
    by_cases hlt : j < s.size
    · have hge : s.data.toList[j]'(by omega) = s[j] := at_list s j hlt _
      cases hc : isLB s[j]
      · have hn : (s[j].toNat : Int) < 97 ∨ (97 ≤ (s[j].toNat : Int) ∧ decide ((s[j].toNat : Int) ≤ 122) = false) := by
          have : ¬ (97 ≤ s[j].toNat ∧ s[j].toNat ≤ 122) := of_decide_eq_false hc
          rw [decide_eq_false_iff_not]
          omega
        by_cases h0 : j = 0
        · have hf : nameB s.data.toList = false := by
            subst h0
            exact Pn.bad0 (by omega) (by rw [hge]; exact hc)
          have h0' : ((j : Int) == 0) = true := beq_iff_eq.2 (by omega)
          clear h0
          have HF := Lib.hid hf; clear hf hge hc
          rcases hn with hn | ⟨hn, hn'⟩
          all_goals
            go_wp2
            all_goals first
              | (go_ret; exact ⟨ret_bool HF.out.symm, rfl⟩)
              | (exfalso; omega)
        · have h0' : ((j : Int) == 0) = false := beq_eq_false_iff_ne.2 (by omega)
          cases hok : okB s[j]
          · have hf : nameB s.data.toList = false := Pn.bad (j := j) (by omega) (by rw [hge]; exact hok) (by omega)
            have hd : (s[j].toNat : Int) < 48 ∨ (48 ≤ (s[j].toNat : Int) ∧ decide ((s[j].toNat : Int) ≤ 57) = false) := by
              rw [decide_eq_false_iff_not]
              unfold okB at hok
              simp only [Bool.or_eq_false_iff] at hok
              have : ¬ (48 ≤ s[j].toNat ∧ s[j].toNat ≤ 57) := of_decide_eq_false hok.1.2
              omega
            have h95 : ((s[j].toNat : Int) == 95) = false := by
              unfold okB at hok
              simp only [Bool.or_eq_false_iff] at hok
              exact byte_not (k := 95) (by decide) (beq_eq_false_iff_ne.1 hok.2)
            have HF := Lib.hid hf; clear hf hge hc hok
            rcases hn with hn | ⟨hn, hn'⟩
            all_goals
              rcases hd with hd | ⟨hd, hd'⟩
              all_goals
                go_wp2
                all_goals first
                  | (go_ret; exact ⟨ret_bool HF.out.symm, rfl⟩)
                  | (exfalso; omega)
          · have hs : Pn s.data.toList (j + 1) := hp.step (by omega) (by omega) (by rw [hge]; exact hok)
            have hd : (48 ≤ (s[j].toNat : Int) ∧ (s[j].toNat : Int) ≤ 57) ∨ ((s[j].toNat : Int) == 95) = true := by
              unfold okB at hok
              rw [hc, Bool.false_or, Bool.or_eq_true] at hok
              rcases hok with h | h
              · have := isD_iff.1 h
                exact Or.inl (by omega)
              · exact Or.inr (byte_is (k := 95) (by decide) (beq_iff_eq.1 h))
            clear hge hc hok hp
            rcases hn with hn | ⟨hn, hn'⟩
            all_goals
              rcases hd with ⟨hd, hd'⟩ | hd
              all_goals
                go_wp2
                all_goals
                  go_round
                  case rel => exact ⟨rfl, j + 1, hs, by omega, rfl⟩
                  case measure => simp [intOf]; omega
      · have hs : Pn s.data.toList (j + 1) := by
          by_cases h0 : j = 0
          · subst h0; exact Pn.first (by omega) (by rw [hge]; exact hc)
          · exact hp.step (by omega) (by omega) (by rw [hge]; exact okB_letter hc)
        have hb := isLB_iff.1 hc
        have hb1 : (97 : Int) ≤ s[j].toNat := by omega
        have hb2 : (s[j].toNat : Int) ≤ 122 := by omega
        clear hge hc hp hb
        go_wp2
        all_goals
          go_round
          case rel => exact ⟨rfl, j + 1, hs, by omega, rfl⟩
          case measure => simp [intOf]; omega
    · have hf : nameB s.data.toList = true := hp.stop (by omega) (by omega) (by omega) HT.out
      have HF := Lib.hid hf; clear hf
      go_wp2
      go_ret
      exact ⟨ret_bool HF.out.symm, rfl⟩

theorem takenB_nameB {l : List UInt8} (h : takenB l = true) : nameB l = false := by
  cases l with
  | nil => rfl
  | cons c r => simp [nameB, h]

theorem refName_any (s : ByteArray) (w : World) :
    Calls Tryz.prog 52 #[.string s] w fun e w' => e = .returned (.bool (nameB s.data.toList)) ∧ w = w' := by
  have hl : s.data.toList.length = s.size := (Lib.size_eq s).symm
  by_cases h1 : s.size < 1
  · have e : nameB s.data.toList = false := by rw [List.eq_nil_of_length_eq_zero (by omega : s.data.toList.length = 0)]; rfl
    rw [e]; exact refName_no s w (Or.inl h1)
  · by_cases h2 : 12 < s.size
    · rw [nameB_long (by omega)]; exact refName_no s w (Or.inr (Or.inl h2))
    · cases h3 : takenB s.data.toList
      · exact refName_go s w h1 h2 h3
      · rw [takenB_nameB h3]; exact refName_no s w (Or.inr (Or.inr h3))

end Go.Proofs.YtjjoffadieoaaaaGreatDoor
namespace Go.Proofs.YtjjoffadieoaaaaGreatDoor
open Go.RowKit

def digB (d : Nat) : UInt8 := UInt8.ofNat (48 + d)
theorem digB_nat {d : Nat} (h : d < 10) : (digB d).toNat = 48 + d := digit_ofNat h
theorem ret_str {a b : ByteArray} (h : a = b) : Ending.returned (.string a) = .returned (.string b) := by rw [h]

theorem dec_len (u : Nat) : (Lib.decDigits u).length ≤ u / 4 + 1 := by
  induction u using Nat.strongRecOn with
  | _ u ih =>
    by_cases h : u < 10
    · rw [dec_small h]; simp
    · rw [dec_big h]
      have := ih (u / 10) (by omega)
      simp; omega

/-- one digit's text -/
theorem byte_conv (wr : World) (d : Nat) (hd : d < 10) : (convert 79 9 (.slice (some ⟨wr.heap.size, 0, none⟩) 1 1)).run Tryz.prog (wr.alloc (.cells #[.int .u8 (48 + (d : Int))] 5)) = .ok (.string ⟨[digB d].toArray⟩) (wr.alloc (.cells #[.int .u8 (48 + (d : Int))] 5)) := by
  refine run_convert_bytes_back _ _ _ 5 _ 1 [digB d] Tryz.underlying79 Tryz.underlying5 Tryz.underlying9 ?_
  intro j hj
  obtain rfl : j = 0 := by simp at hj; omega
  have := digB_nat hd
  have e : (48 + (d : Int)) = ((48 + d : Nat) : Int) := by omega
  rw [e]
  simp [Addr.add, this]

set_option maxRecDepth 100000 in
theorem unsigned_any (u : Nat) (w : World) (hu : u ≤ 18446744073709551615) :
    Calls Tryz.prog 130 #[.int .u64 u] w fun e w' => e = .returned (.string ⟨(Lib.decDigits u).toArray⟩) ∧ Below w.heap.size w w' := by
  have hlen := dec_len u
  go_enter Tryz.func130, Tryz.ntmps130
  go_wp2
  go_loopw [0, 3] (fun x t wr => ∃ (v : Nat) (l : List UInt8), v ≤ 18446744073709551615 ∧ Lib.decDigits v ++ l = Lib.decDigits u ∧ x = .int .u64 v ∧ t = .string ⟨l.toArray⟩ ∧ Below w.heap.size w wr) (fun x _ _ => (intOf x).toNat)
  case atStart => exact ⟨u, [], hu, by simp, rfl, rfl, Below.refl _ _⟩
  case round =>
    obtain ⟨v, l, hv, hd, rfl, rfl, hb⟩ := hrel
    have hll : l.length ≤ u / 4 + 1 := by
      have := congrArg List.length hd
      rw [List.length_append] at this; omega
    have hsum : ∀ d, ((⟨[digB d].toArray⟩ : ByteArray).size : Int) + ((⟨l.toArray⟩ : ByteArray).size : Int) ≤ 9223372036854775807 := by
      intro d
      show ((1 : Nat) : Int) + (l.toArray.size : Int) ≤ _
      rw [List.size_toArray]; omega
    have HD := Lib.hid hd; have HB := Lib.hid hb; clear hd hb
    by_cases h9 : v ≤ 9
    · have hcv := byte_conv wr v (by omega)
      have hs := hsum v
      clear hsum
      go_wp2
      go_ret
      refine ⟨ret_str ?_, HB.out.alloc HB.out.size _⟩
      have hd := HD.out
      rw [dec_small (by omega)] at hd
      rw [← hd]
      exact bytes_join [digB v] l
    · have hcv := byte_conv wr (v % 10) (by omega)
      have hs := hsum (v % 10)
      clear hsum
      have e : ((v % 10 : Nat) : Int) = (v : Int) % 10 := by omega
      rw [e] at hcv
      clear e
      go_wp2
      go_roundw
      case rel =>
        refine ⟨v / 10, digB (v % 10) :: l, by omega, ?_, by go_num, by rw [show digB (v % 10) :: l = [digB (v % 10)] ++ l from rfl, ← bytes_join], HB.out.alloc HB.out.size _⟩
        rw [← HD.out, dec_big (u := v) (by omega), List.append_assoc]; rfl
      case measure => simp [intOf]; omega

/-- the document's Digits of layer 1 -/
theorem ref1Digits_any (n : Int) (w : World) (h0 : -9223372036854775808 ≤ n) (h1 : n ≤ 9223372036854775807) :
    Calls Tryz.prog 108 #[.int .i64 n] w fun e w' => e = .returned (.string ⟨(Lib.itoa n).toArray⟩) ∧ Below w.heap.size w w' := by
  by_cases hn : n < 0
  · obtain ⟨m, hm⟩ : ∃ m : Nat, n = -(m : Int) - 1 := ⟨(-n - 1).toNat, by omega⟩
    have hi : Lib.itoa n = 45 :: Lib.decDigits (m + 1) := by
      unfold Lib.itoa
      rw [if_pos hn]
      congr 2; omega
    rw [hi]
    have e : n + 1 = -(m : Int) := by omega
    go_enter Tryz.func108, Tryz.ntmps108
    go_wp2_with fail
    refine (unsigned_any (m + 1) _ (by omega)).mono ?_
    rintro e w' ⟨rfl, hb⟩
    have HB := Lib.hid hb; clear hb
    have hs : ((⟨#[45]⟩ : ByteArray).size : Int) + ((⟨(Lib.decDigits (m + 1)).toArray⟩ : ByteArray).size : Int) ≤ 9223372036854775807 := by
      have := dec_len (m + 1)
      show ((1 : Nat) : Int) + (((Lib.decDigits (m + 1)).toArray.size : Nat) : Int) ≤ _
      rw [List.size_toArray]; omega
    go_wp2
    go_ret
    exact ⟨ret_str (bytes_join [45] _), HB.out⟩
  · obtain ⟨m, rfl⟩ : ∃ m : Nat, n = (m : Int) := ⟨n.toNat, by omega⟩
    have hi : Lib.itoa (m : Int) = Lib.decDigits m := by
      unfold Lib.itoa
      rw [if_neg hn]; rfl
    rw [hi]
    go_enter Tryz.func108, Tryz.ntmps108
    go_wp2_with fail
    refine (unsigned_any m _ (by omega)).mono ?_
    rintro e w' ⟨rfl, hb⟩
    have HB := Lib.hid hb; clear hb
    go_wp2
    go_ret
    exact ⟨rfl, HB.out⟩

theorem ref2Digits_any (n : Int) (w : World) (h0 : -9223372036854775808 ≤ n) (h1 : n ≤ 9223372036854775807) :
    Calls Tryz.prog 77 #[.int .i64 n] w fun e w' => e = .returned (.string ⟨(Lib.itoa n).toArray⟩) ∧ Below w.heap.size w w' := by
  go_enter Tryz.func77, Tryz.ntmps77
  go_wp2_with fail
  refine (ref1Digits_any n _ h0 h1).mono ?_
  rintro e w' ⟨rfl, hb⟩
  have HB := Lib.hid hb; clear hb
  go_wp2
  go_ret
  exact ⟨rfl, HB.out⟩
end Go.Proofs.YtjjoffadieoaaaaGreatDoor
namespace Go.Proofs.YtjjoffadieoaaaaGreatDoor
open Go.RowKit

theorem op_cases5 (op : Int) : op = 1 ∨ op = 2 ∨ op = 5 ∨ op = 6 ∨ (op ≠ 1 ∧ op ≠ 2 ∧ op ≠ 5 ∧ op ≠ 6) := by omega
/-- the document's count of operands; -1: none -/
def opsR (c : CM) : Int := if formedB c = true then operN c.op else -1
theorem opsR_no {c : CM} (h : formedB c = false) : opsR c = -1 := by unfold opsR; rw [h]; rfl
theorem opsR_yes {c : CM} (h : formedB c = true) : opsR c = operN c.op := by unfold opsR; rw [if_pos h]
set_option maxRecDepth 100000 in
set_option maxHeartbeats 4000000 in
theorem refOperands_any (c : CM) (w : World) (hl : c.nm.length ≤ 9223372036854775807) :
    Calls Tryz.prog 75 #[.agg #[.int .i64 c.op, .int .i64 c.a, bstr c.nm]] w fun e w' => e = .returned (.int .i64 (opsR c)) ∧ Below w.heap.size w w' := by
  obtain ⟨op, a, nm⟩ := c
  obtain ⟨X, hX⟩ : ∃ X : ByteArray, X = ⟨nm.toArray⟩ := ⟨_, rfl⟩
  have hXl : X.data.toList = nm := by rw [hX]
  have hb : bstr nm = .string X := by rw [hX]; rfl
  simp only at hl ⊢
  rw [hb]
  clear hb hX
  subst hXl
  rw [sz0] at hl
  have HB : Hid (∀ W : World, ∀ o : Obj, Below W.heap.size W (W.alloc o)) := fun W o => (Below.refl _ _).alloc (Nat.le_refl _) o
  have HN := Lib.hid (refName_any X)
  by_cases hx : X.size = 0
  · have hnil : X.data.toList = [] := List.eq_nil_of_length_eq_zero (by rw [sz0]; exact hx)
    have hx0 : decide ((0 : Int) < X.size) = false := decide_eq_false (by omega)
    have hx1 : decide (0 < X.size) = false := decide_eq_false (by omega)
    have hx2 : ¬ 0 < X.size := by omega
    have HNIL := Lib.hid hnil
    clear hx hl hnil
    rcases op_cases5 op with rfl | rfl | rfl | rfl | ⟨h1, h2, h5, h6⟩
    · by_cases ha : a < 0
      · have HR := Lib.hid (opsR_no (c := ⟨1, a, X.data.toList⟩) (by simp [formedB]; omega))
        go_enter Tryz.func75, Tryz.ntmps75
        go_wp2
        go_ret
        exact ⟨ret_int HR.out.symm, HB.out _ _⟩
      · have ha0 := decide_eq_false ha
        by_cases hb : 1099511627776 < a
        · have HR := Lib.hid (opsR_no (c := ⟨1, a, X.data.toList⟩) (by simp [formedB]; omega))
          go_enter Tryz.func75, Tryz.ntmps75
          go_wp2
          go_ret
          exact ⟨ret_int HR.out.symm, HB.out _ _⟩
        · have hb0 := decide_eq_false hb
          have HR := Lib.hid (opsR_yes (c := ⟨1, a, X.data.toList⟩) (by simp [formedB, HNIL.out]; omega))
          clear ha hb
          go_enter Tryz.func75, Tryz.ntmps75
          go_wp2
          go_ret
          exact ⟨ret_int HR.out.symm, HB.out _ _⟩
    · by_cases ha : a < 0
      · have HR := Lib.hid (opsR_no (c := ⟨2, a, X.data.toList⟩) (by simp [formedB]; omega))
        go_enter Tryz.func75, Tryz.ntmps75
        go_wp2
        go_ret
        exact ⟨ret_int HR.out.symm, HB.out _ _⟩
      · have ha0 := decide_eq_false ha
        by_cases hb : 1048576 < a
        · have HR := Lib.hid (opsR_no (c := ⟨2, a, X.data.toList⟩) (by simp [formedB]; omega))
          go_enter Tryz.func75, Tryz.ntmps75
          go_wp2
          go_ret
          exact ⟨ret_int HR.out.symm, HB.out _ _⟩
        · have hb0 := decide_eq_false hb
          have HR := Lib.hid (opsR_yes (c := ⟨2, a, X.data.toList⟩) (by simp [formedB, HNIL.out]; omega))
          clear ha hb
          go_enter Tryz.func75, Tryz.ntmps75
          go_wp2
          go_ret
          exact ⟨ret_int HR.out.symm, HB.out _ _⟩
    · have HR := Lib.hid (opsR_no (c := ⟨5, a, X.data.toList⟩) (by simp [formedB, HNIL.out, nameB]))
      go_enter Tryz.func75, Tryz.ntmps75
      go_wp2
      go_ret
      exact ⟨ret_int HR.out.symm, HB.out _ _⟩
    · have HR := Lib.hid (opsR_no (c := ⟨6, a, X.data.toList⟩) (by simp [formedB, HNIL.out, nameB]))
      go_enter Tryz.func75, Tryz.ntmps75
      go_wp2
      go_ret
      exact ⟨ret_int HR.out.symm, HB.out _ _⟩
    · have n1 := int_ne h1
      have n2 := int_ne h2
      have n5 := int_ne h5
      have n6 := int_ne h6
      have hF : formedB ⟨op, a, X.data.toList⟩ = (decide (1 ≤ op) && (decide (op ≤ 23) && decide (a = 0))) := by simp [formedB, h1, h2, h5, h6, HNIL.out]
      have HF := Lib.hid hF
      clear hF
      by_cases ha : a = 0
      · subst ha
        by_cases hlo : op < 1
        · have HR := Lib.hid (opsR_no (c := ⟨op, 0, X.data.toList⟩) (by rw [HF.out, decide_eq_false (by omega)]; rfl))
          go_enter Tryz.func75, Tryz.ntmps75
          go_wp2
          go_ret
          exact ⟨ret_int HR.out.symm, HB.out _ _⟩
        · have hlo0 := decide_eq_false hlo
          by_cases hhi : 23 < op
          · have HR := Lib.hid (opsR_no (c := ⟨op, 0, X.data.toList⟩) (by rw [HF.out, decide_eq_false (show ¬ op ≤ 23 by omega)]; simp))
            go_enter Tryz.func75, Tryz.ntmps75
            go_wp2
            go_ret
            exact ⟨ret_int HR.out.symm, HB.out _ _⟩
          · have hhi0 := decide_eq_false hhi
            have HR := Lib.hid (opsR_yes (c := ⟨op, 0, X.data.toList⟩) (by rw [HF.out, decide_eq_true (show 1 ≤ op by omega), decide_eq_true (show op ≤ 23 by omega)]; rfl))
            by_cases h6' : op ≤ 6
            · have HR2 : Hid (opsR ⟨op, 0, X.data.toList⟩ = 0) := by rw [HR.out]; unfold operN; rw [if_pos (by simp only; omega)]; exact rfl
              clear hlo hhi h1 h2 h5 h6
              go_enter Tryz.func75, Tryz.ntmps75
              go_wp2
              go_ret
              exact ⟨ret_int HR2.out.symm, HB.out _ _⟩
            · have h6d := decide_eq_false h6'
              by_cases h10 : op ≤ 10
              · have HR2 : Hid (opsR ⟨op, 0, X.data.toList⟩ = 1) := by rw [HR.out]; unfold operN; rw [if_neg (by simp only; omega), if_pos (by simp only; omega)]; exact rfl
                clear hlo hhi h6' h1 h2 h5 h6
                go_enter Tryz.func75, Tryz.ntmps75
                go_wp2
                go_ret
                exact ⟨ret_int HR2.out.symm, HB.out _ _⟩
              · have h10d := decide_eq_false h10
                have HR2 : Hid (opsR ⟨op, 0, X.data.toList⟩ = 2) := by rw [HR.out]; unfold operN; rw [if_neg (by simp only; omega), if_neg (by simp only; omega)]; exact rfl
                clear hlo hhi h6' h10 h1 h2 h5 h6
                go_enter Tryz.func75, Tryz.ntmps75
                go_wp2
                go_ret
                exact ⟨ret_int HR2.out.symm, HB.out _ _⟩
      · have ha0 : (a != 0) = true := bne_iff_ne.2 ha
        have HR := Lib.hid (opsR_no (c := ⟨op, a, X.data.toList⟩) (by rw [HF.out, decide_eq_false ha]; simp))
        clear ha
        go_enter Tryz.func75, Tryz.ntmps75
        go_wp2
        go_ret
        exact ⟨ret_int HR.out.symm, HB.out _ _⟩
  · have hx0 : (0 : Int) < X.size := by omega
    have hx1 : 0 < X.size := by omega
    have hne : X.data.toList ≠ [] := fun e => hx (by rw [← sz0, e]; rfl)
    have HNE := Lib.hid hne
    clear hx
    rcases op_cases5 op with rfl | rfl | rfl | rfl | ⟨h1, h2, h5, h6⟩
    · have HR := Lib.hid (opsR_no (c := ⟨1, a, X.data.toList⟩) (by simp [formedB, hne]))
      clear hne
      go_enter Tryz.func75, Tryz.ntmps75
      go_wp2
      go_ret
      exact ⟨ret_int HR.out.symm, HB.out _ _⟩
    · have HR := Lib.hid (opsR_no (c := ⟨2, a, X.data.toList⟩) (by simp [formedB, hne]))
      clear hne
      go_enter Tryz.func75, Tryz.ntmps75
      go_wp2
      go_ret
      exact ⟨ret_int HR.out.symm, HB.out _ _⟩
    · clear hne
      cases hn : nameB X.data.toList
      · have HNN := Lib.hid hn
        have HR := Lib.hid (opsR_no (c := ⟨5, a, X.data.toList⟩) (by simp [formedB, hn]))
        clear hn
        go_enter Tryz.func75, Tryz.ntmps75
        go_wp2_with fail
        refine (HN.out _).mono ?_
        rintro e w1 ⟨rfl, rfl⟩
        rw [HNN.out]
        go_wp2
        go_ret
        exact ⟨ret_int HR.out.symm, HB.out _ _⟩
      · have HNN := Lib.hid hn
        by_cases ha : a = 0
        · subst ha
          have HR := Lib.hid (opsR_yes (c := ⟨5, 0, X.data.toList⟩) (by simp [formedB, hn]))
          clear hn
          go_enter Tryz.func75, Tryz.ntmps75
          go_wp2_with fail
          refine (HN.out _).mono ?_
          rintro e w1 ⟨rfl, rfl⟩
          rw [HNN.out]
          go_wp2
          go_ret
          exact ⟨ret_int HR.out.symm, HB.out _ _⟩
        · have ha0 : (a != 0) = true := bne_iff_ne.2 ha
          have HR := Lib.hid (opsR_no (c := ⟨5, a, X.data.toList⟩) (by simp [formedB, ha]))
          clear hn ha
          go_enter Tryz.func75, Tryz.ntmps75
          go_wp2_with fail
          refine (HN.out _).mono ?_
          rintro e w1 ⟨rfl, rfl⟩
          rw [HNN.out]
          go_wp2
          go_ret
          exact ⟨ret_int HR.out.symm, HB.out _ _⟩
    · clear hne
      cases hn : nameB X.data.toList
      · have HNN := Lib.hid hn
        have HR := Lib.hid (opsR_no (c := ⟨6, a, X.data.toList⟩) (by simp [formedB, hn]))
        clear hn
        go_enter Tryz.func75, Tryz.ntmps75
        go_wp2_with fail
        refine (HN.out _).mono ?_
        rintro e w1 ⟨rfl, rfl⟩
        rw [HNN.out]
        go_wp2
        go_ret
        exact ⟨ret_int HR.out.symm, HB.out _ _⟩
      · have HNN := Lib.hid hn
        by_cases ha : a = 0
        · subst ha
          have HR := Lib.hid (opsR_yes (c := ⟨6, 0, X.data.toList⟩) (by simp [formedB, hn]))
          clear hn
          go_enter Tryz.func75, Tryz.ntmps75
          go_wp2_with fail
          refine (HN.out _).mono ?_
          rintro e w1 ⟨rfl, rfl⟩
          rw [HNN.out]
          go_wp2
          go_ret
          exact ⟨ret_int HR.out.symm, HB.out _ _⟩
        · have ha0 : (a != 0) = true := bne_iff_ne.2 ha
          have HR := Lib.hid (opsR_no (c := ⟨6, a, X.data.toList⟩) (by simp [formedB, ha]))
          clear hn ha
          go_enter Tryz.func75, Tryz.ntmps75
          go_wp2_with fail
          refine (HN.out _).mono ?_
          rintro e w1 ⟨rfl, rfl⟩
          rw [HNN.out]
          go_wp2
          go_ret
          exact ⟨ret_int HR.out.symm, HB.out _ _⟩
    · have n1 := int_ne h1
      have n2 := int_ne h2
      have n5 := int_ne h5
      have n6 := int_ne h6
      have HR := Lib.hid (opsR_no (c := ⟨op, a, X.data.toList⟩) (by simp [formedB, h1, h2, h5, h6, hne]))
      clear hne h1 h2 h5 h6
      go_enter Tryz.func75, Tryz.ntmps75
      go_wp2
      go_ret
      exact ⟨ret_int HR.out.symm, HB.out _ _⟩
end Go.Proofs.YtjjoffadieoaaaaGreatDoor
namespace Go.Proofs.YtjjoffadieoaaaaGreatDoor

theorem post_pos (t : T) : 1 ≤ (post t).length := by
  cases t <;> simp [post] <;> omega
theorem show_no {cs : List CM} (h : rightB cs = false) : showP cs = ([], 1) := by unfold showP; rw [h]; rfl
end Go.Proofs.YtjjoffadieoaaaaGreatDoor
namespace Go.Proofs.YtjjoffadieoaaaaGreatDoor
open Go.RowKit

set_option maxRecDepth 100000 in
set_option maxHeartbeats 2000000 in
theorem refRight_any (v : Value) (cs : List CM) (w : World) (hR : RdC w v cs) (hl : cs.length ≤ 4611686018427387904) (hN : Names cs) :
    Calls Tryz.prog 44 #[v] w fun e w' => e = .returned (.bool (rightB cs)) ∧ Below w.heap.size w w' := by
  obtain ⟨A, c, rfl, hr⟩ := hR
  have HR := Lib.hid hr; clear hr
  have HNM := Lib.hid hN; clear hN
  obtain ⟨n, hn⟩ : ∃ n, cs.length = n := ⟨_, rfl⟩
  have HN := Lib.hid hn
  rw [hn] at hl ⊢
  clear hn
  have HNO : Hid (runB cs 0 = none → rightB cs = false) := by
    intro h
    unfold rightB; rw [h]; simp
  have HLO : Hid (32 < n → rightB cs = false) := by
    intro h
    unfold rightB; rw [HN.out, decide_eq_false (by omega)]; rfl
  have HYE : Hid (∀ vs, n ≤ 32 → runB cs 0 = some vs → rightB cs = ((vs : Int) == 1)) := by
    intro vs h1 h2
    unfold rightB; rw [HN.out, decide_eq_true h1, h2]
    by_cases h : vs = 1
    · subst h; rfl
    · rw [int_ne (show (vs : Int) ≠ 1 by omega)]; simp [h]
  go_enter Tryz.func44, Tryz.ntmps44
  go_wp2
  go_loopw [2, 3, 4] (fun x2 vv i wr => x2 = .bool false ∧ ∃ k vs : Nat, k ≤ n ∧ k ≤ 32 ∧ vs ≤ k ∧ i = .int .i64 k ∧ vv = .int .i64 vs ∧ Hid (runB (cs.drop k) vs = runB cs 0) ∧ Below w.heap.size w wr) (fun _ _ i _ => n - (intOf i).toNat)
  case atStart => exact ⟨rfl, 0, 0, by omega, by omega, by omega, rfl, rfl, rfl, Below.refl _ _⟩
  case round =>
    obtain ⟨rfl, k, vs, hk, hk32, hvs, rfl, rfl, HB, hb⟩ := hrel
    have HBL := Lib.hid hb
    by_cases hkn : k < n
    · obtain ⟨b, o, rfl, d0, d1, d2⟩ := HR.out k (by rw [HN.out]; exact hkn)
      have hrun := run_at (cs := cs) (k := k) (v := vs) (by rw [HN.out]; exact hkn)
      rw [HB.out] at hrun
      have hnm := HNM.out (cs[k]'(by rw [HN.out]; exact hkn)) (List.getElem_mem _)
      obtain ⟨cc, hcc⟩ : ∃ cc, cs[k]'(by rw [HN.out]; exact hkn) = cc := ⟨_, rfl⟩
      rw [hcc] at d0 d1 d2 hrun hnm
      have e0 := (hb.cell (cell_lt d0)).trans d0
      have e1 := (hb.cell (cell_lt d1)).trans d1
      have e2 := (hb.cell (cell_lt d2)).trans d2
      have hon := operN_le cc.op
      obtain ⟨X, hX⟩ : ∃ X : ByteArray, bstr cc.nm = .string X := ⟨_, rfl⟩
      have hfm := fun W => refOperands_any cc W hnm
      rw [hX] at e2 hfm
      have HFM := Lib.hid hfm
      have HRUN := Lib.hid hrun
      clear d0 d1 d2 hcc hrun hb hX hfm hnm
      cases hf : formedB cc
      · have HFF := Lib.hid (opsR_no hf)
        have HE := Lib.hid (HNO.out (by rw [HRUN.out, hf, if_neg (by simp)]))
        clear hf
        go_wp2_with fail
        refine (HFM.out _).mono ?_
        rintro e w2 ⟨rfl, hb2⟩
        have HB2 := Lib.hid hb2; clear hb2
        rw [HFF.out]
        go_wp2
        go_ret
        exact ⟨ret_bool HE.out.symm, HBL.out.trans (HB2.out.mono HBL.out.size)⟩
      · have HFF := Lib.hid (opsR_yes hf)
        by_cases hov : operN cc.op ≤ vs
        · have hov' : decide ((vs : Int) < (operN cc.op : Int)) = false := decide_eq_false (by omega)
          have hov2 : decide (vs < operN cc.op) = false := decide_eq_false (by omega)
          have hneg : decide ((operN cc.op : Int) < 0) = false := decide_eq_false (by omega)
          by_cases h32 : k < 32
          · have hE : runB (cs.drop (k + 1)) (vs + 1 - operN cc.op) = runB cs 0 := by rw [HRUN.out, hf, if_pos ⟨rfl, hov⟩]
            have HE := Lib.hid hE
            clear hE hf
            have h32' : decide ((32 : Int) ≤ (k : Int)) = false := decide_eq_false (by omega)
            have h32'' : decide (32 ≤ k) = false := decide_eq_false (by omega)
            go_wp2_with fail
            refine (HFM.out _).mono ?_
            rintro e w2 ⟨rfl, hb2⟩
            have HB2 := Lib.hid hb2; clear hb2
            rw [HFF.out]
            go_wp2
            go_roundw
            case rel => exact ⟨rfl, k + 1, vs + 1 - operN cc.op, by omega, by omega, by omega, by go_num, by congr 1; omega, HE, HBL.out.trans (HB2.out.mono HBL.out.size)⟩
            case measure => simp [intOf]; omega
          · have HE := Lib.hid (HLO.out (by omega))
            have h32' : (32 : Int) ≤ (k : Int) := by omega
            clear hf h32
            go_wp2_with fail
            refine (HFM.out _).mono ?_
            rintro e w2 ⟨rfl, hb2⟩
            have HB2 := Lib.hid hb2; clear hb2
            rw [HFF.out]
            go_wp2
            go_ret
            exact ⟨ret_bool HE.out.symm, HBL.out.trans (HB2.out.mono HBL.out.size)⟩
        · have HE := Lib.hid (HNO.out (by rw [HRUN.out, hf, if_neg (by simp; omega)]))
          have hov' : (vs : Int) < (operN cc.op : Int) := by omega
          have hneg : decide ((operN cc.op : Int) < 0) = false := decide_eq_false (by omega)
          clear hf
          go_wp2_with fail
          refine (HFM.out _).mono ?_
          rintro e w2 ⟨rfl, hb2⟩
          have HB2 := Lib.hid hb2; clear hb2
          rw [HFF.out]
          go_wp2
          go_ret
          exact ⟨ret_bool HE.out.symm, HBL.out.trans (HB2.out.mono HBL.out.size)⟩
    · have hE : runB cs 0 = some vs := by
        rw [← HB.out, List.drop_of_length_le (by rw [HN.out]; omega)]; rfl
      have HE := Lib.hid (HYE.out vs (by omega) hE)
      clear hE
      go_wp2
      go_ret
      exact ⟨ret_bool HE.out.symm, HBL.out⟩

end Go.Proofs.YtjjoffadieoaaaaGreatDoor
namespace Go.Proofs.YtjjoffadieoaaaaGreatDoor

/-- how many cells are walked back, the last first, till nothing is wanted; too many where there are too few -/
def begN : List CM → Nat → Nat
  | [], _ => 1000
  | c :: r, want => if want - 1 + operN c.op = 0 then 1 else 1 + begN r (want - 1 + operN c.op)

theorem beg_cons (c : CM) (r : List CM) (want : Nat) : begN (c :: r) want = if want - 1 + operN c.op = 0 then 1 else 1 + begN r (want - 1 + operN c.op) := rfl

theorem beg_tree {t : T} (h : OkT t) : ∀ (r : List CM) (k : Nat), begN ((post t).reverse ++ r) (k + 1) = if k = 0 then (post t).length else (post t).length + begN r k := by
  induction t with
  | leaf c =>
    intro r k
    show begN (c :: r) (k + 1) = _
    rw [beg_cons, h.2, Nat.add_sub_cancel, Nat.add_zero]
    rfl
  | un o t ih =>
    intro r k
    have e : (post (.un o t)).reverse ++ r = opC o :: ((post t).reverse ++ r) := by simp [post]
    have hl : (post (.un o t)).length = 1 + (post t).length := by simp [post]; omega
    rw [e, hl]
    rw [beg_cons, show operN (opC o).op = 1 from operN_un ⟨h.1, h.2.1⟩, Nat.add_sub_cancel, if_neg (by omega), ih h.2.2 r k]
    split <;> omega
  | bin o l r' ihl ihr =>
    intro r k
    have e : (post (.bin o l r')).reverse ++ r = opC o :: ((post r').reverse ++ ((post l).reverse ++ r)) := by simp [post]
    have hl : (post (.bin o l r')).length = 1 + (post r').length + (post l).length := by simp [post]; omega
    rw [e, hl]
    rw [beg_cons, show operN (opC o).op = 2 from operN_bin ⟨h.1, h.2.1⟩, Nat.add_sub_cancel, if_neg (by omega), ihr h.2.2.2 _ (k + 1), if_neg (by omega), ihl h.2.2.1 r k]
    split <;> omega
end Go.Proofs.YtjjoffadieoaaaaGreatDoor
namespace Go.Proofs.YtjjoffadieoaaaaGreatDoor
open Go.RowKit

/-- an operator's text, and its strength, as the document has them -/
def sgT (k : Nat) : List UInt8 := if k = 7 then [45] else if k = 8 then [33] else if k < 11 then [] else (tabAt (k - 11)).2.1
def pwT (k : Nat) : Int := if k = 7 ∨ k = 8 then 6 else if k = 0 then 0 else if k < 11 then 7 else (tabAt (k - 11)).2.2

abbrev sgArr : Array Value := #[.string ⟨#[]⟩, .string ⟨#[]⟩, .string ⟨#[]⟩, .string ⟨#[]⟩, .string ⟨#[]⟩, .string ⟨#[]⟩, .string ⟨#[]⟩, .string ⟨#[45]⟩, .string ⟨#[33]⟩, .string ⟨#[]⟩, .string ⟨#[]⟩, .string ⟨#[43]⟩, .string ⟨#[45]⟩, .string ⟨#[42]⟩, .string ⟨#[47]⟩, .string ⟨#[37]⟩, .string ⟨#[61]⟩, .string ⟨#[33, 61]⟩, .string ⟨#[60]⟩, .string ⟨#[60, 61]⟩, .string ⟨#[62]⟩, .string ⟨#[62, 61]⟩, .string ⟨#[38]⟩, .string ⟨#[124]⟩]
abbrev pwArr : Array Value := #[.int .i64 0, .int .i64 7, .int .i64 7, .int .i64 7, .int .i64 7, .int .i64 7, .int .i64 7, .int .i64 6, .int .i64 6, .int .i64 7, .int .i64 7, .int .i64 4, .int .i64 4, .int .i64 5, .int .i64 5, .int .i64 5, .int .i64 3, .int .i64 3, .int .i64 3, .int .i64 3, .int .i64 3, .int .i64 3, .int .i64 2, .int .i64 1]
theorem sgArr_at (k : Nat) (hk : k < 24) : sgArr[k]? = some (.string ⟨(sgT k).toArray⟩) ∧ pwArr[k]? = some (.int .i64 (pwT k)) :=
  match k, hk with
  | 0, _ => ⟨rfl, rfl⟩
  | 1, _ => ⟨rfl, rfl⟩
  | 2, _ => ⟨rfl, rfl⟩
  | 3, _ => ⟨rfl, rfl⟩
  | 4, _ => ⟨rfl, rfl⟩
  | 5, _ => ⟨rfl, rfl⟩
  | 6, _ => ⟨rfl, rfl⟩
  | 7, _ => ⟨rfl, rfl⟩
  | 8, _ => ⟨rfl, rfl⟩
  | 9, _ => ⟨rfl, rfl⟩
  | 10, _ => ⟨rfl, rfl⟩
  | 11, _ => ⟨rfl, rfl⟩
  | 12, _ => ⟨rfl, rfl⟩
  | 13, _ => ⟨rfl, rfl⟩
  | 14, _ => ⟨rfl, rfl⟩
  | 15, _ => ⟨rfl, rfl⟩
  | 16, _ => ⟨rfl, rfl⟩
  | 17, _ => ⟨rfl, rfl⟩
  | 18, _ => ⟨rfl, rfl⟩
  | 19, _ => ⟨rfl, rfl⟩
  | 20, _ => ⟨rfl, rfl⟩
  | 21, _ => ⟨rfl, rfl⟩
  | 22, _ => ⟨rfl, rfl⟩
  | 23, _ => ⟨rfl, rfl⟩
  | n + 24, h => absurd h (by omega)

theorem wpList_build_to {ops : Array Oper} {rest : List Oper} {o : Oper} {a : Act} {w : World} {Q : Exit → Act → World → Prop} (hg : o.guard = none) (t : TypeId) (parts : Array (Nat × Operand)) (ho : o.op = .build t parts) (cells : Array Value)
    (hf : Tryz.prog.built t (parts.map fun (i, x) => (i, a.eval x)).toList = some cells)
    (h : wpList Tryz.prog ops Q rest (a.put o.dst (.agg cells)) w) : wpList Tryz.prog ops Q (o :: rest) a w := by
  refine wpList_build hg t parts ho (by rw [hf]; rfl) ?_
  rw [hf]; exact h
abbrev sgParts : Array (Nat × Operand) := #[(9, .const (.string ⟨#[]⟩)), (7, .const (.string ⟨#[45]⟩)), (8, .const (.string ⟨#[33]⟩)), (11, .const (.string ⟨#[43]⟩)), (12, .const (.string ⟨#[45]⟩)), (13, .const (.string ⟨#[42]⟩)), (14, .const (.string ⟨#[47]⟩)), (15, .const (.string ⟨#[37]⟩)), (16, .const (.string ⟨#[61]⟩)), (17, .const (.string ⟨#[33, 61]⟩)), (18, .const (.string ⟨#[60]⟩)), (19, .const (.string ⟨#[60, 61]⟩)), (20, .const (.string ⟨#[62]⟩)), (21, .const (.string ⟨#[62, 61]⟩)), (22, .const (.string ⟨#[38]⟩)), (23, .const (.string ⟨#[124]⟩))]
abbrev pwParts : Array (Nat × Operand) := #[(0, .const (.int .i64 0)), (1, .const (.int .i64 7)), (2, .const (.int .i64 7)), (3, .const (.int .i64 7)), (4, .const (.int .i64 7)), (5, .const (.int .i64 7)), (6, .const (.int .i64 7)), (7, .const (.int .i64 6)), (8, .const (.int .i64 6)), (9, .const (.int .i64 7)), (10, .const (.int .i64 7)), (11, .const (.int .i64 4)), (12, .const (.int .i64 4)), (13, .const (.int .i64 5)), (14, .const (.int .i64 5)), (15, .const (.int .i64 5)), (16, .const (.int .i64 3)), (17, .const (.int .i64 3)), (18, .const (.int .i64 3)), (19, .const (.int .i64 3)), (20, .const (.int .i64 3)), (21, .const (.int .i64 3)), (22, .const (.int .i64 2)), (23, .const (.int .i64 1))]
theorem sg_built (a : Act) : Tryz.prog.built 162 (sgParts.map fun (i, x) => (i, a.eval x)).toList = some sgArr := by kernel_rfl
theorem pw_built (a : Act) : Tryz.prog.built 163 (pwParts.map fun (i, x) => (i, a.eval x)).toList = some pwArr := by kernel_rfl
theorem sg_one : sgArr.all (·.oneCell') = true := by kernel_rfl
theorem pw_one : pwArr.all (·.oneCell') = true := by kernel_rfl
theorem sg_size : (Tryz.prog.info? 162).map (·.size) = some sgArr.size := by kernel_rfl
theorem pw_size : (Tryz.prog.info? 163).map (·.size) = some pwArr.size := by kernel_rfl
theorem pw_new (w : World) (o x : Obj) (cs : Array Value) : (((w.alloc o).setRow w.heap.size cs).alloc x).heap[w.heap.size + 1]? = some x := by
  have := heap_alloc_new ((w.alloc o).setRow w.heap.size cs) x
  simpa using this

def SignPost (k : Nat) (w : World) (e : Ending) (w' : World) : Prop := e = .returned (.tuple #[bstr (sgT k), .int .i64 (pwT k)]) ∧ Below w.heap.size w w'
theorem sign_fin {k : Nat} {w w' : World} {X : ByteArray} {n : Int} (hX : ⟨(sgT k).toArray⟩ = X) (hn : pwT k = n) (hb : Below w.heap.size w w') : SignPost k w (.returned (.tuple #[.string X, .int .i64 n])) w' := by
  subst hX hn; exact ⟨rfl, hb⟩

abbrev sgZero : Array Value := #[.string ⟨#[]⟩, .string ⟨#[]⟩, .string ⟨#[]⟩, .string ⟨#[]⟩, .string ⟨#[]⟩, .string ⟨#[]⟩, .string ⟨#[]⟩, .string ⟨#[]⟩, .string ⟨#[]⟩, .string ⟨#[]⟩, .string ⟨#[]⟩, .string ⟨#[]⟩, .string ⟨#[]⟩, .string ⟨#[]⟩, .string ⟨#[]⟩, .string ⟨#[]⟩, .string ⟨#[]⟩, .string ⟨#[]⟩, .string ⟨#[]⟩, .string ⟨#[]⟩, .string ⟨#[]⟩, .string ⟨#[]⟩, .string ⟨#[]⟩, .string ⟨#[]⟩]
abbrev pwZero : Array Value := #[.int .i64 0, .int .i64 0, .int .i64 0, .int .i64 0, .int .i64 0, .int .i64 0, .int .i64 0, .int .i64 0, .int .i64 0, .int .i64 0, .int .i64 0, .int .i64 0, .int .i64 0, .int .i64 0, .int .i64 0, .int .i64 0, .int .i64 0, .int .i64 0, .int .i64 0, .int .i64 0, .int .i64 0, .int .i64 0, .int .i64 0, .int .i64 0]
theorem sign_world (k : Nat) (hk : k < 24) (w : World) (S : ByteArray) (P : Int) (hS : ⟨(sgT k).toArray⟩ = S) (hP : pwT k = P) : ∀ W, (((w.alloc (.cells sgZero 162)).setRow w.heap.size sgArr).alloc (.cells pwZero 163)).setRow (w.heap.size + 1) pwArr = W →
    W.cell? ⟨w.heap.size, k, none⟩ = some (.string S) ∧ W.cell? ⟨w.heap.size + 1, k, none⟩ = some (.int .i64 P) ∧ Below w.heap.size w W := by
  rintro W rfl
  obtain ⟨h1, h2⟩ := sgArr_at k hk
  rw [hS] at h1
  rw [hP] at h2
  have e0 : (w.alloc (.cells sgZero 162)).heap[w.heap.size]? = some (.cells sgZero 162 (0, 0)) := heap_alloc_new w _
  have e1 : ((w.alloc (.cells sgZero 162)).setRow w.heap.size sgArr).heap[w.heap.size]? = some (.cells sgArr 162 (0, 0)) := setRow_heap _ _ _ _ _ _ e0
  have e2 := pw_new w (.cells sgZero 162) (.cells pwZero 163) sgArr
  have b1 : Below w.heap.size w ((w.alloc (.cells sgZero 162)).setRow w.heap.size sgArr) := below_setRow ((Below.refl _ _).alloc (Nat.le_refl _) _) (Nat.le_refl _) _
  have b2 : Below w.heap.size w ((((w.alloc (.cells sgZero 162)).setRow w.heap.size sgArr).alloc (.cells pwZero 163)).setRow (w.heap.size + 1) pwArr) := below_setRow (b1.alloc (by simp) _) (Nat.le_succ _) _
  have b3 : Below (w.heap.size + 1) ((w.alloc (.cells sgZero 162)).setRow w.heap.size sgArr) ((((w.alloc (.cells sgZero 162)).setRow w.heap.size sgArr).alloc (.cells pwZero 163)).setRow (w.heap.size + 1) pwArr) := below_setRow ((Below.refl _ _).alloc (by simp) _) (Nat.le_refl _) _
  refine ⟨?_, ?_, b2⟩
  · exact (cell_of_row _ w.heap.size k _ _ _ ((b3.block _ (by omega)).trans e1)).trans h1
  · exact (cell_of_row _ (w.heap.size + 1) k _ _ _ (setRow_heap _ _ _ pwArr _ _ e2)).trans h2

set_option maxRecDepth 100000 in
set_option maxHeartbeats 2000000 in
theorem sign_any (k : Nat) (hk : k < 24) (w : World) : Calls Tryz.prog 76 #[.int .i64 k] w (SignPost k w) := by
  obtain ⟨S, hS⟩ : ∃ S : ByteArray, ⟨(sgT k).toArray⟩ = S := ⟨_, rfl⟩
  obtain ⟨P, hP⟩ : ∃ P, pwT k = P := ⟨_, rfl⟩
  have HF := Lib.hid (sign_world k hk w S P hS hP)
  have HS := Lib.hid hS; have HP := Lib.hid hP
  have hk0 : (0 : Int) ≤ (k : Int) := by omega
  have hk1 : (k : Int) < 24 := by omega
  clear hS hP
  go_enter Tryz.func76, Tryz.ntmps76
  go_wp2_with (first
    | (refine wpList_build_to rfl 162 sgParts rfl sgArr (sg_built _) ?_)
    | (refine wpList_build_to rfl 163 pwParts rfl pwArr (pw_built _) ?_)
    | (refine wpList_store_row rfl 162 _ _ rfl w.heap.size sgArr rfl rfl 162 _ (heap_alloc_new w _) sg_size rfl sg_one ?_)
    | (refine wpList_store_row rfl 163 _ _ rfl (w.heap.size + 1) pwArr rfl rfl 163 _ (pw_new w _ _ _) pw_size rfl pw_one ?_))
  generalize hW : (((w.alloc (.cells sgZero 162)).setRow w.heap.size sgArr).alloc (.cells pwZero 163)).setRow (w.heap.size + 1) pwArr = W
  obtain ⟨c0, c1, hb⟩ := HF.out W hW
  have HB := Lib.hid hb
  clear hb hW
  generalize Value.agg sgArr = A6
  generalize Value.agg pwArr = A7
  go_quiet (fail)
  go_wp2
  go_ret2
  exact sign_fin HS.out HP.out ⟨HB.out.os, HB.out.tape, HB.out.output, HB.out.size, HB.out.block⟩
end Go.Proofs.YtjjoffadieoaaaaGreatDoor
namespace Go.Proofs.YtjjoffadieoaaaaGreatDoor
open Go.RowKit

theorem begN_pos (l : List CM) (k : Nat) : 1 ≤ begN l k := by
  cases l with
  | nil => show 1 ≤ 1000; omega
  | cons c r => rw [beg_cons]; split <;> omega
theorem beg_step {cs : List CM} {k v p : Nat} (hk : k < cs.length) (hp : p ≤ k) (h : begN (cs.take (k + 1)).reverse v = k + 1 - p) :
    (v - 1 + operN (cs[k]).op = 0 → k = p) ∧ (v - 1 + operN (cs[k]).op ≠ 0 → p < k ∧ begN (cs.take (k - 1 + 1)).reverse (v - 1 + operN (cs[k]).op) = k - 1 + 1 - p) := by
  rw [List.take_succ_eq_append_getElem hk, List.reverse_append] at h
  change begN (cs[k] :: (cs.take k).reverse) v = _ at h
  rw [beg_cons] at h
  refine ⟨fun h0 => by rw [if_pos h0] at h; omega, fun h0 => ?_⟩
  rw [if_neg h0] at h
  have h1 := begN_pos (cs.take k).reverse (v - 1 + operN (cs[k]).op)
  by_cases hk0 : k = 0
  · subst hk0
    have : begN (cs.take 0).reverse (v - 1 + operN (cs[0]).op) = 1000 := rfl
    omega
  · have e : k - 1 + 1 = k := by omega
    rw [e]
    exact ⟨by omega, by omega⟩

set_option maxRecDepth 100000 in
set_option maxHeartbeats 2000000 in
theorem begin_any (v : Value) (cs : List CM) (w : World) (hR : RdC w v cs) (hF : ∀ c ∈ cs, formedB c = true) (hl : cs.length ≤ 32) (p e : Nat) (he : e < cs.length) (hp : p ≤ e) (hb : begN (cs.take (e + 1)).reverse 1 = e + 1 - p) :
    Calls Tryz.prog 78 #[v, .int .i64 e] w fun x w' => x = .returned (.int .i64 p) ∧ Below w.heap.size w w' := by
  obtain ⟨A, c, rfl, hr⟩ := hR
  have HR := Lib.hid hr; have HF := Lib.hid hF; have HBEG := Lib.hid hb; clear hr hF hb
  obtain ⟨n, hn⟩ : ∃ n, cs.length = n := ⟨_, rfl⟩
  have HN := Lib.hid hn
  rw [hn] at hl he ⊢
  clear hn
  go_enter Tryz.func78, Tryz.ntmps78
  go_wp2
  go_loopw [4, 5, 6] (fun x4 want i wr => x4 = .int .i64 0 ∧ ∃ k vs : Nat, k ≤ e ∧ p ≤ k ∧ 1 ≤ vs ∧ vs + k ≤ e + 1 ∧ want = .int .i64 vs ∧ i = .int .i64 k ∧ Hid (begN (cs.take (k + 1)).reverse vs = k + 1 - p) ∧ Below w.heap.size w wr) (fun _ _ i _ => (intOf i).toNat)
  case atStart => exact ⟨rfl, e, 1, by omega, hp, by omega, by omega, rfl, rfl, HBEG, Below.refl _ _⟩
  case round =>
    obtain ⟨rfl, k, vs, hke, hpk, hv1, hvk, rfl, rfl, HB, hb⟩ := hrel
    have HBL := Lib.hid hb
    have hkn : k < n := by omega
    obtain ⟨b, o, rfl, d0, d1, d2⟩ := HR.out k (by rw [HN.out]; exact hkn)
    have hstep := beg_step (cs := cs) (k := k) (v := vs) (p := p) (by rw [HN.out]; exact hkn) hpk HB.out
    have hfm := HF.out (cs[k]'(by rw [HN.out]; exact hkn)) (List.getElem_mem _)
    obtain ⟨cc, hcc⟩ : ∃ cc, cs[k]'(by rw [HN.out]; exact hkn) = cc := ⟨_, rfl⟩
    rw [hcc] at d0 d1 d2 hstep hfm
    have hnm := formed_name hfm
    have e0 := (hb.cell (cell_lt d0)).trans d0
    have e1 := (hb.cell (cell_lt d1)).trans d1
    have e2 := (hb.cell (cell_lt d2)).trans d2
    have hon := operN_le cc.op
    obtain ⟨X, hX⟩ : ∃ X : ByteArray, bstr cc.nm = .string X := ⟨_, rfl⟩
    have hops := fun W => refOperands_any cc W (by omega)
    rw [hX, opsR_yes hfm] at hops
    rw [hX] at e2
    have HOP := Lib.hid hops
    have HST := Lib.hid hstep
    clear d0 d1 d2 hcc hb hX hfm hops hstep hnm
    generalize operN cc.op = on at *
    by_cases hz : vs - 1 + on = 0
    · have hkp := Lib.hid (HST.out.1 hz)
      have hz' : ((vs : Int) - 1 + (on : Int) == 0) = true := by simp; omega
      clear hz
      go_wp2_with fail
      refine (HOP.out _).mono ?_
      rintro x w2 ⟨rfl, hb2⟩
      have HB2 := Lib.hid (HBL.out.trans (hb2.mono HBL.out.size)); clear hb2
      go_wp2
      go_ret
      exact ⟨ret_int (show (k : Int) = (p : Int) by rw [hkp.out]), HB2.out⟩
    · obtain ⟨hkp, hnx⟩ := HST.out.2 hz
      have HNX := Lib.hid hnx
      have hz' : ((vs : Int) - 1 + (on : Int) == 0) = false := by simp; omega
      have hv1' : 1 ≤ vs - 1 + on := by omega
      clear hz hnx
      go_wp2_with fail
      refine (HOP.out _).mono ?_
      rintro x w2 ⟨rfl, hb2⟩
      have HB2 := Lib.hid (HBL.out.trans (hb2.mono HBL.out.size)); clear hb2
      go_wp2
      go_roundw
      case rel => exact ⟨rfl, k - 1, vs - 1 + on, by omega, by omega, by omega, by omega, by congr 1; omega, by congr 1; omega, HNX, HB2.out⟩
      case measure => simp [intOf]; omega
end Go.Proofs.YtjjoffadieoaaaaGreatDoor
