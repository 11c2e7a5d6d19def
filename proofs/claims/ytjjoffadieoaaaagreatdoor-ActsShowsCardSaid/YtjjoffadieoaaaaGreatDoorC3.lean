/- Own texts, joined: FL, FM, A20, A21. -/
import Derived.Test.YtjjoffadieoaaaaGreatDoorB1
import Derived.Test.YtjjoffadieoaaaaGreatDoorB2
import Derived.Test.YtjjoffadieoaaaaGreatDoorB3
import Derived.Test.YtjjoffadieoaaaaGreatDoorB4
import Derived.Test.YtjjoffadieoaaaaGreatDoorB5
import Derived.Test.YtjjoffadieoaaaaGreatDoorB6
import Derived.Test.YtjjoffadieoaaaaGreatDoorB7
import Derived.Test.YtjjoffadieoaaaaGreatDoorB8
import Derived.Test.YtjjoffadieoaaaaGreatDoorB9
import Derived.Test.YtjjoffadieoaaaaGreatDoorB10
import Derived.Test.YtjjoffadieoaaaaGreatDoorB11
import Derived.Test.YtjjoffadieoaaaaGreatDoorB12
import Derived.Test.YtjjoffadieoaaaaGreatDoorB13
import Derived.Test.YtjjoffadieoaaaaGreatDoorB14
import Derived.Test.YtjjoffadieoaaaaGreatDoorB15
import Derived.Test.YtjjoffadieoaaaaGreatDoorB16
import Derived.Test.YtjjoffadieoaaaaGreatDoorB17
import Derived.Test.YtjjoffadieoaaaaGreatDoorB18
import Derived.Test.YtjjoffadieoaaaaGreatDoorB19
import Derived.Test.YtjjoffadieoaaaaGreatDoorB20
import Derived.Test.YtjjoffadieoaaaaGreatDoorB21
import Derived.Test.YtjjoffadieoaaaaGreatDoorB22
import Derived.Test.YtjjoffadieoaaaaGreatDoorB23
import Derived.Test.YtjjoffadieoaaaaGreatDoorB24
import Derived.Test.YtjjoffadieoaaaaGreatDoorB25
import Derived.Test.YtjjoffadieoaaaaGreatDoorB26
import Derived.Test.YtjjoffadieoaaaaGreatDoorC1
import Derived.Test.YtjjoffadieoaaaaGreatDoorC2
import Derived.Orders
import Derived.Below
import Derived.Laws.AppendOwn
import Derived.Lib.AtoiTie
import Derived.Lib.ItoaLen
import Derived.Lib.ParseIntBTie
import Derived.Lib.IndexAny
import Derived.Lib.Strings
import Derived.Scope
import Derived.ScopeJumps
import Derived.WalkMore
import Derived.Test.YtjjoffadieoaaaaGreatDoorProg
import Derived.WalkKit
import Derived.WalkSpells
import Derived.WalkLawsBesides
import Derived.Lib.Hide
import Derived.Laws.OwnMore
import Derived.OneCell
import Derived.Deep.Onto
import Derived.Deep.QuietTactic
import Derived.BigQuiet
import Derived.Deep.Draws
import Derived.RegionTactic
import Derived.Deep.RegionLaw
import Derived.Laws.Rows
import Derived.Deep.RegionHeld3
import Derived.Deep.AppendLies
import Derived.StillTailTactics
import Derived.Shelf.Strings.Builder1
import Derived.Shelf.Strings.Builder2
import Derived.Shelf.Strconv.Itoa0
import Derived.Shelf.Strconv.Itoa1
import Derived.Shelf.LaysM
import Derived.Shelf.Strconv.Itoa2
import Derived.Shelf.Strconv.Itoa3
import Derived.Shelf.Strconv.Itoa4
import Derived.Shelf.Strconv.Clone
import Derived.Shelf.Strings.Search1
import Derived.Shelf.Strings.Search2
import Derived.Shelf.Strings.Search3
import Derived.Shelf.Strings.Cut
import Derived.Shelf.Strings.Count
import Derived.Shelf.Strings.Shaped
import Derived.Shelf.Strings.Prefix
import Derived.Shelf.Strings.Split
import Derived.Shelf.Unicode.DecodeSlow
import Derived.IntWalk
import Derived.Lib.AppendIntMem
import Derived.Laws.IdiomStrings
import Derived.Laws.Concat
import Derived.Laws.AppendOwnNone
import Derived.ProofKit
import Derived.Deep.Slices
import Derived.Lib.SmallJoins
import Derived.SizedLaws
import Derived.Lib.LaidTab
import Derived.Lib.LaidU8
import Derived.LaidMore
import Derived.KernelRfl
import Derived.Laws.ComplexArith
import Derived.Laws.Tables
import Derived.Laws.CopyOwn
import Derived.Test.YtjjoffadieoaaaaGreatDoorRows
import Derived.Lib.SplitLaws
import Derived.Lib.Split
import Derived.Lib.IndexBytes
import Derived.Lib.Join
import Derived.Lib.BufferOwn
import Derived.Shelf.Strings.OnBuilder
import Derived.Shelf.Small.Wraps
import Derived.Shelf.Utf8.RuneCount
import Derived.Shelf.Strings.SplitShaped
import Derived.Shelf.Unicode.Decode
import Derived.Shelf.Strings.RuneCount
import Derived.Shelf.Strings.Explode
import Derived.Shelf.Unicode.DecodeAny
import Derived.Laws.StructEq
namespace Go.Proofs.YtjjoffadieoaaaaGreatDoor
open Go.RowKit

set_option maxRecDepth 100000 in
set_option maxHeartbeats 4000000 in
theorem told_two (k : Nat) (hk : k < 13) (a : Int) (nm : List UInt8) (b o n cc : Nat) (e m : Nat) (least : Int) (w : World) (he : e < n) (hf : formedB ⟨(k : Int) + 11, a, nm⟩ = true)
    (d0 : w.cell? ⟨b, o + e * 3, none⟩ = some (.int .i64 ((k : Int) + 11))) (d1 : w.cell? ⟨b, o + e * 3 + 1, none⟩ = some (.int .i64 a)) (d2 : w.cell? ⟨b, o + e * 3 + 2, none⟩ = some (bstr nm))
    (h1 : 1 ≤ e) (hm : 1 ≤ m) (hme : m ≤ e) (hn : n ≤ 32) (x y : List UInt8) (hx : x.length ≤ 1000) (hy : y.length ≤ 1000)
    (HB : ∀ W, Below w.heap.size w W → Calls Tryz.prog 78 #[.slice (some ⟨b, o, none⟩) n cc, .int .i64 ((e : Int) - 1)] W fun q w' => q = .returned (.int .i64 m) ∧ Below W.heap.size W w')
    (HL : ∀ W, Below w.heap.size w W → Calls Tryz.prog 45 #[.slice (some ⟨b, o, none⟩) n cc, .int .i64 ((m : Int) - 1), .int .i64 (if (tabAt k).2.2 = 3 then 4 else (tabAt k).2.2)] W (ToldPost x W))
    (HR : ∀ W, Below w.heap.size w W → Calls Tryz.prog 45 #[.slice (some ⟨b, o, none⟩) n cc, .int .i64 ((e : Int) - 1), .int .i64 ((tabAt k).2.2 + 1)] W (ToldPost y W)) :
    Calls Tryz.prog 45 #[.slice (some ⟨b, o, none⟩) n cc, .int .i64 e, .int .i64 least] w (ToldPost (inP (x ++ (tabAt k).2.1 ++ y) (tabAt k).2.2 least) w) := by
  have hnm := formed_name hf
  have hops := fun W => refOperands_any ⟨(k : Int) + 11, a, nm⟩ W (by omega)
  rw [opsR_yes hf, operN_bin (o := (k : Int) + 11) ⟨by omega, by omega⟩] at hops
  simp only at hops hnm
  have HSG := Lib.hid (sg_bin hk)
  obtain ⟨q1, q2⟩ := tab_str k
  have q3 := tab_len k
  generalize tabAt k = tk at HSG HL HR q1 q2 q3 ⊢
  obtain ⟨oi, ol, os⟩ := tk
  simp only at HSG HL HR q1 q2 q3 ⊢
  obtain ⟨OT, hOT⟩ : ∃ OT : ByteArray, (⟨ol.toArray⟩ : ByteArray) = OT := ⟨_, rfl⟩
  have hOs : OT.size ≤ 2 := by rw [← hOT, size_list]; exact q3
  rw [hOT] at HSG
  have HOT := Lib.hid hOT
  obtain ⟨X, hX⟩ : ∃ X : ByteArray, (⟨nm.toArray⟩ : ByteArray) = X := ⟨_, rfl⟩
  have hb : bstr nm = .string X := by rw [← hX]; rfl
  rw [hb] at d2 hops
  have HOP := Lib.hid hops
  obtain ⟨hW, hWs, hd⟩ := cell_new w (.int .i64 ((k : Int) + 11)) (.int .i64 a) (.string X) 93
  have HW := Lib.hid hW; have HWS := Lib.hid hWs; have HD := Lib.hid hd
  have HBG := Lib.hid HB; have HLL := Lib.hid HL; have HRR := Lib.hid HR
  obtain ⟨Y1, hY1⟩ : ∃ Y : ByteArray, (⟨x.toArray⟩ : ByteArray) = Y := ⟨_, rfl⟩
  have hYb1 : bstr x = .string Y1 := by rw [← hY1]; rfl
  obtain ⟨Y2, hY2⟩ : ∃ Y : ByteArray, (⟨y.toArray⟩ : ByteArray) = Y := ⟨_, rfl⟩
  have hYb2 : bstr y = .string Y2 := by rw [← hY2]; rfl
  have HYB1 := Lib.hid hYb1; have HYB2 := Lib.hid hYb2
  have hs1 : Y1.size ≤ 1000 := by rw [← hY1, size_list]; exact hx
  have hs2 : Y2.size ≤ 1000 := by rw [← hY2, size_list]; exact hy
  have HY1 := Lib.hid hY1; have HY2 := Lib.hid hY2
  have s1 : ∀ W : World, (Op.stringOp .add Y1 OT).run Tryz.prog W = .ok (.string (Y1 ++ OT)) W := fun W => run_string_add_sum (P := Tryz.prog) (w := W) _ _ (by omega)
  have s2 : ∀ W : World, (Op.stringOp .add (Y1 ++ OT) Y2).run Tryz.prog W = .ok (.string (Y1 ++ OT ++ Y2)) W := fun W => run_string_add_sum (P := Tryz.prog) (w := W) _ _ (by rw [ByteArray.size_append]; omega)
  have s3 : ∀ W : World, (Op.stringOp .add ⟨#[40]⟩ (Y1 ++ OT ++ Y2)).run Tryz.prog W = .ok (.string (⟨#[40]⟩ ++ (Y1 ++ OT ++ Y2))) W := fun W => run_string_add_sum (P := Tryz.prog) (w := W) _ _ (by rw [ByteArray.size_append, ByteArray.size_append]; show 1 + _ ≤ _; omega)
  have s4 : ∀ W : World, (Op.stringOp .add (⟨#[40]⟩ ++ (Y1 ++ OT ++ Y2)) ⟨#[41]⟩).run Tryz.prog W = .ok (.string (⟨#[40]⟩ ++ (Y1 ++ OT ++ Y2) ++ ⟨#[41]⟩)) W := fun W => run_string_add_sum (P := Tryz.prog) (w := W) _ _ (by rw [ByteArray.size_append, ByteArray.size_append, ByteArray.size_append]; show 1 + _ + 1 ≤ _; omega)
  have hsum : Y1 ++ OT ++ Y2 = ⟨(x ++ ol ++ y).toArray⟩ := by rw [← hY1, ← hOT, ← hY2, bytes_join, bytes_join]
  have HSUM := Lib.hid hsum
  clear hb hX hops hf hW hWs hd hnm HB HL HR hY1 hYb1 hY2 hYb2 hx hy hOT hsum hs1 hs2 hOs q3
  by_cases h3 : os = 3
  · subst h3
    by_cases hlt : (3 : Int) < least
    · have hlt' : decide ((3 : Int) < least) = true := decide_eq_true hlt
      have HFIN : Hid (⟨#[40]⟩ ++ (Y1 ++ OT ++ Y2) ++ ⟨#[41]⟩ = (⟨(inP (x ++ ol ++ y) 3 least).toArray⟩ : ByteArray)) := by
        unfold inP
        rw [if_pos hlt, HSUM.out]
        exact (congrArg (· ++ (⟨#[41]⟩ : ByteArray)) (bytes_join [40] _)).trans (bytes_join _ [41])
      go_enter Tryz.func45, Tryz.ntmps45
      go_wp2_with fail
      refine (HSG.out _).mono ?_
      rintro x w2 ⟨rfl, hb2⟩
      have HB2 := Lib.hid (HW.out.trans (hb2.mono (by rw [HWS.out]; omega)))
      have HD2 := Lib.hid ((hb2.block _ (by rw [HWS.out]; omega)).trans HD.out)
      clear hb2
      obtain ⟨k0, k1, k2⟩ := cells3_at HD2.out
      go_wp2_with fail
      refine (HOP.out _).mono ?_
      rintro x w3 ⟨rfl, hb3⟩
      have HB3 := Lib.hid (HB2.out.trans (hb3.mono HB2.out.size))
      have HD3 := Lib.hid ((hb3.block _ (lt_of_block HD2.out)).trans HD2.out)
      clear hb3 k0 k1 k2
      obtain ⟨k0, k1, k2⟩ := cells3_at HD3.out
      go_wp2_with fail
      refine (HBG.out _ HB3.out).mono ?_
      rintro x w4 ⟨rfl, hb4⟩
      have HB4 := Lib.hid (HB3.out.trans (hb4.mono HB3.out.size))
      clear hb4
      go_wp2_with fail
      refine (HLL.out _ HB4.out).mono ?_
      rintro x w5 ⟨rfl, hb5⟩
      rw [HYB1.out]
      have HB5 := Lib.hid (HB4.out.trans (hb5.mono HB4.out.size))
      clear hb5
      go_wp2_with fail
      refine (HRR.out _ HB5.out).mono ?_
      rintro x w6 ⟨rfl, hb6⟩
      rw [HYB2.out]
      have HB6 := Lib.hid (HB5.out.trans (hb6.mono HB5.out.size))
      clear hb6
      go_wp2
      go_ret
      exact ToldPost.of HFIN.out HB6.out
    · have hlt' : decide ((3 : Int) < least) = false := decide_eq_false hlt
      have HFIN : Hid (Y1 ++ OT ++ Y2 = (⟨(inP (x ++ ol ++ y) 3 least).toArray⟩ : ByteArray)) := by
        unfold inP
        rw [if_neg hlt, HSUM.out]; exact rfl
      go_enter Tryz.func45, Tryz.ntmps45
      go_wp2_with fail
      refine (HSG.out _).mono ?_
      rintro x w2 ⟨rfl, hb2⟩
      have HB2 := Lib.hid (HW.out.trans (hb2.mono (by rw [HWS.out]; omega)))
      have HD2 := Lib.hid ((hb2.block _ (by rw [HWS.out]; omega)).trans HD.out)
      clear hb2
      obtain ⟨k0, k1, k2⟩ := cells3_at HD2.out
      go_wp2_with fail
      refine (HOP.out _).mono ?_
      rintro x w3 ⟨rfl, hb3⟩
      have HB3 := Lib.hid (HB2.out.trans (hb3.mono HB2.out.size))
      have HD3 := Lib.hid ((hb3.block _ (lt_of_block HD2.out)).trans HD2.out)
      clear hb3 k0 k1 k2
      obtain ⟨k0, k1, k2⟩ := cells3_at HD3.out
      go_wp2_with fail
      refine (HBG.out _ HB3.out).mono ?_
      rintro x w4 ⟨rfl, hb4⟩
      have HB4 := Lib.hid (HB3.out.trans (hb4.mono HB3.out.size))
      clear hb4
      go_wp2_with fail
      refine (HLL.out _ HB4.out).mono ?_
      rintro x w5 ⟨rfl, hb5⟩
      rw [HYB1.out]
      have HB5 := Lib.hid (HB4.out.trans (hb5.mono HB4.out.size))
      clear hb5
      go_wp2_with fail
      refine (HRR.out _ HB5.out).mono ?_
      rintro x w6 ⟨rfl, hb6⟩
      rw [HYB2.out]
      have HB6 := Lib.hid (HB5.out.trans (hb6.mono HB5.out.size))
      clear hb6
      go_wp2
      go_ret
      exact ToldPost.of HFIN.out HB6.out
  · have h3' : (os == 3) = false := beq_eq_false_iff_ne.2 h3
    have HE3 : Hid ((if os = 3 then (4 : Int) else os) = os) := if_neg h3
    clear h3
    by_cases hlt : os < least
    · have hlt' : decide (os < least) = true := decide_eq_true hlt
      have HFIN : Hid (⟨#[40]⟩ ++ (Y1 ++ OT ++ Y2) ++ ⟨#[41]⟩ = (⟨(inP (x ++ ol ++ y) os least).toArray⟩ : ByteArray)) := by
        unfold inP
        rw [if_pos hlt, HSUM.out]
        exact (congrArg (· ++ (⟨#[41]⟩ : ByteArray)) (bytes_join [40] _)).trans (bytes_join _ [41])
      have HLN := fun W hW => HLL.out W hW
      rw [HE3.out] at HLN
      have HLM := Lib.hid HLN; clear HLN
      go_enter Tryz.func45, Tryz.ntmps45
      go_wp2_with fail
      refine (HSG.out _).mono ?_
      rintro x w2 ⟨rfl, hb2⟩
      have HB2 := Lib.hid (HW.out.trans (hb2.mono (by rw [HWS.out]; omega)))
      have HD2 := Lib.hid ((hb2.block _ (by rw [HWS.out]; omega)).trans HD.out)
      clear hb2
      obtain ⟨k0, k1, k2⟩ := cells3_at HD2.out
      go_wp2_with fail
      refine (HOP.out _).mono ?_
      rintro x w3 ⟨rfl, hb3⟩
      have HB3 := Lib.hid (HB2.out.trans (hb3.mono HB2.out.size))
      have HD3 := Lib.hid ((hb3.block _ (lt_of_block HD2.out)).trans HD2.out)
      clear hb3 k0 k1 k2
      obtain ⟨k0, k1, k2⟩ := cells3_at HD3.out
      go_wp2_with fail
      refine (HBG.out _ HB3.out).mono ?_
      rintro x w4 ⟨rfl, hb4⟩
      have HB4 := Lib.hid (HB3.out.trans (hb4.mono HB3.out.size))
      clear hb4
      go_wp2_with fail
      refine (HLM.out _ HB4.out).mono ?_
      rintro x w5 ⟨rfl, hb5⟩
      rw [HYB1.out]
      have HB5 := Lib.hid (HB4.out.trans (hb5.mono HB4.out.size))
      clear hb5
      go_wp2_with fail
      refine (HRR.out _ HB5.out).mono ?_
      rintro x w6 ⟨rfl, hb6⟩
      rw [HYB2.out]
      have HB6 := Lib.hid (HB5.out.trans (hb6.mono HB5.out.size))
      clear hb6
      go_wp2
      go_ret
      exact ToldPost.of HFIN.out HB6.out
    · have hlt' : decide (os < least) = false := decide_eq_false hlt
      have HFIN : Hid (Y1 ++ OT ++ Y2 = (⟨(inP (x ++ ol ++ y) os least).toArray⟩ : ByteArray)) := by
        unfold inP
        rw [if_neg hlt, HSUM.out]; exact rfl
      have HLN := fun W hW => HLL.out W hW
      rw [HE3.out] at HLN
      have HLM := Lib.hid HLN; clear HLN
      go_enter Tryz.func45, Tryz.ntmps45
      go_wp2_with fail
      refine (HSG.out _).mono ?_
      rintro x w2 ⟨rfl, hb2⟩
      have HB2 := Lib.hid (HW.out.trans (hb2.mono (by rw [HWS.out]; omega)))
      have HD2 := Lib.hid ((hb2.block _ (by rw [HWS.out]; omega)).trans HD.out)
      clear hb2
      obtain ⟨k0, k1, k2⟩ := cells3_at HD2.out
      go_wp2_with fail
      refine (HOP.out _).mono ?_
      rintro x w3 ⟨rfl, hb3⟩
      have HB3 := Lib.hid (HB2.out.trans (hb3.mono HB2.out.size))
      have HD3 := Lib.hid ((hb3.block _ (lt_of_block HD2.out)).trans HD2.out)
      clear hb3 k0 k1 k2
      obtain ⟨k0, k1, k2⟩ := cells3_at HD3.out
      go_wp2_with fail
      refine (HBG.out _ HB3.out).mono ?_
      rintro x w4 ⟨rfl, hb4⟩
      have HB4 := Lib.hid (HB3.out.trans (hb4.mono HB3.out.size))
      clear hb4
      go_wp2_with fail
      refine (HLM.out _ HB4.out).mono ?_
      rintro x w5 ⟨rfl, hb5⟩
      rw [HYB1.out]
      have HB5 := Lib.hid (HB4.out.trans (hb5.mono HB4.out.size))
      clear hb5
      go_wp2_with fail
      refine (HRR.out _ HB5.out).mono ?_
      rintro x w6 ⟨rfl, hb6⟩
      rw [HYB2.out]
      have HB6 := Lib.hid (HB5.out.trans (hb6.mono HB5.out.size))
      clear hb6
      go_wp2
      go_ret
      exact ToldPost.of HFIN.out HB6.out
end Go.Proofs.YtjjoffadieoaaaaGreatDoor
namespace Go.Proofs.YtjjoffadieoaaaaGreatDoor
open Go.RowKit

theorem rd_at {w : World} {b o cc n : Nat} {cs : List CM} (h : RdC w (.slice (some ⟨b, o, none⟩) n cc) cs) {i : Nat} {c : CM} (hc : cs[i]? = some c) :
    w.cell? ⟨b, o + i * 3, none⟩ = some (.int .i64 c.op) ∧ w.cell? ⟨b, o + i * 3 + 1, none⟩ = some (.int .i64 c.a) ∧ w.cell? ⟨b, o + i * 3 + 2, none⟩ = some (bstr c.nm) := by
  obtain ⟨A, c', hv, hr⟩ := h
  obtain ⟨hi, rfl⟩ := List.getElem?_eq_some_iff.1 hc
  obtain ⟨b', o', rfl, e0, e1, e2⟩ := hr i hi
  simp only [Value.slice.injEq, Option.some.injEq, Addr.mk.injEq] at hv
  obtain ⟨⟨rfl, rfl, _⟩, _, _⟩ := hv
  exact ⟨e0, e1, e2⟩

/-- where the cells of a tree stand in a list -/
def Sits (cs : List CM) (p : Nat) (t : T) : Prop := ∃ A B, cs = A ++ post t ++ B ∧ A.length = p
theorem Sits.le {cs : List CM} {p : Nat} {t : T} (h : Sits cs p t) : p + (post t).length ≤ cs.length := by
  obtain ⟨A, B, rfl, rfl⟩ := h; rw [List.length_append, List.length_append]; omega
theorem Sits.beg {cs : List CM} {p : Nat} {t : T} (h : Sits cs p t) (ht : OkT t) : begN (cs.take (p + (post t).length - 1 + 1)).reverse 1 = p + (post t).length - 1 + 1 - p := by
  obtain ⟨A, B, rfl, rfl⟩ := h
  have h1 := post_pos t
  have e : A.length + (post t).length - 1 + 1 = (A ++ post t).length := by rw [List.length_append]; omega
  rw [e, List.take_left, List.reverse_append, beg_tree ht, if_pos rfl, List.length_append]; omega
theorem Sits.un {cs : List CM} {p : Nat} {o : Int} {t : T} (h : Sits cs p (.un o t)) : Sits cs p t := by
  obtain ⟨A, B, rfl, rfl⟩ := h
  exact ⟨A, opC o :: B, by simp [post], rfl⟩
theorem Sits.left {cs : List CM} {p : Nat} {o : Int} {l r : T} (h : Sits cs p (.bin o l r)) : Sits cs p l := by
  obtain ⟨A, B, rfl, rfl⟩ := h
  exact ⟨A, post r ++ opC o :: B, by simp [post], rfl⟩
theorem Sits.right {cs : List CM} {p : Nat} {o : Int} {l r : T} (h : Sits cs p (.bin o l r)) : Sits cs (p + (post l).length) r := by
  obtain ⟨A, B, rfl, rfl⟩ := h
  exact ⟨A ++ post l, opC o :: B, by simp [post], by simp⟩
def lastC : T → CM
  | .leaf c => c
  | .un o _ => opC o
  | .bin o _ _ => opC o
theorem Sits.last {cs : List CM} {p : Nat} {t : T} (h : Sits cs p t) : cs[p + (post t).length - 1]? = some (lastC t) := by
  obtain ⟨A, B, rfl, rfl⟩ := h
  cases t with
  | leaf c => simp [post, lastC]
  | un o t =>
    have e : A.length + (post (.un o t)).length - 1 = (A ++ post t).length := by simp [post]
    rw [e, show A ++ post (.un o t) ++ B = (A ++ post t) ++ (opC o :: B) by simp [post]]
    simp [lastC]
  | bin o l r =>
    have e : A.length + (post (.bin o l r)).length - 1 = (A ++ post l ++ post r).length := by simp [post]; omega
    rw [e, show A ++ post (.bin o l r) ++ B = (A ++ post l ++ post r) ++ (opC o :: B) by simp [post]]
    simp [lastC]

theorem txt_len {t : T} {k : Int} (h : OkT t) (h32 : (post t).length ≤ 32) : (txt k t).length ≤ 1000 := by
  have h1 := txt_top t k
  have h2 := text_len h
  omega
theorem txt_leaf {c : CM} {k : Int} (h : OkT (.leaf c)) (hk : k ≤ 6) : txt k (.leaf c) = (joinP c none0 none0).1 := by
  rw [txt_own (by rw [leaf_top h]; omega)]; rfl

theorem post_formed {t : T} (h : OkT t) : ∀ c ∈ post t, formedB c = true := by
  induction t with
  | leaf c => intro x hx; simp [post] at hx; subst hx; exact h.1
  | un o t ih =>
    intro x hx
    rcases List.mem_append.1 hx with hx | hx
    · exact ih h.2.2 x hx
    · simp at hx; subst hx; exact formed_opC ⟨h.1, by have := h.2.1; omega⟩
  | bin o l r ihl ihr =>
    intro x hx
    rcases List.mem_append.1 hx with hx | hx
    · rcases List.mem_append.1 hx with hx | hx
      · exact ihl h.2.2.1 x hx
      · exact ihr h.2.2.2 x hx
    · simp at hx; subst hx; exact formed_opC ⟨by have := h.1; omega, h.2.1⟩
theorem right_len {cs : List CM} (h : rightB cs = true) : cs.length ≤ 32 := by
  unfold rightB at h; simp at h; exact h.1

theorem told_all (t : T) : OkT t → ∀ (cs : List CM) (b o cc p : Nat) (k : Int) (w : World), RdC w (.slice (some ⟨b, o, none⟩) cs.length cc) cs → (∀ c ∈ cs, formedB c = true) → cs.length ≤ 32 → Sits cs p t → 0 ≤ k → k ≤ 6 →
    Calls Tryz.prog 45 #[.slice (some ⟨b, o, none⟩) cs.length cc, .int .i64 ((p + (post t).length - 1 : Nat) : Int), .int .i64 k] w (ToldPost (txt k t) w) := by
  induction t with
  | leaf c =>
    intro ht cs b o cc p k w hR hF hl hS hk0 hk6
    have hle := hS.le
    have hp := post_pos (.leaf c)
    have hla := hS.last
    obtain ⟨d0, d1, d2⟩ := rd_at hR hla
    have hf := ht.1
    rw [txt_leaf ht hk6]
    have h16 : 1 ≤ c.op ∧ c.op ≤ 6 := by
      have h1 := formed_op ht.1
      have ho := ht.2
      unfold operN at ho
      split at ho
      · assumption
      · split at ho <;> omega
    have hc : c.op = 1 ∨ c.op = 2 ∨ c.op = 3 ∨ c.op = 4 ∨ c.op = 5 ∨ c.op = 6 := by omega
    obtain ⟨op, a, nm⟩ := c
    simp only at d0 d1 d2 hf hc
    rcases hc with rfl | rfl | rfl | rfl | rfl | rfl
    · exact told_1 a nm b o _ cc _ k w (by omega) hk6 hf d0 d1 d2
    · exact told_2 a nm b o _ cc _ k w (by omega) hk6 hf d0 d1 d2
    · exact told_3 a nm b o _ cc _ k w (by omega) hk6 hf d0 d1 d2
    · exact told_4 a nm b o _ cc _ k w (by omega) hk6 hf d0 d1 d2
    · exact told_5 a nm b o _ cc _ k w (by omega) hk6 hf d0 d1 d2
    · exact told_6 a nm b o _ cc _ k w (by omega) hk6 hf d0 d1 d2
  | un o' t ih =>
    intro ht cs b o cc p k w hR hF hl hS hk0 hk6
    have hle := hS.le
    have hla := hS.last
    obtain ⟨d0, d1, d2⟩ := rd_at hR hla
    have hpt := post_pos t
    have hlen : (post (.un o' t)).length = (post t).length + 1 := by simp [post]
    have hx0 : ∀ j, (txt j t).length ≤ 1000 := fun j => txt_len ht.2.2 (by omega)
    have hin : ∀ (j : Int) (W : World), 0 ≤ j → j ≤ 6 → Below w.heap.size w W → Calls Tryz.prog 45 #[.slice (some ⟨b, o, none⟩) cs.length cc, .int .i64 (((p + (post (.un o' t)).length - 1 : Nat) : Int) - 1), .int .i64 j] W (ToldPost (txt j t) W) := by
      intro j W hj0 hj6 hW
      have := ih ht.2.2 cs b o cc p j W (hR.below hW) hF hl hS.un hj0 hj6
      rw [show ((p + (post t).length - 1 : Nat) : Int) = ((p + (post (.un o' t)).length - 1 : Nat) : Int) - 1 by omega] at this
      exact this
    have hf : formedB (opC o') = true := formed_opC ⟨ht.1, by have := ht.2.1; omega⟩
    have hst := strength ht.2.2
    have h78 : o' = 7 ∨ o' = 8 ∨ o' = 9 ∨ o' = 10 := by have := ht.1; have := ht.2.1; omega
    rcases h78 with rfl | rfl | rfl | rfl
    · rw [txt_own (t := .un 7 t) (by show k ≤ 6; omega)]
      exact told_7 0 [] b o _ cc _ k w (by omega) hk6 hf d0 d1 d2 (by omega) hl _ (hx0 6) (fun W hW => hin 6 W (by omega) (by omega) hW)
    · rw [txt_own (t := .un 8 t) (by show k ≤ 6; omega)]
      exact told_8 0 [] b o _ cc _ k w (by omega) hk6 hf d0 d1 d2 (by omega) hl _ (hx0 6) (fun W hW => hin 6 W (by omega) (by omega) hW)
    · rw [txt_own (t := .un 9 t) (by show k ≤ 7; omega)]
      have e : (pcT (.un 9 t)).1 = [114, 101, 40] ++ txt 0 t ++ [41] := by rw [txt_own (t := t) (by omega)]; rfl
      rw [e]
      exact told_9 0 [] b o _ cc _ k w (by omega) hk6 hf d0 d1 d2 (by omega) hl _ (hx0 0) (fun W hW => hin 0 W (by omega) (by omega) hW)
    · rw [txt_own (t := .un 10 t) (by show k ≤ 7; omega)]
      have e : (pcT (.un 10 t)).1 = [105, 109, 40] ++ txt 0 t ++ [41] := by rw [txt_own (t := t) (by omega)]; rfl
      rw [e]
      exact told_10 0 [] b o _ cc _ k w (by omega) hk6 hf d0 d1 d2 (by omega) hl _ (hx0 0) (fun W hW => hin 0 W (by omega) (by omega) hW)
  | bin o' l r ihl ihr =>
    intro ht cs b o cc p k w hR hF hl hS hk0 hk6
    have hle := hS.le
    have hla := hS.last
    obtain ⟨d0, d1, d2⟩ := rd_at hR hla
    have hpl := post_pos l; have hpr := post_pos r
    have hlen : (post (.bin o' l r)).length = (post l).length + (post r).length + 1 := by simp [post]; omega
    obtain ⟨j, hj, rfl⟩ : ∃ j : Nat, j < 13 ∧ o' = (j : Int) + 11 := ⟨(o' - 11).toNat, by have := ht.1; have := ht.2.1; omega, by have := ht.1; omega⟩
    have hf : formedB (opC ((j : Int) + 11)) = true := formed_opC ⟨by omega, by omega⟩
    obtain ⟨_, ht1, ht5⟩ := tab_first j hj
    have e : pcT (.bin ((j : Int) + 11) l r) = (txt (if (tabAt j).2.2 = 3 then 4 else (tabAt j).2.2) l ++ (tabAt j).2.1 ++ txt ((tabAt j).2.2 + 1) r, (tabAt j).2.2) := by
      show joinP (opC ((j : Int) + 11)) (pcT l) (pcT r) = _
      rw [joinP_bin ht.1, show ((j : Int) + 11 - 11).toNat = j by omega]
      unfold betP txt
      by_cases h3 : (tabAt j).2.2 = 3
      · rw [if_pos h3, if_pos h3, h3]; rfl
      · rw [if_neg h3, if_neg h3]
    show Calls _ _ _ _ (ToldPost (inP (pcT (.bin ((j : Int) + 11) l r)).1 (pcT (.bin ((j : Int) + 11) l r)).2 k) w)
    rw [e]
    refine told_two j hj 0 [] b o _ cc _ (p + (post l).length) k w (by omega) hf d0 d1 d2 (by omega) (by omega) (by omega) hl _ _ (txt_len ht.2.2.1 (by omega)) (txt_len ht.2.2.2 (by omega)) ?_ ?_ ?_
    · intro W hW
      have hb := hS.right.beg ht.2.2.2
      have := begin_any _ cs W (hR.below hW) hF hl (p + (post l).length) (p + (post l).length + (post r).length - 1) (by omega) (by omega) hb
      rw [show ((p + (post l).length + (post r).length - 1 : Nat) : Int) = ((p + (post (.bin ((j : Int) + 11) l r)).length - 1 : Nat) : Int) - 1 by omega] at this
      exact this
    · intro W hW
      have := ihl ht.2.2.1 cs b o cc p (if (tabAt j).2.2 = 3 then 4 else (tabAt j).2.2) W (hR.below hW) hF hl hS.left (by split <;> omega) (by split <;> omega)
      rw [show ((p + (post l).length - 1 : Nat) : Int) = ((p + (post l).length : Nat) : Int) - 1 by omega] at this
      exact this
    · intro W hW
      have := ihr ht.2.2.2 cs b o cc (p + (post l).length) ((tabAt j).2.2 + 1) W (hR.below hW) hF hl hS.right (by omega) (by omega)
      rw [show ((p + (post l).length + (post r).length - 1 : Nat) : Int) = ((p + (post (.bin ((j : Int) + 11) l r)).length - 1 : Nat) : Int) - 1 by omega] at this
      exact this

set_option maxRecDepth 100000 in
set_option maxHeartbeats 2000000 in
theorem refShow_any (v : Value) (cs : List CM) (w : World) (hR : RdC w v cs) (hl : cs.length ≤ 4611686018427387904) (hN : Names cs) :
    Calls Tryz.prog 26 #[v] w fun e w' => e = .returned (.tuple #[bstr (showP cs).1, .int .i64 (showP cs).2]) ∧ Below w.heap.size w w' := by
  have HRR := Lib.hid (refRight_any v cs w hR hl hN)
  cases hB : rightB cs
  · have HS : Hid (showP cs = ([], 1)) := show_no hB
    obtain ⟨A, c, rfl, _⟩ := hR
    have HBB := Lib.hid hB
    clear hB
    go_enter Tryz.func26, Tryz.ntmps26
    go_wp2_with fail
    refine HRR.out.mono ?_
    rintro e w1 ⟨rfl, hb1⟩
    rw [HBB.out]
    have HB1 := Lib.hid hb1; clear hb1
    go_wp2
    go_ret2
    exact ⟨by rw [HS.out]; rfl, HB1.out⟩
  · obtain ⟨t, ht, hcs⟩ := right_tree hB
    have hF : ∀ c ∈ cs, formedB c = true := by rw [← hcs]; exact post_formed ht
    have hpos := post_pos t
    have hcl : cs.length = (post t).length := by rw [hcs]
    have h32 : (post t).length ≤ 32 := by have := right_len hB; omega
    have HS : Hid (showP cs = (txt 0 t, 0)) := by
      rw [← hcs]
      have := tree_show ht h32
      rw [txt_own (t := t) (by have := strength ht; omega)]
      exact this
    obtain ⟨A, c, rfl, hr⟩ := hR
    obtain ⟨b, o, rfl, hr0⟩ := hr 0 (by omega)
    clear hr0
    have HT : Hid (∀ W, Below w.heap.size w W → Calls Tryz.prog 45 #[.slice (some ⟨b, o, none⟩) cs.length c, .int .i64 ((cs.length : Int) - 1), .int .i64 0] W (ToldPost (txt 0 t) W)) := by
      intro W hW
      have := told_all t ht cs b o c 0 0 W (RdC.below ⟨_, _, rfl, hr⟩ hW) hF (by omega) ⟨[], [], by simp [hcs], rfl⟩ (by omega) (by omega)
      rw [show ((0 + (post t).length - 1 : Nat) : Int) = (cs.length : Int) - 1 by omega] at this
      exact this
    have HBB := Lib.hid hB
    have hl2 : cs.length ≤ 32 := by omega
    clear hB hcs hF hr ht h32 hcl hl hN
    generalize cs.length = n at *
    go_enter Tryz.func26, Tryz.ntmps26
    go_wp2_with fail
    refine HRR.out.mono ?_
    rintro e w1 ⟨rfl, hb1⟩
    rw [HBB.out]
    have HB1 := Lib.hid hb1; clear hb1
    go_wp2_with fail
    refine (HT.out _ HB1.out).mono ?_
    rintro e w2 ⟨rfl, hb2⟩
    have HB2 := Lib.hid (HB1.out.trans (hb2.mono HB1.out.size)); clear hb2
    go_wp2
    go_ret2
    exact ⟨by rw [HS.out]; rfl, HB2.out⟩

end Go.Proofs.YtjjoffadieoaaaaGreatDoor
namespace Go.Proofs.YtjjoffadieoaaaaGreatDoor
open Go.RowKit

theorem all_take {α : Type} {p : α → Bool} {l : List α} {k : Nat} (hk : k < l.length) (h : (l.take k).all p = true) : (l.take (k + 1)).all p = p l[k] := by
  rw [List.take_succ_eq_append_getElem hk, List.all_append, h]; simp
theorem all_miss {α : Type} {p : α → Bool} {l : List α} {k : Nat} (hk : k < l.length) (h : p l[k] = false) : l.all p = false :=
  List.all_eq_false.2 ⟨_, List.getElem_mem hk, by simp [h]⟩
theorem join_next {l : List (List UInt8)} {k : Nat} {t : List UInt8} (h : l[k]? = some t) : Lib.join (l.take (k + 1)) [59] = (if k = 0 then [] else Lib.join (l.take k) [59] ++ [59]) ++ t := by
  cases l with
  | nil => simp at h
  | cons x r =>
    cases k with
    | zero => simp at h; subst h; simp [Lib.join_one]
    | succ k =>
      rw [if_neg (by omega), List.take_succ_cons, List.take_succ_cons, Lib.join_cons, Lib.join_cons, Lib.joinTail_take_succ [59] r k t (by simpa using h)]
      simp [List.append_assoc]

set_option maxRecDepth 100000 in
set_option maxHeartbeats 4000000 in
theorem refRight6_any (v : Value) (ps : List AP) (w : World) (hR : RdA w v ps) (hl : ps.length ≤ 4611686018427387904) :
    Calls Tryz.prog 14 #[v] w fun e w' => e = .returned (.bool (rightA (ps.map Prod.fst))) ∧ Below w.heap.size w w' := by
  obtain ⟨A, c, rfl⟩ := hR.form
  have HR := Lib.hid hR; clear hR
  have hr : rightA (ps.map Prod.fst) = (decide (1 ≤ ps.length ∧ ps.length ≤ 8) && ps.all (fun p => oneB p.1)) := by
    unfold rightA; rw [List.length_map, List.all_map]; rfl
  rw [hr]
  obtain ⟨n, hn⟩ : ∃ n, ps.length = n := ⟨_, rfl⟩
  have HN := Lib.hid hn
  rw [hn] at hl HR ⊢
  clear hn hr
  have HB0 : Hid (Below w.heap.size w w) := Below.refl _ _
  by_cases h1 : 1 ≤ n
  rotate_left
  · have hd : decide (1 ≤ n ∧ n ≤ 8) = false := decide_eq_false (by omega)
    rw [hd, Bool.false_and]
    have h1' : (n : Int) < 1 := by omega
    clear hd
    go_enter Tryz.func14, Tryz.ntmps14
    go_wp2
    go_ret
    exact ⟨rfl, HB0.out⟩
  by_cases h8 : n ≤ 8
  rotate_left
  · have hd : decide (1 ≤ n ∧ n ≤ 8) = false := decide_eq_false (by omega)
    rw [hd, Bool.false_and]
    have h1' : ¬ (n : Int) < 1 := by omega
    have h8' : (8 : Int) < (n : Int) := by omega
    clear hd
    go_enter Tryz.func14, Tryz.ntmps14
    go_wp2
    go_ret
    exact ⟨rfl, HB0.out⟩
  have hd : decide (1 ≤ n ∧ n ≤ 8) = true := decide_eq_true ⟨h1, h8⟩
  rw [hd, Bool.true_and]
  have h1' : ¬ (n : Int) < 1 := by omega
  have h8' : ¬ (8 : Int) < (n : Int) := by omega
  clear hd
  go_enter Tryz.func14, Tryz.ntmps14
  go_wp2
  go_loopw [2, 3] (fun x i wr => x = .bool false ∧ ∃ k : Nat, k ≤ n ∧ Hid ((ps.take k).all (fun p => oneB p.1) = true) ∧ Below w.heap.size w wr ∧ i = .int .i64 k) (fun _ i _ => n - (intOf i).toNat)
  case atStart => exact ⟨rfl, 0, by omega, rfl, HB0.out, rfl⟩
  case round =>
    obtain ⟨rfl, k, hk, HT, hb, rfl⟩ := hrel
    have HBW := Lib.hid hb
    by_cases hkn : k < n
    · have hkc : k < ps.length := by rw [HN.out]; exact hkn
      obtain ⟨b, o, rfl, _, c0, c1, c2, hA⟩ := (HR.out.below hb).at_ hkc
      have hat := all_take hkc HT.out
      have hmiss := all_miss (p := fun p : AP => oneB p.1) hkc
      generalize ps[k] = x at *
      obtain ⟨⟨xk, xn, xe⟩, xv⟩ := x
      obtain ⟨X, hX, hXl⟩ := bstr_some xn
      simp only at c0 c1 c2 hat hmiss
      rw [hX] at c1
      have hA1 := hA.rd
      have hA2 := hA.len
      have hA3 := hA.names
      have hA4 := hA.name
      simp only at hA1 hA2 hA3 hA4
      clear hA hb
      obtain ⟨Ax, cx, rfl⟩ := hA1.slice
      have hO := refOne_any xk X _ xe wr hA1 hA2 hA3 (by rw [Lib.size_eq, hXl]; omega)
      rw [hXl] at hO
      cases ho : oneB ⟨xk, xn, xe⟩ with
      | false =>
        rw [ho] at hO
        have HO := Lib.hid hO
        have HL := Lib.hid (hmiss ho)
        clear hat hmiss hO hA1 hA2 hA3 hA4 hX hXl ho
        go_wp2_with fail
        refine HO.out.mono ?_
        rintro e w1 ⟨rfl, hb1⟩
        have HB1 := Lib.hid (HBW.out.trans (hb1.mono HBW.out.size)); clear hb1
        go_wp2
        go_ret
        exact ⟨ret_bool HL.out.symm, HB1.out⟩
      | true =>
        rw [ho] at hO
        have HO := Lib.hid hO
        have HL := Lib.hid (hat.trans ho)
        clear hat hmiss hO hA1 hA2 hA3 hA4 hX hXl ho
        go_wp2_with fail
        refine HO.out.mono ?_
        rintro e w1 ⟨rfl, hb1⟩
        have HB1 := Lib.hid (HBW.out.trans (hb1.mono HBW.out.size)); clear hb1
        go_wp2
        go_roundw
        case rel => exact ⟨rfl, k + 1, by omega, HL.out, HB1.out, by go_num⟩
        case measure => simp [intOf]; omega
    · obtain rfl : k = n := by omega
      have HL : Hid (ps.all (fun p => oneB p.1) = true) := by
        have h := HT.out
        rw [List.take_of_length_le (by rw [HN.out]; exact Nat.le_refl _)] at h
        exact h
      go_wp2
      go_ret
      exact ⟨ret_bool HL.out.symm, HBW.out⟩

set_option maxRecDepth 100000 in
set_option maxHeartbeats 8000000 in
theorem refShow6_any (v : Value) (ps : List AP) (w : World) (hR : RdA w v ps) (hl : ps.length ≤ 4611686018427387904) :
    Calls Tryz.prog 11 #[v] w (ShowAPost (ps.map Prod.fst) w) := by
  have HR := Lib.hid (refRight6_any v ps w hR hl)
  have HRD := Lib.hid hR
  obtain ⟨A, c, rfl⟩ := hR.form
  cases hr : rightA (ps.map Prod.fst) with
  | false =>
    have hs : showA (ps.map Prod.fst) = ([], 1) := if_neg (by rw [hr]; decide)
    rw [hr] at HR
    have HS := Lib.hid hs
    clear hs hr hR HRD
    go_enter Tryz.func11, Tryz.ntmps11
    go_wp2_with fail
    refine HR.out.mono ?_
    rintro e w1 ⟨rfl, hb⟩
    have HB := Lib.hid hb
    clear hb
    go_wp2
    go_ret2
    refine ⟨?_, HB.out⟩
    rw [HS.out]; rfl
  | true =>
    have hs : showA (ps.map Prod.fst) = (Lib.join ((ps.map Prod.fst).map textA) [59], 0) := if_pos hr
    rw [hr] at HR
    have hr' := hr
    unfold rightA at hr'
    simp only [Bool.and_eq_true, decide_eq_true_eq, List.length_map] at hr'
    obtain ⟨⟨hn1, hn8⟩, hall⟩ := hr'
    have HALL : Hid (∀ p ∈ ps, oneB p.1 = true) := fun p hp => List.all_eq_true.1 hall _ (List.mem_map.2 ⟨p, hp, rfl⟩)
    have HS := Lib.hid hs
    obtain ⟨n, hn⟩ : ∃ n, ps.length = n := ⟨_, rfl⟩
    have HN := Lib.hid hn
    obtain ⟨ts, hts⟩ : ∃ ts, (ps.map Prod.fst).map textA = ts := ⟨_, rfl⟩
    have htat : ∀ (k : Nat) (h : k < ps.length), ts[k]? = some (textA ps[k].1) := fun k h => by rw [← hts, List.getElem?_map, fst_at h]; rfl
    have htl : ts.length = n := by rw [← hts, List.length_map, List.length_map, hn]
    have HTX : Hid (∀ t ∈ ts, t.length ≤ 587) := by
      intro t ht
      rw [← hts] at ht
      obtain ⟨a, ha, rfl⟩ := List.mem_map.1 ht
      obtain ⟨p, hp, rfl⟩ := List.mem_map.1 ha
      exact textA_len (HALL.out p hp)
    rw [hts] at HS
    have HAT := Lib.hid htat; have HTL := Lib.hid htl
    rw [hn] at hn1 hn8 HR HRD ⊢
    clear hs hr hR hall hn hl hts htat htl
    go_enter Tryz.func11, Tryz.ntmps11
    go_wp2_with fail
    refine HR.out.mono ?_
    rintro e w0 ⟨rfl, hb0⟩
    have HB0 := Lib.hid hb0
    have HRD0 := Lib.hid (HRD.out.below hb0)
    clear hb0 HRD HR
    go_wp2
    go_loopw [4, 5] (fun x i wr => ∃ (k : Nat) (S : ByteArray), k ≤ n ∧ x = .string S ∧ Hid (S.data.toList = Lib.join (ts.take k) [59]) ∧ Below w0.heap.size w0 wr ∧ i = .int .i64 k) (fun _ i _ => n - (intOf i).toNat)
    case atStart => exact ⟨0, ⟨#[]⟩, by omega, rfl, rfl, Below.refl _ _, rfl⟩
    case round =>
      obtain ⟨k, S, hk, rfl, HS1, hb, rfl⟩ := hrel
      have HBW := Lib.hid hb
      by_cases hkn : k < n
      · have hkc : k < ps.length := by rw [HN.out]; exact hkn
        obtain ⟨b, o, rfl, _, c0, c1, c2, hA⟩ := (HRD0.out.below hb).at_ hkc
        have hnx := join_next (HAT.out k hkc)
        have hone := HALL.out _ (List.getElem_mem hkc)
        generalize ps[k] = x at *
        obtain ⟨⟨xk, xn, xe⟩, xv⟩ := x
        obtain ⟨X, hX, hXl⟩ := bstr_some xn
        simp only at c0 c1 c2 hnx hone
        rw [hX] at c1
        have hA1 := hA.rd
        have hA2 := hA.len
        have hA3 := hA.names
        simp only at hA1 hA2 hA3
        clear hA hb
        obtain ⟨Ax, cx, rfl⟩ := hA1.slice
        have hj := join_len (ts.take k) (fun t ht => HTX.out t (List.mem_of_mem_take ht))
        have hSz : S.size ≤ 5000 := by
          rw [List.length_take] at hj
          rw [Lib.size_eq, HS1.out]; omega
        clear hj
        have HNX := Lib.hid hnx
        have HXL := Lib.hid hXl
        have HC := Lib.hid (refShow_any _ xe wr hA1.rd (by omega) hA3)
        have HW0 : Hid (k = 0 → Hid (S.data.toList = (if k = 0 then [] else Lib.join (ts.take k) [59] ++ [59]))) := fun h => by
          show _ = _
          rw [HS1.out, if_pos h, h]; rfl
        have HW1 : Hid (¬ k = 0 → Hid ((S ++ ⟨#[59]⟩ : ByteArray).data.toList = (if k = 0 then [] else Lib.join (ts.take k) [59] ++ [59]))) := fun h => by
          show _ = _
          rw [if_neg h, ← HS1.out]; simp
        rcases one_kinds hone with ⟨hk1, hnm, hr, _⟩ | ⟨hk1, hev, _⟩
        · simp only at hk1 hnm hr
          subst hk1
          have hXz : X.size ≤ 12 := by have := name_len hnm; rw [Lib.size_eq, hXl]; omega
          have hYz : (⟨(showP xe).1.toArray⟩ : ByteArray).size ≤ 574 := by rw [Lib.size_eq]; exact show_len hr
          clear hnm
          have HNW : Hid (∀ Z : ByteArray, Hid (Z.data.toList = (if k = 0 then [] else Lib.join (ts.take k) [59] ++ [59])) → Hid ((Z ++ (X ++ ⟨#[61]⟩ ++ ⟨(showP xe).1.toArray⟩) : ByteArray).data.toList = Lib.join (ts.take (k + 1)) [59])) := fun Z h => by
            show _ = _
            rw [HNX.out, ← h.out]
            simp [textA, HXL.out]
          unfold bstr at HC
          clear hnx hone hX hXl hA1 hA2 hA3 hr
          generalize (showP xe).2 = q at *
          generalize (⟨(showP xe).1.toArray⟩ : ByteArray) = Y at *
          generalize xe.length = m at *
          by_cases hk0 : k = 0
          · have hk0i : ¬ (0 : Int) < (k : Int) := by omega
            have HV := Lib.hid (HNW.out _ (HW0.out hk0))
            clear hk0
            go_wp2_with fail
            refine HC.out.mono ?_
            rintro e w1 ⟨rfl, hb1⟩
            have e1 := (hb1.cell (cell_lt c1)).trans c1
            have HB1 := Lib.hid (HBW.out.trans (hb1.mono HBW.out.size)); clear hb1
            go_wp2
            go_roundw
            case rel => exact ⟨k + 1, _, by omega, rfl, HV.out, HB1.out, by go_num⟩
            case measure => simp [intOf]; omega
          · have hk0i : (0 : Int) < (k : Int) := by omega
            have HV := Lib.hid (HNW.out _ (HW1.out hk0))
            clear hk0
            go_wp2_with fail
            refine HC.out.mono ?_
            rintro e w1 ⟨rfl, hb1⟩
            have e1 := (hb1.cell (cell_lt c1)).trans c1
            have HB1 := Lib.hid (HBW.out.trans (hb1.mono HBW.out.size)); clear hb1
            go_wp2
            go_roundw
            case rel => exact ⟨k + 1, _, by omega, rfl, HV.out, HB1.out, by go_num⟩
            case measure => simp [intOf]; omega
        · have hkk := hk1
          simp only at hkk hev
          have hXz : X.size ≤ 17 := by have := event_len hev; rw [Lib.size_eq, hXl]; omega
          clear hev hk1 hnx hone hX hXl hA1 hA2 hA3 HC
          rcases hkk with rfl | rfl
          · have HNW : Hid (∀ Z : ByteArray, Hid (Z.data.toList = (if k = 0 then [] else Lib.join (ts.take k) [59] ++ [59])) → Hid ((Z ++ ((⟨#[114, 97, 105, 115, 101, 58]⟩ : ByteArray) ++ X) : ByteArray).data.toList = Lib.join (ts.take (k + 1)) [59])) := fun Z h => by
              show _ = _
              rw [HNX.out, ← h.out]
              simp [textA, wRaise, HXL.out]
            generalize xe.length = m at *
            by_cases hk0 : k = 0
            · have hk0i : ¬ (0 : Int) < (k : Int) := by omega
              have HV := Lib.hid (HNW.out _ (HW0.out hk0))
              clear hk0
              have HB1 := Lib.hid HBW.out
              go_wp2
              go_roundw
              case rel => exact ⟨k + 1, _, by omega, rfl, HV.out, HB1.out, by go_num⟩
              case measure => simp [intOf]; omega
            · have hk0i : (0 : Int) < (k : Int) := by omega
              have HV := Lib.hid (HNW.out _ (HW1.out hk0))
              clear hk0
              have HB1 := Lib.hid HBW.out
              go_wp2
              go_roundw
              case rel => exact ⟨k + 1, _, by omega, rfl, HV.out, HB1.out, by go_num⟩
              case measure => simp [intOf]; omega
          · have HNW : Hid (∀ Z : ByteArray, Hid (Z.data.toList = (if k = 0 then [] else Lib.join (ts.take k) [59] ++ [59])) → Hid ((Z ++ ((⟨#[115, 101, 110, 100, 58]⟩ : ByteArray) ++ X) : ByteArray).data.toList = Lib.join (ts.take (k + 1)) [59])) := fun Z h => by
              show _ = _
              rw [HNX.out, ← h.out]
              simp [textA, wSend, HXL.out]
            generalize xe.length = m at *
            by_cases hk0 : k = 0
            · have hk0i : ¬ (0 : Int) < (k : Int) := by omega
              have HV := Lib.hid (HNW.out _ (HW0.out hk0))
              clear hk0
              have HB1 := Lib.hid HBW.out
              go_wp2
              go_roundw
              case rel => exact ⟨k + 1, _, by omega, rfl, HV.out, HB1.out, by go_num⟩
              case measure => simp [intOf]; omega
            · have hk0i : (0 : Int) < (k : Int) := by omega
              have HV := Lib.hid (HNW.out _ (HW1.out hk0))
              clear hk0
              have HB1 := Lib.hid HBW.out
              go_wp2
              go_roundw
              case rel => exact ⟨k + 1, _, by omega, rfl, HV.out, HB1.out, by go_num⟩
              case measure => simp [intOf]; omega
      · obtain rfl : k = n := by omega
        have hS := HS1.out
        rw [List.take_of_length_le (by rw [HTL.out]; exact Nat.le_refl _)] at hS
        have HF := Lib.hid (str_of hS)
        have HBF := Lib.hid (HB0.out.trans (HBW.out.mono HB0.out.size))
        clear hS hb
        go_wp2
        go_ret2
        refine ⟨?_, HBF.out⟩
        rw [HS.out, ← HF.out]; rfl
end Go.Proofs.YtjjoffadieoaaaaGreatDoor
namespace Go.Proofs.YtjjoffadieoaaaaGreatDoor
open Go.RowKit

set_option maxRecDepth 100000 in
set_option maxHeartbeats 8000000 in
theorem actsShows_law (vl : Value) (ps : List AP) (w : World) (hA : RdA w vl ps) (hpl : ps.length * 48 ≤ 140737488355328) (hO : Ops w) (hL : Laid w) (hM : ML w) :
    Calls Tryz.prog 3 #[vl] w fun e w' => e = .returned (.bool true) ∧ Below w.heap.size w w' := by
  have HWK : Hid (∀ W, Below w.heap.size w W → Calls Tryz.prog 12 #[] W fun e w' => e = .returned (.bool true) ∧ Below W.heap.size W w') := fun W hb => wakes6_any W (hO.below hb) (hM.below hb)
  have HCP : Hid (∀ W, Below w.heap.size w W → Calls Tryz.prog 10 #[vl] W (CopyPost ps W)) := fun W hb => copied6_any vl ps W (hA.below hb) hpl
  obtain ⟨X, hX, _⟩ := bstr_some (showA (ps.map Prod.fst)).1
  have HSH : Hid (∀ W v (qs : List AP), Below w.heap.size w W → RdA W v qs → qs.map Prod.fst = ps.map Prod.fst → Calls Tryz.prog 9 #[v] W fun e w' => e = .returned (.tuple #[.string X, .int .i64 (showA (ps.map Prod.fst)).2]) ∧ Below W.heap.size W w') := fun W v qs hb h h2 => by
    have h3 := aShow_any v qs W h (by have := congrArg List.length h2; simp at this; omega) (hO.below hb) (hL.below hb)
    rw [h2] at h3
    unfold ShowAPost at h3
    rw [hX] at h3
    exact h3
  have HRS : Hid (∀ W, Below w.heap.size w W → Calls Tryz.prog 11 #[vl] W fun e w' => e = .returned (.tuple #[.string X, .int .i64 (showA (ps.map Prod.fst)).2]) ∧ Below W.heap.size W w') := fun W hb => by
    have h3 := refShow6_any vl ps W (hA.below hb) (by omega)
    unfold ShowAPost at h3
    rw [hX] at h3
    exact h3
  have HRT : Hid (∀ W v (qs : List AP), RdA W v qs → qs.map Prod.fst = ps.map Prod.fst → Calls Tryz.prog 13 #[v] W fun e w' => e = .returned (.bool (rightA (ps.map Prod.fst))) ∧ Below W.heap.size W w') := fun W v qs h h2 => by
    have h3 := aRight_any v qs W h (by have := congrArg List.length h2; simp at this; omega)
    rw [h2] at h3
    exact h3
  have HRR : Hid (∀ W, Below w.heap.size w W → Calls Tryz.prog 14 #[vl] W fun e w' => e = .returned (.bool (rightA (ps.map Prod.fst))) ∧ Below W.heap.size W w') := fun W hb => refRight6_any vl ps W (hA.below hb) (by omega)
  have HB0 : Hid (Below w.heap.size w w) := Below.refl _ _
  obtain ⟨P, pc, rfl⟩ := hA.form
  clear hA hO hL hM hX
  generalize (showA (ps.map Prod.fst)).2 = er at *
  generalize rightA (ps.map Prod.fst) = rb at *
  go_enter Tryz.func3, Tryz.ntmps3
  go_wp2_with fail
  refine (HCP.out w HB0.out).mono ?_
  rintro e w2 ⟨v2, qs, rfl, hq, ho, ha, hb2⟩
  have HB2 := Lib.hid (HB0.out.trans hb2)
  have HS := Lib.hid (HSH.out w2 v2 qs HB2.out ⟨Inn.of_own ho, ha⟩ hq)
  clear hb2 hq ho ha
  go_wp2_with fail
  refine HS.out.mono ?_
  rintro e w3 ⟨rfl, hb3⟩
  have HB3 := Lib.hid (HB2.out.trans (hb3.mono HB2.out.size))
  clear hb3
  go_wp2_with fail
  refine (HRS.out w3 HB3.out).mono ?_
  rintro e w4 ⟨rfl, hb4⟩
  have HB4 := Lib.hid (HB3.out.trans (hb4.mono HB3.out.size))
  clear hb4
  go_wp2_with fail
  refine (HWK.out w4 HB4.out).mono ?_
  rintro e w5 ⟨rfl, hb5⟩
  have HB5 := Lib.hid (HB4.out.trans (hb5.mono HB4.out.size))
  clear hb5
  go_wp2_with fail
  refine (HCP.out w5 HB5.out).mono ?_
  rintro e w6 ⟨v6, rs, rfl, hq, ho, ha, hb6⟩
  have HB6 := Lib.hid (HB5.out.trans (hb6.mono HB5.out.size))
  have HR6 := Lib.hid (HRT.out w6 v6 rs ⟨Inn.of_own ho, ha⟩ hq)
  clear hb6 hq ho ha
  go_wp2_with fail
  refine HR6.out.mono ?_
  rintro e w7 ⟨rfl, hb7⟩
  have HB7 := Lib.hid (HB6.out.trans (hb7.mono HB6.out.size))
  clear hb7
  go_wp2_with fail
  refine (HRR.out w7 HB7.out).mono ?_
  rintro e w8 ⟨rfl, hb8⟩
  have HB8 := Lib.hid (HB7.out.trans (hb8.mono HB7.out.size))
  clear hb8
  go_wp2
  go_ret
  exact ⟨rfl, HB8.out⟩
end Go.Proofs.YtjjoffadieoaaaaGreatDoor
