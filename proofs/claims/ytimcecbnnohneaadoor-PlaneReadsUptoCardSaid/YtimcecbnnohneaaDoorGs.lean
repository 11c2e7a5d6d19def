/- plane.guess and plane.Read at every text. -/
import Derived.Test.YtimcecbnnohneaaDoorSh
namespace Go.Proofs.YtimcecbnnohneaaDoor
open Go.RowKit

theorem indexAny_lt (chars : List UInt8) : ∀ l : List UInt8, Lib.indexAny l chars < l.length ∨ l = []
  | [] => Or.inr rfl
  | b :: l => by
    refine Or.inl ?_
    rw [Lib.indexAny]
    split
    · simp
    · split
      · simp; omega
      · rcases indexAny_lt chars l with h | h
        · simp; omega
        · subst h; simp [Lib.indexAny] at *

/-- what the index of a sign is good for -/
structure Ix (l : List UInt8) (k : Int) : Prop where
  lo : -1 ≤ k
  hi : k < l.length ∨ k = -1
  just : k = Lib.indexAny l [43, 45] ∨ ∃ c ∈ l, 128 ≤ c.toNat

def IxPost (l : List UInt8) (w : World) (e : Ending) (w' : World) : Prop := ∃ k : Int, Ix l k ∧ e = .returned (.int .i64 k) ∧ Below w.heap.size w w'

theorem hv61 : ∀ w, (zeroValue 61).run Tryd.prog w = .ok (.agg (Array.replicate 256 (.bool false))) w := by intro w; kernel_rfl

theorem ix_exact (l : List UInt8) : Ix l (Lib.indexAny l [43, 45]) :=
  ⟨Lib.indexAny_ge _ _, (indexAny_lt [43, 45] l).imp id (fun h => by subst h; rfl), Or.inl rfl⟩

theorem index_all (s : ByteArray) (w : World) (hs : s.size < 4294967281) :
    Calls Tryd.prog 16 #[.string s, .string ⟨#[43, 45]⟩] w (IxPost s.data.toList w) := by
  have hpm : ∀ (j : Nat) b, (⟨#[43, 45]⟩ : ByteArray).data.toList[j]? = some b → b.toNat < 128 := by
    intro j b hj
    have := List.mem_of_getElem? hj
    simp at this
    rcases this with rfl | rfl <;> decide
  by_cases h8 : 8 < s.size
  · refine (Tryd.strings_IndexAny_long hv61 s ⟨#[43, 45]⟩ w (by decide) h8 hs (by decide) hpm).mono ?_
    rintro e w' ⟨rfl, rfl⟩
    exact ⟨_, ix_exact _, rfl, ((Below.refl _ _).alloc (Nat.le_refl _) _).alloc (by simp) _⟩
  · by_cases ha : ∀ c ∈ s.data.toList, c.toNat < 128
    · refine (Tryd.strings_IndexAny_short s ⟨#[43, 45]⟩ w (by decide) (by omega) (fun j b hj => ha b (List.mem_of_getElem? hj))).mono ?_
      rintro e w' ⟨rfl, pos, rfl⟩
      exact ⟨_, ix_exact _, rfl, (Below.refl _ _).alloc (Nat.le_refl _) _⟩
    · refine (indexAny_any s w (by omega)).mono ?_
      rintro e w' ⟨k, h1, h2, rfl, hb⟩
      refine ⟨k, ⟨h1, Or.inl (by rw [← Lib.size_eq]; exact h2), Or.inr ?_⟩, rfl, hb⟩
      simp only [Classical.not_forall, Nat.not_lt] at ha
      obtain ⟨c, hc, hc2⟩ := ha
      exact ⟨c, hc, hc2⟩

/-- what guess comes to: by the index k of the sign -/
def GuessPost (l : List UInt8) (w : World) (e : Ending) (w' : World) : Prop :=
  ∃ k : Int, Ix ((Lib.trimSuffix l [105]).drop 1) k ∧ Below w.heap.size w w' ∧
    ((∃ a b, guessL l k = some (a, b) ∧ e = .returned (.tuple #[.complex .f64 (floatOfInt .f64 a) (floatOfInt .f64 b), .bool true])) ∨
     (guessL l k = none ∧ e = .returned (.tuple #[.complex .f64 0 0, .bool false])))

theorem guess_any (s : ByteArray) (w : World) (hs : s.size < 4294967281) (hL : Laid w) :
    Calls Tryd.prog 8 #[.string s] w (GuessPost s.data.toList w) := by
  have hcut := Tryd.strings_CutSuffix s ⟨#[105]⟩ w (by omega)
  have HL := Lib.hid hL; clear hL
  obtain ⟨B, hB⟩ : ∃ B : ByteArray, B = ⟨(Lib.trimSuffix s.data.toList [105]).toArray⟩ := ⟨_, rfl⟩
  have hBl : B.data.toList = Lib.trimSuffix s.data.toList [105] := by rw [hB]
  have hBs : B.size ≤ s.size := by
    rw [Lib.size_eq, Lib.size_eq, hBl]
    unfold Lib.trimSuffix
    split
    · rw [List.length_take]; omega
    · exact Nat.le_refl _
  rw [show (⟨#[105]⟩ : ByteArray).data.toList = [105] from rfl, ← hB] at hcut
  have HC := Lib.hid hcut; clear hcut
  have HBL := Lib.hid hBl; clear hBl hB
  have stop : ∀ (k : Int) (w' : World), Ix ((Lib.trimSuffix s.data.toList [105]).drop 1) k → Below w.heap.size w w' → guessL s.data.toList k = none → GuessPost s.data.toList w (.returned (.tuple #[.complex .f64 0 0, .bool false])) w' :=
    fun k w' hk hb hg => ⟨k, hk, hb, Or.inr ⟨hg, rfl⟩⟩
  have STOP := Lib.hid stop; clear stop
  cases hsuf : Lib.hasSuffix s.data.toList [105]
  · go_enter Tryd.func8, Tryd.ntmps8
    go_wp2_with (go_at_call 15; refine HC.out.mono ?_; rintro e w' ⟨rfl, rfl⟩)
    go_ret2
    exact STOP.out _ _ (ix_exact _) (Below.refl _ _) (by unfold guessL; rw [if_pos (Or.inl hsuf)])
  · by_cases hne : B.data.toList = []
    · have hemp : B.toList.isEmpty = true := by rw [Lib.toList_data, hne]; rfl
      have HNE := Lib.hid hne; clear hne
      go_enter Tryd.func8, Tryd.ntmps8
      go_wp2_with (go_at_call 15; refine HC.out.mono ?_; rintro e w' ⟨rfl, rfl⟩)
      go_ret2
      exact STOP.out _ _ (ix_exact _) (Below.refl _ _) (by unfold guessL; rw [if_pos (Or.inr (Or.inl (HBL.out ▸ HNE.out)))])
    · have h1 : (1 : Int) ≤ B.size := by
        have := List.length_pos_iff.2 hne
        rw [Lib.size_eq]; omega
      have hemp : B.toList.isEmpty = false := by
        rw [Lib.toList_data]; simpa using hne
      clear hne
      have htl : (B.extract 1 B.size).data.toList = (Lib.trimSuffix s.data.toList [105]).drop 1 := by rw [Lib.extract_to_end, HBL.out]
      have hts : (B.extract 1 B.size).size = B.size - 1 := by rw [Lib.size_eq, Lib.extract_to_end, List.length_drop, ← Lib.size_eq]
      have HTL := Lib.hid htl; have HTS := Lib.hid hts; clear htl hts
      go_enter Tryd.func8, Tryd.ntmps8
      go_wp2_with (go_at_call 15; refine HC.out.mono ?_; rintro e w' ⟨rfl, rfl⟩)
      refine (index_all _ _ (by rw [HTS.out]; omega)).mono ?_
      rintro e w1 ⟨k, hk, rfl, hb1⟩
      rw [HTL.out] at hk
      have HB1 := Lib.hid hb1; clear hb1
      have hlo := hk.lo
      have hhi : k < (B.size : Int) - 1 := by
        rcases hk.hi with h | h
        · rw [← HTL.out, ← Lib.size_eq, HTS.out] at h; omega
        · omega
      have HK := Lib.hid hk; clear hk
      obtain ⟨n, rfl⟩ : ∃ n : Nat, k = (n : Int) - 1 := ⟨(k + 1).toNat, by omega⟩
      have hsum : (1 : Int) + ((n : Int) - 1) = n := by omega
      by_cases hn : n = 0
      · subst hn
        go_wp2
        go_ret2
        exact STOP.out _ _ HK.out HB1.out (by unfold guessL; rw [if_pos (Or.inr (Or.inr (by omega)))])
      · have hn' : ((n : Int) == 0) = false := beq_eq_false_iff_ne.2 (by omega)
        have e1 : (B.extract 0 n).data.toList = (Lib.trimSuffix s.data.toList [105]).take n := by
          rw [Lib.extract_data, HBL.out, List.drop_zero, Nat.sub_zero]
        have e2 : (B.extract n B.size).data.toList = (Lib.trimSuffix s.data.toList [105]).drop n := by
          rw [Lib.extract_to_end, HBL.out]
        have z1 : (B.extract 0 n).size ≤ 281474976710656 := by
          rw [Lib.size_eq, e1, List.length_take, ← HBL.out, ← Lib.size_eq]; omega
        have z2 : (B.extract n B.size).size ≤ 281474976710656 := by
          rw [Lib.size_eq, e2, List.length_drop, ← HBL.out, ← Lib.size_eq]; omega
        have hg : guessL s.data.toList ((n : Int) - 1) = finP (Lib.parseIntB 64 (B.extract 0 n).data.toList) (Lib.parseIntB 64 (B.extract n B.size).data.toList) := by
          unfold guessL
          rw [if_neg, e1, e2]
          · rw [show (1 + ((n : Int) - 1)).toNat = n by omega]
          · rintro (h | h | h)
            · rw [hsuf] at h; cases h
            · rw [← HBL.out] at h; rw [Lib.toList_data, h] at hemp; cases hemp
            · omega
        have HG := Lib.hid hg; clear hg
        clear e1 e2
        have HZ1 := Lib.hid z1; have HZ2 := Lib.hid z2; clear z1 z2
        by_cases hp1 : ∃ a, Lib.parseIntB 64 (B.extract 0 n).data.toList = .ok a
        · obtain ⟨a, hp1⟩ := hp1
          have hab := Lib.parseIntB_bounds hp1
          have HP1 := Lib.hid hp1; clear hp1
          go_wp2_with fail
          refine (parse_ok _ a _ HZ1.out HP1.out).mono ?_
          rintro e w2 ⟨rfl, hb2⟩
          have HB2 := Lib.hid hb2; clear hb2
          by_cases hp2 : ∃ b, Lib.parseIntB 64 (B.extract n B.size).data.toList = .ok b
          · obtain ⟨b, hp2⟩ := hp2
            have hbb := Lib.parseIntB_bounds hp2
            have HP2 := Lib.hid hp2; clear hp2
            go_wp2_with fail
            refine (parse_ok _ b _ HZ2.out HP2.out).mono ?_
            rintro e w3 ⟨rfl, hb3⟩
            have HB3 := Lib.hid hb3; clear hb3
            cases hin : (inB a && inB b)
            · go_wp2_with (go_at_call 18; refine (made_no _ _ _ hin).mono ?_; rintro e w' ⟨rfl, rfl⟩)
              go_ret2
              exact STOP.out _ _ HK.out ((HB1.out.trans (HB2.out.mono HB1.out.size)).trans (HB3.out.mono (Nat.le_trans HB1.out.size HB2.out.size))) (by rw [HG.out, HP1.out, HP2.out]; unfold finP; simp only [hin]; rfl)
            · go_wp2_with (go_at_call 18; refine (made_ok _ _ _ (by simp at hin; exact hin.1) (by simp at hin; exact hin.2)).mono ?_; rintro e w' ⟨rfl, rfl⟩)
              go_ret2
              exact ⟨_, HK.out, (HB1.out.trans (HB2.out.mono HB1.out.size)).trans (HB3.out.mono (Nat.le_trans HB1.out.size HB2.out.size)), Or.inl ⟨a, b, by rw [HG.out, HP1.out, HP2.out]; unfold finP; simp only [hin]; rfl, rfl⟩⟩
          · go_wp2_with fail
            refine (parse_bad _ _ HZ2.out ((HL.out.below HB1.out).below HB2.out) (fun v hv => hp2 ⟨v, hv⟩)).mono ?_
            rintro e w3 ⟨v, T, N, rfl, hb3⟩
            have HB3 := Lib.hid hb3; clear hb3
            go_wp2
            go_ret2
            exact STOP.out _ _ HK.out ((HB1.out.trans (HB2.out.mono HB1.out.size)).trans (HB3.out.mono (Nat.le_trans HB1.out.size HB2.out.size))) (by
              rw [HG.out, HP1.out]; unfold finP; split
              · rename_i h; exact absurd ⟨_, h⟩ hp2
              · rfl)
        · go_wp2_with fail
          refine (parse_bad _ _ HZ1.out (HL.out.below HB1.out) (fun v hv => hp1 ⟨v, hv⟩)).mono ?_
          rintro e w2 ⟨v, T, N, rfl, hb2⟩
          have HB2 := Lib.hid hb2; clear hb2
          go_wp2
          go_ret2
          exact STOP.out _ _ HK.out (HB1.out.trans (HB2.out.mono HB1.out.size)) (by
            rw [HG.out]; unfold finP; split
            · rename_i h _; exact absurd ⟨_, h⟩ hp1
            · rfl)
end Go.Proofs.YtimcecbnnohneaaDoor
