/- The law WordsJoins walked. -/
import Derived.Test.YtjjfmffmcchlmaaDoorLc
namespace Go.Proofs.YtjjfmffmcchlmaaDoor
open Go.RowKit

theorem pieces_good {w r : List UInt8} : w.all isSB = true → pieces (w ++ r) = glue w (pieces r) := by
  induction w with
  | nil => intro _; rw [glue_nil (pieces_ne _)]; rfl
  | cons c t ih =>
    intro h
    rw [List.all_cons, Bool.and_eq_true] at h
    rw [List.cons_append, pieces_cons (not_blank h.1), ih h.2, glue_glue]; rfl
theorem goodW_all {w : List UInt8} (h : goodW w = true) : w.all isSB = true := by
  unfold goodW at h; rw [Bool.and_eq_true] at h; exact h.2
theorem pieces_join : ∀ X : List (List UInt8), X ≠ [] → X.all goodW = true → pieces (joinW X) = X
  | [], h, _ => absurd rfl h
  | [w], _, h => by
    have hw : goodW w = true := by simpa using h
    have := pieces_good (r := []) (goodW_all hw)
    rw [List.append_nil] at this
    show pieces w = [w]
    rw [this, pieces_nil, glue_blank]
  | w :: x :: r, _, h => by
    rw [List.all_cons, Bool.and_eq_true] at h
    rw [joinW_cons (by simp), pieces_good (goodW_all h.1), pieces_blank, glue_blank, pieces_join (x :: r) (by simp) h.2]
theorem depth_rep : ∀ (k : Nat) (r : List UInt8), depthL r = 0 → depthL (List.replicate k 32 ++ r) = k
  | 0, r, h => by simpa using h
  | k + 1, r, h => by
    rw [List.replicate_succ, List.cons_append]
    simp only [depthL, if_true]
    rw [depth_rep k r h]
theorem depth_good {w r : List UInt8} (h : goodW w = true) : depthL (w ++ r) = 0 := by
  cases w with
  | nil => simp [goodW] at h
  | cons c t =>
    have := goodW_all h
    rw [List.all_cons, Bool.and_eq_true] at this
    simp only [List.cons_append, depthL, if_neg (not_blank this.1)]
theorem depth_join {X : List (List UInt8)} (hne : X ≠ []) (h : X.all goodW = true) : depthL (joinW X) = 0 := by
  match X, hne with
  | [w], _ => have hw : goodW w = true := by simpa using h
              have := depth_good (r := []) hw
              rw [List.append_nil] at this; exact this
  | w :: x :: r, _ =>
    rw [List.all_cons, Bool.and_eq_true] at h
    rw [joinW_cons (by simp)]; exact depth_good h.1
theorem line_join {X : List (List UInt8)} {k : Nat} {l : List UInt8} (e : l = List.replicate k 32 ++ joinW X) (hne : X ≠ []) (h : X.all goodW = true) : lineB l = true ∧ depthL l = k ∧ lineW l = X := by
  have hd : depthL l = k := by rw [e]; exact depth_rep k _ (depth_join hne h)
  have hw : lineW l = X := by
    unfold lineW
    rw [hd, e, List.drop_append_of_le_length (by simp)]
    rw [List.drop_of_length_le (by simp), List.nil_append, pieces_join X hne h]
  refine ⟨?_, hd, hw⟩
  unfold lineB; rw [hw, h]

/-- a slice value that reads as a list of words, all below block B -/
def RdB (w : World) (B : Nat) (v : Value) (xs : List (List UInt8)) : Prop :=
  ∃ (A : Option Addr) (c : Nat), v = .slice A xs.length c ∧ ∀ i (h : i < xs.length), ∃ ad, A = some ad ∧ ad.block < B ∧ w.cell? (ad.add i) = some (strV xs[i])

theorem block_add (a : Addr) (n : Nat) : (a.add n).block = a.block := by unfold Addr.add; split <;> rfl

theorem RdB.on {w w' : World} {B : Nat} {v : Value} {xs : List (List UInt8)} (h : RdB w B v xs) (hb : Below B w w') : RdB w' B v xs := by
  obtain ⟨A, c, rfl, h⟩ := h
  refine ⟨A, c, rfl, fun i hi => ?_⟩
  obtain ⟨ad, e, hlt, hc⟩ := h i hi
  exact ⟨ad, e, hlt, (hb.cell (by rw [block_add]; exact hlt)).trans hc⟩
theorem RdB.rd {w : World} {B : Nat} {v : Value} {xs : List (List UInt8)} (h : RdB w B v xs) : RdS w v xs := by
  obtain ⟨A, c, rfl, h⟩ := h
  refine ⟨A, c, rfl, fun i hi => ?_⟩
  obtain ⟨ad, e, _, hc⟩ := h i hi
  exact ⟨ad, e, hc⟩

def AllG (X : List (List UInt8)) : Prop := X.all goodW = true

set_option maxRecDepth 100000 in
set_option maxHeartbeats 4000000 in
theorem joins_law (v : Value) (xs : List (List UInt8)) (dp : Int) (w : World) (h0 : 0 ≤ dp) (h255 : dp ≤ 255) (hx : xs.length ≤ 140737488355328) (hR : RdB w w.heap.size v xs) (hL : Laid w) :
    Calls Tryd.prog 8 #[v, .int .u8 dp] w fun e w' => e = .returned (.bool true) ∧ Below w.heap.size w w' := by
  have HL := Lib.hid hL; have HR := Lib.hid hR; clear hL
  obtain ⟨A, c, rfl, hR⟩ := hR
  clear hR
  obtain ⟨n, hn⟩ : ∃ n, xs.length = n := ⟨_, rfl⟩
  rw [hn] at HR hx ⊢
  have HNN := Lib.hid hn; clear hn
  obtain ⟨dd, hdd⟩ : ∃ dd : Nat, dp % 20 = (dd : Int) := ⟨(dp % 20).toNat, by omega⟩
  have hdd20 : dd < 20 := by omega
  have HDD := Lib.hid hdd; clear hdd
  by_cases hn0 : n = 0
  · subst hn0
    go_enter Tryd.func8, Tryd.ntmps8
    go_wp2_with fail
    refine (wakes_any w HL.out).mono ?_
    rintro e w1 ⟨rfl, hb⟩
    have HB := Lib.hid hb; clear hb
    go_wp2
    go_ret
    exact ⟨rfl, HB.out⟩
  · by_cases hn100 : 100 < n
    · have hn0' : ((n : Int) == 0) = false := beq_eq_false_iff_ne.2 (by omega)
      have hn100' : (100 : Int) < n := by omega
      go_enter Tryd.func8, Tryd.ntmps8
      go_wp2_with fail
      refine (wakes_any w HL.out).mono ?_
      rintro e w1 ⟨rfl, hb⟩
      have HB := Lib.hid hb; clear hb
      go_wp2
      go_ret
      exact ⟨rfl, HB.out⟩
    · have hn0' : ((n : Int) == 0) = false := beq_eq_false_iff_ne.2 (by omega)
      have hn100' : decide ((100 : Int) < n) = false := decide_eq_false (by omega)
      go_enter Tryd.func8, Tryd.ntmps8
      go_wp2_with fail
      refine (wakes_any w HL.out).mono ?_
      rintro e w1 ⟨rfl, hb⟩
      have HB := Lib.hid hb; clear hb
      have hm0 : 0 ≤ dp % 20 := by omega
      have hm1 : dp % 20 < 20 := by omega
      go_wp2
      go_loop [5, 23] (fun x5 x23 => ∃ (k : Nat) (O : ByteArray), (k : Int) ≤ dp % 20 ∧ x23 = .int .u8 k ∧ x5 = .string O ∧ O.data.toList = List.replicate k 32 ∧ O.size = k) (fun _ x => 20 - (intOf x).toNat)
      case atStart => exact ⟨0, ⟨#[]⟩, by omega, rfl, rfl, rfl, rfl⟩
      case round =>
        obtain ⟨k, O, hk, rfl, rfl, hO, hOs⟩ := hrel
        have HO := Lib.hid hO; clear hO
        have hOs' : (O.size : Int) ≤ 20 := by omega
        by_cases hkd : (k : Int) < dp % 20
        · have hnew : (O ++ (⟨#[32]⟩ : ByteArray)).data.toList = List.replicate (k + 1) 32 := by
            rw [ByteArray.data_append, Array.toList_append, HO.out, List.replicate_succ']
          have hsz : (O ++ (⟨#[32]⟩ : ByteArray)).size = k + 1 := by
            rw [ByteArray.size_append, hOs]; rfl
          have HN := Lib.hid hnew; have HS := Lib.hid hsz
          clear hnew hsz
          have HOS := Lib.hid hOs; clear hOs
          go_wp2
          go_round
          case rel => exact ⟨k + 1, _, by omega, by go_num, rfl, HN.out, HS.out⟩
          case measure => simp [intOf]; omega
        · have hkk : k = dd := by have := HDD.out; omega
          have HOS := Lib.hid hOs; clear hOs
          have HKK := Lib.hid hkk; clear hkk
          have hstart : O.data.toList = List.replicate dd 32 ++ joinW (xs.take 0) := by rw [HO.out, HKK.out]; simp [joinW]
          have HST := Lib.hid hstart; clear hstart HO
          have hR1 := HR.out.on HB.out
          have HR1 := Lib.hid hR1; clear hR1
          go_wp2
          go_loop [4, 5, 6, 7, 30] (fun x4 x5 _ _ x30 => x4 = .bool false ∧ ∃ (i : Nat) (O : ByteArray), i ≤ n ∧ x30 = .int .i64 i ∧ x5 = .string O ∧ O.data.toList = List.replicate dd 32 ++ joinW (xs.take i) ∧ AllG (xs.take i) ∧ O.size ≤ 20 + i * 1001) (fun _ _ _ _ x => n - (intOf x).toNat)
          case atStart => exact ⟨rfl, 0, O, by omega, rfl, rfl, HST.out, rfl, by omega⟩
          case round =>
            obtain ⟨rfl, i, O, hi, rfl, rfl, hO, hgood, hOs⟩ := hrel
            have HO := Lib.hid hO; have HG := Lib.hid hgood; clear hO hgood
            by_cases hin : i < n
            · obtain ⟨A', c', hsl, hcells⟩ := HR1.out
              injection hsl with hsA _ hsc
              subst hsA
              obtain ⟨ad, rfl, _, hc⟩ := hcells i (by rw [HNN.out]; exact hin)
              clear hcells hsc
              unfold strV at hc
              obtain ⟨X, hX⟩ : ∃ X : ByteArray, X = ⟨(xs[i]'(by rw [HNN.out]; exact hin)).toArray⟩ := ⟨_, rfl⟩
              have hXl : X.data.toList = xs[i]'(by rw [HNN.out]; exact hin) := by rw [hX]
              rw [← hX] at hc
              have HX := Lib.hid hXl; clear hXl hX
              have hsnoc := take_snoc xs i (by rw [HNN.out]; exact hin)
              by_cases hi0 : i = 0
              · subst hi0
                have hc0 : w1.cell? ad = some (.string X) := by simpa [Addr.add] using hc
                clear hc
                have hj : (O ++ X).data.toList = List.replicate dd 32 ++ joinW (xs.take (0 + 1)) := by
                  rw [ByteArray.data_append, Array.toList_append, HO.out, HX.out, hsnoc, joinW_snoc]
                  simp [joinW]
                have HJ := Lib.hid hj; clear hj hsnoc
                have HQS : Hid (O.size ≤ 20 + 0 * 1001 + 1) := show O.size ≤ 20 + 0 * 1001 + 1 by omega
                by_cases hz : X.size = 0
                · have hz' : (X.size : Int) = 0 := by omega
                  clear hz
                  go_wp2
                  go_ret
                  exact ⟨rfl, HB.out⟩
                · have hz' : ((X.size : Int) == 0) = false := beq_eq_false_iff_ne.2 (by omega)
                  by_cases hk : 1000 < X.size
                  · have hk' : (1000 : Int) < X.size := by omega
                    clear hk
                    go_wp2
                    go_ret
                    exact ⟨rfl, HB.out⟩
                  · have hk' : decide ((1000 : Int) < X.size) = false := decide_eq_false (by omega)
                    go_wp2
                    go_loop [4, 7, 56] (fun x4 _ x => x4 = .bool false ∧ ∃ q : Nat, q ≤ X.size ∧ (X.data.toList.take q).all isSB = true ∧ x = .int .i64 q) (fun _ _ x => X.size - (intOf x).toNat)
                    case atStart => exact ⟨rfl, 0, by omega, rfl, rfl⟩
                    case round =>
                      obtain ⟨rfl, q, hq, hall, rfl⟩ := hrel
                      have HA := Lib.hid hall; clear hall
                      have hXl : X.data.toList.length = X.size := (Lib.size_eq X).symm
                      by_cases hql : q < X.size
                      · have hge : X.data.toList[q]'(by omega) = X[q] := at_list X q hql _
                        cases hc2 : isSB X[q]
                        · have hn : (X[q].toNat : Int) < 33 ∨ (33 ≤ (X[q].toNat : Int) ∧ 126 < (X[q].toNat : Int)) := by
                            have : ¬ (33 ≤ X[q].toNat ∧ X[q].toNat ≤ 126) := of_decide_eq_false hc2
                            omega
                          clear hge hc2
                          rcases hn with hn | ⟨hn, hn'⟩
                          all_goals
                            go_wp2
                            go_ret
                            exact ⟨rfl, HB.out⟩
                        · have hn := isSB_iff.1 hc2
                          have hn1 : (33 : Int) ≤ X[q].toNat := by omega
                          have hn2 : (X[q].toNat : Int) ≤ 126 := by omega
                          have hs := take_all HA.out (show q < X.data.toList.length by omega) (by rw [hge]; exact hc2)
                          have HS := Lib.hid hs
                          clear hs hge hc2 hn
                          go_wp2
                          go_round
                          case rel => exact ⟨rfl, q + 1, by omega, HS.out, by go_num⟩
                          case measure => simp [intOf]; omega
                      · have hgw : goodW (xs[0]'(by rw [HNN.out]; exact hin)) = true := goodW_mk HX.out (by omega) (by rw [List.take_of_length_le (by omega)] at HA; exact HA.out)
                        have hs : (xs.take (0 + 1)).all goodW = true := take_all HG.out (by rw [HNN.out]; exact hin) hgw
                        have hnew : (O ++ X).data.toList = List.replicate dd 32 ++ joinW (xs.take (0 + 1)) := HJ.out
                        have hsz : (O ++ X).size ≤ 20 + (0 + 1) * 1001 := by
                          rw [ByteArray.size_append]
                          have := HQS.out
                          omega
                        have HS := Lib.hid hs; have HN := Lib.hid hnew; have HSZ2 := Lib.hid hsz
                        clear hs hgw hnew hsz
                        go_wp2
                        go_round
                        case rel => exact ⟨_, _, _, _, _, ⟨rfl, 0 + 1, by have := HNN.out; omega, by go_num, _, rfl, HN.out, HS.out, HSZ2.out⟩, rfl, rfl, rfl, rfl, rfl⟩
                        case measure => simp [intOf]; omega
              · have hj : ((O ++ (⟨#[32]⟩ : ByteArray)) ++ X).data.toList = List.replicate dd 32 ++ joinW (xs.take (i + 1)) := by
                  rw [ByteArray.data_append, Array.toList_append, ByteArray.data_append, Array.toList_append, HO.out, HX.out, hsnoc, joinW_snoc, if_neg]
                  · simp
                  · intro e
                    have := congrArg List.length e
                    rw [List.length_take, List.length_nil, HNN.out] at this; omega
                have HJ := Lib.hid hj; clear hj hsnoc
                have hi0' : (0 : Int) < i := by omega
                have HQS : Hid ((O ++ (⟨#[32]⟩ : ByteArray)).size ≤ 20 + i * 1001 + 1) := by
                  show (O ++ (⟨#[32]⟩ : ByteArray)).size ≤ 20 + i * 1001 + 1
                  rw [ByteArray.size_append]; show O.size + 1 ≤ _; omega
                clear hi0
                by_cases hz : X.size = 0
                · have hz' : (X.size : Int) = 0 := by omega
                  clear hz
                  go_wp2
                  go_ret
                  exact ⟨rfl, HB.out⟩
                · have hz' : ((X.size : Int) == 0) = false := beq_eq_false_iff_ne.2 (by omega)
                  by_cases hk : 1000 < X.size
                  · have hk' : (1000 : Int) < X.size := by omega
                    clear hk
                    go_wp2
                    go_ret
                    exact ⟨rfl, HB.out⟩
                  · have hk' : decide ((1000 : Int) < X.size) = false := decide_eq_false (by omega)
                    go_wp2
                    go_loop [4, 7, 56] (fun x4 _ x => x4 = .bool false ∧ ∃ q : Nat, q ≤ X.size ∧ (X.data.toList.take q).all isSB = true ∧ x = .int .i64 q) (fun _ _ x => X.size - (intOf x).toNat)
                    case atStart => exact ⟨rfl, 0, by omega, rfl, rfl⟩
                    case round =>
                      obtain ⟨rfl, q, hq, hall, rfl⟩ := hrel
                      have HA := Lib.hid hall; clear hall
                      have hXl : X.data.toList.length = X.size := (Lib.size_eq X).symm
                      by_cases hql : q < X.size
                      · have hge : X.data.toList[q]'(by omega) = X[q] := at_list X q hql _
                        cases hc2 : isSB X[q]
                        · have hn : (X[q].toNat : Int) < 33 ∨ (33 ≤ (X[q].toNat : Int) ∧ 126 < (X[q].toNat : Int)) := by
                            have : ¬ (33 ≤ X[q].toNat ∧ X[q].toNat ≤ 126) := of_decide_eq_false hc2
                            omega
                          clear hge hc2
                          rcases hn with hn | ⟨hn, hn'⟩
                          all_goals
                            go_wp2
                            go_ret
                            exact ⟨rfl, HB.out⟩
                        · have hn := isSB_iff.1 hc2
                          have hn1 : (33 : Int) ≤ X[q].toNat := by omega
                          have hn2 : (X[q].toNat : Int) ≤ 126 := by omega
                          have hs := take_all HA.out (show q < X.data.toList.length by omega) (by rw [hge]; exact hc2)
                          have HS := Lib.hid hs
                          clear hs hge hc2 hn
                          go_wp2
                          go_round
                          case rel => exact ⟨rfl, q + 1, by omega, HS.out, by go_num⟩
                          case measure => simp [intOf]; omega
                      · have hgw : goodW (xs[i]'(by rw [HNN.out]; exact hin)) = true := goodW_mk HX.out (by omega) (by rw [List.take_of_length_le (by omega)] at HA; exact HA.out)
                        have hs : (xs.take (i + 1)).all goodW = true := take_all HG.out (by rw [HNN.out]; exact hin) hgw
                        have hnew : ((O ++ (⟨#[32]⟩ : ByteArray)) ++ X).data.toList = List.replicate dd 32 ++ joinW (xs.take (i + 1)) := HJ.out
                        have hsz : ((O ++ (⟨#[32]⟩ : ByteArray)) ++ X).size ≤ 20 + (i + 1) * 1001 := by
                          rw [ByteArray.size_append]
                          have := HQS.out
                          omega
                        have HS := Lib.hid hs; have HN := Lib.hid hnew; have HSZ2 := Lib.hid hsz
                        clear hs hgw hnew hsz
                        go_wp2
                        go_round
                        case rel => exact ⟨_, _, _, _, _, ⟨rfl, i + 1, by have := HNN.out; omega, by go_num, _, rfl, HN.out, HS.out, HSZ2.out⟩, rfl, rfl, rfl, rfl, rfl⟩
                        case measure => simp [intOf]; omega
            · have hfull : xs.take i = xs := List.take_of_length_le (by rw [HNN.out]; omega)
              have hall : xs.all goodW = true := by have := HG.out; rw [hfull] at this; exact this
              have hdat : O.data.toList = List.replicate dd 32 ++ joinW xs := by rw [HO.out, hfull]
              have hne : xs ≠ [] := by intro e; have := HNN.out; rw [e] at this; simp at this; omega
              have hlj := line_join hdat hne hall
              have HLJ := Lib.hid hlj
              clear hfull hall hdat hne hlj
              have hOs4 : O.size ≤ 4294967296 := by omega
              go_wp2_with fail
              refine (line_any O w1 hOs4).mono ?_
              rintro e w2 (⟨_, v2, rfl, hM⟩ | ⟨hb, _⟩)
              · rw [HLJ.out.2.1]
                have hm := hM
                rw [HLJ.out.2.2] at hm
                have HM := Lib.hid hm; clear hm hM
                have hddi : (dd : Int) = dp % 20 := HDD.out.symm
                rw [hddi]
                clear hddi
                go_wp2_with fail
                refine (same_any _ v2 xs xs w2 ?_ HM.out.rd (by rw [HNN.out]; exact hx)).mono ?_
                · have := (HR1.out.on (HM.out.below.mono HB.out.size)).rd
                  exact this
                rintro e w3 ⟨rfl, m, rfl⟩
                rw [decide_eq_true (rfl : xs = xs)]
                go_wp2
                go_ret
                refine ⟨rfl, ?_⟩
                have h1 := HB.out.trans (HM.out.below.mono HB.out.size)
                exact h1.trans ((drewN_below w2 m).mono h1.size)
              · rw [HLJ.out.1] at hb; cases hb
end Go.Proofs.YtjjfmffmcchlmaaDoor
