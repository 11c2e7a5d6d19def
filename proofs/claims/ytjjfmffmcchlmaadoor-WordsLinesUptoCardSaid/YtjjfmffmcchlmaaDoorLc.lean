/- The law WordsBack walked. -/
import Derived.Test.YtjjfmffmcchlmaaDoorLb
namespace Go.Proofs.YtjjfmffmcchlmaaDoor
open Go.RowKit

/-- words with a blank between -/
def joinW : List (List UInt8) → List UInt8
  | [] => []
  | [w] => w
  | w :: x :: r => w ++ 32 :: joinW (x :: r)

theorem joinW_cons {w : List UInt8} {X : List (List UInt8)} (h : X ≠ []) : joinW (w :: X) = w ++ 32 :: joinW X := by
  cases X with
  | nil => exact absurd rfl h
  | cons x r => rfl
theorem joinW_glue {p : List UInt8} {X : List (List UInt8)} (h : X ≠ []) : joinW (glue p X) = p ++ joinW X := by
  cases X with
  | nil => exact absurd rfl h
  | cons x r =>
    cases r with
    | nil => rfl
    | cons y t => simp [glue, joinW]
theorem join_pieces : ∀ l : List UInt8, joinW (pieces l) = l
  | [] => rfl
  | c :: r => by
    by_cases hc : c = 32
    · subst hc
      rw [pieces_blank, joinW_cons (pieces_ne _), join_pieces r]; rfl
    · rw [pieces_cons hc, joinW_glue (pieces_ne _), join_pieces r]; rfl
theorem joinW_snoc : ∀ (X : List (List UInt8)) (x : List UInt8), joinW (X ++ [x]) = joinW X ++ (if X = [] then x else 32 :: x)
  | [], x => rfl
  | [w], x => rfl
  | w :: y :: r, x => by
    rw [List.cons_append, joinW_cons (X := (y :: r) ++ [x]) (by simp), joinW_snoc (y :: r) x, joinW_cons (X := y :: r) (by simp), if_neg (by simp), if_neg (by simp)]
    simp
theorem take_snoc {α : Type} (X : List α) (i : Nat) (h : i < X.length) : X.take (i + 1) = X.take i ++ [X[i]] := List.take_succ_eq_append_getElem h

theorem depth_le : ∀ l : List UInt8, depthL l ≤ l.length
  | [] => Nat.le_refl _
  | c :: r => by
    have := depth_le r
    unfold depthL; split
    · simp; omega
    · simp
theorem depth_at : ∀ (l : List UInt8) (i : Nat) (_ : i < depthL l) (h : i < l.length), l[i] = 32
  | c :: r, i, hi, h => by
    unfold depthL at hi
    split at hi
    · rename_i hc
      cases i with
      | zero => simpa using hc
      | succ j => simpa using depth_at r j (by omega) (by simpa using h)
    · omega

set_option maxRecDepth 100000 in
set_option maxHeartbeats 2000000 in
theorem back_law (s : ByteArray) (w : World) (hs : s.size ≤ 1048576) (hL : Laid w) :
    Calls Tryd.prog 4 #[.string s] w fun e w' => e = .returned (.bool true) ∧ Below w.heap.size w w' := by
  have HL := Lib.hid hL; clear hL
  have hl : s.data.toList.length = s.size := (Lib.size_eq s).symm
  have hfew := lineW_few s.data.toList
  rw [hl] at hfew
  have hdep := depth_le s.data.toList
  rw [hl] at hdep
  go_enter Tryd.func4, Tryd.ntmps4
  go_wp2_with fail
  refine (line_any s w (by omega)).mono ?_
  rintro e w1 (⟨hb, v, rfl, hM⟩ | ⟨hb, rfl, hB⟩)
  · have HB := Lib.hid hb; have HM := Lib.hid hM; clear hb hM
    go_wp2_with fail
    refine (wakes_any w1 (HL.out.below HM.out.below)).mono ?_
    rintro e w2 ⟨rfl, hb2⟩
    have HB2 := Lib.hid hb2; clear hb2
    by_cases hlong : 65536 < s.size
    · go_wp2
      go_ret
      exact ⟨rfl, (HM.out.on HB2.out).below⟩
    · have hm2 := HM.out.on HB2.out
      obtain ⟨xs, hxs⟩ : ∃ xs, xs = lineW s.data.toList := ⟨_, rfl⟩
      have hne : 0 < xs.length := by rw [hxs]; exact List.length_pos_iff.2 (pieces_ne _)
      rw [← hxs] at hm2 hfew
      obtain ⟨g, cap, rfl, hg1, hg2⟩ := hm2.own.form hne
      have hcell : ∀ i (h : i < xs.length), w2.cell? ⟨g, i, none⟩ = some (strV xs[i]) := by
        intro i h
        rw [hm2.own.cellAt i (by omega)]
        simp [h]
      obtain ⟨d, hd⟩ : ∃ d, depthL s.data.toList = d := ⟨_, rfl⟩
      have hword : ∀ i (h : i < xs.length), (xs[i]).length ≤ 65536 := by
        intro i h
        have := lineW_len (l := s.data.toList) (x := xs[i]) (by rw [← hxs]; exact List.getElem_mem h)
        omega
      have hfin : s.data.toList.take d ++ joinW xs = s.data.toList := by
        rw [hxs, ← hd]; unfold lineW; rw [join_pieces, List.take_append_drop]
      have hblank : ∀ i (h : i < s.size), i < d → ((s[i].toNat : Int) == 32) = true := by
        intro i h hi
        exact byte_is (k := 32) (by decide) (by rw [← at_list s i h (by omega)]; exact depth_at _ i (by omega) (by omega))
      rw [hd] at hdep
      rw [hd]
      have HC := Lib.hid hcell; have HW := Lib.hid hword; have HF := Lib.hid hfin; have HBK := Lib.hid hblank; have HM2 := Lib.hid hm2
      clear hcell hword hfin hblank hm2 hxs hd HM HB HL
      have h22 : decide ((65536 : Int) < s.size) = false := decide_eq_false (by omega)
      go_wp2
      go_loop [6, 7, 40] (fun x6 _ x40 => ∃ (i : Nat) (O : ByteArray), i ≤ xs.length ∧ x40 = .int .i64 i ∧ x6 = .string O ∧ O.data.toList = s.data.toList.take d ++ joinW (xs.take i) ∧ O.size ≤ 65536 + i * 65537) (fun _ _ x => xs.length - (intOf x).toNat)
      case atStart => exact ⟨0, s.extract 0 d, by omega, rfl, rfl, by rw [Lib.extract_data]; simp [joinW], by rw [Lib.size_eq, Lib.extract_data, List.length_take]; omega⟩
      case round =>
        obtain ⟨i, O, hi, rfl, rfl, hO, hOs⟩ := hrel
        have HO := Lib.hid hO; clear hO
        by_cases hin : i < xs.length
        · have hc := HC.out i hin
          unfold strV at hc
          have hwl := HW.out i hin
          obtain ⟨X, hX⟩ : ∃ X : ByteArray, X = ⟨(xs[i]'hin).toArray⟩ := ⟨_, rfl⟩
          have hXl : X.data.toList = xs[i]'hin := by rw [hX]
          have hXs : X.size ≤ 65536 := by rw [Lib.size_eq, hXl]; exact hwl
          rw [← hX] at hc
          have HX := Lib.hid hXl; clear hXl hX hwl
          by_cases h0 : i = 0
          · subst h0
            have hs3 : (O.size : Int) + (X.size : Int) ≤ 9223372036854775807 := by omega
            have hnew : (O ++ X).data.toList = s.data.toList.take d ++ joinW (xs.take (0 + 1)) := by
              rw [ByteArray.data_append, Array.toList_append, HO.out, HX.out, take_snoc xs 0 hin, joinW_snoc]
              simp [joinW]
            have hsz : (O ++ X).size ≤ 65536 + (0 + 1) * 65537 := by rw [ByteArray.size_append]; omega
            have HN := Lib.hid hnew; have HS := Lib.hid hsz
            clear hnew hsz
            go_wp2
            go_round
            case rel => exact ⟨0 + 1, O ++ X, by omega, by go_num, rfl, HN.out, HS.out⟩
            case measure => simp [intOf]; omega
          · skip
            have hnew : ((O ++ (⟨#[32]⟩ : ByteArray)) ++ X).data.toList = s.data.toList.take d ++ joinW (xs.take (i + 1)) := by
              rw [ByteArray.data_append, Array.toList_append, ByteArray.data_append, Array.toList_append, HO.out, HX.out, take_snoc xs i hin, joinW_snoc, if_neg]
              · simp
              · intro e
                have := congrArg List.length e
                rw [List.length_take, List.length_nil] at this; omega
            have hsz : ((O ++ (⟨#[32]⟩ : ByteArray)) ++ X).size ≤ 65536 + (i + 1) * 65537 := by
              rw [ByteArray.size_append, ByteArray.size_append]
              show O.size + 1 + X.size ≤ _; omega
            have HN := Lib.hid hnew; have HS := Lib.hid hsz
            clear hnew hsz
            have h0' : (0 : Int) < i := by omega
            clear h0
            go_wp2
            go_round
            case rel => exact ⟨i + 1, _, by omega, by go_num, rfl, HN.out, HS.out⟩
            case measure => simp [intOf]; omega
        · have hOs' : O = s := by
            apply ByteArray.ext
            apply Array.toList_inj.1
            have e : xs.take i = xs := List.take_of_length_le (by omega)
            rw [HO.out, e, HF.out]
          obtain rfl : s = O := hOs'.symm
          clear HO
          go_wp2
          go_loop [2, 8, 55] (fun x2 _ x => x2 = .bool false ∧ ∃ q : Nat, q ≤ d ∧ x = .int .i64 q) (fun _ _ x => d - (intOf x).toNat)
          case atStart => exact ⟨rfl, 0, by omega, rfl⟩
          case round =>
            obtain ⟨rfl, q, hq, rfl⟩ := hrel
            by_cases hqd : q < d
            · have hqs : q < s.size := by omega
              have hb := HBK.out q hqs hqd
              go_wp2
              go_round
              case rel => exact ⟨rfl, q + 1, by omega, by go_num⟩
              case measure => simp [intOf]; omega
            · go_wp2
              go_ret
              exact ⟨rfl, HM2.out.below⟩
  · have HBL := Lib.hid hB; clear hB
    go_wp2_with fail
    refine (wakes_any w1 (HL.out.below HBL.out)).mono ?_
    rintro e w2 ⟨rfl, hb2⟩
    have HB2 := Lib.hid hb2; clear hb2
    go_wp2
    go_ret
    exact ⟨rfl, HBL.out.trans (HB2.out.mono HBL.out.size)⟩
end Go.Proofs.YtjjfmffmcchlmaaDoor
