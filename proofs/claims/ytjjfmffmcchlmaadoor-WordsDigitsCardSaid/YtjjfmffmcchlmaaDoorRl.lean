/- The document's Line (package quintainref02) at every text. -/
import Derived.Test.YtjjfmffmcchlmaaDoorLn
import Derived.Test.YtjjfmffmcchlmaaDoorN4
import Derived.Deep.AppendLies
namespace Go.Proofs.YtjjfmffmcchlmaaDoor
open Go.RowKit

/-- where the document's loop over the blanks stands: pieces xs so far, one begun at b, at place k -/
def Piece (l : List UInt8) (xs : List (List UInt8)) (b k : Nat) : Prop :=
  (k ≤ l.length ∧ b ≤ k ∧ lineW l = xs ++ glue ((l.drop b).take (k - b)) (pieces (l.drop k)) ∧ xs.length ≤ b) ∨ (k = l.length + 1 ∧ b = k ∧ lineW l = xs ∧ xs.length ≤ b)

/-- the piece from b up to k -/
def pieceAt (l : List UInt8) (b k : Nat) : List UInt8 := (l.drop b).take (k - b)

theorem Piece.start {l : List UInt8} {k : Nat} (h : depthL l = k) (hk : k ≤ l.length) : Piece l [] k k := by
  refine Or.inl ⟨hk, Nat.le_refl _, ?_, Nat.zero_le _⟩
  rw [Nat.sub_self, List.take_zero, glue_nil (pieces_ne _)]
  unfold lineW; rw [h]; rfl
theorem Piece.le {l : List UInt8} {xs : List (List UInt8)} {b k : Nat} (h : Piece l xs b k) (hk : k ≤ l.length) : b ≤ k ∧ xs.length ≤ b := by
  rcases h with ⟨_, h1, _, h2⟩ | ⟨h1, _, _, h2⟩ <;> omega
theorem Piece.last {l : List UInt8} {xs : List (List UInt8)} {b k : Nat} (h : Piece l xs b k) (hk : k = l.length) : Piece l (xs ++ [pieceAt l b k]) (k + 1) (k + 1) := by
  rcases h with ⟨h0, h1, h2, h3⟩ | ⟨h1, _⟩
  · refine Or.inr ⟨by omega, rfl, ?_, by simp; omega⟩
    have e : l.drop k = [] := List.drop_of_length_le (by omega)
    rw [h2, e, pieces_nil, glue_blank]; rfl
  · omega
theorem Piece.blank {l : List UInt8} {xs : List (List UInt8)} {b k : Nat} (h : Piece l xs b k) (hk : k < l.length) (hc : l[k] = 32) : Piece l (xs ++ [pieceAt l b k]) (k + 1) (k + 1) := by
  rcases h with ⟨h0, h1, h2, h3⟩ | ⟨h1, _⟩
  · refine Or.inl ⟨hk, Nat.le_refl _, ?_, by simp; omega⟩
    rw [h2, List.drop_eq_getElem_cons hk, hc, pieces_blank, glue_blank, Nat.sub_self, List.take_zero, glue_nil (pieces_ne _)]
    simp [pieceAt]
  · omega
theorem Piece.more {l : List UInt8} {xs : List (List UInt8)} {b k : Nat} (h : Piece l xs b k) (hk : k < l.length) (hc : l[k] ≠ 32) : Piece l xs b (k + 1) := by
  rcases h with ⟨h0, h1, h2, h3⟩ | ⟨h1, _⟩
  · refine Or.inl ⟨hk, by omega, ?_, h3⟩
    rw [h2, List.drop_eq_getElem_cons hk, pieces_cons hc, glue_glue, take_at l b k h1 hk]
  · omega
theorem Piece.stop {l : List UInt8} {xs : List (List UInt8)} {b k : Nat} (h : Piece l xs b k) (hk : ¬ k ≤ l.length) : lineW l = xs ∧ xs.length ≤ l.length + 1 := by
  rcases h with ⟨h0, h1, h2, h3⟩ | ⟨h1, h2, h3, h4⟩
  · omega
  · exact ⟨h3, by omega⟩
theorem Piece.bd {l : List UInt8} {xs : List (List UInt8)} {b k : Nat} (h : Piece l xs b k) : k ≤ l.length + 1 := by
  rcases h with ⟨h0, h1, h2, h3⟩ | ⟨h1, h2, h3, h4⟩ <;> omega

theorem ext_piece (s : ByteArray) (b k : Nat) : s.extract b k = ⟨(pieceAt s.data.toList b k).toArray⟩ := by
  apply ByteArray.ext
  apply Array.toList_inj.1
  rw [Lib.extract_data]; rfl

theorem Mem.push' {w w2 w3 : World} {xs : List (List UInt8)} {v v' : Value} {x : List UInt8} (h : Mem w xs v w2) {o : Obj}
    (hown : w3.ownsRow w.heap.size 9 1 v' (xs.length + 1) (xs.map strV ++ [strV x])) (hg : (w2.alloc o).grownBy w3 v.ownBlock) : Mem w (xs ++ [x]) v' w3 :=
  h.push (Below.refl _ _) hown hg

theorem bad_piece {l : List UInt8} {xs : List (List UInt8)} {m : Nat} (h : lineW l = xs) (hm : m < xs.length) (hb : goodW xs[m] = false) : lineB l = false := by
  unfold lineB
  rw [h, List.all_eq_false]
  exact ⟨xs[m], List.getElem_mem _, by rw [hb]; decide⟩
theorem take_all {α : Type} {p : α → Bool} {xs : List α} {m : Nat} (h : (xs.take m).all p = true) (hm : m < xs.length) (hp : p xs[m] = true) : (xs.take (m + 1)).all p = true := by
  rw [List.take_succ_eq_append_getElem hm, List.all_append, h]; simp [hp]
theorem goodW_at {x : List UInt8} {q : Nat} (hq : q < x.length) (hc : isSB x[q] = false) : goodW x = false := by
  have : x.all isSB = false := by
    rw [List.all_eq_false]
    exact ⟨x[q], List.getElem_mem _, by rw [hc]; decide⟩
  unfold goodW; rw [this]; simp
theorem goodW_mk {x y : List UInt8} (e : x = y) (h0 : 0 < x.length) (h : x.all isSB = true) : goodW y = true := by
  subst e
  unfold goodW; rw [h]
  cases x with
  | nil => simp at h0
  | cons a r => rfl

theorem pieces_len : ∀ (l x : List UInt8), x ∈ pieces l → x.length ≤ l.length
  | [], x, h => by rw [pieces_nil, List.mem_singleton] at h; subst h; exact Nat.le_refl _
  | c :: r, x, h => by
    by_cases hc : c = 32
    · subst hc
      rw [pieces_blank] at h
      rcases List.mem_cons.1 h with h | h
      · subst h; simp
      · have := pieces_len r x h; simp; omega
    · rw [pieces_cons hc] at h
      cases hp : pieces r with
      | nil => exact absurd hp (pieces_ne _)
      | cons q t =>
        rw [hp] at h
        rcases List.mem_cons.1 h with h | h
        · subst h
          have := pieces_len r q (by rw [hp]; simp)
          simp; omega
        · have := pieces_len r x (by rw [hp]; simp [h]); simp; omega
theorem lineW_len {l x : List UInt8} (h : x ∈ lineW l) : x.length ≤ l.length := by
  have := pieces_len _ x h
  rw [List.length_drop] at this; omega

theorem one_val' (x : ByteArray) : ∀ u ∈ [Value.string x], u.oneCell' = true := by
  intro u hu; simp at hu; subst hu; rfl

set_option maxHeartbeats 4000000 in
theorem refLine_any (s : ByteArray) (w : World) (hs : s.size ≤ 4294967296) :
    Calls Tryd.prog 10 #[.string s] w (LinePost s.data.toList w) := by
  have hl : s.data.toList.length = s.size := (Lib.size_eq s).symm
  obtain ⟨i0, hi, hz0, hz1, hz2⟩ := info_parts Tryd.infoStr
  have HI := Lib.hid hi; have HZ0 := Lib.hid hz0; have HZ1 := Lib.hid hz1; have HZ2 := Lib.hid hz2
  clear hi hz0 hz1 hz2
  go_enter Tryd.func10, Tryd.ntmps10
  go_wp2
  go_loop [5] (fun i => ∃ k : Nat, Blanks s.data.toList k ∧ i = .int .i64 k) (fun i => s.size - (intOf i).toNat)
  case atStart => exact ⟨0, Blanks.zero _, rfl⟩
  case round =>
    obtain ⟨k, hB, rfl⟩ := hrel
    have hkl := hB.1
    rw [hl] at hkl
    by_cases hc : ∃ hk : k < s.size, s[k] = 32
    · obtain ⟨hlt, hc⟩ := hc
      have t32 : ((s[k].toNat : Int) == 32) = true := byte_is (k := 32) (by decide) hc
      have hn := hB.step (by omega) (by rw [at_list s k hlt]; exact hc)
      clear hc hB
      go_wp2
      go_round
      case rel => exact ⟨k + 1, hn, by go_num⟩
      case measure => simp [intOf]; omega
    · have hd : depthL s.data.toList = k := hB.stop (by
        by_cases hk : k < s.size
        · exact Or.inr ⟨by omega, fun e => hc ⟨hk, by rw [← at_list s k hk (by omega)]; exact e⟩⟩
        · exact Or.inl (by omega))
      have hp : Piece s.data.toList [] k k := Piece.start hd (by omega)
      have HD := Lib.hid hd; clear hd
      have h32 : (¬ k < s.size) ∨ ∃ hk : k < s.size, ((s[k].toNat : Int) == 32) = false := by
        by_cases hk : k < s.size
        · exact Or.inr ⟨hk, byte_not (k := 32) (by decide) (fun e => hc ⟨hk, e⟩)⟩
        · exact Or.inl hk
      clear hc hB
      rcases h32 with h32 | ⟨hk, h32⟩
      all_goals
        go_wp2
        go_loopw [6, 7, 8] (fun x6 x7 x8 wr => ∃ (j b : Nat) (v : Value) (xs : List (List UInt8)), Piece s.data.toList xs b j ∧ Mem w xs v wr ∧ x6 = v ∧ x7 = .int .i64 b ∧ x8 = .int .i64 j) (fun _ _ x8 _ => s.size + 1 - (intOf x8).toNat)
        case atStart => exact ⟨k, k, _, [], hp, Mem.start w, rfl, rfl, rfl⟩
        case round =>
          obtain ⟨j, b, v, xs, hP, hM, rfl, rfl, rfl⟩ := hrel
          have hbd := hP.bd
          rw [hl] at hbd
          by_cases hj : j ≤ s.size
          · obtain ⟨hb1, hb2⟩ := hP.le (by omega)
            by_cases hjs : j = s.size
            · subst hjs
              have hn := hP.last hl.symm
              have HX := Lib.hid (ext_piece s b s.size)
              have hown := hM.own.alloc (.cells #[.string (s.extract b s.size)] 9)
              have HOWN := Lib.hid hown; clear hown
              go_wp2_with (at_builtin; refine wpList_append_own _ rfl _ _ 22 rfl w.heap.size 9 i0 (.string ByteArray.empty) 1 16 Tryd.underlying22 HI.out HZ0.out HZ1.out HZ2.out rfl (by decide) _ _ _ rfl HOWN.out ⟨wr.heap.size, 0, none⟩ 1 1 [.string (s.extract b s.size)] rfl rfl (one_cell _ _ _) (one_val' _) (by unfold maxLen; omega) (by omega) (by have := hM.below.size; simp; omega) ?_)
              intro v' w2 hown' hgrow _
              have hm : Mem w (xs ++ [pieceAt s.data.toList b s.size]) v' w2 := hM.push' (by rw [HX.out] at hown'; exact hown') hgrow
              clear hown' hgrow
              go_wp2
              go_roundw
              case rel => exact ⟨s.size + 1, s.size + 1, v', _, hn, hm, rfl, by go_num, by go_num⟩
              case measure => simp [intOf] <;> omega
            · have hjl : j < s.size := by omega
              have hjs' : ((j : Int) == (s.size : Int)) = false := beq_eq_false_iff_ne.2 (by omega)
              by_cases h2 : s[j] = 32
              · have t32 : ((s[j].toNat : Int) == 32) = true := byte_is (k := 32) (by decide) h2
                have hn := hP.blank (by omega) (by rw [at_list s j hjl]; exact h2)
                clear h2 hjs
                have HX := Lib.hid (ext_piece s b j)
                have hown := hM.own.alloc (.cells #[.string (s.extract b j)] 9)
                have HOWN := Lib.hid hown; clear hown
                go_wp2_with (at_builtin; refine wpList_append_own _ rfl _ _ 22 rfl w.heap.size 9 i0 (.string ByteArray.empty) 1 16 Tryd.underlying22 HI.out HZ0.out HZ1.out HZ2.out rfl (by decide) _ _ _ rfl HOWN.out ⟨wr.heap.size, 0, none⟩ 1 1 [.string (s.extract b j)] rfl rfl (one_cell _ _ _) (one_val' _) (by unfold maxLen; omega) (by omega) (by have := hM.below.size; simp; omega) ?_)
                intro v' w2 hown' hgrow _
                have hm : Mem w (xs ++ [pieceAt s.data.toList b j]) v' w2 := hM.push' (by rw [HX.out] at hown'; exact hown') hgrow
                clear hown' hgrow
                go_wp2
                go_roundw
                case rel => exact ⟨j + 1, j + 1, v', _, hn, hm, rfl, by go_num, by go_num⟩
                case measure => simp [intOf]; omega
              · have t32 : ((s[j].toNat : Int) == 32) = false := byte_not (k := 32) (by decide) h2
                have hn := hP.more (by omega) (by rw [at_list s j hjl]; exact h2)
                clear h2 hjs
                go_wp2
                go_roundw
                case rel => exact ⟨j + 1, b, _, _, hn, hM, rfl, rfl, by go_num⟩
                case measure => simp [intOf]; omega
          · obtain ⟨hs1, hs2⟩ := hP.stop (by omega)
            have HS1 := Lib.hid hs1; clear hs1 hP
            have hne : xs ≠ [] := by rw [← HS1.out]; exact pieces_ne _
            have hpos : 0 < xs.length := List.length_pos_iff.2 hne
            obtain ⟨g, cap, rfl, hg1, hg2⟩ := hM.own.form hpos
            have hcell : ∀ i (h : i < xs.length), wr.cell? ⟨g, i, none⟩ = some (strV xs[i]) := by
              intro i h
              rw [hM.own.cellAt i (by omega)]
              simp [h]
            have HC := Lib.hid hcell; clear hcell hne
            go_wp2
            go_loop [2, 3, 4, 9, 10] (fun x2 x3 x4 x9 _ => x2 = .int .i64 0 ∧ x3 = .slice none 0 0 ∧ x4 = .int .i64 0 ∧ ∃ m : Nat, m ≤ xs.length ∧ (xs.take m).all goodW = true ∧ x9 = .int .i64 m) (fun _ _ _ x9 _ => xs.length - (intOf x9).toNat)
            case atStart => exact ⟨rfl, rfl, rfl, 0, by omega, rfl, rfl⟩
            case round =>
              obtain ⟨rfl, rfl, rfl, m, hm, hgood, rfl⟩ := hrel
              by_cases hml : m < xs.length
              · have hc := HC.out m hml
                unfold strV at hc
                obtain ⟨X, hX⟩ : ∃ X : ByteArray, X = ⟨(xs[m]'hml).toArray⟩ := ⟨_, rfl⟩
                have hXl : X.data.toList = xs[m]'hml := by rw [hX]
                rw [← hX] at hc
                have hXs : X.size ≤ s.size := by
                  rw [Lib.size_eq, hXl, Lib.size_eq]
                  exact lineW_len (by rw [HS1.out]; exact List.getElem_mem hml)
                have HXL := Lib.hid hXl; clear hXl hX
                have HG := Lib.hid hgood; clear hgood
                by_cases hX0 : X.size = 0
                · have hX0' : (X.size : Int) = 0 := by omega
                  have hb : lineB s.data.toList = false := bad_piece HS1.out hml (by rw [← HXL.out, show X.data.toList = [] from List.eq_nil_of_length_eq_zero (by rw [← Lib.size_eq]; exact hX0)]; rfl)
                  have HB := Lib.hid hb
                  have hbel := Lib.hid hM.below
                  clear hb hX0
                  go_wp2
                  go_ret3
                  exact Or.inr ⟨HB.out, rfl, hbel.out⟩
                · have hX0' : ((X.size : Int) == 0) = false := beq_eq_false_iff_ne.2 (by omega)
                  go_wp2
                  go_loop [2, 3, 4, 10] (fun x2 x3 x4 x => x2 = .int .i64 0 ∧ x3 = .slice none 0 0 ∧ x4 = .int .i64 0 ∧ ∃ q : Nat, q ≤ X.size ∧ (X.data.toList.take q).all isSB = true ∧ x = .int .i64 q) (fun _ _ _ x => X.size - (intOf x).toNat)
                  case atStart => exact ⟨rfl, rfl, rfl, 0, by omega, rfl, rfl⟩
                  case round =>
                    obtain ⟨rfl, rfl, rfl, q, hq, hall, rfl⟩ := hrel
                    have HA := Lib.hid hall; clear hall
                    have hXl : X.data.toList.length = X.size := (Lib.size_eq X).symm
                    by_cases hql : q < X.size
                    · have hge : X.data.toList[q]'(by omega) = X[q] := at_list X q hql _
                      cases hc : isSB X[q]
                      · have hb : lineB s.data.toList = false := bad_piece HS1.out hml (by rw [← HXL.out]; exact goodW_at (show q < X.data.toList.length by omega) (by rw [hge]; exact hc))
                        have hn : (X[q].toNat : Int) < 33 ∨ (33 ≤ (X[q].toNat : Int) ∧ 126 < (X[q].toNat : Int)) := by
                          have : ¬ (33 ≤ X[q].toNat ∧ X[q].toNat ≤ 126) := of_decide_eq_false hc
                          omega
                        have HB := Lib.hid hb
                        have hbel := Lib.hid hM.below
                        clear hb hge hc
                        rcases hn with hn | ⟨hn, hn'⟩
                        all_goals
                          go_wp2
                          go_ret3
                          exact Or.inr ⟨HB.out, rfl, hbel.out⟩
                      · have hn := isSB_iff.1 hc
                        have hn1 : (33 : Int) ≤ X[q].toNat := by omega
                        have hn2 : (X[q].toNat : Int) ≤ 126 := by omega
                        have hs := take_all HA.out (show q < X.data.toList.length by omega) (by rw [hge]; exact hc)
                        have HS := Lib.hid hs
                        clear hs hge hc hn
                        go_wp2
                        go_round
                        case rel => exact ⟨rfl, rfl, rfl, q + 1, by omega, HS.out, by go_num⟩
                        case measure => simp [intOf]; omega
                    · have hs : (xs.take (m + 1)).all goodW = true := take_all HG.out hml (goodW_mk HXL.out (by omega) (by rw [List.take_of_length_le (by omega)] at HA; exact HA.out))
                      have HS := Lib.hid hs; clear hs
                      go_wp2
                      go_round
                      case rel => exact ⟨rfl, rfl, rfl, m + 1, by omega, HS.out, by go_num⟩
                      case measure => simp [intOf]; omega
              · have hb : lineB s.data.toList = true := by
                  unfold lineB; rw [HS1.out]
                  rw [List.take_of_length_le (by omega)] at hgood; exact hgood
                have HB := Lib.hid hb; clear hb hgood
                go_wp2
                go_ret3
                exact Or.inl ⟨HB.out, _, by rw [HD.out]; rfl, by rw [HS1.out]; exact hM⟩


end Go.Proofs.YtjjfmffmcchlmaaDoor
