/- words.Line at every text. -/
import Derived.Test.YtjjfmffmcchlmaaDoorN2
import Derived.Test.YtjjfmffmcchlmaaDoorShelf
import Derived.Laws.OwnMore
import Derived.Deep.Onto
namespace Go.Proofs.YtjjfmffmcchlmaaDoor
open Go.RowKit

def strV (w : List UInt8) : Value := .string ⟨w.toArray⟩

theorem clone_any (s : ByteArray) (w : World) (hs : s.size ≤ 281474976710656) :
    Calls Tryd.prog 22 #[.string s] w fun e w' => e = .returned (.string s) ∧ Below w.heap.size w w' := by
  go_enter Tryd.func22, Tryd.ntmps22
  go_wp2_with fail
  refine (Tryd.stringslite_Clone s w hs).mono ?_
  rintro e w' ⟨rfl, hb⟩
  have HB := Lib.hid hb; clear hb
  go_wp2
  go_ret
  exact ⟨rfl, HB.out⟩

theorem grown_of_below {w w' : World} (h : Below w.heap.size w w') : w.grownBy w' none := ⟨h.os, h.tape, h.output, h.size, fun k hk _ => h.block k hk⟩
theorem own_below {w w' : World} {base : Nat} {e : TypeId} {size n : Nat} {v : Value} {xs : List Value} (h : w.ownsRow base e size v n xs) (hb : Below w.heap.size w w') : w'.ownsRow base e size v n xs :=
  h.kept (grown_of_below hb) (by
    cases hv : v.ownBlock with
    | none => exact Or.inl rfl
    | some k => exact Or.inr (by simp))

theorem ext_word (s : ByteArray) (b k : Nat) : s.extract b (k + 1) = ⟨(wordAt s.data.toList b k).toArray⟩ := by
  apply ByteArray.ext
  apply Array.toList_inj.1
  rw [Lib.extract_data]; rfl

/-- the call's own list of words, behind which the world is as it was below base -/
structure Mem (w : World) (xs : List (List UInt8)) (v : Value) (w' : World) : Prop where
  own : w'.ownsRow w.heap.size 9 1 v xs.length (xs.map strV)
  below : Below w.heap.size w w'

theorem Mem.start (w : World) : Mem w [] (.slice none 0 0) w := ⟨World.ownsRow_nil _ _ _ _, Below.refl _ _⟩

theorem Mem.push {w w1 w2 w3 : World} {xs : List (List UInt8)} {v v' : Value} {x : List UInt8} (h : Mem w xs v w1) (hb : Below w1.heap.size w1 w2) {o : Obj}
    (hown : w3.ownsRow w.heap.size 9 1 v' (xs.length + 1) (xs.map strV ++ [strV x])) (hg : (w2.alloc o).grownBy w3 v.ownBlock) : Mem w (xs ++ [x]) v' w3 := by
  refine ⟨by simpa using hown, ?_⟩
  have h1 : Below w.heap.size w w2 := h.below.trans (hb.mono h.below.size)
  have h2 : Below w.heap.size w (w2.alloc o) := h1.alloc h1.size o
  exact h2.grown hg h2.size (fun k hk => (h.own.lt k hk).1)

def LnJ (s : ByteArray) (w : World) (l : Nat) (a : Act) (w' : World) : Prop :=
  (l = 0 ∧ w = w' ∧ ∃ k : Nat, Blanks s.data.toList k ∧ ∃ u1 u2 u3 u4 u7 u8 u9 u10 u11 u12 u13 u14 u15 u16 u17 u18 u19 u20 u21 u22 u23 u24 u25 u26 u27 u28 u29 u30 u31 u32 u33 u34 u35 u36 u37 u38 u39 u40 u41 u42 u43 u44 u45 u46 u47 u48 u49 u50 u51 u52 u53 u54 u55 u56 u57 u58 u59 u60 u61 u62 u63 u64 u65 : Value,  a = { tmps := #[.string s, u1, u2, u3, u4, .slice none 0 0, .int .i64 k, u7, u8, u9, u10, u11, u12, u13, u14, u15, u16, u17, u18, u19, u20, u21, u22, u23, u24, u25, u26, u27, u28, u29, u30, u31, u32, u33, u34, u35, u36, u37, u38, u39, u40, u41, u42, u43, u44, u45, u46, u47, u48, u49, u50, u51, u52, u53, u54, u55, u56, u57, u58, u59, u60, u61, u62, u63, u64, u65], defers := [] }) ∨
  (l = 1 ∧ ∃ (k d : Nat) (v : Value) (xs : List (List UInt8)), First s.data.toList xs k ∧ depthL s.data.toList = d ∧ Mem w xs v w' ∧ ∃ u1 u2 u3 u4 u8 u9 u10 u11 u12 u13 u14 u15 u16 u17 u18 u19 u20 u21 u22 u23 u24 u25 u26 u27 u28 u29 u30 u31 u32 u33 u34 u35 u36 u37 u38 u39 u40 u41 u42 u43 u44 u45 u46 u47 u48 u49 u50 u51 u52 u53 u54 u55 u56 u57 u58 u59 u60 u61 u62 u63 u64 u65 : Value,  a = { tmps := #[.string s, u1, u2, u3, u4, v, .int .i64 k, .int .i64 d, u8, u9, u10, u11, u12, u13, u14, u15, u16, u17, u18, u19, u20, u21, u22, u23, u24, u25, u26, u27, u28, u29, u30, u31, u32, u33, u34, u35, u36, u37, u38, u39, u40, u41, u42, u43, u44, u45, u46, u47, u48, u49, u50, u51, u52, u53, u54, u55, u56, u57, u58, u59, u60, u61, u62, u63, u64, u65], defers := [] }) ∨
  (l = 2 ∧ ∃ (k b d : Nat) (v : Value) (xs : List (List UInt8)), Word s.data.toList xs b k ∧ depthL s.data.toList = d ∧ Mem w xs v w' ∧ ∃ u1 u2 u3 u4 u9 u10 u11 u12 u13 u14 u15 u16 u17 u18 u19 u20 u21 u22 u23 u24 u25 u26 u27 u28 u29 u30 u31 u32 u33 u34 u35 u36 u37 u38 u39 u40 u41 u42 u43 u44 u45 u46 u47 u48 u49 u50 u51 u52 u53 u54 u55 u56 u57 u58 u59 u60 u61 u62 u63 u64 u65 : Value,  a = { tmps := #[.string s, u1, u2, u3, u4, v, .int .i64 k, .int .i64 d, .int .i64 b, u9, u10, u11, u12, u13, u14, u15, u16, u17, u18, u19, u20, u21, u22, u23, u24, u25, u26, u27, u28, u29, u30, u31, u32, u33, u34, u35, u36, u37, u38, u39, u40, u41, u42, u43, u44, u45, u46, u47, u48, u49, u50, u51, u52, u53, u54, u55, u56, u57, u58, u59, u60, u61, u62, u63, u64, u65], defers := [] })
def LnM (s : ByteArray) (l : Nat) (a : Act) (_ : World) : Nat := 3 * (s.size - kOf a 6) + (if l = 0 then 2 else if l = 1 then 1 else 0)

/-- what Line comes to -/
def LinePost (l : List UInt8) (w : World) (e : Ending) (w' : World) : Prop :=
  (lineB l = true ∧ ∃ v, e = .returned (.tuple #[.int .i64 (depthL l), v, .int .i64 0]) ∧ Mem w (lineW l) v w') ∨
  (lineB l = false ∧ e = .returned (.tuple #[.int .i64 0, .slice none 0 0, .int .i64 1]) ∧ Below w.heap.size w w')

theorem Tryd.infoStr : (Tryd.prog.info? 9).map (fun i => (i.zero, i.size, i.bytes)) = some (some (.string ByteArray.empty), 1, 16) := by kernel_rfl

theorem lnM_low {s : ByteArray} {l l' : Nat} {a a' : Act} {w w' : World} (h : kOf a 6 = kOf a' 6) (hl : (l' = 0 ∧ l = 1) ∨ (l' = 1 ∧ l = 2)) : LnM s l a w < LnM s l' a' w' := by
  unfold LnM; rw [h]
  rcases hl with ⟨rfl, rfl⟩ | ⟨rfl, rfl⟩ <;> simp

theorem lnM_go {s : ByteArray} {l l' : Nat} {a a' : Act} {w w' : World} {k k' : Nat} (h : kOf a 6 = k) (h' : kOf a' 6 = k') (hk : k' < k) (hs : k ≤ s.size) : LnM s l a w < LnM s l' a' w' := by
  unfold LnM; rw [h, h']
  have h1 : (if l = 0 then 2 else if l = 1 then 1 else 0) ≤ 2 := by split <;> (try split) <;> omega
  omega

theorem one_cell (w1 : World) (x : Value) (t : TypeId) : ∀ (j : Nat) (u : Value), [x][j]? = some u → (w1.alloc (.cells #[x] t)).cell? ((⟨w1.heap.size, 0, none⟩ : Addr).add j) = some u := by
  intro j u hj
  match j, hj with
  | 0, hj => simp at hj; subst hj; simp [Addr.add]
  | j + 1, hj => simp at hj
theorem one_val (x : List UInt8) : ∀ u ∈ [strV x], u.oneCell' = true := by
  intro u hu; simp at hu; subst hu; rfl

set_option maxHeartbeats 4000000 in
theorem line_any (s : ByteArray) (w : World) (hs : s.size ≤ 4294967296) :
    Calls Tryd.prog 9 #[.string s] w (LinePost s.data.toList w) := by
  have hl : s.data.toList.length = s.size := (Lib.size_eq s).symm
  obtain ⟨i0, hi, hz0, hz1, hz2⟩ := info_parts Tryd.infoStr
  have HI := Lib.hid hi; have HZ0 := Lib.hid hz0; have HZ1 := Lib.hid hz1; have HZ2 := Lib.hid hz2
  clear hi hz0 hz1 hz2
  go_enter Tryd.func9, Tryd.ntmps9
  go_wp2
  refine wp_scope_labels (LnJ s w) (LnM s) ?_ ?_
  · rintro l a w' (⟨rfl, rfl, k, hB, u1, u2, u3, u4, u7, u8, u9, u10, u11, u12, u13, u14, u15, u16, u17, u18, u19, u20, u21, u22, u23, u24, u25, u26, u27, u28, u29, u30, u31, u32, u33, u34, u35, u36, u37, u38, u39, u40, u41, u42, u43, u44, u45, u46, u47, u48, u49, u50, u51, u52, u53, u54, u55, u56, u57, u58, u59, u60, u61, u62, u63, u64, u65, rfl⟩ | ⟨rfl, k, d, v, xs, hF, hd, hM, u1, u2, u3, u4, u8, u9, u10, u11, u12, u13, u14, u15, u16, u17, u18, u19, u20, u21, u22, u23, u24, u25, u26, u27, u28, u29, u30, u31, u32, u33, u34, u35, u36, u37, u38, u39, u40, u41, u42, u43, u44, u45, u46, u47, u48, u49, u50, u51, u52, u53, u54, u55, u56, u57, u58, u59, u60, u61, u62, u63, u64, u65, rfl⟩ | ⟨rfl, k, b, d, v, xs, hW, hd, hM, u1, u2, u3, u4, u9, u10, u11, u12, u13, u14, u15, u16, u17, u18, u19, u20, u21, u22, u23, u24, u25, u26, u27, u28, u29, u30, u31, u32, u33, u34, u35, u36, u37, u38, u39, u40, u41, u42, u43, u44, u45, u46, u47, u48, u49, u50, u51, u52, u53, u54, u55, u56, u57, u58, u59, u60, u61, u62, u63, u64, u65, rfl⟩)
    · refine ⟨_, rfl, ?_⟩
      intro H
      have HH := Lib.hid H; clear H
      have hkl := hB.1
      rw [hl] at hkl
      by_cases hc : ∃ hk : k < s.size, s[k] = 32
      · obtain ⟨hlt, hc⟩ := hc
        have t32 : ((s[k].toNat : Int) == 32) = true := byte_is (k := 32) (by decide) hc
        have hn := hB.step (by omega) (by rw [at_list s k hlt]; exact hc)
        clear hc hB HH
        go_wp2
        go_step3
        exact ⟨Or.inl ⟨rfl, rfl, k + 1, hn, _, _, _, _, _, _, _, _, _, _, _, _, _, _, _, _, _, _, _, _, _, _, _, _, _, _, _, _, _, _, _, _, _, _, _, _, _, _, _, _, _, _, _, _, _, _, _, _, _, _, _, _, _, _, _, _, _, _, _, _, _, _, _, rfl⟩, lnM_go (k := k + 1) (k' := k) rfl rfl (by omega) (by omega)⟩
      · have hd : depthL s.data.toList = k := hB.stop (by
          by_cases hk : k < s.size
          · exact Or.inr ⟨by omega, fun e => hc ⟨hk, by rw [← at_list s k hk (by omega)]; exact e⟩⟩
          · exact Or.inl (by omega))
        have hf : First s.data.toList [] k := First.start hd (by omega)
        have HD := Lib.hid hd; clear hd
        by_cases hk : k < s.size
        · have t32 : ((s[k].toNat : Int) == 32) = false := byte_not (k := 32) (by decide) (fun e => hc ⟨hk, e⟩)
          clear hc hB
          go_wp2
          go_step3
          exact walk_on (by assumption) (HH.out 1 _ _ _ rfl (Or.inr (Or.inl ⟨rfl, k, k, _, [], hf, HD.out, Mem.start w, _, _, _, _, _, _, _, _, _, _, _, _, _, _, _, _, _, _, _, _, _, _, _, _, _, _, _, _, _, _, _, _, _, _, _, _, _, _, _, _, _, _, _, _, _, _, _, _, _, _, _, _, _, _, _, _, _, _, _, _, _, _, rfl⟩)) (lnM_low rfl (Or.inl ⟨rfl, rfl⟩)))
        · obtain rfl : k = s.size := by omega
          clear hc hB hk
          go_wp2
          go_step3
          exact walk_on (by assumption) (HH.out 1 _ _ _ rfl (Or.inr (Or.inl ⟨rfl, s.size, s.size, _, [], hf, HD.out, Mem.start w, _, _, _, _, _, _, _, _, _, _, _, _, _, _, _, _, _, _, _, _, _, _, _, _, _, _, _, _, _, _, _, _, _, _, _, _, _, _, _, _, _, _, _, _, _, _, _, _, _, _, _, _, _, _, _, _, _, _, _, _, _, _, rfl⟩)) (lnM_low rfl (Or.inl ⟨rfl, rfl⟩)))
    · refine ⟨_, rfl, ?_⟩
      intro H
      have HH := Lib.hid H; clear H
      have hkl := hF.len
      rw [hl] at hkl
      have HD := Lib.hid hd; clear hd
      by_cases hk : k < s.size
      · have hk' : ((k : Int) == (s.size : Int)) = false := beq_eq_false_iff_ne.2 (by omega)
        cases hc : isSB s[k]
        · have hb := hF.stop (Or.inr ⟨by omega, by rw [at_list s k hk]; exact hc⟩)
          have HB := Lib.hid hb; clear hb hF HH
          have hbel := Lib.hid hM.below
          clear hM
          go_wp2_with (go_at_call 21; refine (isSign_any _ _).mono ?_; rintro e w' ⟨rfl, rfl⟩)
          go_ret3
          exact Or.inr ⟨HB.out, rfl, hbel.out⟩
        · have hw := hF.word (by omega) (by rw [at_list s k hk]; exact hc)
          clear hF
          go_wp2_with (go_at_call 21; refine (isSign_any _ _).mono ?_; rintro e w' ⟨rfl, rfl⟩)
          go_step3
          exact walk_on (by assumption) (HH.out 2 _ _ _ rfl (Or.inr (Or.inr ⟨rfl, k, k, d, v, xs, hw, HD.out, hM, _, _, _, _, _, _, _, _, _, _, _, _, _, _, _, _, _, _, _, _, _, _, _, _, _, _, _, _, _, _, _, _, _, _, _, _, _, _, _, _, _, _, _, _, _, _, _, _, _, _, _, _, _, _, _, _, _, _, _, _, _, rfl⟩)) (lnM_low rfl (Or.inr ⟨rfl, rfl⟩)))
      · have hk' : (k : Int) = s.size := by omega
        have hb := hF.stop (Or.inl (by omega))
        have HB := Lib.hid hb; clear hb hF HH hk
        have hbel := Lib.hid hM.below
        clear hM
        go_wp2
        go_ret3
        exact Or.inr ⟨HB.out, rfl, hbel.out⟩
    · refine ⟨_, rfl, ?_⟩
      intro H
      clear H
      have hlt := hW.lt; have hle := hW.le
      rw [hl] at hlt
      have HD := Lib.hid hd; clear hd
      have hfew := hW.few
      have hxs : (wordAt s.data.toList b k).toArray.size ≤ 281474976710656 := by
        unfold wordAt; simp; omega
      have HXs : Hid ((⟨(wordAt s.data.toList b k).toArray⟩ : ByteArray).size ≤ 281474976710656) := hxs
      clear hxs
      have hbs := hM.below.size
      by_cases hend : k + 1 = s.size
      · have hend' : (k : Int) + 1 = s.size := by omega
        have hx : s.extract b s.size = ⟨(wordAt s.data.toList b k).toArray⟩ := by rw [← hend]; exact ext_word s b k
        have HX := Lib.hid hx; clear hx
        have HE := Lib.hid (hW.end_ (by omega)); clear hend
        go_wp2_with (go_at_call 21; refine (isSign_any _ _).mono ?_; rintro e w' ⟨rfl, rfl⟩)
        refine (clone_any _ _ (by rw [HX.out]; exact HXs.out)).mono ?_
        rintro e w1 ⟨rfl, hb1⟩
        rw [HX.out]
        have hown := (own_below hM.own hb1).alloc (.cells #[strV (wordAt s.data.toList b k)] 9)
        have HOWN := Lib.hid hown; have HB1 := Lib.hid hb1; clear hown hb1
        go_wp2_with (at_builtin; refine wpList_append_own _ rfl _ _ 22 rfl w.heap.size 9 i0 (.string ByteArray.empty) 1 16 Tryd.underlying22 HI.out HZ0.out HZ1.out HZ2.out rfl (by decide) _ _ _ rfl HOWN.out ⟨w1.heap.size, 0, none⟩ 1 1 [strV (wordAt s.data.toList b k)] rfl rfl (one_cell _ _ _) (one_val _) (by unfold maxLen; omega) (by omega) (by have := HB1.out.size; simp; omega) ?_)
        intro v' w2 hown' hgrow _
        have hm := hM.push HB1.out hown' hgrow
        clear hown' hgrow
        go_wp2
        go_ret3
        exact Or.inl ⟨HE.out.1, v', by rw [HD.out]; rfl, by rw [HE.out.2]; exact hm⟩
      · have hlt1 : k + 1 < s.size := by omega
        have hend' : (((k : Int) + 1) == (s.size : Int)) = false := beq_eq_false_iff_ne.2 (by omega)
        clear hend
        cases hc : isSB s[k + 1]
        · have HX := Lib.hid (ext_word s b k)
          by_cases h32 : s[k + 1] = 32
          · have t32 : ((s[k + 1].toNat : Int) == 32) = true := byte_is (k := 32) (by decide) h32
            have hn := hW.next (by omega) (by rw [at_list s _ hlt1]; exact h32)
            have HN := Lib.hid hn
            clear hn hW h32
            go_wp2_with (go_at_call 21; refine (isSign_any _ _).mono ?_; rintro e w' ⟨rfl, rfl⟩)
            refine (clone_any _ _ (by rw [HX.out]; exact HXs.out)).mono ?_
            rintro e w1 ⟨rfl, hb1⟩
            rw [HX.out]
            have hown := (own_below hM.own hb1).alloc (.cells #[strV (wordAt s.data.toList b k)] 9)
            have HOWN := Lib.hid hown; have HB1 := Lib.hid hb1; clear hown hb1
            go_wp2_with (at_builtin; refine wpList_append_own _ rfl _ _ 22 rfl w.heap.size 9 i0 (.string ByteArray.empty) 1 16 Tryd.underlying22 HI.out HZ0.out HZ1.out HZ2.out rfl (by decide) _ _ _ rfl HOWN.out ⟨w1.heap.size, 0, none⟩ 1 1 [strV (wordAt s.data.toList b k)] rfl rfl (one_cell _ _ _) (one_val _) (by unfold maxLen; omega) (by omega) (by have := HB1.out.size; simp; omega) ?_)
            intro v' w2 hown' hgrow _
            have hm := hM.push HB1.out hown' hgrow
            clear hown' hgrow
            go_wp2
            go_step3
            exact ⟨Or.inr (Or.inl ⟨rfl, k + 1 + 1, d, v', _, HN.out, HD.out, hm, _, _, _, _, _, _, _, _, _, _, _, _, _, _, _, _, _, _, _, _, _, _, _, _, _, _, _, _, _, _, _, _, _, _, _, _, _, _, _, _, _, _, _, _, _, _, _, _, _, _, _, _, _, _, _, _, _, _, _, _, _, _, rfl⟩), lnM_go (k := k + 1 + 1) (k' := k) rfl rfl (by omega) (by omega)⟩
          · have t32 : ((s[k + 1].toNat : Int) == 32) = false := byte_not (k := 32) (by decide) h32
            have hn := hW.bad (by omega) (by rw [at_list s _ hlt1]; exact h32) (by rw [at_list s _ hlt1]; exact hc)
            have HN := Lib.hid hn
            clear hn hW h32
            go_wp2_with (go_at_call 21; refine (isSign_any _ _).mono ?_; rintro e w' ⟨rfl, rfl⟩)
            refine (clone_any _ _ (by rw [HX.out]; exact HXs.out)).mono ?_
            rintro e w1 ⟨rfl, hb1⟩
            rw [HX.out]
            have hown := (own_below hM.own hb1).alloc (.cells #[strV (wordAt s.data.toList b k)] 9)
            have HOWN := Lib.hid hown; have HB1 := Lib.hid hb1; clear hown hb1
            go_wp2_with (at_builtin; refine wpList_append_own _ rfl _ _ 22 rfl w.heap.size 9 i0 (.string ByteArray.empty) 1 16 Tryd.underlying22 HI.out HZ0.out HZ1.out HZ2.out rfl (by decide) _ _ _ rfl HOWN.out ⟨w1.heap.size, 0, none⟩ 1 1 [strV (wordAt s.data.toList b k)] rfl rfl (one_cell _ _ _) (one_val _) (by unfold maxLen; omega) (by omega) (by have := HB1.out.size; simp; omega) ?_)
            intro v' w2 hown' hgrow _
            have hm := hM.push HB1.out hown' hgrow
            clear hown' hgrow
            have hbel := Lib.hid hm.below
            clear hm
            go_wp2
            go_ret3
            exact Or.inr ⟨HN.out, rfl, hbel.out⟩
        · have hn := hW.step (by omega) (by rw [at_list s _ hlt1]; exact hc)
          clear hW
          go_wp2_with (go_at_call 21; refine (isSign_any _ _).mono ?_; rintro e w' ⟨rfl, rfl⟩)
          go_step3
          exact ⟨Or.inr (Or.inr ⟨rfl, k + 1, b, d, v, xs, hn, HD.out, hM, _, _, _, _, _, _, _, _, _, _, _, _, _, _, _, _, _, _, _, _, _, _, _, _, _, _, _, _, _, _, _, _, _, _, _, _, _, _, _, _, _, _, _, _, _, _, _, _, _, _, _, _, _, _, _, _, _, _, _, _, _, rfl⟩), lnM_go (k := k + 1) (k' := k) rfl rfl (by omega) (by omega)⟩
  · intro H
    have HH := Lib.hid H; clear H
    go_wp2
    go_step3
    refine walk_on (by assumption) (HH.out 0 _ _ _ rfl (Or.inl ⟨rfl, rfl, 0, Blanks.zero _, _, _, _, _, _, _, _, _, _, _, _, _, _, _, _, _, _, _, _, _, _, _, _, _, _, _, _, _, _, _, _, _, _, _, _, _, _, _, _, _, _, _, _, _, _, _, _, _, _, _, _, _, _, _, _, _, _, _, _, _, _, _, _, rfl⟩))
end Go.Proofs.YtjjfmffmcchlmaaDoor
