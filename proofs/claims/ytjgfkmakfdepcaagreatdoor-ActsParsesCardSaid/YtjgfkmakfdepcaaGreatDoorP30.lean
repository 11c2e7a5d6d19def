/- Own texts, joined: A25, A26. -/
import Derived.Test.YtjgfkmakfdepcaaGreatDoorP22
import Derived.Test.YtjgfkmakfdepcaaGreatDoorP29
namespace Go.Proofs.YtjgfkmakfdepcaaGreatDoor
open Go.RowKit

theorem refRead_any (s : ByteArray) (w : World) (hs : s.size ≤ 6000) : Calls Tryz.prog 33 #[.string s] w (ReadRPost s.data.toList w) := by
  cases h0 : Lib.hasPrefix s.data.toList wRaise with
  | true => exact refRead_raise s w hs h0
  | false =>
    cases h1 : Lib.hasPrefix s.data.toList wSend with
    | true => exact refRead_send s w hs h0 h1
    | false => exact refRead_set s w hs h0 h1

/-- where the cutting stands: from f on nothing is cut yet, up to k no semicolon stands -/
structure PcI (l : List UInt8) (f k : Nat) (L : List (List UInt8)) : Prop where
  at_ : (k ≤ l.length ∧ f ≤ k ∧ (∀ j, f ≤ j → j < k → l[j]? ≠ some 59) ∧ semis l = L ++ semis (l.drop f)) ∨ (k = l.length + 1 ∧ semis l = L)
  len : L.length ≤ k
theorem pc_start (l : List UInt8) : PcI l 0 0 [] := ⟨Or.inl ⟨Nat.zero_le _, Nat.le_refl _, fun j _ h => by omega, by rw [List.drop_zero]; rfl⟩, Nat.le_refl _⟩
theorem pc_skip {l : List UInt8} {f k : Nat} {L : List (List UInt8)} (h : PcI l f k L) (hk : k < l.length) (hc : l[k]? ≠ some 59) : PcI l f (k + 1) L := by
  refine ⟨Or.inl ?_, by have := h.len; omega⟩
  rcases h.at_ with ⟨_, h2, h3, h4⟩ | ⟨h1, _⟩
  · refine ⟨hk, by omega, fun j hj hjk => ?_, h4⟩
    by_cases e : j = k
    · subst e; exact hc
    · exact h3 j hj (by omega)
  · omega
theorem no_semi {l : List UInt8} {f k : Nat} (h : ∀ j, f ≤ j → j < k → l[j]? ≠ some 59) : ∀ c ∈ (l.drop f).take (k - f), c ≠ 59 := by
  rintro c hc rfl
  obtain ⟨j, hj⟩ := List.getElem?_of_mem hc
  have hjl : j < k - f := by
    have := (List.getElem?_eq_some_iff.1 hj).1
    rw [List.length_take] at this; omega
  rw [List.getElem?_take_of_lt hjl, List.getElem?_drop] at hj
  exact h (f + j) (by omega) (by omega) hj
theorem pc_semi {l : List UInt8} {f k : Nat} {L : List (List UInt8)} (h : PcI l f k L) (hk : k < l.length) (hc : l[k]? = some 59) : f ≤ k ∧ PcI l (k + 1) (k + 1) (L ++ [(l.drop f).take (k - f)]) := by
  rcases h.at_ with ⟨_, h2, h3, h4⟩ | ⟨h1, _⟩
  · refine ⟨h2, Or.inl ⟨hk, Nat.le_refl _, fun j _ _ => by omega, ?_⟩, by have := h.len; rw [List.length_append]; simp; omega⟩
    have e : l.drop f = (l.drop f).take (k - f) ++ 59 :: l.drop (k + 1) := by
      have e1 : (l.drop f).drop (k - f) = l.drop k := by rw [List.drop_drop]; congr 1; omega
      have e2 : l.drop k = 59 :: l.drop (k + 1) := by
        rw [List.drop_eq_getElem_cons hk]
        congr 1
        rw [List.getElem?_eq_getElem hk] at hc
        exact Option.some.inj hc
      rw [← e2, ← e1, List.take_append_drop]
    rw [h4, List.append_assoc]
    congr 1
    conv => lhs; rw [e]
    rw [semis_cut (no_semi h3)]
    rfl
  · omega
theorem pc_end {l : List UInt8} {f : Nat} {L : List (List UInt8)} (h : PcI l f l.length L) : f ≤ l.length ∧ PcI l (l.length + 1) (l.length + 1) (L ++ [(l.drop f).take (l.length - f)]) := by
  rcases h.at_ with ⟨_, h2, h3, h4⟩ | ⟨h1, _⟩
  · refine ⟨h2, Or.inr ⟨rfl, ?_⟩, by have := h.len; rw [List.length_append]; simp; omega⟩
    have e : (l.drop f).take (l.length - f) = l.drop f := List.take_of_length_le (by rw [List.length_drop]; omega)
    have hn := no_semi h3
    rw [e] at hn ⊢
    rw [h4, semis_none hn]
  · omega
theorem pc_done {l : List UInt8} {f k : Nat} {L : List (List UInt8)} (h : PcI l f k L) (hk : ¬ k ≤ l.length) : semis l = L := by
  rcases h.at_ with ⟨h1, _⟩ | ⟨_, h2⟩
  · exact absurd h1 hk
  · exact h2
theorem pc_le {l : List UInt8} {f k : Nat} {L : List (List UInt8)} (h : PcI l f k L) : k ≤ l.length + 1 := by
  rcases h.at_ with ⟨h1, _⟩ | ⟨h1, _⟩ <;> omega
/-- what a round of the cutting leaves -/
theorem cut_push {w w1 w2 : World} {L : List (List UInt8)} {x : List UInt8} {v v' : Value} {o : Obj} (hb : Below w.heap.size w w1) (ho : w1.ownsRow w.heap.size 9 1 v L.length (L.map bstr))
    (h2 : w2.ownsRow w.heap.size 9 1 v' (L.length + 1) (L.map bstr ++ [bstr x])) (hg : (w1.alloc o).grownBy w2 v.ownBlock) : w2.ownsRow w.heap.size 9 1 v' (L ++ [x]).length ((L ++ [x]).map bstr) ∧ Below w.heap.size w w2 := by
  refine ⟨by rw [List.map_append, List.length_append]; exact h2, (hb.alloc hb.size o).grown hg (by have := hb.size; simp; omega) (fun k hk => (ho.lt k hk).1)⟩

set_option maxRecDepth 100000 in
set_option maxHeartbeats 8000000 in
theorem refParseA_any (s : ByteArray) (w : World) (_ : s.size ≤ 9223372036854775807) :
    Calls Tryz.prog 16 #[.string s] w (ParsedPost (parseA s.data.toList).1 (parseA s.data.toList).2 w) := by
  have hsl : s.data.toList.length = s.size := (Lib.size_eq s).symm
  have HSL := Lib.hid hsl
  have hslen := semis_len s.data.toList
  have HSN := Lib.hid hslen
  by_cases h6 : 6000 < s.size
  · have hp : parseA s.data.toList = ([], 4) := by unfold parseA; rw [if_pos (Or.inl (by omega))]
    rw [hp]
    have HBR := Lib.hid (Below.refl w.heap.size w)
    clear hp hsl hslen
    go_enter Tryz.func16, Tryz.ntmps16
    go_wp2
    go_ret2
    exact ParsedPost.no HBR.out
  obtain ⟨is, hs0, hs1, hs2, hs3⟩ := info_of infoStrS
  have HS0 := Lib.hid hs0; have HS1 := Lib.hid hs1; have HS2 := Lib.hid hs2; have HS3 := Lib.hid hs3
  obtain ⟨ia, hi0, hi1, hi2, hi3⟩ := info_of infoAct
  have HX0 := Lib.hid hi0; have HX1 := Lib.hid hi1; have HX2 := Lib.hid hi2; have HX3 := Lib.hid hi3
  have HRA := Lib.hid (fun X W (h : X.size ≤ 6000) => refRead_any X W h)
  have HEX := Lib.hid (fun f k => Lib.extract_data s f k)
  have HLE := Lib.hid (semis_le s.data.toList)
  have HPD : Hid (parseA s.data.toList = if 8 ≤ Lib.countByte s.data.toList 59 then ([], 4) else if ((semis s.data.toList).map readA).all oneB = true then ((semis s.data.toList).map readA, 0) else ([], 1)) := by
    show parseA s.data.toList = _
    unfold parseA
    by_cases h8 : 8 ≤ Lib.countByte s.data.toList 59
    · rw [if_pos (Or.inr h8), if_pos h8]
    · rw [if_neg (fun h => h.elim (fun h => by omega) h8), if_neg h8]
  clear hs0 hs1 hs2 hs3 hi0 hi1 hi2 hi3 hsl hslen
  generalize hq : parseA s.data.toList = q at *
  clear hq
  have e6 : decide (6000 < (s.size : Int)) = false := decide_eq_false (by omega)
  go_enter Tryz.func16, Tryz.ntmps16
  go_wp2
  go_loopw [4, 5, 6] (fun x4 x5 x6 wr => ∃ (f k : Nat) (L : List (List UInt8)), PcI s.data.toList f k L ∧ x5 = .int .i64 f ∧ x6 = .int .i64 k ∧ wr.ownsRow w.heap.size 9 1 x4 L.length (L.map bstr) ∧ Below w.heap.size w wr) (fun _ _ x _ => s.size + 1 - (intOf x).toNat)
  case atStart => exact ⟨0, 0, [], pc_start _, rfl, rfl, World.ownsRow_nil _ _ _ _, Below.refl _ _⟩
  case round =>
    obtain ⟨f, k, L, hI, hx5, hx6, hown, hbw⟩ := hrel
    subst hx5
    subst hx6
    obtain ⟨wl, hwl⟩ : ∃ W, W = wr := ⟨_, rfl⟩
    subst hwl
    obtain ⟨A4, c4, e4⟩ := own_slice hown
    subst e4
    have HBW := Lib.hid hbw; have HOW := Lib.hid hown; have HI := Lib.hid hI
    have hkl := pc_le hI
    have hLl := hI.len
    rw [HSL.out] at hkl
    clear hbw hown hI
    by_cases hks : k < s.size
    · have hne : ((k : Int) == (s.size : Int)) = false := int_ne (by omega)
      by_cases hc : s[k] = 59
      · have hk? : s.data.toList[k]? = some 59 := by rw [List.getElem?_eq_getElem (by rw [HSL.out]; exact hks), at_list s k hks, hc]
        obtain ⟨hfk, hI2⟩ := pc_semi HI.out (by rw [HSL.out]; exact hks) hk?
        have hce : ((s[k].toNat : Int) == 59) = true := by rw [hc]; rfl
        have HI2 := Lib.hid hI2
        have hX := HEX.out f k
        have HXB : Hid (Value.string (s.extract f k) = bstr ((s.data.toList.drop f).take (k - f))) := by
          show _ = _
          rw [← hX, bstr_of]
        clear HI hI2 hk? hc hX
        have HIN : Hid (Inn (wl.alloc (.cells #[.string (s.extract f k)] 9)) 1 (.slice (some ⟨wl.heap.size, 0, none⟩) 1 1) 1 [.string (s.extract f k)]) := Inn.of_own (Oz.own_laid (B := 0) (size := 1) wl #[.string (s.extract f k)] (Nat.zero_le _) (by decide) rfl)
        have hsz := HBW.out.size
        go_wp2_with (at_builtin; refine Ow.wpList_append rfl (.tmp 30) (.tmp 35) 42 rfl w.heap.size 9 is _ 1 16 Tryz.underlying42 HS0.out HS1.out HS2.out HS3.out rfl (by decide) _ L.length (L.map bstr) rfl (HOW.out.alloc _) _ 1 [.string (s.extract f k)] rfl HIN.out (by intro u hu; simp at hu; subst hu; rfl) (by unfold maxLen; omega) (by omega) (by simp; omega) ?_)
        intro v5 w5 ho5 hg5 _
        obtain ⟨hr, hb⟩ := cut_push HBW.out HOW.out (by rw [← HXB.out]; exact ho5) hg5
        have HR5 := Lib.hid hr; have HB5 := Lib.hid hb
        clear ho5 hg5 hr hb
        go_wp2
        go_roundw
        case rel => exact ⟨k + 1, k + 1, _, HI2.out, by go_num, by go_num, HR5.out, HB5.out⟩
        case measure => simp [intOf] <;> omega
      · have hI2 := pc_skip HI.out (by rw [HSL.out]; exact hks) (by rw [List.getElem?_eq_getElem (by rw [HSL.out]; exact hks), at_list s k hks]; exact fun e => hc (Option.some.inj e))
        have hce : ((s[k].toNat : Int) == 59) = false := beq_eq_false_iff_ne.2 (fun e => hc (UInt8.toNat_inj.1 (by show s[k].toNat = 59; omega)))
        have HI2 := Lib.hid hI2
        clear HI hI2 hc
        go_wp2
        go_roundw
        case rel => exact ⟨f, k + 1, L, HI2.out, rfl, by go_num, HOW.out, HBW.out⟩
        case measure => simp [intOf] <;> omega
    · by_cases hke : k = s.size
      · subst hke
        obtain ⟨hfk, hI2⟩ := pc_end (by rw [HSL.out]; exact HI.out)
        rw [HSL.out] at hfk hI2
        have HI2 := Lib.hid hI2
        have hX := HEX.out f s.size
        have HXB : Hid (Value.string (s.extract f s.size) = bstr ((s.data.toList.drop f).take (s.size - f))) := by
          show _ = _
          rw [← hX, bstr_of]
        clear HI hI2 hX
        have HIN : Hid (Inn (wl.alloc (.cells #[.string (s.extract f s.size)] 9)) 1 (.slice (some ⟨wl.heap.size, 0, none⟩) 1 1) 1 [.string (s.extract f s.size)]) := Inn.of_own (Oz.own_laid (B := 0) (size := 1) wl #[.string (s.extract f s.size)] (Nat.zero_le _) (by decide) rfl)
        have hsz := HBW.out.size
        go_wp2_with (at_builtin; refine Ow.wpList_append rfl (.tmp 30) (.tmp 35) 42 rfl w.heap.size 9 is _ 1 16 Tryz.underlying42 HS0.out HS1.out HS2.out HS3.out rfl (by decide) _ L.length (L.map bstr) rfl (HOW.out.alloc _) _ 1 [.string (s.extract f s.size)] rfl HIN.out (by intro u hu; simp at hu; subst hu; rfl) (by unfold maxLen; omega) (by omega) (by simp; omega) ?_)
        intro v5 w5 ho5 hg5 _
        obtain ⟨hr, hb⟩ := cut_push HBW.out HOW.out (by rw [← HXB.out]; exact ho5) hg5
        have HR5 := Lib.hid hr; have HB5 := Lib.hid hb
        clear ho5 hg5 hr hb
        go_wp2
        go_roundw
        case rel => exact ⟨s.size + 1, s.size + 1, _, HI2.out, by go_num, by go_num, HR5.out, HB5.out⟩
        case measure => simp [intOf] <;> omega
      · have hdone := pc_done HI.out (by rw [HSL.out]; omega)
        have hfin := HPD.out
        have hsn := HSN.out
        have hle := HLE.out
        rw [hdone] at hfin hsn hle
        have HFIN := Lib.hid hfin
        have HSN2 := Lib.hid hsn
        have HLL := Lib.hid hle
        clear HPD HSN HI HLE hdone hfin hsn hle
        by_cases h8 : 8 < L.length
        · have hqq : q = ([], 4) := by rw [HFIN.out, if_pos (by have := HSN2.out; omega)]
          clear HFIN
          subst hqq
          go_wp2
          go_ret2
          exact ParsedPost.no HBW.out
        have hf2 := HFIN.out
        rw [if_neg (by have := HSN2.out; omega)] at hf2
        have HF2 := Lib.hid hf2
        have HI0 : Hid (PaI L wl wl 0 (.slice none 0 0) []) := ⟨Nat.zero_le _, rfl, rfl, World.ownsRow_nil _ _ _ _, (fun p hp => by cases hp), (fun p hp => by cases hp), Below.refl _ _⟩
        obtain ⟨n, hn⟩ : ∃ n, L.length = n := ⟨_, rfl⟩
        have HN := Lib.hid hn
        rw [hn] at h8 HOW
        rw [hn]
        clear HFIN hf2 hn hLl
        have e9 : decide (k ≤ s.size) = false := decide_eq_false (by omega)
        have e8 : decide (8 < (n : Int)) = false := decide_eq_false (by omega)
        go_wp2
        go_loopw [2, 3, 7, 8] (fun x2 x3 x7 x8 wr => x2 = .slice none 0 0 ∧ x3 = .int .i64 0 ∧ ∃ (i : Nat) (ps : List AP) (lv : Value), PaI L wl wr i lv ps ∧ x7 = lv ∧ x8 = .int .i64 i) (fun _ _ _ x _ => n - (intOf x).toNat)
        case atStart => exact ⟨rfl, rfl, 0, [], _, HI0.out, rfl, rfl⟩
        case round =>
          obtain ⟨rfl, rfl, i, ps, lv, hI, hx7, hx8⟩ := hrel
          subst hx8
          replace hx7 := hx7.symm
          subst hx7
          obtain ⟨wm, hwm⟩ : ∃ W, W = wr := ⟨_, rfl⟩
          subst hwm
          have hil := hI.le
          rw [HN.out] at hil
          have hpl : ps.length ≤ 8 := by have := hI.len; omega
          have HI := Lib.hid hI
          have HBM := Lib.hid (HBW.out.trans (hI.below.mono HBW.out.size))
          by_cases hin : i < n
          · have hiL : i < L.length := by rw [HN.out]; exact hin
            obtain ⟨g, rfl⟩ : ∃ g, A4 = some ⟨g, 0, none⟩ := by
              rcases HOW.out.2 with ⟨_, h0⟩ | ⟨g, cap', cur, h1, _⟩
              · omega
              · simp only [Value.slice.injEq] at h1; exact ⟨g, h1.1⟩
            obtain ⟨X, hX, hXl⟩ := bstr_some L[i]
            have hc0 : wl.cell? ⟨g, i, none⟩ = some (.string X) := (HOW.out.cellAt i (by omega)).trans (by rw [List.getElem?_map, List.getElem?_eq_getElem hiL]; simp [hX])
            have hc := (hI.below.cell (cell_lt hc0)).trans hc0
            have hXs : X.size ≤ 6000 := by
              rw [Lib.size_eq, hXl]
              have := HLL.out _ (List.getElem_mem hiL)
              rw [HSL.out] at this; omega
            have HR := Lib.hid (HRA.out X wm hXs)
            rw [hXl] at HR
            clear hI hc0 hXl hX
            go_wp2_with fail
            refine HR.out.mono ?_
            rintro e w2 ⟨ka, N, Av, nv, cv, bb, rfl, hbb, hAct, hb2⟩
            have hwr := fun (h : oneB (readA L[i]) = false) => all_wrong hiL h
            have HB3 : Hid (Below w2.heap.size w2 (w2.alloc (.cells #[.int .i64 ka, .string N, .slice Av nv cv] 59))) := (Below.refl _ _).alloc (Nat.le_refl _) _
            have HBT := Lib.hid (HBM.out.trans (hb2.mono HBM.out.size))
            cases bb with
            | false =>
              have hqq := HF2.out
              rw [hwr hbb.symm, if_neg (by decide)] at hqq
              clear HF2 hwr hAct hbb hb2
              subst hqq
              have HB4 := Lib.hid (HBT.out.trans (HB3.out.mono HBT.out.size))
              go_wp2
              go_ret2
              exact ParsedPost.no HB4.out
            | true =>
              obtain ⟨hk1, hN1, hA⟩ := hAct rfl
              have hI2 := HI.out.moved hb2
              have hlow := HI.out.below.size
              have hA2 : ActO wl.heap.size w2 (readA L[i], .slice Av nv cv) := ⟨own_lower hA.own hlow, hA.len, hA.names, hA.name⟩
              have hfar : ∀ g, lv.ownBlock = some g → Value.ownBlock (.slice Av nv cv) ≠ some g := fun g h1 h2 => by
                have := (hA.own.lt g h2).1
                have := (HI.out.row.lt g h1).2
                omega
              have hfl : [Value.int .i64 ka, .string N, .slice Av nv cv] = actV (readA L[i], .slice Av nv cv) := by
                unfold actV; simp only; rw [hk1, ← hN1, bstr_of]
              have HFL := Lib.hid hfl
              have hpush := fun w3 w4 lv' (hb3 : Below w2.heap.size w2 w3) => (hI2.moved hb3).push (w' := w4) (lv' := lv') (v := .slice Av nv cv) hiL hbb.symm (Or.inr ⟨hA2.below hb3, hfar⟩)
              have HPU := Lib.hid hpush
              have HB5 : Hid (Below w2.heap.size w2 ((w2.alloc (.cells #[.int .i64 ka, .string N, .slice Av nv cv] 59)).alloc (.cells #[.int .i64 ka, .string N, .slice Av nv cv] 59))) := HB3.out.alloc HB3.out.size _
              have HI5 := Lib.hid (hI2.moved HB5.out)
              have HIN : Hid (Inn ((w2.alloc (.cells #[.int .i64 ka, .string N, .slice Av nv cv] 59)).alloc (.cells #[.int .i64 ka, .string N, .slice Av nv cv] 59)) 3 (.slice (some ⟨w2.heap.size + 1, 0, none⟩) 1 1) 1 [.int .i64 ka, .string N, .slice Av nv cv]) := by
                have h := Oz.own_laid (B := 0) (size := 3) (n := 1) (e := 59) (w2.alloc (.cells #[.int .i64 ka, .string N, .slice Av nv cv] 59)) #[.int .i64 ka, .string N, .slice Av nv cv] (Nat.zero_le _) (by decide) rfl
                have h2 := Inn.of_own h
                rw [World.size_alloc] at h2
                exact h2
              clear hwr hAct hbb hb2 hI2 hA hA2 hfar hfl hpush hk1 hN1 HF2
              go_wp2_with (at_builtin; refine Ow.wpList_append rfl (.tmp 58) (.tmp 60) 22 rfl wl.heap.size 59 ia _ 3 48 Tryz.underlying22 HX0.out HX1.out HX2.out HX3.out rfl (by decide) _ ps.length (flatA ps) rfl HI5.out.row _ 1 [.int .i64 ka, .string N, .slice Av nv cv] rfl HIN.out (by intro u hu; simp only [List.mem_cons, List.not_mem_nil, or_false] at hu; rcases hu with rfl | rfl | rfl <;> rfl) (by unfold maxLen; omega) (by omega) (by have := HI5.out.below.size; omega) ?_)
              intro lv' w5 ho5 hg5 hob5
              have HI6 := Lib.hid (HPU.out _ w5 lv' HB5.out (by rw [← HFL.out]; exact ho5) hg5 (by simpa using hob5))
              clear ho5 hg5 hob5
              go_wp2
              go_roundw
              case rel => exact ⟨rfl, rfl, i + 1, _, _, HI6.out, rfl, by go_num⟩
              case measure => simp [intOf] <;> omega
          · obtain rfl : n = i := by omega
            have hqq := HF2.out
            have h1 := hI.one
            have h2 := hI.eq
            rw [← HN.out, List.take_length] at h1 h2
            rw [h1, if_pos rfl] at hqq
            have H2 := Lib.hid h2
            clear hI h1 h2 HF2
            subst hqq
            go_wp2
            go_ret2
            exact ⟨_, ps, rfl, H2.out, own_lower HI.out.row HBW.out.size, fun p hp => (HI.out.act p hp).rd, HBM.out⟩
end Go.Proofs.YtjgfkmakfdepcaaGreatDoor
namespace Go.Proofs.YtjgfkmakfdepcaaGreatDoor
open Go.RowKit

theorem parseA_len (l : List UInt8) : (parseA l).1.length ≤ 9 := by
  unfold parseA
  have := semis_len l
  split
  · simp
  · rename_i h
    split
    · rw [List.length_map]; omega
    · simp
set_option maxRecDepth 100000 in
set_option maxHeartbeats 4000000 in
theorem actsParses_law (s : ByteArray) (w : World) (hs : s.size ≤ 9223372036854775807) (hO : Ops w) (hM : ML w) :
    Calls Tryz.prog 4 #[.string s] w fun e w' => e = .returned (.bool true) ∧ Below w.heap.size w w' := by
  have HPA := Lib.hid (parseA_any s w hO hM hs)
  have HRP := Lib.hid (fun W => refParseA_any s W hs)
  have HWK : Hid (∀ W, Below w.heap.size w W → Calls Tryz.prog 12 #[] W fun e w' => e = .returned (.bool true) ∧ Below W.heap.size W w') := fun W hb => wakes6_any W (hO.below hb) (hM.below hb)
  have hlen := parseA_len s.data.toList
  generalize parseA s.data.toList = q at *
  obtain ⟨l, er⟩ := q
  clear hO hM
  go_enter Tryz.func4, Tryz.ntmps4
  go_wp2_with fail
  refine HPA.out.mono ?_
  rintro e w1 ⟨v1, ps, rfl, hp1, ho1, ha1, hb1⟩
  obtain ⟨A1, c1, e1⟩ := own_slice ho1
  subst e1
  have HB1 := Lib.hid hb1
  have HR1 : Hid (RdA w1 (.slice A1 ps.length c1) ps) := ⟨Inn.of_own ho1, ha1⟩
  clear ho1 ha1 hb1
  go_wp2_with fail
  refine (HRP.out w1).mono ?_
  rintro e w2 ⟨v2, qs, rfl, hp2, ho2, ha2, hb2⟩
  obtain ⟨A2, c2, e2⟩ := own_slice ho2
  subst e2
  have HB2 := Lib.hid (HB1.out.trans (hb2.mono HB1.out.size))
  have HR2 : Hid (RdA w2 (.slice A2 qs.length c2) qs) := ⟨Inn.of_own ho2, ha2⟩
  have HR12 := Lib.hid (RdA.below HR1.out hb2)
  clear ho2 ha2 hb2
  go_wp2_with fail
  refine (HWK.out w2 HB2.out).mono ?_
  rintro e w3 ⟨rfl, hb3⟩
  have HB3 := Lib.hid (HB2.out.trans (hb3.mono HB2.out.size))
  have hS := aSame_any (.slice A1 ps.length c1) (.slice A2 qs.length c2) ps qs w3 (RdA.below HR12.out hb3) (RdA.below HR2.out hb3) (by
    have h2 : l.length ≤ 9 := hlen
    have h3 : ps.length = l.length := by rw [← List.length_map (f := Prod.fst), hp1]
    omega)
  rw [decide_eq_true (hp1.trans hp2.symm)] at hS
  have HS := Lib.hid hS
  clear hb3 hS
  go_wp2_with fail
  refine HS.out.mono ?_
  rintro e w4 ⟨rfl, q, rfl⟩
  go_wp2
  go_ret
  exact ⟨ret_bool (by simp), below_drewN HB3.out q⟩
end Go.Proofs.YtjgfkmakfdepcaaGreatDoor
