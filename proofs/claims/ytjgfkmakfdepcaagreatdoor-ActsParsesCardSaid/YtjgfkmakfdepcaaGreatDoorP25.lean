/- Own texts, joined: H5. -/
import Derived.Test.YtjgfkmakfdepcaaGreatDoorP15
import Derived.Test.YtjgfkmakfdepcaaGreatDoorP24
import Derived.Deep.Cut
import Derived.Deep.CutRange
namespace Go.Proofs.YtjgfkmakfdepcaaGreatDoor
open Go.RowKit

theorem refNumber_list (l : List UInt8) (w : World) (hs : l.length ≤ 281474976710656) :
    Calls Tryz.prog 138 #[.string ⟨l.toArray⟩] w fun e w' => e = .returned (.tuple #[.int .i64 (numP l).1, .int .i64 (numP l).2]) ∧ w = w' := by
  have := refNumber_any ⟨l.toArray⟩ w (by rw [size_list]; exact hs)
  exact this

/-- what a reading of the document's reader leaves -/
def NPost (w0 : World) (g : Nat) (s : ByteArray) (ws : List Wt) (r : Rs) (e : Ending) (w' : World) : Prop := e = .returned (.bool r.1) ∧ MS w0 g s r.2.1 r.2.2 ws w'
/-- a loop in its block: what it leaves, once for all ways out of it -/
theorem wp_cut_in {P : Program} {s : Code} {id : Nat} {K : Act → World → Prop} {Q' : Exit → Act → World → Prop} {a : Act} {w : World} (R : Act → World → Prop)
    (rest : ∀ a' w', R a' w' → K a' w')
    (first : ∀ (J K' : Act → World → Prop), (∀ a' w', R a' w' → J a' w') → (∀ a' w', Met J a' w' → K' a' w') → s.wp P (Exit.inBlock id (Exit.then K' Q')) a w) : s.wp P (Exit.inBlock id (Exit.then K Q')) a w := by
  refine wp_mono (first R R (fun _ _ q => q) (fun _ _ q => q)) ?_
  intro e a' w' hq
  cases e with
  | exit i =>
    show if i = id then _ else _
    have hq' : if i = id then Exit.then R Q' .normal a' w' else Exit.then R Q' (.exit i) a' w' := hq
    split at hq'
    · rename_i h; rw [if_pos h]; exact rest _ _ hq'
    · rename_i h; rw [if_neg h]; exact hq'
  | normal => exact rest _ _ hq
  | goto l => exact hq
  | ret => exact hq
  | panic ch => exact hq
  | outgrown => exact hq

set_option maxRecDepth 100000 in
set_option maxHeartbeats 4000000 in
theorem refNumber_walk {w0 w : World} {g : Nat} {s : ByteArray} {p : Nat} {cs : List CM} {ws : List Wt} (h : MS w0 g s p cs ws w) (hp : p < s.size) (hd : isD (nx s.data.toList p) = true) (hs : s.size ≤ 600) (hc : cs.length ≤ 600) :
    Calls Tryz.prog 119 #[rp g] w (NPost w0 g s ws (numD s.data.toList p cs)) := by
  have hl : s.data.toList.length = s.size := (Lib.size_eq s).symm
  have HS := Lib.hid h
  obtain ⟨vo, vw, ⟨c0, c1, c2, c3, f1, f2, f3⟩, hbox, ho, hw⟩ := h.at_
  clear hbox ho hw h
  have hops : (numP (numT s.data.toList p)).2 = 0 → 0 ≤ (numP (numT s.data.toList p)).1 ∧ (numP (numT s.data.toList p)).1 ≤ 1099511627776 := by
    intro h0
    obtain ⟨u, hu, hu2, _⟩ := num_back (by omega) hd h0
    omega
  obtain ⟨T, hT⟩ : ∃ T, numT s.data.toList p = T := ⟨_, rfl⟩
  rw [hT] at hops
  have hTl : p + T.length ≤ s.size := by rw [← hT, ← hl]; exact num_le _ _ (by omega)
  have hR : numD s.data.toList p cs = if (numP T).2 ≠ 0 then (false, p, cs)
      else if nx s.data.toList (p + T.length) = 105 then (if (numP T).1 ≤ 1048576 then (true, p + T.length + 1, cs ++ [⟨2, (numP T).1, []⟩]) else (false, p, cs))
      else (true, p + T.length, cs ++ [⟨1, (numP T).1, []⟩]) := by rw [← hT]; rfl
  have HR := Lib.hid hR; clear hR
  have hstart : Dd s.data.toList p (p + 1) := Dd.start (by omega) hd
  have hstop : ∀ k, Dd s.data.toList p k → (s[p] = 48 ∨ k = s.size ∨ ∃ hk : k < s.size, isD s[k] = false) → s.extract p k = ⟨T.toArray⟩ ∧ k = p + T.length := by
    intro k hk ho
    have hh := hk.stop (by
      rcases ho with e | e | ⟨h1, h2⟩
      · exact Or.inl (by rw [lst_at s p hp]; exact e)
      · exact Or.inr (Or.inl (by omega))
      · exact Or.inr (Or.inr ⟨by omega, by rw [at_list s k h1]; exact h2⟩))
    rw [hT] at hh
    exact ⟨ext_num hh.1, hh.2⟩
  have hstep : ∀ k (hk : k < s.size), Dd s.data.toList p k → s[p] ≠ 48 → isD s[k] = true → Dd s.data.toList p (k + 1) := by
    intro k hk hw h48 ho
    exact hw.step (by rw [lst_at s p hp]; exact h48) (by omega) (by rw [at_list s k hk]; exact ho)
  have HST := Lib.hid hstop; have HSP := Lib.hid hstep; have HB := Lib.hid hstart; have HT := Lib.hid hT; have HOPS := Lib.hid hops
  clear hstop hstep hstart hT hl hd hops
  unfold rp
  go_enter Tryz.func119, Tryz.ntmps119
  go_wp2
  refine wp_cut_in (fun a' wc => ∃ u1 u2 u4 u5 u6 u7 u8 u9 u10 u11 u12 u13 u14 u15 u16 u17 u18 u19 u20 u21 u22 u23 u24 u25 u26 u27 u28 u29 u30 u31 u32 u33 u34 u35 u36 u37 u38 u39 u40 u41 u42 u43 u44 u45 u46 u47 u48 u49 u50 u51 u52 u53 u54 u55 u56 u57 u58 u59 u60 u61 u62 u63 u64 u65 u66 u67 u68 u69 u70 u71 u72 u73 u74 u75 u76 u77 u78 u79 u80 u81 u82 u83 u84 u85 u86 u87 u88 u89 u90 u91 u92 u93 u94 u95 u96 u97 u98 u99 u100 u101 u102 u103 u104 u105 u106 : Value, ∃ k : Nat, a' = { tmps := #[.pointer (some ⟨g, 0, none⟩), u1, u2, .int .i64 k, u4, u5, u6, u7, u8, u9, u10, u11, u12, u13, u14, u15, u16, u17, u18, u19, u20, u21, u22, u23, u24, u25, u26, u27, u28, u29, u30, u31, u32, u33, u34, u35, u36, u37, u38, u39, u40, u41, u42, u43, u44, u45, u46, u47, u48, u49, u50, u51, u52, u53, u54, u55, u56, u57, u58, u59, u60, u61, u62, u63, u64, u65, u66, u67, u68, u69, u70, u71, u72, u73, u74, u75, u76, u77, u78, u79, u80, u81, u82, u83, u84, u85, u86, u87, u88, u89, u90, u91, u92, u93, u94, u95, u96, u97, u98, u99, u100, u101, u102, u103, u104, u105, u106], defers := [] } ∧ Hid (p < k ∧ k ≤ s.size ∧ s.extract p k = ⟨T.toArray⟩ ∧ k = p + T.length ∧ MS w0 g s p cs ws wc)) ?rest ?first
  case first =>
    intro J K' hJ hK
    go_loopw [3] (fun i wr => ∃ k m : Nat, p < k ∧ k ≤ s.size ∧ Hid (Dd s.data.toList p k) ∧ wr = w.drewN m ∧ i = .int .i64 k) (fun i _ => s.size - (intOf i).toNat)
    case atStart => exact ⟨p + 1, 0, by omega, by omega, HB, rfl, by go_num⟩
    case round =>
      obtain ⟨k, m, hpk, hk, HK, rfl, rfl⟩ := hrel
      have hways : (s[p] ≠ 48 ∧ ∃ hlt : k < s.size, isD s[k] = true) ∨ (s[p] = 48 ∨ (s[p] ≠ 48 ∧ k = s.size) ∨ (s[p] ≠ 48 ∧ ∃ hk : k < s.size, isD s[k] = false)) := by
        by_cases h48 : s[p] = 48
        · exact Or.inr (Or.inl h48)
        · by_cases hlt : k < s.size
          · cases ho : isD s[k]
            · exact Or.inr (Or.inr (Or.inr ⟨h48, hlt, ho⟩))
            · exact Or.inl ⟨h48, hlt, ho⟩
          · exact Or.inr (Or.inr (Or.inl ⟨h48, by omega⟩))
      rcases hways with ⟨h48, hlt, ho⟩ | hw
      · have HE := Lib.hid (HSP.out k hlt HK.out h48 ho)
        have t48 : ((s[p].toNat : Int) != 48) = true := by
          have : ((s[p].toNat : Int) == 48) = false := byte_not (k := 48) (by decide) h48
          rw [bne, this]; rfl
        have hd2 := decide_eq_true_iff.1 ((isD_cases s[k]).symm.trans ho)
        obtain ⟨hd3, hd4⟩ := hd2
        clear h48 ho
        go_wp2
        go_quiet (fail)
        go_wp2
        go_roundw
        case rel => exact ⟨k + 1, _, by omega, hlt, HE, rfl, by go_num⟩
        case measure => simp [intOf]; omega
      · obtain ⟨hx, hkT⟩ := HST.out k HK.out (by rcases hw with h | ⟨_, h⟩ | ⟨_, h⟩; exact Or.inl h; exact Or.inr (Or.inl h); exact Or.inr (Or.inr h))
        have HX : Hid (s.extract p k = ⟨T.toArray⟩ ∧ k = p + T.length) := ⟨hx, hkT⟩
        clear hx hkT
        have hw4 : s[p] = 48 ∨ (s[p] ≠ 48 ∧ k = s.size) ∨ (s[p] ≠ 48 ∧ ∃ hlt : k < s.size, (48 : Int) ≤ s[k].toNat ∧ decide ((s[k].toNat : Int) ≤ 57) = false) ∨ (s[p] ≠ 48 ∧ ∃ hlt : k < s.size, decide ((48 : Int) ≤ s[k].toNat) = false) := by
          rcases hw with h | h | ⟨h, hlt, ho⟩
          · exact Or.inl h
          · exact Or.inr (Or.inl h)
          · have hd2 := decide_eq_false_iff_not.1 ((isD_cases s[k]).symm.trans ho)
            by_cases ha : (48 : Int) ≤ s[k].toNat
            · exact Or.inr (Or.inr (Or.inl ⟨h, hlt, ha, decide_eq_false (fun e => hd2 ⟨ha, e⟩)⟩))
            · exact Or.inr (Or.inr (Or.inr ⟨h, hlt, decide_eq_false ha⟩))
        clear hw
        rcases hw4 with h48 | ⟨h48, hks⟩ | ⟨h48, hlt, ha, hb⟩ | ⟨h48, hlt, ha⟩
        case' inr.inl =>
          have t48 : ((s[p].toNat : Int) != 48) = false := by
            have : ((s[p].toNat : Int) == 48) = true := byte_is (k := 48) (by decide) h48
            rw [bne, this]; rfl
        all_goals try
          have t48 : ((s[p].toNat : Int) != 48) = true := by
            have : ((s[p].toNat : Int) == 48) = false := byte_not (k := 48) (by decide) h48
            rw [bne, this]; rfl
        all_goals clear h48
        case' inr.inr.inl =>
          have tk : decide (k < s.size) = false := decide_eq_false (by omega)
          clear hks
        all_goals
          go_wp2
          go_quiet (fail)
          go_wp2
          refine Met.intro (hJ _ _ ?_)
          exact ⟨_, _, _, _, _, _, _, _, _, _, _, _, _, _, _, _, _, _, _, _, _, _, _, _, _, _, _, _, _, _, _, _, _, _, _, _, _, _, _, _, _, _, _, _, _, _, _, _, _, _, _, _, _, _, _, _, _, _, _, _, _, _, _, _, _, _, _, _, _, _, _, _, _, _, _, _, _, _, _, _, _, _, _, _, _, _, _, _, _, _, _, _, _, _, _, _, _, _, _, _, _, _, _, _, _, k, rfl, hpk, hk, HX.out.1, HX.out.2, by first | exact HS.out.drewN _ | exact (HS.out.drewN _).drewN _⟩
  case rest =>
    rintro a' wc ⟨u1, u2, u4, u5, u6, u7, u8, u9, u10, u11, u12, u13, u14, u15, u16, u17, u18, u19, u20, u21, u22, u23, u24, u25, u26, u27, u28, u29, u30, u31, u32, u33, u34, u35, u36, u37, u38, u39, u40, u41, u42, u43, u44, u45, u46, u47, u48, u49, u50, u51, u52, u53, u54, u55, u56, u57, u58, u59, u60, u61, u62, u63, u64, u65, u66, u67, u68, u69, u70, u71, u72, u73, u74, u75, u76, u77, u78, u79, u80, u81, u82, u83, u84, u85, u86, u87, u88, u89, u90, u91, u92, u93, u94, u95, u96, u97, u98, u99, u100, u101, u102, u103, u104, u105, u106, k, rfl, HC⟩
    obtain ⟨hpk, hk, hx, hkT, hm0⟩ := HC.out
    have HM0 := Lib.hid hm0
    have hRk : numD s.data.toList p cs = if (numP T).2 ≠ 0 then (false, p, cs)
        else if nx s.data.toList k = 105 then (if (numP T).1 ≤ 1048576 then (true, k + 1, cs ++ [⟨2, (numP T).1, []⟩]) else (false, p, cs))
        else (true, k, cs ++ [⟨1, (numP T).1, []⟩]) := by rw [hkT]; exact HR.out
    have HX := Lib.hid hx; have HRk := Lib.hid hRk
    have hTl2 : T.length ≤ 600 := by omega
    clear hx hkT HST HSP HB HR hRk HT hTl HC hm0 c0 c1 c2 c3 f1 f2 f3
    obtain ⟨vo, vw, ⟨c0, c1, c2, c3, f1, f2, f3⟩, hbox, ho, hw⟩ := HM0.out.at_
    clear hbox ho hw
    obtain ⟨n, hn⟩ : ∃ n, (numP T).1 = n := ⟨_, rfl⟩
    obtain ⟨e2, he⟩ : ∃ e2, (numP T).2 = e2 := ⟨_, rfl⟩
    rw [hn, he] at HRk HOPS
    have HN : ∀ W : World, Calls Tryz.prog 138 #[.string (s.extract p k)] W fun e w' => e = .returned (.tuple #[.int .i64 n, .int .i64 e2]) ∧ W = w' := by
      intro W
      have := refNumber_list T W (by omega)
      rw [hn, he] at this
      rw [HX.out]; exact this
    have HNN := Lib.hid HN; clear HN hn he HX
    have hpk3 : (p : Int) ≤ (k : Int) := by omega
    have hpk4 : p ≤ k := by omega
    go_wp2
    go_quiet ((go_at_call 138; exact quiet_at (HNN.out _)))
    have hmW := HM0.out.drewN nq
    clear c0 c1 c2 c3 f1 f2 f3 HM0
    generalize wc.drewN nq = W at hmW ⊢
    have HM := Lib.hid hmW; clear hmW
    obtain ⟨vo, vw, ⟨c0, c1, c2, c3, f1, f2, f3⟩, hbox, ho, hw⟩ := HM.out.at_
    have hgl0 := HM.out.lt
    have hbg : W.heap.size ≠ g := by omega
    clear hbox ho hw
    by_cases h105 : nx s.data.toList k = 105
    · have hk2 : k < s.size := by
        have := nx_lt (s := s.data.toList) (p := k) (by rw [h105]; decide)
        rw [← Lib.size_eq] at this; exact this
      have t105 : ((s[k].toNat : Int) == 105) = true := byte_is (k := 105) (by decide) (by rw [← lst_at s k hk2]; exact h105)
      by_cases he2 : e2 = 0
      · subst he2
        obtain ⟨hn0, hn1⟩ := HOPS.out rfl
        by_cases hn : n ≤ 1048576
        · have HP : Hid (numD s.data.toList p cs = (true, k + 1, cs ++ [⟨2, n, []⟩])) := by
            have := HRk.out
            rw [if_neg (by simp), if_pos h105, if_pos hn] at this
            exact this
          clear h105 HRk HOPS
          have HBW : Hid (Below W.heap.size W (W.alloc (.cells #[.int .i64 2, .int .i64 n, .string ⟨#[]⟩] 93)) ∧ (W.alloc (.cells #[.int .i64 2, .int .i64 n, .string ⟨#[]⟩] 93)).heap[W.heap.size]? = some (.cells #[.int .i64 2, .int .i64 n, .string ⟨#[]⟩] 93 (0, 0))) :=
            ⟨(Below.refl _ _).alloc (Nat.le_refl _) _, heap_alloc_new W _⟩
          have hfm : formedB ⟨2, n, []⟩ = true := by unfold formedB; simp; omega
          have HOPC : Hid (∀ W', Calls Tryz.prog 75 #[.agg #[.int .i64 2, .int .i64 n, .string ⟨#[]⟩]] W' fun e w' => e = .returned (.int .i64 0) ∧ Below W'.heap.size W' w') := by
            intro W'
            have := refOperands_any ⟨2, n, []⟩ W' (by simp)
            rw [opsR_yes hfm] at this
            exact this
          clear hfm
          go_wp2_with fail
          refine (HOPC.out _).mono ?_
          rintro e w5 ⟨rfl, hb5⟩
          have HM5 := Lib.hid ((HM.out.to_below HBW.out.1).to_below hb5)
          have HD5 := Lib.hid ((hb5.block _ (lt_of_block HBW.out.2)).trans HBW.out.2)
          clear hb5 HBW HM c0 c1 c2 c3 f1 f2 f3
          clear hgl0
          generalize W.heap.size = bb at *
          have hgl := HM5.out.lt
          have hWs := HM5.out.size
          obtain ⟨vo5, vw5, ⟨c0, c1, c2, c3, f1, f2, f3⟩, hbox, ho, hw⟩ := HM5.out.at_
          obtain ⟨k0, k1, k2⟩ := cells3_at HD5.out
          have HBX := Lib.hid hbox; have HOO := Lib.hid ho; have HWW := Lib.hid hw
          have HNE := Lib.hid (own_ne2 ho hbox reader_cell)
          clear hbox ho hw
          obtain ⟨i0, hi0, hz0, hz1, hz2⟩ := info_parts Tryz.infoCell
          have HI := Lib.hid hi0; have HZ0 := Lib.hid hz0; have HZ1 := Lib.hid hz1; have HZ2 := Lib.hid hz2
          clear hi0 hz0 hz1 hz2
          go_wp2
          go_cut [] from 93 (fun wx => Hid (MS w0 g s p (cs ++ [⟨2, n, []⟩]) ws wx))
          case first =>
            go_region_law ((refine step_append_lies _ (by rfl) _ _ _ (by rfl) w0.heap.size 93 i0 _ 3 32 Tryz.underlying57 HI.out HZ0.out HZ1.out HZ2.out rfl (by omega) vo5 cs.length (flat cs) (by rfl) ((HOO.out.alloc _).drew) ⟨w5.heap.size, 0, none⟩ 1 1 (cellV ⟨2, n, []⟩) (by rfl) (by rfl) (World.news_of_block (cs := #[.int .i64 2, .int .i64 n, .string ⟨#[]⟩]) (t := 93) (fr := (0, 0)) (heap_alloc_new w5 _)) (one_vals _) (by omega) (by unfold maxLen; omega) (by omega) (by simp; omega) (w5.heap.size + 1) (by simp) ?_
                            intro gg cap2 w2 hown2 hgrow2 hat2 hlt2
                            obtain ⟨r2, kf2⟩ := push_far_drew hgrow2 hgl HNE.out c2 f2))
            all_goals
              have HM6 := Lib.hid (HM5.out.outNew HBX.out HOO.out HWW.out ⟨2, n, []⟩ ((Below.refl w5.heap.size w5).alloc (Nat.le_refl _) _).drew hown2 hgrow2)
              clear hown2 hgrow2 hat2 hlt2 HBX HOO HWW HM5 HNE hgl hWs c0 c1 c2 c3 f1 f2 f3 k0 k1 k2
              go_wp2
              go_meet
              case rel => exact HM6.out
          case rest =>
            have HM6 := Lib.hid hcut.out
            clear hcut HBX HOO HWW HM5 HNE hgl hWs c0 c1 c2 c3 f1 f2 f3 k0 k1 k2 HD5
            obtain ⟨vo6, vw6, ⟨c0, c1, c2, c3, f1, f2, f3⟩, hbox, ho, hw⟩ := HM6.out.at_
            clear hbox ho hw
            go_wp2
            go_ret
            rw [HP.out]
            exact ⟨rfl, HM6.out.setAt (p' := k + 1) ((k : Int) + 1) (by omega)⟩
        · have HP : Hid (numD s.data.toList p cs = (false, p, cs)) := by
            have := HRk.out
            rw [if_neg (by simp), if_pos h105, if_neg hn] at this
            exact this
          clear h105 HRk HOPS
          have HBW : Hid (Below W.heap.size W (W.alloc (.cells #[.int .i64 2, .int .i64 n, .string ⟨#[]⟩] 93)) ∧ (W.alloc (.cells #[.int .i64 2, .int .i64 n, .string ⟨#[]⟩] 93)).heap[W.heap.size]? = some (.cells #[.int .i64 2, .int .i64 n, .string ⟨#[]⟩] 93 (0, 0))) :=
            ⟨(Below.refl _ _).alloc (Nat.le_refl _) _, heap_alloc_new W _⟩
          have hfm : formedB ⟨2, n, []⟩ = false := by unfold formedB; simp; omega
          have HOPC : Hid (∀ W', Calls Tryz.prog 75 #[.agg #[.int .i64 2, .int .i64 n, .string ⟨#[]⟩]] W' fun e w' => e = .returned (.int .i64 (-1)) ∧ Below W'.heap.size W' w') := by
            intro W'
            have := refOperands_any ⟨2, n, []⟩ W' (by simp)
            rw [opsR_no hfm] at this
            exact this
          clear hfm
          go_wp2_with fail
          refine (HOPC.out _).mono ?_
          rintro e w5 ⟨rfl, hb5⟩
          have HM5 := Lib.hid ((HM.out.to_below HBW.out.1).to_below hb5)
          clear hb5
          go_wp2
          go_ret
          rw [HP.out]
          exact ⟨rfl, HM5.out⟩
      · have te2 : (e2 != 0) = true := bne_iff_ne.2 he2
        have HP : Hid (numD s.data.toList p cs = (false, p, cs)) := by
          have := HRk.out
          rw [if_pos he2] at this
          exact this
        clear he2 h105 HRk HOPS
        have HBW : Hid (Below W.heap.size W (W.alloc (.cells #[.int .i64 2, .int .i64 n, .string ⟨#[]⟩] 93)) ∧ (W.alloc (.cells #[.int .i64 2, .int .i64 n, .string ⟨#[]⟩] 93)).heap[W.heap.size]? = some (.cells #[.int .i64 2, .int .i64 n, .string ⟨#[]⟩] 93 (0, 0))) :=
          ⟨(Below.refl _ _).alloc (Nat.le_refl _) _, heap_alloc_new W _⟩
        have HM5 := Lib.hid (HM.out.to_below HBW.out.1)
        clear HBW
        go_wp2
        go_ret
        rw [HP.out]
        exact ⟨rfl, HM5.out⟩
    · have hways : (∃ hk2 : k < s.size, ((s[k].toNat : Int) == 105) = false) ∨ decide (k < s.size) = false := by
        by_cases hk2 : k < s.size
        · exact Or.inl ⟨hk2, byte_not (k := 105) (by decide) (by rw [← lst_at s k hk2]; exact h105)⟩
        · exact Or.inr (decide_eq_false hk2)
      by_cases he2 : e2 = 0
      · subst he2
        obtain ⟨hn0, hn1⟩ := HOPS.out rfl
        have HP : Hid (numD s.data.toList p cs = (true, k, cs ++ [⟨1, n, []⟩])) := by
          have := HRk.out
          rw [if_neg (by simp), if_neg h105] at this
          exact this
        clear h105 HRk HOPS
        rcases hways with ⟨hk2, t105⟩ | tk
        all_goals
          have HBW : Hid (Below W.heap.size W (W.alloc (.cells #[.int .i64 1, .int .i64 n, .string ⟨#[]⟩] 93)) ∧ (W.alloc (.cells #[.int .i64 1, .int .i64 n, .string ⟨#[]⟩] 93)).heap[W.heap.size]? = some (.cells #[.int .i64 1, .int .i64 n, .string ⟨#[]⟩] 93 (0, 0))) :=
            ⟨(Below.refl _ _).alloc (Nat.le_refl _) _, heap_alloc_new W _⟩
          have hfm : formedB ⟨1, n, []⟩ = true := by unfold formedB; simp; omega
          have HOPC : Hid (∀ W', Calls Tryz.prog 75 #[.agg #[.int .i64 1, .int .i64 n, .string ⟨#[]⟩]] W' fun e w' => e = .returned (.int .i64 0) ∧ Below W'.heap.size W' w') := by
            intro W'
            have := refOperands_any ⟨1, n, []⟩ W' (by simp)
            rw [opsR_yes hfm] at this
            exact this
          clear hfm
          go_wp2_with fail
          refine (HOPC.out _).mono ?_
          rintro e w5 ⟨rfl, hb5⟩
          have HM5 := Lib.hid ((HM.out.to_below HBW.out.1).to_below hb5)
          have HD5 := Lib.hid ((hb5.block _ (lt_of_block HBW.out.2)).trans HBW.out.2)
          clear hb5 HBW HM c0 c1 c2 c3 f1 f2 f3
          clear hgl0
          generalize W.heap.size = bb at *
          have hgl := HM5.out.lt
          have hWs := HM5.out.size
          obtain ⟨vo5, vw5, ⟨c0, c1, c2, c3, f1, f2, f3⟩, hbox, ho, hw⟩ := HM5.out.at_
          obtain ⟨k0, k1, k2⟩ := cells3_at HD5.out
          have HBX := Lib.hid hbox; have HOO := Lib.hid ho; have HWW := Lib.hid hw
          have HNE := Lib.hid (own_ne2 ho hbox reader_cell)
          clear hbox ho hw
          obtain ⟨i0, hi0, hz0, hz1, hz2⟩ := info_parts Tryz.infoCell
          have HI := Lib.hid hi0; have HZ0 := Lib.hid hz0; have HZ1 := Lib.hid hz1; have HZ2 := Lib.hid hz2
          clear hi0 hz0 hz1 hz2
          go_wp2
          go_cut [] from 93 (fun wx => Hid (MS w0 g s p (cs ++ [⟨1, n, []⟩]) ws wx))
          case first =>
            go_region_law ((refine step_append_lies _ (by rfl) _ _ _ (by rfl) w0.heap.size 93 i0 _ 3 32 Tryz.underlying57 HI.out HZ0.out HZ1.out HZ2.out rfl (by omega) vo5 cs.length (flat cs) (by rfl) ((HOO.out.alloc _).drew) ⟨w5.heap.size, 0, none⟩ 1 1 (cellV ⟨1, n, []⟩) (by rfl) (by rfl) (World.news_of_block (cs := #[.int .i64 1, .int .i64 n, .string ⟨#[]⟩]) (t := 93) (fr := (0, 0)) (heap_alloc_new w5 _)) (one_vals _) (by omega) (by unfold maxLen; omega) (by omega) (by simp; omega) (w5.heap.size + 1) (by simp) ?_
                            intro gg cap2 w2 hown2 hgrow2 hat2 hlt2
                            obtain ⟨r2, kf2⟩ := push_far_drew hgrow2 hgl HNE.out c2 f2))
            all_goals
              have HM6 := Lib.hid (HM5.out.outNew HBX.out HOO.out HWW.out ⟨1, n, []⟩ ((Below.refl w5.heap.size w5).alloc (Nat.le_refl _) _).drew hown2 hgrow2)
              clear hown2 hgrow2 hat2 hlt2 HBX HOO HWW HM5 HNE hgl hWs c0 c1 c2 c3 f1 f2 f3 k0 k1 k2
              go_wp2
              go_meet
              case rel => exact HM6.out
          case rest =>
            have HM6 := Lib.hid hcut.out
            clear hcut HBX HOO HWW HM5 HNE hgl hWs c0 c1 c2 c3 f1 f2 f3 k0 k1 k2 HD5
            obtain ⟨vo6, vw6, ⟨c0, c1, c2, c3, f1, f2, f3⟩, hbox, ho, hw⟩ := HM6.out.at_
            clear hbox ho hw
            go_wp2
            go_ret
            rw [HP.out]
            exact ⟨rfl, HM6.out.setAt (p' := k) ((k : Int)) (by rfl)⟩
      · have te2 : (e2 != 0) = true := bne_iff_ne.2 he2
        have HP : Hid (numD s.data.toList p cs = (false, p, cs)) := by
          have := HRk.out
          rw [if_pos he2] at this
          exact this
        clear he2 h105 HRk HOPS
        rcases hways with ⟨hk2, t105⟩ | tk
        all_goals
          have HBW : Hid (Below W.heap.size W (W.alloc (.cells #[.int .i64 1, .int .i64 n, .string ⟨#[]⟩] 93)) ∧ (W.alloc (.cells #[.int .i64 1, .int .i64 n, .string ⟨#[]⟩] 93)).heap[W.heap.size]? = some (.cells #[.int .i64 1, .int .i64 n, .string ⟨#[]⟩] 93 (0, 0))) :=
            ⟨(Below.refl _ _).alloc (Nat.le_refl _) _, heap_alloc_new W _⟩
          have HM5 := Lib.hid (HM.out.to_below HBW.out.1)
          clear HBW
          go_wp2
          go_ret
          rw [HP.out]
          exact ⟨rfl, HM5.out⟩
end Go.Proofs.YtjgfkmakfdepcaaGreatDoor
