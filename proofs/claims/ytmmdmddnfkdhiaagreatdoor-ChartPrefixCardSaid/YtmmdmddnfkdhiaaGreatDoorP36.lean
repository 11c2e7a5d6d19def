/- Own texts, joined: Th. -/
import Derived.Test.YtmmdmddnfkdhiaaGreatDoorP35
namespace Go.Proofs.YtmmdmddnfkdhiaaGreatDoor.Ch
open Go.RowKit

/-- what a call of Parse leaves, its lists in plain form -/
theorem parse_form (s : ByteArray) (w : World) (hE : Env w) : Calls Tryz.prog 8 #[.string s] w fun e w' => ∃ (N : ByteArray) (A1 A2 A3 A4 : Option Addr) (n1 n2 n3 n4 c1 c2 c3 c4 : Nat) (sp : List SP) (tp : List TP), e = .returned (.tuple #[.agg #[.string N, .slice A1 n1 c1, .slice A2 n2 c2, .slice A3 n3 c3, .slice A4 n4 c4], .int .i64 (parseC s.data.toList).2.1, .int .i64 (parseC s.data.toList).2.2]) ∧ Below w.heap.size w w' ∧ bstr (parseC s.data.toList).1.nm = .string N ∧ ChO w.heap.size w' (parseC s.data.toList).1 (.slice A1 n1 c1) (.slice A2 n2 c2) (.slice A3 n3 c3) (.slice A4 n4 c4) sp tp ∧ n4 = tp.length ∧ n4 ≤ c4 := by
  refine (parse_any s w hE).mono ?_
  rintro e w' ⟨⟨eV, vV, sV, tV, sp, tp, rfl, hO⟩, hb⟩
  obtain ⟨N, hN, _⟩ := bstr_some (parseC s.data.toList).1.nm
  obtain ⟨A1, c1, rfl⟩ := own_slice hO.es
  obtain ⟨A2, c2, rfl⟩ := own_slice hO.vs
  obtain ⟨A3, c3, rfl⟩ := own_slice hO.ss
  obtain ⟨A4, c4, e4, hc⟩ := own_cap hO.ts
  subst e4
  exact ⟨N, A1, A2, A3, A4, _, _, _, _, c1, c2, c3, c4, sp, tp, by rw [hN], hb, hN, hO, rfl, hc⟩
set_option maxRecDepth 100000 in
set_option maxHeartbeats 8000000 in
theorem prefix_law (s m : ByteArray) (w : World) (hs : s.size ≤ 140737488355328) (hm : m.size ≤ 140737488355328) (hE : Env w) :
    Calls Tryz.prog 7 #[.string s, .string m] w fun e w' => e = .returned (.bool true) ∧ Below w.heap.size w w' := by
  have HWK := Lib.hid (wakes8_any w hE)
  have HE := Lib.hid hE
  have hsl : s.data.toList.length = s.size := (Lib.size_eq s).symm
  have hml : m.data.toList.length = m.size := (Lib.size_eq m).symm
  have HSL := Lib.hid hsl; have HML := Lib.hid hml
  clear hE hsl hml
  by_cases hbig : 6000 ≤ s.size + m.size
  · have hb1 : (6000 : Int) ≤ (s.size : Int) + (m.size : Int) := by omega
    clear hbig
    go_enter Tryz.func7, Tryz.ntmps7
    go_wp2_with (go_at_call 10; refine HWK.out.mono ?_; rintro e w1 ⟨rfl, hb⟩)
    go_ret
    exact ⟨rfl, hb⟩
  have hb1 : (s.size : Int) + (m.size : Int) < 6000 := by omega
  clear hbig
  have HPS := Lib.hid (fun W (h : Env W) => parse_form s W h)
  obtain ⟨q, hq⟩ : ∃ q, parseC s.data.toList = q := ⟨_, rfl⟩
  rw [hq] at HPS
  have HQ := Lib.hid hq
  clear hq
  obtain ⟨qc, qn, qe⟩ := q
  simp only at HPS
  by_cases he : qe = 0
  · subst he
    have HCUT : Hid (∀ i, i < s.size → s.data.toList[i]? = some 10 → (parseC (s.extract 0 i).data.toList).2.2 = 0) := by
      intro i hi h10
      have h1 : s.data.toList = s.data.toList.take i ++ 10 :: s.data.toList.drop (i + 1) := by
        have hi2 : i < s.data.toList.length := by rw [HSL.out]; exact hi
        have e2 : s.data.toList.drop i = 10 :: s.data.toList.drop (i + 1) := by
          rw [List.drop_eq_getElem_cons hi2]
          congr 1
          rw [List.getElem?_eq_getElem hi2] at h10
          exact Option.some.inj h10
        rw [← e2, List.take_append_drop]
      have h2 : (s.extract 0 i).data.toList = s.data.toList.take i := by rw [Lib.extract_data]; simp
      rw [h2]
      refine parse_cut (r := s.data.toList.drop (i + 1)) ?_
      rw [← h1, HQ.out]
    go_enter Tryz.func7, Tryz.ntmps7
    go_wp2_with fail
    go_at_call 10
    refine HWK.out.mono ?_
    rintro e w1 ⟨rfl, hb⟩
    go_wp2_with fail
    go_at_call 8
    refine (HPS.out w1 (HE.out.below hb)).mono ?_
    rintro e w2 ⟨N, A1, A2, A3, A4, n1, n2, n3, n4, c1, c2, c3, c4, sp, tp, rfl, hb2, _, _, _, _⟩
    have HB2 : Hid (∀ o, Below w.heap.size w (w2.alloc o)) := fun o => (hb.trans (hb2.mono hb.size)).alloc (hb.trans (hb2.mono hb.size)).size o
    clear hb hb2
    go_wp2
    go_loopw [8, 9, 10, 11, 33] (fun x8 x9 x10 x11 x33 wr => (x8 = x8 ∧ x9 = x9 ∧ x10 = x10 ∧ x11 = x11) ∧ ∃ k : Nat, k ≤ s.size ∧ x33 = .int .i64 k ∧ Hid (Below w.heap.size w wr)) (fun _ _ _ _ x _ => s.size - (intOf x).toNat)
    case atStart => exact ⟨⟨rfl, rfl, rfl, rfl⟩, 0, Nat.zero_le _, rfl, Lib.hid (HB2.out _)⟩
    case round =>
      obtain ⟨_, k, hk, rfl, HBR⟩ := hrel
      obtain ⟨wl, hwl⟩ : ∃ W, W = wr := ⟨_, rfl⟩
      subst hwl
      by_cases hks : k < s.size
      · by_cases hc : s[k] = 10
        · have hk? : s.data.toList[k]? = some 10 := by rw [List.getElem?_eq_getElem (by rw [HSL.out]; exact hks), at_list s k hks, hc]
          have hce : ((s[k].toNat : Int) == 10) = true := by rw [hc]; rfl
          have HZ := Lib.hid (HCUT.out k hks hk?)
          have HPX := Lib.hid (parse_form (s.extract 0 k) wl (HE.out.below HBR.out))
          clear hk? hc
          go_wp2_with fail
          go_at_call 8
          refine HPX.out.mono ?_
          rintro e w3 ⟨N', B1, B2, B3, B4, m1, m2, m3, m4, d1, d2, d3, d4, sp', tp', rfl, hb3, _, _, _, _⟩
          rw [HZ.out]
          have HB3 : Hid (∀ o, Below w.heap.size w (w3.alloc o)) := fun o => (HBR.out.trans (hb3.mono HBR.out.size)).alloc (HBR.out.trans (hb3.mono HBR.out.size)).size o
          clear hb3 HPX
          generalize (parseC (s.extract 0 k).data.toList).2.1 = z
          go_wp2
          go_roundw
          case rel => exact ⟨⟨trivial, trivial, trivial, trivial⟩, k + 1, by omega, by go_num, Lib.hid (HB3.out _)⟩
          case measure => simp [intOf]; omega
        · have hce : ((s[k].toNat : Int) == 10) = false := beq_eq_false_iff_ne.2 (fun e => hc (UInt8.toNat_inj.1 (by show s[k].toNat = 10; omega)))
          clear hc
          go_wp2
          go_roundw
          case rel => exact ⟨⟨trivial, trivial, trivial, trivial⟩, k + 1, by omega, by go_num, HBR⟩
          case measure => simp [intOf]; omega
      · go_wp2
        go_ret
        exact ⟨rfl, HBR.out⟩
  · have hen : (qe == 0) = false := beq_eq_false_iff_ne.2 he
    have hpm : (parseC (s.data.toList ++ 10 :: m.data.toList)).2.2 = 1 ∧ (parseC (s.data.toList ++ 10 :: m.data.toList)).2.1 = qn := by
      have h := parse_more (p := s.data.toList) (r := m.data.toList) (by rw [HQ.out]; exact he) (by rw [HSL.out, HML.out]; omega)
      rw [HQ.out] at h
      exact h
    obtain ⟨X, hXe⟩ : ∃ X, X = s ++ ⟨#[10]⟩ ++ m := ⟨_, rfl⟩
    have hX : X.data.toList = s.data.toList ++ 10 :: m.data.toList := by rw [hXe]; simp
    have HXE := Lib.hid hXe
    clear hXe
    have HPX : Hid (∀ W, Env W → Calls Tryz.prog 8 #[.string X] W fun e w' => ∃ (N : ByteArray) (A1 A2 A3 A4 : Option Addr) (n1 n2 n3 n4 c1 c2 c3 c4 : Nat), e = .returned (.tuple #[.agg #[.string N, .slice A1 n1 c1, .slice A2 n2 c2, .slice A3 n3 c3, .slice A4 n4 c4], .int .i64 (qn : Nat), .int .i64 1]) ∧ Below W.heap.size W w') := fun W hW => by
      refine (parse_form X W hW).mono ?_
      rintro e w' ⟨N, A1, A2, A3, A4, n1, n2, n3, n4, c1, c2, c3, c4, sp, tp, rfl, hb, _, _, _, _⟩
      rw [hX, hpm.1, hpm.2]
      exact ⟨N, A1, A2, A3, A4, n1, n2, n3, n4, c1, c2, c3, c4, rfl, hb⟩
    have z1 : ((⟨#[10]⟩ : ByteArray)).size = 1 := rfl
    clear hpm hX he
    go_enter Tryz.func7, Tryz.ntmps7
    go_wp2_with fail
    go_at_call 10
    refine HWK.out.mono ?_
    rintro e w1 ⟨rfl, hb⟩
    go_wp2_with fail
    go_at_call 8
    refine (HPS.out w1 (HE.out.below hb)).mono ?_
    rintro e w2 ⟨N, A1, A2, A3, A4, n1, n2, n3, n4, c1, c2, c3, c4, sp, tp, rfl, hb2, _, _, _, _⟩
    have HB2 : Hid (∀ o, Below w.heap.size w (w2.alloc o)) := fun o => (hb.trans (hb2.mono hb.size)).alloc (hb.trans (hb2.mono hb.size)).size o
    clear hb hb2
    go_wp2_with fail
    go_at_call 8
    rw [← HXE.out]
    refine (HPX.out _ (HE.out.below (HB2.out _))).mono ?_
    rintro e w3 ⟨N', B1, B2, B3, B4, m1, m2, m3, m4, d1, d2, d3, d4, rfl, hb3⟩
    have HB3 : Hid (∀ o, Below w.heap.size w (w3.alloc o)) := fun o => ((HB2.out _).trans (hb3.mono (HB2.out _).size)).alloc ((HB2.out _).trans (hb3.mono (HB2.out _).size)).size o
    clear hb3
    go_wp2
    go_ret
    exact ⟨rfl, HB3.out _⟩
end Go.Proofs.YtmmdmddnfkdhiaaGreatDoor.Ch
