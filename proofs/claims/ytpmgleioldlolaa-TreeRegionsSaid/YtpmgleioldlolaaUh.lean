/- The document's children, and its comparison of places. -/
import Derived.Test.YtpmgleioldlolaaUg
import Derived.Test.YtpmgleioldlolaaOt
namespace Go.Proofs.Ytpmgleioldlolaa
open Go.RowKit

theorem Try.infoInt : (Try.prog.info? 3).map (fun i => (i.zero, i.size, i.bytes)) = some (some (.int .i64 0), 1, 8) := by kernel_rfl
def kvN (l : List Nat) : List Value := l.map fun k : Nat => Value.int .i64 (k : Int)
theorem kvN_append (a b : List Nat) : kvN (a ++ b) = kvN a ++ kvN b := by simp [kvN]
theorem kvN_length (a : List Nat) : (kvN a).length = a.length := by simp [kvN]
theorem one_int (w1 : World) (x : Value) : ∀ (j : Nat) (u : Value), [x][j]? = some u → (w1.alloc (.cells #[x] 3)).cell? ((⟨w1.heap.size, 0, none⟩ : Addr).add j) = some u := by
  intro j u hu
  cases j with
  | zero =>
    simp at hu; subst hu
    rw [add_lit']
    have := heap_alloc_new w1 (.cells #[x] 3)
    simp only [World.cell?, Nat.add_zero]
    rw [this]
    rfl
  | succ j => simp at hu

set_option maxHeartbeats 2000000 in
theorem refKids_any (v : Value) (xs : List SM) (i : Nat) (w : World) (hR : RdT w v xs) (hi : i < xs.length) (hl : xs.length ≤ 40) (hN : Nst (dp xs) xs.length) :
    Calls Try.prog 21 #[v, .int .i64 i] w fun e w' => (∃ u, e = .returned u ∧ w'.ownsRow w.heap.size 3 1 u (kids (dp xs) xs.length i).length (kvN (kids (dp xs) xs.length i))) ∧ Below w.heap.size w w' := by
  obtain ⟨i0, hi0, hz0, hz1, hz2⟩ := info_parts Try.infoInt
  have HI := Lib.hid hi0; have HZ0 := Lib.hid hz0; have HZ1 := Lib.hid hz1; have HZ2 := Lib.hid hz2
  clear hi0 hz0 hz1 hz2
  have HP := Lib.hid (fun k W (hk : k < xs.length) (h : RdT W v xs) => refParent_any v xs k W h hk (by omega) hN)
  have HKD := Lib.hid (fun k (hk : k < xs.length) h => hN.kid (i := i) hk h)
  have HLO := Lib.hid hN.lo
  obtain ⟨A, c, rfl⟩ := hR.form
  obtain ⟨n, hn⟩ : ∃ n, xs.length = n := ⟨_, rfl⟩
  have HR := Lib.hid hR; have HNN := Lib.hid hn
  rw [hn] at hi hl HR HP HKD HLO ⊢
  clear hR hn hN
  go_enter Try.func21, Try.ntmps21
  go_wp2
  go_loopw [5, 6] (fun x5 x6 wr => ∃ k : Nat, k ≤ n ∧ x6 = .int .i64 k ∧ wr.ownsRow w.heap.size 3 1 x5 (kids (dp xs) k i).length (kvN (kids (dp xs) k i)) ∧ Below w.heap.size w wr) (fun _ x _ => n - (intOf x).toNat)
  case atStart => exact ⟨0, by omega, rfl, World.ownsRow_nil _ _ _ _, Below.refl _ _⟩
  case round =>
    obtain ⟨k, hk, rfl, hown, hbw⟩ := hrel
    obtain ⟨wl, hwl⟩ : ∃ W, W = wr := ⟨_, rfl⟩
    subst hwl
    obtain ⟨A5, c5, e5⟩ := own_slice hown
    subst e5
    have hkl := kids_len (dp xs) k i
    by_cases hkn : k < n
    · have hR1 := HR.out.below hbw
      obtain ⟨b, o, rfl, hb, hc⟩ := hR1.base (by rw [HNN.out]; omega)
      obtain ⟨_, _, c2, _, _, _⟩ := hc k (by rw [HNN.out]; exact hkn)
      have HC := Lib.hid (HP.out k wl hkn hR1)
      have HBW := Lib.hid hbw; have HOW := Lib.hid hown
      have hks := kids_succ (dp xs) k i
      clear hbw hown hc hb hR1
      by_cases hp : par (dp xs) k = (i : Int)
      · have hdk : 0 < dp xs k := by
          have h1 := (HKD.out k hkn hp).2.1; have h2 := HLO.out i hi; omega
        rw [show kidB (dp xs) i k = true from decide_eq_true hp, if_pos rfl] at hks
        have HKS := Lib.hid hks
        have HPR := Lib.hid hp
        clear hks hp
        go_wp2_with (fail)
        refine HC.out.mono ?_
        rintro e w1 ⟨rfl, q, hq⟩
        rw [HPR.out]
        have hbq : Below wl.heap.size wl w1 := by rw [hq]; exact below_drewN (Below.refl _ _) q
        have HB1 : Hid (Below w.heap.size w w1) := HBW.out.trans (hbq.mono HBW.out.size)
        have HO1 : Hid (w1.ownsRow w.heap.size 3 1 (.slice A5 (kids (dp xs) k i).length c5) (kids (dp xs) k i).length (kvN (kids (dp xs) k i))) := own_below HOW.out hbq
        have c2' := (hbq.cell (cell_lt c2)).trans c2
        have hsz := HB1.out.size
        clear hbq hq c2
        go_wp2_with (at_builtin; refine wpList_append_own _ rfl _ _ 27 rfl w.heap.size 3 i0 _ 1 8 Try.underlying27 HI.out HZ0.out HZ1.out HZ2.out rfl (by decide) _ (kids (dp xs) k i).length (kvN (kids (dp xs) k i)) rfl (HO1.out.alloc _) ⟨w1.heap.size, 0, none⟩ 1 1 [.int .i64 k] rfl rfl (one_int w1 _) (by intro u hu; simp at hu; subst hu; rfl) (by unfold maxLen; omega) (by omega) (by simp; omega) ?_)
        intro v' w2 hown' hgrow _
        have HO2 : Hid (w2.ownsRow w.heap.size 3 1 v' (kids (dp xs) (k + 1) i).length (kvN (kids (dp xs) (k + 1) i))) := by
          show World.ownsRow _ _ _ _ _ _ _
          rw [HKS.out, kvN_append, List.length_append]; exact hown'
        have HB2 : Hid (Below w.heap.size w w2) := (HB1.out.alloc HB1.out.size (.cells #[.int .i64 k] 3)).grown hgrow (by simp; omega) (fun k hk => (HO1.out.lt k hk).1)
        clear hown' hgrow
        go_wp2
        go_roundw
        case rel => exact ⟨k + 1, by omega, by go_num, HO2.out, HB2.out⟩
        case measure => simp [intOf] <;> omega
      · have hne : ((par (dp xs) k) == (i : Int)) = false := int_ne hp
        rw [show kidB (dp xs) i k = false from decide_eq_false hp, if_neg (by simp), List.append_nil] at hks
        have HKS := Lib.hid hks
        clear hks hp
        go_wp2_with (fail)
        refine HC.out.mono ?_
        rintro e w1 ⟨rfl, q, rfl⟩
        have HB1 : Hid (Below w.heap.size w (wl.drewN q)) := below_drewN HBW.out q
        have HO1 : Hid ((wl.drewN q).ownsRow w.heap.size 3 1 (.slice A5 (kids (dp xs) k i).length c5) (kids (dp xs) k i).length (kvN (kids (dp xs) k i))) := own_below HOW.out (below_drewN (Below.refl _ _) q)
        go_wp2
        go_roundw
        case rel => exact ⟨k + 1, by omega, by go_num, by rw [HKS.out]; exact HO1.out, HB1.out⟩
        case measure => simp [intOf] <;> omega
    · obtain rfl : k = n := by omega
      have HBW := Lib.hid hbw; have HOW := Lib.hid hown
      clear hbw hown
      go_wp2
      go_ret
      exact ⟨⟨_, rfl, HOW.out⟩, HBW.out⟩

/-- a slice value that reads as a list of places -/
def RdN (w : World) (v : Value) (l : List Nat) : Prop := Inn w 1 v l.length (kvN l)
theorem RdN.at_ {w : World} {A : Option Addr} {m c : Nat} {l : List Nat} (h : RdN w (.slice A m c) l) {k : Nat} (hk : k < l.length) : ∃ b o, A = some ⟨b, o, none⟩ ∧ w.cell? ⟨b, o + k, none⟩ = some (.int .i64 (l[k] : Nat)) := by
  rcases h with ⟨_, h1, _⟩ | ⟨ad, c', e, hl, hc⟩
  · omega
  · obtain ⟨b, o, rfl, _, hc⟩ := hc (by omega)
    simp only [Value.slice.injEq] at e
    refine ⟨b, o, e.1, hc k _ ?_⟩
    unfold kvN
    rw [List.getElem?_map, List.getElem?_eq_getElem hk]; rfl

set_option maxHeartbeats 2000000 in
theorem same_any (va vb : Value) (l m : List Nat) (w : World) (ha : RdN w va l) (hb : RdN w vb m) (hl : l.length ≤ 4611686018427387904) (_ : m.length ≤ 4611686018427387904) :
    Calls Try.prog 20 #[va, vb] w fun e w' => e = .returned (.bool (decide (l = m))) ∧ ∃ q, w' = w.drewN q := by
  obtain ⟨A, c, rfl⟩ := Inn.form ha
  obtain ⟨B, d, rfl⟩ := Inn.form hb
  have HA := Lib.hid ha; have HB := Lib.hid hb
  by_cases hlen : l.length = m.length
  rotate_left
  · have hf : decide (l = m) = false := decide_eq_false fun e => hlen (by rw [e])
    rw [hf]
    have hne : ((l.length : Int) == (m.length : Int)) = false := int_ne (by omega)
    clear hf ha hb
    go_enter Try.func20, Try.ntmps20
    go_wp2
    go_ret
    exact ⟨rfl, 0, rfl⟩
  obtain ⟨n, hn⟩ : ∃ n, l.length = n := ⟨_, rfl⟩
  have hn2 : m.length = n := by omega
  have HN1 := Lib.hid hn; have HN2 := Lib.hid hn2
  rw [hn] at hl HA ⊢
  rw [hn2] at HB ⊢
  clear ha hb hlen hn hn2
  go_enter Try.func20, Try.ntmps20
  go_wp2
  go_loopw [5] (fun x5 wr => ∃ k q : Nat, k ≤ n ∧ wr = w.drewN q ∧ x5 = .int .i64 k ∧ Hid (l.take k = m.take k)) (fun x _ => n - (intOf x).toNat)
  case atStart => exact ⟨0, 0, by omega, rfl, rfl, rfl⟩
  case round =>
    obtain ⟨k, q, hk, rfl, rfl, HT⟩ := hrel
    by_cases hkn : k < n
    · have hkl : k < l.length := by rw [HN1.out]; exact hkn
      have hkm : k < m.length := by rw [HN2.out]; exact hkn
      obtain ⟨b1, o1, rfl, ca⟩ := HA.out.at_ hkl
      obtain ⟨b2, o2, rfl, cb⟩ := HB.out.at_ hkm
      have hs1 := List.take_succ_eq_append_getElem hkl
      have hs2 := List.take_succ_eq_append_getElem hkm
      by_cases he : l[k] = m[k]
      · have HT2 : Hid (l.take (k + 1) = m.take (k + 1)) := Lib.hid (by rw [hs1, hs2, HT.out, he])
        rw [he] at ca
        clear HT hs1 hs2 he
        generalize m[k] = y at *
        go_wp2
        go_quiet (fail)
        go_wp2
        go_roundw
        case rel => exact ⟨k + 1, q + nq, by omega, rfl, by go_num, HT2.out⟩
        case measure => simp [intOf] <;> omega
      · have hf : decide (l = m) = false := decide_eq_false fun e => he (by subst e; rfl)
        have HF := Lib.hid hf
        have hne : (((l[k] : Nat) : Int) == ((m[k] : Nat) : Int)) = false := int_ne (by omega)
        clear HT hs1 hs2 hf
        generalize l[k] = y1 at *
        generalize m[k] = y2 at *
        go_wp2
        go_quiet (fail)
        go_wp2
        go_ret
        exact ⟨ret_bool HF.out.symm, q + nq, World.drewN_drewN _ _ _⟩
    · obtain rfl : k = n := by omega
      have hf : decide (l = m) = true := decide_eq_true (by
        have h := HT.out
        rw [List.take_of_length_le (by rw [HN1.out]; exact Nat.le_refl _), List.take_of_length_le (by rw [HN2.out]; exact Nat.le_refl _)] at h
        exact h)
      have HF := Lib.hid hf
      clear hf HT
      go_wp2
      go_ret
      exact ⟨ret_bool HF.out.symm, q, rfl⟩
end Go.Proofs.Ytpmgleioldlolaa
