/- States as rows in memory; what kinds may be; parent and end of the program, Parent and Within of the document. -/
import Derived.Test.YtpmgleioldlolaaUa
import Derived.Test.YtpmgleioldlolaaOx
namespace Go.Proofs.Ytpmgleioldlolaa
open Go.RowKit

theorem below_drewN {B : Nat} {w w' : World} (h : Below B w w') (n : Nat) : Below B w (w'.drewN n) := ⟨h.os, h.tape, h.output, h.size, h.block⟩
theorem quiet_ons {P : Program} {f : FuncId} {args : Array Value} {w : World} {a n : Nat} {v : Value} (h : Calls P f args (w.drewN (a + n)) fun e w' => e = .returned v ∧ ∃ r, w' = (w.drewN (a + n)).drewN r) :
    Calls P f args (w.drewN (a + n)) fun e w'' => e = .returned v ∧ ∃ m, w'' = w.drewN (a + m) := h.mono fun _ _ ⟨he, r, hr⟩ => ⟨he, n + r, by rw [hr, World.drewN_drewN, Nat.add_assoc]⟩

/-- a state: what is in its other fields is free -/
structure SM where
  nm : ByteArray
  k : Int
  d : Int
  ini : ByteArray
  ea : Option Addr
  en : Nat
  ec : Nat
  xa : Option Addr
  xn : Nat
  xc : Nat
def stV (x : SM) : List Value := [.string x.nm, .int .i64 x.k, .int .i64 x.d, .string x.ini, .slice x.ea x.en x.ec, .slice x.xa x.xn x.xc]
def flatT (xs : List SM) : List Value := xs.flatMap stV
theorem flatT_length (xs : List SM) : (flatT xs).length = xs.length * 6 := by
  induction xs with
  | nil => rfl
  | cons c r ih => show (stV c ++ flatT r).length = _; rw [List.length_append, ih]; simp [stV]; omega
theorem flatT_at : ∀ {xs : List SM} {i : Nat} (h : i < xs.length) (j : Nat) (u : Value), (stV xs[i])[j]? = some u → (flatT xs)[i * 6 + j]? = some u
  | [], i, h, _, _, _ => by simp at h
  | c :: r, 0, _, j, u, hu => by
    have hj : j < (stV c).length := (List.getElem?_eq_some_iff.1 hu).1
    show (stV c ++ flatT r)[0 * 6 + j]? = _
    rw [Nat.zero_mul, Nat.zero_add, List.getElem?_append_left hj]; exact hu
  | c :: r, i + 1, h, j, u, hu => by
    have ih := flatT_at (xs := r) (i := i) (by simpa using h) j u hu
    show (stV c ++ flatT r)[(i + 1) * 6 + j]? = _
    rw [List.getElem?_append_right (by simp [stV]; omega)]
    simp only [stV, List.length_cons, List.length_nil]
    rw [show (i + 1) * 6 + j - (0 + 1 + 1 + 1 + 1 + 1 + 1) = i * 6 + j by omega]
    exact ih
def dp (xs : List SM) (i : Nat) : Int := match xs[i]? with | some x => x.d | none => 0
def kp (xs : List SM) (i : Nat) : Int := match xs[i]? with | some x => x.k | none => 0
theorem dp_at {xs : List SM} {i : Nat} (h : i < xs.length) : dp xs i = xs[i].d := by unfold dp; rw [List.getElem?_eq_getElem h]
theorem kp_at {xs : List SM} {i : Nat} (h : i < xs.length) : kp xs i = xs[i].k := by unfold kp; rw [List.getElem?_eq_getElem h]

/-- a slice value that reads as a list of states -/
def RdT (w : World) (v : Value) (xs : List SM) : Prop := Inn w 6 v xs.length (flatT xs)
theorem RdT.form {w : World} {v : Value} {xs : List SM} (h : RdT w v xs) : ∃ A c, v = .slice A xs.length c := Inn.form h
theorem RdT.below {w w' : World} {v : Value} {xs : List SM} (h : RdT w v xs) (hb : Below w.heap.size w w') : RdT w' v xs := Inn.below h hb
theorem RdT.drew {w : World} {v : Value} {xs : List SM} (h : RdT w v xs) (n : Nat) : RdT (w.drewN n) v xs := h.below (below_drewN (Below.refl _ _) n)
/-- where its cells lie -/
theorem RdT.base {w : World} {A : Option Addr} {n c : Nat} {xs : List SM} (h : RdT w (.slice A n c) xs) (h0 : 0 < xs.length) : ∃ b o, A = some ⟨b, o, none⟩ ∧ b < w.heap.size ∧
    ∀ i (hi : i < xs.length), w.cell? ⟨b, o + i * 6, none⟩ = some (.string xs[i].nm) ∧ w.cell? ⟨b, o + i * 6 + 1, none⟩ = some (.int .i64 (kp xs i)) ∧ w.cell? ⟨b, o + i * 6 + 2, none⟩ = some (.int .i64 (dp xs i)) ∧
      w.cell? ⟨b, o + i * 6 + 3, none⟩ = some (.string xs[i].ini) ∧ w.cell? ⟨b, o + i * 6 + 4, none⟩ = some (.slice xs[i].ea xs[i].en xs[i].ec) ∧ w.cell? ⟨b, o + i * 6 + 5, none⟩ = some (.slice xs[i].xa xs[i].xn xs[i].xc) := by
  rcases h with ⟨_, h1, _⟩ | ⟨ad, c', e, hl, hc⟩
  · omega
  · obtain ⟨b, o, rfl, hlt, hc⟩ := hc h0
    simp only [Value.slice.injEq] at e
    refine ⟨b, o, e.1, hlt, fun i hi => ?_⟩
    rw [kp_at hi, dp_at hi]
    have f := fun j u => flatT_at hi j u
    refine ⟨hc _ _ (f 0 _ rfl), ?_, ?_, ?_, ?_, ?_⟩
    · rw [Nat.add_assoc]; exact hc _ _ (f 1 _ rfl)
    · rw [Nat.add_assoc]; exact hc _ _ (f 2 _ rfl)
    · rw [Nat.add_assoc]; exact hc _ _ (f 3 _ rfl)
    · rw [Nat.add_assoc]; exact hc _ _ (f 4 _ rfl)
    · rw [Nat.add_assoc]; exact hc _ _ (f 5 _ rfl)

theorem past_any (k : Int) (w : World) : Calls Try.prog 30 #[.int .i64 k] w fun e w' => e = .returned (.bool (decide (pastP k))) ∧ w = w' := by
  by_cases h5 : k = 5
  · subst h5
    go_enter Try.func30, Try.ntmps30
    go_wp2
    go_ret
    exact ⟨ret_bool (by decide), rfl⟩
  · by_cases h6 : k = 6
    · subst h6
      go_enter Try.func30, Try.ntmps30
      go_wp2
      go_ret
      exact ⟨ret_bool (by decide), rfl⟩
    · have hP : decide (pastP k) = false := decide_eq_false (by unfold pastP; omega)
      rw [hP]
      have e5 := int_ne h5; have e6 := int_ne h6
      clear hP
      go_enter Try.func30, Try.ntmps30
      go_wp2
      go_ret
      exact ⟨rfl, rfl⟩
theorem isHistory_any (k : Int) (w : World) : Calls Try.prog 37 #[.int .i64 k] w fun e w' => e = .returned (.bool (decide (pastP k))) ∧ w = w' := by
  by_cases h5 : k = 5
  · subst h5
    go_enter Try.func37, Try.ntmps37
    go_wp2
    go_ret
    exact ⟨ret_bool (by decide), rfl⟩
  · by_cases h6 : k = 6
    · subst h6
      go_enter Try.func37, Try.ntmps37
      go_wp2
      go_ret
      exact ⟨ret_bool (by decide), rfl⟩
    · have hP : decide (pastP k) = false := decide_eq_false (by unfold pastP; omega)
      rw [hP]
      have e5 := int_ne h5; have e6 := int_ne h6
      clear hP
      go_enter Try.func37, Try.ntmps37
      go_wp2
      go_ret
      exact ⟨rfl, rfl⟩
theorem isParent_any (k : Int) (w : World) : Calls Try.prog 38 #[.int .i64 k] w fun e w' => e = .returned (.bool (decide (parentP k))) ∧ w = w' := by
  by_cases h5 : k = 2
  · subst h5
    go_enter Try.func38, Try.ntmps38
    go_wp2
    go_ret
    exact ⟨ret_bool (by decide), rfl⟩
  · by_cases h6 : k = 3
    · subst h6
      go_enter Try.func38, Try.ntmps38
      go_wp2
      go_ret
      exact ⟨ret_bool (by decide), rfl⟩
    · have hP : decide (parentP k) = false := decide_eq_false (by unfold parentP; omega)
      rw [hP]
      have e5 := int_ne h5; have e6 := int_ne h6
      clear hP
      go_enter Try.func38, Try.ntmps38
      go_wp2
      go_ret
      exact ⟨rfl, rfl⟩
/-- may a child of kind c stand in a state of kind k? as the program asks it -/
def mayC (k c : Int) : Prop := k = 2 ∨ (k = 3 ∧ (c = 1 ∨ c = 2 ∨ c = 3))
instance {k c : Int} : Decidable (mayC k c) := by unfold mayC; infer_instance
theorem mayHave_any (k c : Int) (w : World) : Calls Try.prog 36 #[.int .i64 k, .int .i64 c] w fun e w' => e = .returned (.bool (decide (mayC k c))) ∧ w = w' := by
  by_cases h2 : k = 2
  · subst h2
    have hP : decide (mayC 2 c) = true := decide_eq_true (Or.inl rfl)
    rw [hP]
    go_enter Try.func36, Try.ntmps36
    go_wp2
    go_ret
    exact ⟨rfl, rfl⟩
  · by_cases h3 : k = 3
    · subst h3
      by_cases c1 : c = 1
      · subst c1
        go_enter Try.func36, Try.ntmps36
        go_wp2
        go_ret
        exact ⟨ret_bool (by decide), rfl⟩
      · by_cases c2 : c = 2
        · subst c2
          go_enter Try.func36, Try.ntmps36
          go_wp2
          go_ret
          exact ⟨ret_bool (by decide), rfl⟩
        · by_cases c3 : c = 3
          · subst c3
            go_enter Try.func36, Try.ntmps36
            go_wp2
            go_ret
            exact ⟨ret_bool (by decide), rfl⟩
          · have hP : decide (mayC 3 c) = false := decide_eq_false (by unfold mayC; omega)
            rw [hP]
            have e1 := int_ne c1; have e2 := int_ne c2; have e3 := int_ne c3
            clear hP
            go_enter Try.func36, Try.ntmps36
            go_wp2
            go_ret
            exact ⟨rfl, rfl⟩
    · have hP : decide (mayC k c) = false := decide_eq_false (by unfold mayC; omega)
      rw [hP]
      have e2 := int_ne h2; have e3 := int_ne h3
      clear hP
      go_enter Try.func36, Try.ntmps36
      go_wp2
      go_ret
      exact ⟨rfl, rfl⟩

set_option maxHeartbeats 1000000 in
theorem parent_any (v : Value) (xs : List SM) (i : Nat) (w : World) (hR : RdT w v xs) (hi : i < xs.length) (hl : xs.length ≤ 4611686018427387904) :
    Calls Try.prog 32 #[v, .int .i64 i] w fun e w' => e = .returned (.int .i64 (par (dp xs) i)) ∧ ∃ n, w' = w.drewN n := by
  obtain ⟨A, c, rfl⟩ := hR.form
  obtain ⟨b, o, rfl, hb, hc⟩ := hR.base (by omega)
  obtain ⟨n, hn⟩ : ∃ n, xs.length = n := ⟨_, rfl⟩
  have HC : Hid (∀ m, m < n → w.cell? ⟨b, o + m * 6 + 2, none⟩ = some (.int .i64 (dp xs m))) := fun m hm => (hc m (by omega)).2.2.1
  have hdi : w.cell? ⟨b, o + i * 6 + 2, none⟩ = some (.int .i64 (dp xs i)) := HC.out i (by omega)
  rw [hn] at hi hl ⊢
  clear hR hn hc
  unfold par
  generalize dp xs = d at *
  go_enter Try.func32, Try.ntmps32
  go_wp2
  go_loopw [5] (fun x5 wr => ∃ k m : Nat, k ≤ i ∧ wr = w.drewN m ∧ x5 = .int .i64 ((k : Int) - 1) ∧ Hid (parF d i k = parF d i i)) (fun x _ => (intOf x + 1).toNat)
  case atStart => exact ⟨i, 0, by omega, rfl, by go_num, rfl⟩
  case round =>
    obtain ⟨k, m, hk, rfl, hx, HP⟩ := hrel
    cases k with
    | zero =>
      have hx' : _ = Value.int .i64 (-1) := hx
      subst hx'
      have hr : parF d i i = -1 := HP.out.symm
      have HRR := Lib.hid hr
      clear hr HP
      go_wp2
      go_quiet (fail)
      go_wp2
      go_ret
      exact ⟨ret_int HRR.out.symm, m + nq, World.drewN_drewN _ _ _⟩
    | succ j =>
      rw [show ((j + 1 : Nat) : Int) - 1 = (j : Int) by omega] at hx
      subst hx
      have hdj := HC.out j (by omega)
      have hst := parF_succ d i j
      rw [HP.out] at hst
      by_cases hle : d i ≤ d j
      · rw [if_pos hle] at hst
        have HRR := Lib.hid hst.symm
        clear hst HP
        go_wp2
        go_quiet (fail)
        go_wp2
        go_roundw
        case rel => exact ⟨j, m + nq, by omega, rfl, by go_num, HRR.out⟩
        case measure => simp [intOf] <;> omega
      · rw [if_neg hle] at hst
        have HRR := Lib.hid hst
        have hlt : d j < d i := by omega
        clear hst HP hle
        go_wp2
        go_quiet (fail)
        go_wp2
        go_ret
        exact ⟨ret_int HRR.out.symm, m + nq, World.drewN_drewN _ _ _⟩
set_option maxHeartbeats 1000000 in
theorem end_any (v : Value) (xs : List SM) (i : Nat) (w : World) (hR : RdT w v xs) (hi : i < xs.length) (hl : xs.length ≤ 4611686018427387904) :
    Calls Try.prog 33 #[v, .int .i64 i] w fun e w' => e = .returned (.int .i64 (en (dp xs) xs.length i)) ∧ ∃ n, w' = w.drewN n := by
  obtain ⟨A, c, rfl⟩ := hR.form
  obtain ⟨b, o, rfl, hb, hc⟩ := hR.base (by omega)
  obtain ⟨n, hn⟩ : ∃ n, xs.length = n := ⟨_, rfl⟩
  have HC : Hid (∀ m, m < n → w.cell? ⟨b, o + m * 6 + 2, none⟩ = some (.int .i64 (dp xs m))) := fun m hm => (hc m (by omega)).2.2.1
  have hdi : w.cell? ⟨b, o + i * 6 + 2, none⟩ = some (.int .i64 (dp xs i)) := HC.out i (by omega)
  rw [hn] at hi hl ⊢
  clear hR hn hc
  generalize dp xs = d at *
  go_enter Try.func33, Try.ntmps33
  go_wp2
  go_loopw [5] (fun x5 wr => ∃ k m : Nat, k ≤ n ∧ wr = w.drewN m ∧ x5 = .int .i64 k ∧ Hid (i < k ∧ endF d i (n - k) k = en d n i)) (fun x _ => n - (intOf x).toNat)
  case atStart => exact ⟨i + 1, 0, by omega, rfl, by go_num, by omega, rfl⟩
  case round =>
    obtain ⟨k, m, hk, rfl, rfl, HP⟩ := hrel
    by_cases hkn : k < n
    · have hdk := HC.out k hkn
      have hst := endF_succ d i (n - (k + 1)) k
      rw [show n - (k + 1) + 1 = n - k by omega, HP.out.2] at hst
      have HIK := Lib.hid HP.out.1
      by_cases hlt : d i < d k
      · rw [if_pos hlt] at hst
        have HRR := Lib.hid hst.symm
        clear hst HP
        go_wp2
        go_quiet (fail)
        go_wp2
        go_roundw
        case rel => exact ⟨k + 1, m + nq, by omega, rfl, by go_num, Nat.lt_succ_of_lt HIK.out, HRR.out⟩
        case measure => simp [intOf] <;> omega
      · rw [if_neg hlt] at hst
        have HRR := Lib.hid hst
        have hle : d k ≤ d i := by omega
        clear hst HP hlt
        go_wp2
        go_quiet (fail)
        go_wp2
        go_ret
        exact ⟨ret_int (by rw [HRR.out]), m + nq, World.drewN_drewN _ _ _⟩
    · have hr : en d n i = k := by rw [← HP.out.2, show n - k = 0 by omega]; rfl
      have HRR := Lib.hid hr
      have hdf : decide ((k : Int) < n) = false := decide_eq_false (by omega)
      clear hr HP
      go_wp2
      go_quiet (fail)
      go_wp2
      go_ret
      exact ⟨ret_int (by rw [HRR.out]), m + nq, World.drewN_drewN _ _ _⟩

set_option maxHeartbeats 1000000 in
/-- the document's Parent, of depths that are right -/
theorem refParent_any (v : Value) (xs : List SM) (i : Nat) (w : World) (hR : RdT w v xs) (hi : i < xs.length) (hl : xs.length ≤ 4611686018427387904) (hN : Nst (dp xs) xs.length) :
    Calls Try.prog 18 #[v, .int .i64 i] w fun e w' => e = .returned (.int .i64 (par (dp xs) i)) ∧ ∃ n, w' = w.drewN n := by
  obtain ⟨A, c, rfl⟩ := hR.form
  obtain ⟨b, o, rfl, hb, hc⟩ := hR.base (by omega)
  obtain ⟨n, hn⟩ : ∃ n, xs.length = n := ⟨_, rfl⟩
  have HC : Hid (∀ m, m < n → w.cell? ⟨b, o + m * 6 + 2, none⟩ = some (.int .i64 (dp xs m))) := fun m hm => (hc m (by omega)).2.2.1
  have hdi : w.cell? ⟨b, o + i * 6 + 2, none⟩ = some (.int .i64 (dp xs i)) := HC.out i (by omega)
  rw [hn] at hi hl hN ⊢
  clear hR hn hc
  generalize dp xs = d at *
  have hlo := hN.lo i hi
  have hhi := hN.hi i hi
  have HE := Lib.hid (hN.las hi)
  clear hN
  go_enter Try.func18, Try.ntmps18
  go_wp2
  go_loopw [5, 6] (fun x5 x6 wr => ∃ k m : Nat, k ≤ i ∧ wr = w.drewN m ∧ x6 = .int .i64 k ∧ x5 = .int .i64 (lasF d i k)) (fun _ x _ => i - (intOf x).toNat)
  case atStart => exact ⟨0, 0, by omega, rfl, rfl, rfl⟩
  case round =>
    obtain ⟨k, m, hk, rfl, rfl, rfl⟩ := hrel
    by_cases hki : k < i
    · have hdk := HC.out k (by omega)
      have hst := lasF_succ d i k
      by_cases he : d k = d i - 1
      · rw [if_pos he] at hst
        have HST := Lib.hid hst
        rw [he] at hdk
        clear hst
        go_wp2
        go_quiet (fail)
        go_wp2
        go_roundw
        case rel => exact ⟨k + 1, m + nq, by omega, rfl, by go_num, by rw [HST.out]⟩
        case measure => simp [intOf] <;> omega
      · rw [if_neg he] at hst
        have HST := Lib.hid hst
        clear hst
        have hne := int_ne he
        go_wp2
        go_quiet (fail)
        go_wp2
        go_roundw
        case rel => exact ⟨k + 1, m + nq, by omega, rfl, by go_num, by rw [HST.out]⟩
        case measure => simp [intOf] <;> omega
    · obtain rfl : k = i := by omega
      go_wp2
      go_ret
      exact ⟨ret_int HE.out, m, rfl⟩
end Go.Proofs.Ytpmgleioldlolaa
