/- Own texts, joined: A11, Oy. -/
import Derived.Test.YtjjoffadieoaaaaGreatDoorZ1
import Derived.Test.YtjjoffadieoaaaaGreatDoorZ25
namespace Go.Proofs.YtjjoffadieoaaaaGreatDoor
open Go.RowKit

theorem flatA_vals {w : World} {ps : List AP} (h : ∀ p ∈ ps, ActR w p) : ∀ u ∈ flatA ps, u.oneCell' = true := by
  intro u hu
  obtain ⟨p, hp, hv⟩ := List.mem_flatMap.1 hu
  obtain ⟨A, c, e⟩ := (h p hp).rd.slice
  simp only [actV, List.mem_cons, List.not_mem_nil, or_false] at hv
  rcases hv with rfl | rfl | rfl
  · rfl
  · rfl
  · rw [e]; rfl
theorem flatA_set (v : Value) : ∀ (ps : List AP) (k : Nat) (h : k < ps.length), (flatA ps).set (k * 3 + 2) v = flatA (ps.set k (ps[k].1, v))
  | [], k, h => by simp at h
  | p :: r, 0, _ => rfl
  | p :: r, k + 1, h => by
    have ih := flatA_set v r k (by simpa using h)
    have e : (k + 1) * 3 + 2 = (k * 3 + 2) + 3 := by omega
    show ((actV p ++ flatA r).set ((k + 1) * 3 + 2) v) = actV p ++ flatA (r.set k ((p :: r)[k + 1].1, v))
    rw [e]
    show actV p ++ (flatA r).set (k * 3 + 2) v = _
    rw [ih]; rfl

/-- what copied comes to -/
def CopyPost (ps : List AP) (w : World) (e : Ending) (w' : World) : Prop :=
  ∃ v qs, e = .returned v ∧ qs.map Prod.fst = ps.map Prod.fst ∧ w'.ownsRow w.heap.size 59 3 v qs.length (flatA qs) ∧ (∀ p ∈ qs, ActR w' p) ∧ Below w.heap.size w w'
structure CoI (ps : List AP) (w wr : World) (v : Value) (k : Nat) (qs : List AP) : Prop where
  le : k ≤ ps.length
  len : qs.length = ps.length
  eq : qs.map Prod.fst = ps.map Prod.fst
  rest : ∀ j, k ≤ j → qs[j]? = ps[j]?
  row : wr.ownsRow w.heap.size 59 3 v ps.length (flatA qs)
  act : ∀ j p, j < k → qs[j]? = some p → ActO w.heap.size wr p ∧ ∀ g, v.ownBlock = some g → p.2.ownBlock ≠ some g
  below : Below w.heap.size w wr
theorem CoI.put {ps qs : List AP} {w wr w2 : World} {g n cap k : Nat} {v' : Value} (hn : ps.length = n) (h : CoI ps w wr (.slice (some ⟨g, 0, none⟩) n cap) k qs) (hk : k < n) (hb : Below wr.heap.size wr w2) (hr : w2.ownsRow wr.heap.size 93 3 v' (ps[k]'(by omega)).1.ex.length (flat (ps[k]'(by omega)).1.ex)) (hA : ActR w (ps[k]'(by omega))) :
    CoI ps w (w2.setCell ⟨g, k * 3 + 2, none⟩ v') (.slice (some ⟨g, 0, none⟩) n cap) (k + 1) (qs.set k ((ps[k]'(by omega)).1, v')) := by
  subst hn
  have hkq : k < qs.length := by rw [h.len]; exact hk
  have hqk : qs[k] = ps[k] := by
    have := h.rest k (Nat.le_refl _)
    rw [List.getElem?_eq_getElem hkq, List.getElem?_eq_getElem hk] at this
    exact Option.some.inj this
  have hs := h.below.size
  have hgl := h.row.lt g rfl
  have hrow := own_set (own_below h.row hb) (k * 3 + 2) v'
  rw [flatA_set v' qs k hkq, hqk] at hrow
  have hb3 : Below w.heap.size w (w2.setCell ⟨g, k * 3 + 2, none⟩ v') := ((h.below.trans (hb.mono hs))).setCell hgl.1 _
  have hfar : ∀ q, v'.ownBlock = some q → g ≠ q := fun q hq => by have := (hr.lt q hq).1; omega
  have hgr : w2.grownBy (w2.setCell ⟨g, k * 3 + 2, none⟩ v') (some g) := Lib.grownBy_setB (World.grownBy.refl w2 (some g)) _ _
  refine ⟨hk, by rw [List.length_set]; exact h.len, ?_, ?_, hrow, ?_, hb3⟩
  · rw [List.map_set, h.eq]
    have e : ps[k].1 = (ps.map Prod.fst)[k]'(by simpa using hk) := by simp
    rw [show ((ps[k].1, v') : AP).1 = ps[k].1 from rfl, e]
    exact List.set_getElem_self _
  · intro j hj
    rw [List.getElem?_set_ne (by omega)]
    exact h.rest j (by omega)
  · intro j p hj hp
    by_cases e : j = k
    · subst e
      rw [List.getElem?_set_self hkq] at hp
      cases hp
      refine ⟨⟨(own_lower hr hs).kept hgr ?_, hA.len, hA.names, hA.name⟩, fun q hq hv => ?_⟩
      · cases hv : v'.ownBlock with
        | none => exact Or.inl rfl
        | some q => exact Or.inr (fun he => hfar q hv (Option.some.inj he).symm)
      · simp only [Value.ownBlock, Option.some.injEq] at hq
        exact hfar q hv hq
    · rw [List.getElem?_set_ne (fun h => e h.symm)] at hp
      obtain ⟨h1, h2⟩ := h.act j p (by omega) hp
      refine ⟨⟨(own_below h1.own hb).kept hgr ?_, h1.len, h1.names, h1.name⟩, h2⟩
      cases hv : p.2.ownBlock with
      | none => exact Or.inl rfl
      | some q => exact Or.inr (fun he => h2 g rfl (hv.trans he))

set_option maxRecDepth 100000 in
set_option maxHeartbeats 4000000 in
theorem copied6_any (v : Value) (ps : List AP) (w : World) (hA : RdA w v ps) (hl : ps.length * 48 ≤ 140737488355328) :
    Calls Tryz.prog 10 #[v] w (CopyPost ps w) := by
  obtain ⟨ia, hi0, hi1, hi2, hi3⟩ := info_of infoAct
  have HX0 := Lib.hid hi0; have HX1 := Lib.hid hi1; have HX2 := Lib.hid hi2; have HX3 := Lib.hid hi3
  obtain ⟨ic, hc0, hc1, hc2, hc3⟩ := info_of Tryz.infoCell
  have HC0 := Lib.hid hc0; have HC1 := Lib.hid hc1; have HC2 := Lib.hid hc2; have HC3 := Lib.hid hc3
  obtain ⟨P, pc, rfl⟩ := hA.form
  have HW : Hid (Below w.heap.size w (w.alloc (.cells #[] 59))) := (Below.refl _ _).alloc (Nat.le_refl _) _
  have HE : Hid ((w.alloc (.cells #[] 59)).ownsRow w.heap.size 59 3 (.slice (some ⟨w.heap.size, 0, none⟩) 0 0) 0 []) := World.ownsRow_made w #[] 0 (Nat.le_refl _) (by unfold maxLen; omega) (by simp)
  have HI : Hid (Inn (w.alloc (.cells #[] 59)) 3 (.slice P ps.length pc) ps.length (flatA ps)) := Inn.below hA.inn HW.out
  have HAC : Hid (∀ p ∈ ps, ActR w p) := hA.acts
  obtain ⟨n, hn⟩ : ∃ n, ps.length = n := ⟨_, rfl⟩
  have HN := Lib.hid hn
  have HVA := Lib.hid (flatA_vals hA.acts)
  rw [hn] at hl HI ⊢
  clear hi0 hi1 hi2 hi3 hc0 hc1 hc2 hc3 hA hn
  go_enter Tryz.func10, Tryz.ntmps10
  go_wp2_with (at_builtin; refine Ow.wpList_append rfl (.tmp 5) (.tmp 6) 22 rfl w.heap.size 59 ia _ 3 48 Tryz.underlying22 HX0.out HX1.out HX2.out HX3.out rfl (by decide) _ 0 [] rfl HE.out _ n (flatA ps) rfl HI.out HVA.out (by unfold maxLen; omega) (by omega) (by simp) ?_)
  intro v1 w1 ho1 hg1 _
  have ho1 : w1.ownsRow w.heap.size 59 3 v1 n (flatA ps) := by simpa using ho1
  have HB1 : Hid (Below w.heap.size w w1) := HW.out.grown hg1 (by simp) (fun k hk => (HE.out.lt k hk).1)
  obtain ⟨A0, cap, rfl⟩ := own_slice ho1
  have HI0 : Hid (CoI ps w w1 (.slice A0 n cap) 0 ps) := ⟨Nat.zero_le _, rfl, rfl, fun _ _ => rfl, by rw [HN.out]; exact ho1, (fun j p hj => by omega), HB1.out⟩
  clear ho1 hg1
  go_wp2
  go_loopw [10] (fun x10 wr => ∃ (k : Nat) (qs : List AP), CoI ps w wr (.slice A0 n cap) k qs ∧ x10 = .int .i64 (k : Int)) (fun i _ => n - (intOf i).toNat)
  case atStart => exact ⟨0, ps, HI0.out, rfl⟩
  case round =>
    obtain ⟨k, qs, hI, rfl⟩ := hrel
    obtain ⟨wl, hwl⟩ : ∃ W, W = wr := ⟨_, rfl⟩
    subst hwl
    have hk := hI.le
    rw [HN.out] at hk
    by_cases hkn : k < n
    · have hrow := hI.row
      rw [HN.out] at hrow
      obtain ⟨g, rfl⟩ : ∃ g, A0 = some ⟨g, 0, none⟩ := by
        rcases hrow.2 with ⟨_, h0⟩ | ⟨g, cap', cur, h1, _⟩
        · omega
        · simp only [Value.slice.injEq] at h1; exact ⟨g, h1.1⟩
      have hkp : k < ps.length := by rw [HN.out]; exact hkn
      have hkq : k < qs.length := by rw [hI.len]; exact hkp
      have hqk : qs[k] = ps[k] := by
        have := hI.rest k (Nat.le_refl _)
        rw [List.getElem?_eq_getElem hkq, List.getElem?_eq_getElem hkp] at this
        exact Option.some.inj this
      have hd2 : wl.cell? ⟨g, k * 3 + 2, none⟩ = some ps[k].2 := (hrow.cellAt (k * 3 + 2) (by omega)).trans ((flatA_at hkq (j := 2) (by omega)).trans (by rw [hqk]; rfl))
      have hact := HAC.out ps[k] (List.getElem_mem hkp)
      have hput := fun w2 v' => hI.put (w2 := w2) (v' := v') HN.out hkn
      have hfz : ∀ W, Below wl.heap.size wl W → W.frozen? ⟨g, k * 3 + 2, none⟩ = false ∧ W.cell? ⟨g, k * 3 + 2, none⟩ = some ps[k].2 := fun W hb => ⟨own_frozen (own_below hrow hb) _, (hb.cell (cell_lt hd2)).trans hd2⟩
      have HB := Lib.hid hI.below
      have HFZ := Lib.hid hfz
      clear hI hrow hkq hqk hfz
      generalize ps[k] = p at *
      clear hkp
      obtain ⟨⟨ak, an, ae⟩, pv⟩ := p
      simp only at hd2 hact hput HFZ
      have hrd := hact.rd
      have hael := hact.len
      simp only at hrd hael
      obtain ⟨Ap, cp, rfl⟩ := hrd.slice
      have HIN : Hid (Inn (wl.alloc (.cells #[] 93)) 3 (.slice Ap ae.length cp) ae.length (flat ae)) := Inn.below (Inn.below hrd.inn HB.out) ((Below.refl _ _).alloc (Nat.le_refl _) _)
      have HWE : Hid (Below wl.heap.size wl (wl.alloc (.cells #[] 93))) := (Below.refl _ _).alloc (Nat.le_refl _) _
      have HEE : Hid ((wl.alloc (.cells #[] 93)).ownsRow wl.heap.size 93 3 (.slice (some ⟨wl.heap.size, 0, none⟩) 0 0) 0 []) := World.ownsRow_made wl #[] 0 (Nat.le_refl _) (by unfold maxLen; omega) (by simp)
      have HPU := Lib.hid (fun w2 v' h1 h2 => hput w2 v' h1 h2 hact)
      have hd2' : (wl.alloc (.cells #[] 93)).cell? ⟨g, k * 3 + 2, none⟩ = some (.slice Ap ae.length cp) := old_cell hd2
      clear hact hput hrd
      go_wp2_with (at_builtin; refine Ow.wpList_append rfl (.tmp 15) (.tmp 20) 57 rfl wl.heap.size 93 ic _ 3 32 Tryz.underlying57 HC0.out HC1.out HC2.out HC3.out rfl (by decide) _ 0 [] rfl HEE.out _ ae.length (flat ae) rfl HIN.out (flat_vals ae) (by unfold maxLen; omega) (by omega) (by simp) ?_)
      intro v2 w2 ho2 hg2 _
      have ho2 : w2.ownsRow wl.heap.size 93 3 v2 ae.length (flat ae) := by simpa using ho2
      have hb2 : Below wl.heap.size wl w2 := HWE.out.grown hg2 (by simp) (fun k hk => (HEE.out.lt k hk).1)
      obtain ⟨fz, ce⟩ := HFZ.out w2 hb2
      have HI2 := Lib.hid (HPU.out w2 v2 hb2 ho2)
      obtain ⟨A2, c2, rfl⟩ := own_slice ho2
      clear ho2 hg2 hb2 hd2 hd2'
      go_wp2
      go_roundw
      case rel => exact ⟨k + 1, _, HI2.out, by go_num⟩
      case measure => simp [intOf]; omega
    · obtain rfl : k = n := by omega
      have hrow := hI.row
      rw [← hI.len] at hrow
      have hall : ∀ p ∈ qs, ActR wl p := by
        intro p hp
        obtain ⟨j, hj, e⟩ := List.getElem_of_mem hp
        exact (hI.act j p (by rw [hI.len, HN.out] at hj; exact hj) (by rw [List.getElem?_eq_getElem hj, e])).1.rd
      have heq := hI.eq
      have HB := Lib.hid hI.below
      have HR := Lib.hid hrow; have HAL := Lib.hid hall; have HEQ := Lib.hid heq
      clear hI hrow hall heq
      go_wp2
      go_ret
      exact ⟨_, qs, rfl, HEQ.out, HR.out, HAL.out, HB.out⟩
end Go.Proofs.YtjjoffadieoaaaaGreatDoor
namespace Go.Proofs.YtjjoffadieoaaaaGreatDoor
open Go Go.RowKit
namespace Oy
open Ow (beforeB dstAt looksB shapeB Shape acts vals vals_succ vals_at valAt valAt_put before_iff acts_size acts_at run_alike oper_alike countP_lt NoWay shape_of)

abbrev RelD := List Value → Value → World → Prop
def eqD (x : Value) : RelD := fun _ v _ => v = x
section
variable (P : Program) (ops : Array Oper) (Q : Exit → Act → World → Prop) (md : Region.Mode) (Rs : List RelD) (par : List (List Nat))

def parV (f : Nat → Value) (i : Nat) : List Value := (par.getD i []).map f
def relD (i : Nat) : RelD := (Rs[i]?).getD fun _ _ _ => True

/-- an operation's own duty; vs: the values of those ahead of it in the text -/
def Duty (w0 : World) (i : Nat) (o : Oper) (a : Act) (vs : List Value) : Prop :=
  ∀ w, Below w0.heap.size w0 w → (∀ j, beforeB md ops j i = true → relD Rs j (parV par (fun k => vs.getD k undef) j) (vs.getD j undef) w) →
    ∀ K : Act → World → Prop, (∀ v w', Below w.heap.size w w' → relD Rs i (parV par (fun k => vs.getD k undef) i) v w' → K (a.put o.dst v) w') →
      if Region.wanted o (yielded ops a.tmps) = true then Oper.wp P o a w K NoWay else K (a.put o.dst undef) w
def Walk (w0 : World) : List Oper → Nat → Act → List Value → Prop
  | [], _, a, vs => ∀ w, Below w0.heap.size w0 w → (∀ j, j < ops.size → relD Rs j (parV par (fun k => vs.getD k undef) j) (vs.getD j undef) w) → Q .normal a w
  | o :: r, i, a, vs => Duty P ops md Rs par w0 i o a vs ∧ ∀ v, Walk w0 r (i + 1) (a.put o.dst v) (vs ++ [v])
end

section
variable {P : Program} {ops : Array Oper} {Q : Exit → Act → World → Prop} {md : Region.Mode} {Rs : List RelD} {par : List (List Nat)} {w0 : World}

theorem walk_acts (a0 : Act) (vs : Nat → Value) : ∀ (l : List Oper) (i : Nat), (∀ j, l[j]? = ops[i + j]?) → Walk P ops Q md Rs par w0 l i (acts ops a0 vs i) (vals vs i) →
    (∀ j o, i ≤ j → ops[j]? = some o → Duty P ops md Rs par w0 j o (acts ops a0 vs j) (vals vs j)) ∧ (i ≤ ops.size → Walk P ops Q md Rs par w0 [] ops.size (acts ops a0 vs ops.size) (vals vs ops.size)) := by
  intro l
  induction l with
  | nil =>
    intro i hl h
    have hs : ops.size ≤ i := by
      have := hl 0
      simp at this
      exact this
    refine ⟨fun j o hj ho => ?_, fun hi => ?_⟩
    · have := (Array.getElem?_eq_some_iff.1 ho).1; omega
    · have : i = ops.size := by omega
      subst this
      exact h
  | cons o r ih =>
    intro i hl h
    have h0 : ops[i]? = some o := by have := hl 0; simpa using this.symm
    have hd : dstAt ops i = o.dst := by simp [dstAt, h0]
    have hw := h.2 (vs i)
    rw [← hd, ← vals_succ] at hw
    obtain ⟨h1, h2⟩ := ih (i + 1) (fun j => by have := hl (j + 1); simp at this; rw [this]; congr 1; omega) hw
    refine ⟨fun j p hj hp => ?_, fun _ => h2 (by have := (Array.getElem?_eq_some_iff.1 h0).1; omega)⟩
    by_cases hji : j = i
    · subst hji
      obtain rfl : o = p := by rw [h0] at hp; exact Option.some.inj hp
      exact h.1
    · exact h1 j p (by omega) hp

/-- what holds at each point of each order -/
structure Inv (P : Program) (ops : Array Oper) (md : Region.Mode) (Rs : List RelD) (par : List (List Nat)) (eats : List (Option Nat)) (w0 : World) (a0 : Act) (L : Nat → Bool) (a : Act) (w : World) : Prop where
  inv : Ow.Inv P ops md [] [] eats w0.heap.size w0 a0 L a w
  fact : ∀ i, i < ops.size → L i = true → relD Rs i (parV par (valAt ops a) i) (valAt ops a i) w

theorem par_same {f g : Nat → Value} {i : Nat} (h : ∀ p, p ∈ par.getD i [] → f p = g p) : parV par f i = parV par g i := by
  unfold parV
  exact List.map_congr_left h

theorem any_quiet {n : Nat} {eats : List (Option Nat)} (he : ∀ i, Ow.eatsAt eats i = none) (S : Shape md ops [] eats n) (hK : ∀ i, i < ops.size → ∀ ps v w w', relD Rs i ps v w → Below w.heap.size w w' → relD Rs i ps v w') (hP : ∀ i p, i < ops.size → p ∈ par.getD i [] → beforeB md ops p i = true) {a0 : Act} (hn : a0.tmps.size = n)
    (hW : Walk P ops Q md Rs par w0 ops.toList 0 a0 []) : ∀ (fuel : Nat) (listed : Array Bool) (a : Act) (w : World), listed.size = ops.size → (List.range ops.size).countP (fun i => !listed.getD i false) ≤ fuel → w0.heap.size ≤ w.heap.size →
    Inv P ops md Rs par eats w0 a0 (fun i => listed.getD i false) a w → wpAny P md ops Q fuel listed a w := by
  have hWv : ∀ vs : Nat → Value, (∀ j o, ops[j]? = some o → Duty P ops md Rs par w0 j o (acts ops a0 vs j) (vals vs j)) ∧ Walk P ops Q md Rs par w0 [] ops.size (acts ops a0 vs ops.size) (vals vs ops.size) := by
    intro vs
    obtain ⟨h1, h2⟩ := walk_acts a0 vs ops.toList 0 (by simp) hW
    exact ⟨fun j o ho => h1 j o (Nat.zero_le _) ho, h2 (Nat.zero_le _)⟩
  have fin : ∀ (listed : Array Bool) (a : Act) (w : World), listed.size = ops.size → Inv P ops md Rs par eats w0 a0 (fun i => listed.getD i false) a w → Region.ready md ops listed = [] → Q .normal a w := by
    intro listed a w hls I hr
    have all : ∀ i, i < ops.size → listed.getD i false = true := by
      intro i
      induction i using Nat.strongRecOn with
      | _ i ih =>
        intro hi
        cases hli : listed.getD i false with
        | true => rfl
        | false =>
          have : i ∈ Region.ready md ops listed := by
            rw [mem_ready]
            refine ⟨by rw [← hli]; simp [Array.getD, hls, hi], ops[i], by simp [hi], fun e he hb => ?_⟩
            have hbf := S.deps i ops[i] (by simp [hi]) e he hb
            exact ih _ (S.back _ _ hbf) (by have := S.back _ _ hbf; omega)
          rw [hr] at this; cases this
    obtain ⟨_, h2⟩ := hWv (valAt ops a)
    have hact : acts ops a0 (valAt ops a) ops.size = a := by
      obtain ⟨s1, s2⟩ := acts_size (ops := ops) a0 (valAt ops a) ops.size
      have ht : (acts ops a0 (valAt ops a) ops.size).tmps = a.tmps := by
        apply Array.ext_getElem?
        intro d
        obtain ⟨k1, k2⟩ := acts_at S a0 hn (valAt ops a) d ops.size (Nat.le_refl _)
        by_cases hj : ∃ j, j < ops.size ∧ dstAt ops j = some d
        · obtain ⟨j, hj, hjd⟩ := hj
          rw [k1 j hj hjd]
          obtain ⟨e, he', hen⟩ := S.dst j hj
          obtain rfl : e = d := by rw [hjd] at he'; exact (Option.some.inj he').symm
          unfold valAt
          rw [hjd]
          have : e < a.tmps.size := by rw [I.inv.size, hn]; exact hen
          simp [Array.getD, this]
        · rw [k2 (fun k hk hkd => hj ⟨k, hk, hkd⟩)]
          exact (I.inv.rest d (fun k hk hkd => absurd ⟨k, hk, hkd⟩ hj)).symm
      have hdf := s2.trans I.inv.defers.symm
      generalize acts ops a0 (valAt ops a) ops.size = b at *
      obtain ⟨bt, bd⟩ := b
      obtain ⟨at', ad⟩ := a
      simp at ht hdf
      rw [ht, hdf]
    have := h2 w I.inv.below
    rw [hact] at this
    refine this (fun j hj => ?_)
    rw [vals_at _ hj, par_same (g := valAt ops a) (fun p hp => vals_at _ (by have := S.back _ _ (hP j p hj hp); omega))]
    exact I.fact j hj (all j hj)
  intro fuel
  induction fuel with
  | zero =>
    intro listed a w hls hc hb I
    have hr : Region.ready md ops listed = [] := by
      cases h : Region.ready md ops listed with
      | nil => rfl
      | cons i r =>
        exfalso
        have hi : i ∈ Region.ready md ops listed := by rw [h]; simp
        obtain ⟨h0, o, ho, _⟩ := mem_ready.1 hi
        have his := (Array.getElem?_eq_some_iff.1 ho).1
        have : 0 < (List.range ops.size).countP (fun i => !listed.getD i false) := List.countP_pos_iff.2 ⟨i, List.mem_range.2 his, by
          rw [show listed.getD i false = listed.getD i true by simp [Array.getD, hls, his], h0]; rfl⟩
        omega
    exact ⟨hr, fin listed a w hls I hr⟩
  | succ fuel ih =>
    intro listed a w hls hc hb I
    refine ⟨fin listed a w hls I, fun i hi => ?_⟩
    obtain ⟨h0, o, ho, hall⟩ := mem_ready.1 hi
    have his := (Array.getElem?_eq_some_iff.1 ho).1
    have hL : listed.getD i false = false := by rw [show listed.getD i false = listed.getD i true by simp [Array.getD, hls, his], h0]
    have hdep : ∀ j, beforeB md ops j i = true → listed.getD j false = true := by
      intro j hj
      obtain ⟨o', ho', e, he, hbd, rfl⟩ := before_iff.1 hj
      obtain rfl : o = o' := by rw [ho] at ho'; exact Option.some.inj ho'
      exact hall e he hbd
    have hds : o.dst = dstAt ops i := by simp [dstAt, ho]
    obtain ⟨d, hd, hdn⟩ := S.dst i his
    have hag := I.inv.agrees S hn his hL hdep
    obtain ⟨hex, hwt⟩ := run_alike (ops := ops) (o := o) (S.sel i o · · ho) (a := a) (b := acts ops a0 (valAt ops a) i) (fun d hd => hag d (by unfold looksB; rw [ho]; simpa using hd))
    have hval : ∀ j, beforeB md ops j i = true → (vals (valAt ops a) i).getD j undef = valAt ops a j := fun j hj => vals_at _ (S.back _ _ hj)
    have hpar : parV par (fun k => (vals (valAt ops a) i).getD k undef) i = parV par (valAt ops a) i := par_same (fun p hp => hval p (hP i p his hp))
    have hnext : ∀ v w', Below w.heap.size w w' → relD Rs i (parV par (fun k => (vals (valAt ops a) i).getD k undef) i) v w' → wpAny P md ops Q fuel (listed.setIfInBounds i true) (a.put o.dst v) w' := by
      intro v w' hbl hr
      rw [hpar] at hr
      have hgr : w.grownBy w' (Ow.rowOf ops eats a i) := by
        unfold Ow.rowOf
        rw [he i]
        exact ⟨hbl.os, hbl.tape, hbl.output, hbl.size, fun k hk _ => hbl.block k hk⟩
      obtain ⟨I', hb'⟩ := I.inv.step S (fun j _ => by intro v w w' row _ _ _ _; simp [Ow.rel]) hn hb his hL hdep (v := v) (w' := w') ⟨by simp [Ow.rel], hgr, by simp⟩
      obtain ⟨hvi, hvj⟩ := valAt_put S (I.inv.size.trans hn) his v
      rw [hds]
      refine ih _ _ _ (by simp [hls]) ?_ hb' ?_
      · have : (List.range ops.size).countP (fun j => !(listed.setIfInBounds i true).getD j false) < (List.range ops.size).countP (fun j => !listed.getD j false) := by
          refine countP_lt _ i (List.mem_range.2 his) (by simp [hL]) (by simp [Array.getD, hls, his]) (fun j hj h => ?_)
          by_cases hji : i = j
          · subst hji; simp [Array.getD, hls, his] at h
          · simpa [Array.getD_eq_getD_getElem?, Array.getElem?_setIfInBounds_ne hji] using h
        omega
      · have hfun : (fun j => (listed.setIfInBounds i true).getD j false) = fun j => if j = i then true else listed.getD j false := by
          funext j
          by_cases hji : j = i
          · subst hji; simp [Array.getD, hls, his]
          · simp [Array.getD_eq_getD_getElem?, Array.getElem?_setIfInBounds_ne (Ne.symm hji), hji]
        rw [hfun]
        refine ⟨I', fun j hj hLj => ?_⟩
        by_cases hji : j = i
        · subst hji
          rw [hvi, par_same (g := valAt ops a) (fun p hp => hvj p (by have := S.back _ _ (hP j p hj hp); omega) (by have := S.back _ _ (hP j p hj hp); omega))]
          exact hr
        · have hLj' : listed.getD j false = true := by simpa [hji] using hLj
          rw [hvj j hj hji, par_same (g := valAt ops a) (fun p hp => by
            have hbf := hP j p hj hp
            have hLp : listed.getD p false = true := I.inv.closed j p hj hLj' hbf
            refine hvj p (by have := S.back _ _ hbf; omega) (fun e => ?_)
            subst e
            rw [hL] at hLp; cases hLp)]
          exact hK j hj _ _ _ _ (I.fact j hj hLj') hbl
    have hduty := (hWv (valAt ops a)).1 i o ho w I.inv.below
      (fun j hj => by
        have hji := S.back _ _ hj
        rw [hval j hj, par_same (g := valAt ops a) (fun p hp => vals_at _ (by have := S.back _ _ (hP j p (by omega) hp); omega))]
        exact I.fact j (by omega) (hdep j hj))
      (fun a' w' => ∃ v, a' = (acts ops a0 (valAt ops a) i).put o.dst v ∧ Below w.heap.size w w' ∧ relD Rs i (parV par (fun k => (vals (valAt ops a) i).getD k undef) i) v w') (fun v w' h1 h2 => ⟨v, rfl, h1, h2⟩)
    have hinj : ∀ u v, (acts ops a0 (valAt ops a) i).put o.dst u = (acts ops a0 (valAt ops a) i).put o.dst v → u = v := by
      intro u v huv
      rw [hds, hd] at huv
      have h1 := congrArg (fun x => x.tmps[d]?) huv
      have hsz := (acts_size (ops := ops) a0 (valAt ops a) i).1
      have hlt : d < (acts ops a0 (valAt ops a) i).tmps.size := by rw [hsz, hn]; exact hdn
      simp [Act.put, hlt] at h1
      exact h1
    unfold wpOp
    simp only [ho]
    rw [hwt]
    split
    · rename_i hw
      rw [if_pos hw] at hduty
      refine Or.inl (Oper.wp_mono (fun a' w' h => ?_) (oper_alike (d := d) (by rw [hds, hd]) (by rw [(acts_size (ops := ops) a0 (valAt ops a) i).1, hn]; exact hdn) hex hduty))
      obtain ⟨v, rfl, h1, h2⟩ := h
      exact hnext v w' h1 h2
    · rename_i hw
      rw [if_neg hw] at hduty
      obtain ⟨v, h1, h2, h3⟩ := hduty
      obtain rfl := hinj _ _ h1
      exact hnext undef w h2 h3
end

def KeepsD (R : RelD) : Prop := ∀ ps v w w', R ps v w → Below w.heap.size w w' → R ps v w'
def KeepsL : List RelD → Prop
  | [] => True
  | R :: rs => KeepsD R ∧ KeepsL rs
theorem KeepsL.all : ∀ (rs : List RelD), KeepsL rs → ∀ i, KeepsD (relD rs i)
  | [], _, i => by intro ps v w w' _ _; simp [relD]
  | R :: rs, h, 0 => h.1
  | R :: rs, h, i + 1 => by
    have := KeepsL.all rs h.2 i
    unfold relD at this ⊢
    simpa using this
theorem keeps_eq (x : Value) : KeepsD (eqD x) := fun _ _ _ _ h _ => h
theorem keeps_pure (R : List Value → Value → Prop) : KeepsD (fun ps v _ => R ps v) := fun _ _ _ _ h _ => h
def parB (md : Region.Mode) (ops : Array Oper) (par : List (List Nat)) : Bool := (List.range ops.size).all fun i => (par.getD i []).all fun p => beforeB md ops p i
theorem par_of {md : Region.Mode} {ops : Array Oper} {par : List (List Nat)} (h : parB md ops par = true) : ∀ i p, i < ops.size → p ∈ par.getD i [] → beforeB md ops p i = true := by
  intro i p hi hp
  unfold parB at h
  rw [List.all_eq_true] at h
  have := h i (List.mem_range.2 hi)
  rw [List.all_eq_true] at this
  exact this p hp
theorem region_quiet {P : Program} {ops : Array Oper} {Q : Exit → Act → World → Prop} {id : Nat} {a0 : Act} {w : World} (n : Nat) (Rs : List RelD) (par : List (List Nat)) (hm : P.follows .mixedOrders = true) (hn : a0.tmps.size = n) (hs : shapeB .any ops [] (List.replicate ops.size none) n = true) (hp : parB .any ops par = true)
    (hK : KeepsL Rs) (hW : Walk P ops Q .any Rs par w.drew ops.toList 0 a0 []) : (Code.region id ops true).wp P Q a0 w := by
  refine wp_region_any hm (any_quiet (w0 := w.drew) (eats := List.replicate ops.size none) (fun i => ?_) (shape_of hs) (fun i _ => KeepsL.all _ hK i) (par_of hp) hn hW ops.size _ a0 w.drew (by simp) ?_ (Nat.le_refl _) ?_)
  · unfold Ow.eatsAt
    by_cases hi : i < ops.size
    · simp [hi]
    · simp [hi]
  · exact Nat.le_trans List.countP_le_length (by simp)
  · refine ⟨⟨Below.refl _ _, rfl, rfl, fun _ _ => rfl, ?_, ?_, ?_, ?_⟩, ?_⟩
    all_goals
      intros
      rename_i h
      first | (simp [Array.getD] at h; done) | (rename_i h' _; simp [Array.getD] at *)
theorem walk_cons {P : Program} {ops : Array Oper} {Q : Exit → Act → World → Prop} {md : Region.Mode} {Rs : List RelD} {par : List (List Nat)} {w0 : World} {l r : List Oper} {o : Oper} {i : Nat} {a : Act} {vs : List Value} {f : Value → Act} {us : Value → List Value}
    (hl : l = o :: r) (h : Duty P ops md Rs par w0 i o a vs) (hf : ∀ v, a.put o.dst v = f v) (hu : ∀ v, vs ++ [v] = us v) (hr : ∀ v, Walk P ops Q md Rs par w0 r (i + 1) (f v) (us v)) : Walk P ops Q md Rs par w0 l i a vs := by
  subst hl; exact ⟨h, fun v => by rw [hf, hu]; exact hr v⟩
theorem walk_nil {P : Program} {ops : Array Oper} {Q : Exit → Act → World → Prop} {md : Region.Mode} {Rs : List RelD} {par : List (List Nat)} {w0 : World} {l : List Oper} {i : Nat} {a : Act} {vs : List Value}
    (hl : l = []) (h : ∀ w, Below w0.heap.size w0 w → (∀ j, Nat.blt j ops.size = true → relD Rs j (parV par (fun k => vs.getD k undef) j) (vs.getD j undef) w) → Q .normal a w) : Walk P ops Q md Rs par w0 l i a vs := by
  subst hl
  exact fun w hb hd => h w hb fun j hj => hd j (by simpa using hj)
end Oy
end Go.Proofs.YtjjoffadieoaaaaGreatDoor
