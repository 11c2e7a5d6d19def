/- Own texts, joined: A1, A2, A3, Vj, Vk. -/
import Derived.Test.YtdelihhbmagphaaGreatDoorR12
import Derived.Lib.SplitLaws
import Derived.Lib.Split
import Derived.Lib.IndexBytes
import Derived.Lib.Join
import Derived.StillTailTactics
namespace Go.Proofs.YtdelihhbmagphaaGreatDoor
structure AM where
 kd : Int
 nm : List UInt8
 ex : List CM
def isIn (c : CM) : Bool := decide (c.op = 6)
def asksB (cs : List CM) : Bool := cs.any isIn
def oneB (a : AM) : Bool :=
 if a.kd = 1 then nameB a.nm && rightB a.ex && !asksB a.ex else if a.kd = 2 ∨ a.kd = 3 then eventB a.nm && decide (a.ex.length = 0) else false
def rightA (l : List AM) : Bool := decide (1 ≤ l.length ∧ l.length ≤ 8) && l.all oneB
def wRaise : List UInt8 := [114, 97, 105, 115, 101, 58]
def wSend : List UInt8 := [115, 101, 110, 100, 58]
def textA (a : AM) : List UInt8 := if a.kd = 2 then wRaise ++ a.nm else if a.kd = 3 then wSend ++ a.nm else a.nm ++ [61] ++ (showP a.ex).1
def showA (l : List AM) : List UInt8 × Int := if rightA l = true then (Lib.join (l.map textA) [59], 0) else ([], 1)
def semis : List UInt8 → List (List UInt8)
 | [] => [[]]
 | c :: r => if c = 59 then [] :: semis r else match semis r with
  | [] => [[c]]
  | p :: ps => (c :: p) :: ps
def readA (s : List UInt8) : AM :=
 if Lib.hasPrefix s wRaise = true then ⟨2, s.drop 6, []⟩ else if Lib.hasPrefix s wSend = true then ⟨3, s.drop 5, []⟩ else ⟨1, (Lib.cut s [61]).1, (parseP (Lib.cut s [61]).2.1).1⟩
def parseA (s : List UInt8) : List AM × Int :=
 if 6000 < s.length ∨ 8 ≤ Lib.countByte s 59 then ([], 4) else if ((semis s).map readA).all oneB = true then ((semis s).map readA, 0) else ([], 1)
theorem semis_ne (s : List UInt8) : semis s ≠ [] := by
 cases s with
 | nil => simp [semis]
 | cons c r =>
  unfold semis
  split
  ·simp
  ·split <;> simp
theorem semis_len (s : List UInt8) : (semis s).length = Lib.countByte s 59 + 1 := by
 induction s with
 | nil => rfl
 | cons c r ih =>
  unfold semis
  by_cases h : c = 59
  ·subst h
   simp only [if_true, List.length_cons, ih, Lib.countByte, List.count_cons_self]
  ·rw [if_neg h]
   have e : Lib.countByte (c :: r) 59 = Lib.countByte r 59 := by unfold Lib.countByte; rw [List.count_cons_of_ne h]
   rw [e, ← ih]
   cases hp : semis r with
   | nil => exact absurd hp (semis_ne r)
   | cons p ps => rfl
theorem semis_none {s : List UInt8} (h : ∀ c ∈ s, c ≠ 59) : semis s = [s] := by
 induction s with
 | nil => rfl
 | cons c r ih =>
  unfold semis
  rw [if_neg (h c (by simp)), ih (fun x hx => h x (by simp [hx]))]
theorem semis_cut {p : List UInt8} (h : ∀ c ∈ p, c ≠ 59) (r : List UInt8) : semis (p ++ 59 :: r) = p :: semis r := by
 induction p with
 | nil => rfl
 | cons c q ih =>
  show semis (c :: (q ++ 59 :: r)) = _
  conv => lhs; unfold semis
  rw [if_neg (h c (by simp)), ih (fun x hx => h x (by simp [hx]))]
theorem at_index : ∀ {s : List UInt8} {c : UInt8} {i : Nat}, Lib.indexByte s c = i → s = s.take i ++ c :: s.drop (i + 1) ∧ ∀ x ∈ s.take i, x ≠ c
 | [], c, i, h => by simp [Lib.indexByte] at h
 | b :: l, c, i, h => by
  unfold Lib.indexByte at h
  split at h
  ·rename_i hb
   have : i = 0 := by omega
   subst this
   have := beq_iff_eq.1 hb
   subst this
   exact ⟨rfl, by simp⟩
  ·rename_i hb
   split at h
   ·omega
   ·rename_i hn
    have hg := Lib.indexByte_ge l c
    have hn' : Lib.indexByte l c ≠ -1 := fun e => hn (by rw [e]; rfl)
    obtain ⟨k, hk⟩ : ∃ k : Nat, Lib.indexByte l c = k := ⟨(Lib.indexByte l c).toNat, by omega⟩
    have : i = k + 1 := by omega
    subst this
    obtain ⟨h1, h2⟩ := at_index hk
    refine ⟨?_, ?_⟩
    ·show b :: l = b :: (l.take k ++ c :: l.drop (k + 1))
     rw [← h1]
    ·intro x hx
     rw [List.take_succ_cons] at hx
     rcases List.mem_cons.1 hx with rfl | hx
     ·intro e; subst e; exact hb (by simp)
     ·exact h2 x hx
theorem index_no : ∀ {s : List UInt8} {c : UInt8}, Lib.indexByte s c = -1 → ∀ x ∈ s, x ≠ c
 | [], c, h => by simp
 | b :: l, c, h => by
  unfold Lib.indexByte at h
  split at h
  ·omega
  ·rename_i hb
   split at h
   ·rename_i hn
    have hn := beq_iff_eq.1 hn
    intro x hx
    rcases List.mem_cons.1 hx with rfl | hx
    ·intro e; subst e; exact hb (by simp)
    ·exact index_no hn x hx
   ·have := Lib.indexByte_ge l c; omega
theorem split_pieces : ∀ (k : Nat) (s : List UInt8), Lib.countByte s 59 = k → Lib.splitK [59] 0 k s = semis s
 | 0, s, h => by
  have : ∀ c ∈ s, c ≠ 59 := by
   intro c hc e
   subst e
   exact absurd h (by unfold Lib.countByte; have := List.count_pos_iff.2 hc; omega)
  rw [semis_none this]; rfl
 | k + 1, s, h => by
  unfold Lib.splitK
  rw [Lib.index_one]
  have hg := Lib.indexByte_ge s 59
  by_cases hn : Lib.indexByte s 59 = -1
  ·have := index_no hn
   exfalso
   have h0 : Lib.countByte s 59 = 0 := List.count_eq_zero.2 (fun hm => this _ hm rfl)
   omega
  ·obtain ⟨i, hi⟩ : ∃ i : Nat, Lib.indexByte s 59 = i := ⟨(Lib.indexByte s 59).toNat, by omega⟩
   obtain ⟨h1, h2⟩ := at_index hi
   rw [hi, if_neg (by simp <;> omega)]
   have hc : Lib.countByte (s.drop (i + 1)) 59 = k := by
    have e : Lib.countByte s 59 = Lib.countByte (s.take i ++ 59 :: s.drop (i + 1)) 59 := by rw [← h1]
    rw [h] at e
    unfold Lib.countByte at e ⊢
    rw [List.count_append, List.count_eq_zero.2 (fun hm => h2 _ hm rfl), List.count_cons_self] at e
    omega
   have ih := split_pieces k _ hc
   have e2 : semis s = s.take i :: semis (s.drop (i + 1)) := by
    conv => lhs; rw [h1]
    exact semis_cut h2 _
   rw [e2, ← ih]
   rfl
theorem split_is (s : ByteArray) : (Lib.splitB ⟨#[59]⟩ 0 (Lib.countB s ⟨#[59]⟩) s).map (·.data.toList) = semis s.data.toList := by
 rw [Lib.splitB_data]
 have e : Lib.countB s ⟨#[59]⟩ = Lib.countByte s.data.toList 59 := Lib.count_one 59 s.data.toList
 rw [e]
 exact split_pieces _ _ rfl
theorem show_len {cs : List CM} (h : rightB cs = true) : (showP cs).1.length ≤ 574 := by
 obtain ⟨t, h1, rfl⟩ := right_tree h
 have hl : (post t).length ≤ 32 := by unfold rightB at h; simp at h; exact h.1
 rw [tree_show h1 hl]
 have := text_len h1
 simp only; omega
theorem one_kinds {a : AM} (h : oneB a = true) : (a.kd = 1 ∧ nameB a.nm = true ∧ rightB a.ex = true ∧ asksB a.ex = false) ∨ ((a.kd = 2 ∨ a.kd = 3) ∧ eventB a.nm = true ∧ a.ex = []) := by
 unfold oneB at h
 split at h
 ·rename_i e
  simp at h
  exact Or.inl ⟨e, h.1.1, h.1.2, h.2⟩
 ·split at h
  ·rename_i e
   simp at h
   exact Or.inr ⟨e, h.1, h.2⟩
  ·cases h
theorem event_len {l : List UInt8} (h : eventB l = true) : l.length ≤ 17 := by
 unfold eventB Lib.trimPrefix at h
 split at h
 ·have := name_len h; simp at this; omega
 ·have := name_len h; omega
theorem textA_len {a : AM} (h : oneB a = true) : (textA a).length ≤ 587 := by
 rcases one_kinds h with ⟨e, hn, hr, _⟩ | ⟨e, he, hx⟩
 ·have h1 := name_len hn; have h2 := show_len hr
  unfold textA
  rw [if_neg (by omega), if_neg (by omega)]
  simp only [List.length_append, List.length_singleton]; omega
 ·have := event_len he
  unfold textA
  rcases e with e | e
  ·rw [if_pos e]; simp [wRaise]; omega
  ·rw [if_neg (by omega), if_pos e]; simp [wSend]; omega
theorem join_len (ts : List (List UInt8)) (h : ∀ t ∈ ts, t.length ≤ 587) : (Lib.join ts [59]).length ≤ 588 * ts.length := by
 cases ts with
 | nil => simp [Lib.join_nil]
 | cons t r =>
  rw [Lib.join_cons]
  have h0 := h t (by simp)
  have : ∀ r : List (List UInt8), (∀ t ∈ r, t.length ≤ 587) → (Lib.joinTail [59] r).length ≤ 588 * r.length := by
   intro r
   induction r with
   | nil => intro _; simp [Lib.joinTail]
   | cons x q ih =>
    intro hq
    have h1 := ih (fun t ht => hq t (by simp [ht]))
    have h2 := hq x (by simp)
    have e : Lib.joinTail [59] (x :: q) = 59 :: x ++ Lib.joinTail [59] q := by simp [Lib.joinTail]
    rw [e]
    simp only [List.length_append, List.length_cons]
    omega
  have := this r (fun x hx => h x (by simp [hx]))
  simp only [List.length_append, List.length_cons]
  omega
end Go.Proofs.YtdelihhbmagphaaGreatDoor
namespace Go.Proofs.YtdelihhbmagphaaGreatDoor
def wErr : List UInt8 := [101, 114, 114, 111, 114]
def mayB (v : VM) (x : VA) : Bool := decide (x.kd = v.kd) && decide (v.lo ≤ x.a ∧ x.a ≤ v.hi) && (decide (x.kd ≠ 3) || decide (v.lo ≤ x.b ∧ x.b ≤ v.hi))
def atP (vs : List VM) (n : List UInt8) : Int := ixP (isV n) vs 0
def setP (vs : List VM) (xs : List VA) (a : AM) : Option (List VA) :=
 match vs[(atP vs a.nm).toNat]? with
 | some v => if 0 ≤ atP vs a.nm ∧ (evP vs xs [] a.ex).2 = 0 ∧ mayB v (evP vs xs [] a.ex).1 = true then some (xs.set (atP vs a.nm).toNat (evP vs xs [] a.ex).1) else none
 | none => none
structure DM where
 xs : List VA
 r : List (List UInt8)
 s : List (List UInt8)
 ok : Bool
def doP (vs : List VM) : List AM → List VA → List (List UInt8) → List (List UInt8) → DM
 | [], xs, r, s => ⟨xs, r, s, true⟩
 | a :: al, xs, r, s =>
  if a.kd = 1 then (match setP vs xs a with | some ys => doP vs al ys r s | none => ⟨xs, r ++ [wErr], s, false⟩)
  else if a.kd = 2 then doP vs al xs (r ++ [a.nm]) s
  else if a.kd = 3 then doP vs al xs r (s ++ [a.nm])
  else ⟨xs, r ++ [wErr], s, false⟩
section
variable {vs : List VM}
theorem set_at {xs ys : List VA} {a : AM} (h : setP vs xs a = some ys) : ∃ (i : Nat) (v : VM), atP vs a.nm = i ∧ vs[i]? = some v ∧ (evP vs xs [] a.ex).2 = 0 ∧ mayB v (evP vs xs [] a.ex).1 = true ∧ ys = xs.set i (evP vs xs [] a.ex).1 := by
 unfold setP at h
 split at h
 ·rename_i v hv
  split at h
  ·rename_i hh
   have e : atP vs a.nm = ((atP vs a.nm).toNat : Nat) := by omega
   exact ⟨_, v, e, hv, hh.2.1, hh.2.2, (Option.some.inj h).symm⟩
  ·cases h
 ·cases h
theorem set_len {xs ys : List VA} {a : AM} (h : setP vs xs a = some ys) : ys.length = xs.length := by
 obtain ⟨i, v, _, _, _, _, rfl⟩ := set_at h
 rw [List.length_set]
theorem ev_fin {xs : List VA} {ss : List (List UInt8)} (hx : ∀ x ∈ xs, inL x.a = true) (cs : List CM) : Fin (evP vs xs ss cs) ∧ ((evP vs xs ss cs).2 = 0 → xs.length = vs.length) := by
 unfold evP
 by_cases hr : rightB cs = true
 ·rw [if_pos hr]
  by_cases hw : worldB vs xs = true
  ·rw [if_pos hw]
   have hw' := hw
   unfold worldB at hw'
   simp only [Bool.and_eq_true, decide_eq_true_eq] at hw'
   obtain ⟨t, h1, rfl⟩ := right_tree hr
   rw [ev_tree (fun v hv => ⟨List.all_eq_true.1 hw'.2 v hv, hx v hv⟩) hw'.1.symm h1]
   exact ⟨fin_eT (fun v hv => ⟨List.all_eq_true.1 hw'.2 v hv, hx v hv⟩) hw'.1.symm h1, fun _ => hw'.1⟩
  ·rw [if_neg hw]; exact ⟨fin_er (by decide), fun h => absurd h (by decide)⟩
 ·rw [if_neg hr]; exact ⟨fin_er (by decide), fun h => absurd h (by decide)⟩
theorem ev_in {xs : List VA} {ss : List (List UInt8)} (hx : ∀ x ∈ xs, inL x.a = true) (cs : List CM) : inL (evP vs xs ss cs).1.a = true := by
 rcases (ev_fin (vs := vs) (ss := ss) hx cs).1 with ⟨_, h⟩ | ⟨_, h⟩
 ·exact h.2
 ·rw [h]; rfl
theorem set_in {xs ys : List VA} {a : AM} (hx : ∀ x ∈ xs, inL x.a = true) (h : setP vs xs a = some ys) : ∀ x ∈ ys, inL x.a = true := by
 obtain ⟨i, v, _, _, _, _, rfl⟩ := set_at h
 intro x hm
 rcases List.mem_or_eq_of_mem_set hm with h | rfl
 ·exact hx x h
 ·exact ev_in hx _
def FitP (vs : List VM) (xs ys : List VA) : Prop := ∀ (i : Nat) v x y, vs[i]? = some v → xs[i]? = some x → ys[i]? = some y → mayB v x = true → mayB v y = true
theorem FitP.refl (xs : List VA) : FitP vs xs xs := fun i v x y _ h2 h3 h => by rw [h2] at h3; cases h3; exact h
theorem FitP.trans {xs ys zs : List VA} (hl : xs.length = ys.length) (h1 : FitP vs xs ys) (h2 : FitP vs ys zs) : FitP vs xs zs := by
 intro i v x z a b c d
 have hi : i < ys.length := by rw [← hl]; exact (List.getElem?_eq_some_iff.1 b).1
 exact h2 i v ys[i] z a (List.getElem?_eq_getElem hi) c (h1 i v x ys[i] a b (List.getElem?_eq_getElem hi) d)
end
end Go.Proofs.YtdelihhbmagphaaGreatDoor
namespace Go.Proofs.YtdelihhbmagphaaGreatDoor
open Go.RowKit
/-! rows of actions: each with the slice of its expression -/
abbrev AP := AM × Value
def actV (p : AP) : List Value := [.int .i64 p.1.kd, bstr p.1.nm, p.2]
def flatA (ps : List AP) : List Value := ps.flatMap actV
theorem flatA_append (a b : List AP) : flatA (a ++ b) = flatA a ++ flatA b := by simp [flatA]
theorem flatA_at {ps : List AP} {i : Nat} (h : i < ps.length) {j : Nat} (hj : j < 3) : (flatA ps)[i * 3 + j]? = (actV ps[i])[j]? := by
 induction ps generalizing i with
 | nil => simp at h
 | cons v r ih =>
  show (actV v ++ flatA r)[i * 3 + j]? = _
  cases i with
  | zero => rw [List.getElem?_append_left (by simp [actV]; omega)]; simp
  | succ k =>
   rw [List.getElem?_append_right (by simp [actV]; omega)]
   have e : (k + 1) * 3 + j - (actV v).length = k * 3 + j := by simp [actV]; omega
   rw [e]
   exact ih (by simpa using h)
structure ActR (w : World) (p : AP) : Prop where
 rd : RdI w p.2 p.1.ex
 len : p.1.ex.length * 32 ≤ 140737488355328
 names : Names p.1.ex
 name : p.1.nm.length ≤ 140737488355328
theorem ActR.below {w w' : World} {p : AP} (h : ActR w p) (hb : Below w.heap.size w w') : ActR w' p := ⟨h.rd.below hb, h.len, h.names, h.name⟩
structure RdA (w : World) (v : Value) (ps : List AP) : Prop where
 inn : Inn w 3 v ps.length (flatA ps)
 acts : ∀ p ∈ ps, ActR w p
theorem RdA.below {w w' : World} {v : Value} {ps : List AP} (h : RdA w v ps) (hb : Below w.heap.size w w') : RdA w' v ps := ⟨Inn.below h.inn hb, fun p hp => (h.acts p hp).below hb⟩
theorem RdA.form {w : World} {v : Value} {ps : List AP} (h : RdA w v ps) : ∃ A c, v = .slice A ps.length c := Inn.form h.inn
theorem RdA.at_ {w : World} {A : Option Addr} {m c : Nat} {ps : List AP} (h : RdA w (.slice A m c) ps) {k : Nat} (hk : k < ps.length) :
  ∃ b o, A = some ⟨b, o, none⟩ ∧ b < w.heap.size ∧ w.cell? ⟨b, o + k * 3, none⟩ = some (.int .i64 ps[k].1.kd) ∧ w.cell? ⟨b, o + k * 3 + 1, none⟩ = some (bstr ps[k].1.nm) ∧ w.cell? ⟨b, o + k * 3 + 2, none⟩ = some ps[k].2 ∧ ActR w ps[k] := by
 obtain ⟨b, o, hA, hlt, hc⟩ := Inn.at_ h.inn hk
 exact ⟨b, o, hA, hlt, hc 0 _ ((flatA_at hk (by omega)).trans rfl), hc 1 _ ((flatA_at hk (by omega)).trans rfl), hc 2 _ ((flatA_at hk (by omega)).trans rfl), h.acts _ (List.getElem_mem hk)⟩
theorem RdI.slice {w : World} {v : Value} {cs : List CM} (h : RdI w v cs) : ∃ A c, v = .slice A cs.length c := by
 rcases h with ⟨rfl, rfl⟩ | ⟨ad, c, rfl, _⟩
 ·exact ⟨none, 0, rfl⟩
 ·exact ⟨_, _, rfl⟩
theorem RdC.form {w : World} {v : Value} {cs : List CM} (h : RdC w v cs) : ∃ A c, v = .slice A cs.length c := by
 obtain ⟨A, c, e, _⟩ := h; exact ⟨A, c, e⟩
theorem RdC.at_ {w : World} {A : Option Addr} {m c : Nat} {cs : List CM} (h : RdC w (.slice A m c) cs) {k : Nat} (hk : k < cs.length) :
  ∃ b o, A = some ⟨b, o, none⟩ ∧ w.cell? ⟨b, o + k * 3, none⟩ = some (.int .i64 cs[k].op) ∧ w.cell? ⟨b, o + k * 3 + 1, none⟩ = some (.int .i64 cs[k].a) ∧ w.cell? ⟨b, o + k * 3 + 2, none⟩ = some (bstr cs[k].nm) := by
 obtain ⟨A', c', e, hc⟩ := h
 simp only [Value.slice.injEq] at e
 obtain ⟨rfl, _, _⟩ := e
 exact hc k hk
theorem ix_any {α : Type} (p : α → Bool) (l : List α) : decide (0 ≤ ixP p l 0) = l.any p := by
 rcases ix_find p l 0 with ⟨h1, h2⟩ | ⟨j, hj, h1, h2⟩
 ·rw [h1]
  have : l.any p = false := by
   rw [List.any_eq_false]
   intro x hx
   exact List.find?_eq_none.1 h2 x hx
  rw [this]; rfl
 ·rw [h1, decide_eq_true (by omega)]
  have := List.find?_some h2
  have hm := List.mem_of_find?_eq_some h2
  exact (List.any_eq_true.2 ⟨_, hm, this⟩).symm
theorem asks_any (c : CM) (X : ByteArray) (w : World) :
  Calls Tryz.prog 159 #[.agg #[.int .i64 c.op, .int .i64 c.a, .string X]] w fun e w' => e = .returned (.bool (isIn c)) ∧ Below w.heap.size w w' := by
 have HB : Hid (∀ W : World, ∀ o : Obj, Below W.heap.size W (W.alloc o)) := fun W o => (Below.refl _ _).alloc (Nat.le_refl _) o
 by_cases h : c.op = 6
 ·have hL : isIn c = true := decide_eq_true h
  rw [hL, h]; clear hL h
  go_enter Tryz.func159, Tryz.ntmps159
  go_wp2
  go_ret
  exact ⟨rfl, HB.out _ _⟩
 ·have hL : isIn c = false := decide_eq_false h
  have h' := int_ne h
  rw [hL]; clear hL
  go_enter Tryz.func159, Tryz.ntmps159
  go_wp2
  go_ret
  exact ⟨rfl, HB.out _ _⟩
set_option maxHeartbeats 1000000 in
theorem askIndex_any (v : Value) (cs : List CM) (w : World) (hR : RdC w v cs) (hl : cs.length ≤ 4611686018427387904) :
  Calls Tryz.prog 188 #[v, .func (.func 159) #[] #[]] w fun e w' => e = .returned (.int .i64 (ixP (isIn) cs 0)) ∧ Below w.heap.size w w' := by
 obtain ⟨A, c, rfl⟩ := hR.form
 have HR := Lib.hid hR; clear hR
 obtain ⟨n, hn⟩ : ∃ n, cs.length = n := ⟨_, rfl⟩
 have HN := Lib.hid hn
 rw [hn] at hl HR ⊢
 clear hn
 go_enter Tryz.func188, Tryz.ntmps188
 go_wp2
 go_loopw [4, 5, 8] (fun x4 x5 i wr => x4 = .int .i64 0 ∧ (x5 = .int .i64 0 ∨ True) ∧ ∃ k : Nat, k ≤ n ∧ i = .int .i64 k ∧ Hid (ixP (isIn) (cs.drop k) k = ixP (isIn) cs 0) ∧ Below w.heap.size w wr) (fun _ _ i _ => n - (intOf i).toNat)
 case atStart => exact ⟨rfl, Or.inr trivial, 0, by omega, rfl, rfl, Below.refl _ _⟩
 case round =>
  obtain ⟨rfl, _, k, hk, rfl, HI, hb⟩ := hrel
  have HBL := Lib.hid hb
  by_cases hkn : k < n
  ·have HR' := HR.out.below hb
   have hst := ix_step (p := isIn) (l := cs) (k := k) (by rw [HN.out]; exact hkn)
   rw [HI.out] at hst
   obtain ⟨b, o, rfl, hc0, hc1, hc2⟩ := HR'.at_ (k := k) (by rw [HN.out]; exact hkn)
   obtain ⟨X, hX, hXl⟩ := bstr_some (cs[k]'(by rw [HN.out]; exact hkn)).nm
   rw [hX] at hc2
   clear hX hXl
   generalize cs[k]'(by rw [HN.out]; exact hkn) = x at *
   have HC := Lib.hid (asks_any x X wr)
   clear hb HR'
   by_cases he : isIn x = true
   ·have hr : ixP (isIn) cs 0 = k := by rw [hst, if_pos he]
    have HRR := Lib.hid hr
    have HE := Lib.hid he
    clear hst hr he HI
    go_wp2_with fail
    refine HC.out.mono ?_
    rintro e w1 ⟨rfl, hb1⟩
    rw [HE.out]
    have HB1 := Lib.hid (HBL.out.trans (hb1.mono HBL.out.size)); clear hb1
    go_wp2
    go_ret
    exact ⟨ret_int HRR.out.symm, HB1.out⟩
   ·have hr : ixP (isIn) (cs.drop (k + 1)) (k + 1) = ixP (isIn) cs 0 := by rw [hst, if_neg he]
    have HRR := Lib.hid hr
    have HE := Lib.hid ((Bool.not_eq_true _).mp he)
    clear hst hr he HI
    go_wp2_with fail
    refine HC.out.mono ?_
    rintro e w1 ⟨rfl, hb1⟩
    rw [HE.out]
    have HB1 := Lib.hid (HBL.out.trans (hb1.mono HBL.out.size)); clear hb1
    go_wp2
    go_roundw
    case rel => exact ⟨rfl, Or.inr trivial, k + 1, by omega, by go_num, HRR.out, HB1.out⟩
    case measure => simp [intOf]; omega
  ·have hr : ixP (isIn) cs 0 = -1 := by rw [← HI.out, ix_end (by rw [HN.out]; exact hkn)]
   have HRR := Lib.hid hr
   clear hr HI
   go_wp2
   go_ret
   exact ⟨ret_int HRR.out.symm, HBL.out⟩
theorem askContains_any (v : Value) (cs : List CM) (w : World) (hR : RdC w v cs) (hl : cs.length ≤ 4611686018427387904) :
  Calls Tryz.prog 158 #[v, .func (.func 159) #[] #[]] w fun e w' => e = .returned (.bool (cs.any (isIn))) ∧ Below w.heap.size w w' := by
 have HI := Lib.hid (askIndex_any v cs w hR hl)
 have HW := Lib.hid (ix_any (isIn) cs)
 obtain ⟨A, c, rfl⟩ := hR.form
 clear hR
 go_enter Tryz.func158, Tryz.ntmps158
 go_wp2_with fail
 refine HI.out.mono ?_
 rintro e w1 ⟨rfl, hb1⟩
 have HB1 := Lib.hid hb1; clear hb1
 go_wp2
 go_ret
 refine ⟨?_, HB1.out⟩
 rw [← HW.out]
 rfl
theorem aWrong_any (k : Int) (X : ByteArray) (v : Value) (cs : List CM) (w : World) (hR : RdI w v cs) (hl : cs.length * 32 ≤ 140737488355328) :
  Calls Tryz.prog 120 #[.agg #[.int .i64 k, .string X, v]] w fun e w' => e = .returned (.bool (!oneB ⟨k, X.data.toList, cs⟩)) ∧ Below w.heap.size w w' := by
 have HC0 : Hid (∀ W, Below w.heap.size w W → Calls Tryz.prog 136 #[v] W fun e w' => e = .returned (.bool (rightB cs)) ∧ Below W.heap.size W w') := fun W hb => right_any v cs W (hR.below hb).rd (by omega)
 have HC1 : Hid (∀ W, Below w.heap.size w W → Calls Tryz.prog 158 #[v, .func (.func 159) #[] #[]] W fun e w' => e = .returned (.bool (asksB cs)) ∧ Below W.heap.size W w') := fun W hb => askContains_any v cs W (hR.below hb).rd (by omega)
 have HN := Lib.hid (name_any X)
 have HE := Lib.hid (event_any X)
 obtain ⟨A, c, rfl⟩ := hR.slice
 have HB0 : Hid (Below w.heap.size w (w.alloc (.cells #[.int .i64 k, .string X, .slice A cs.length c] 94))) := (Below.refl _ _).alloc (Nat.le_refl _) _
 have d0 : (w.alloc (.cells #[.int .i64 k, .string X, .slice A cs.length c] 94)).cell? ⟨w.heap.size, 0, none⟩ = some (.int .i64 k) := by simp
 have d1 : (w.alloc (.cells #[.int .i64 k, .string X, .slice A cs.length c] 94)).cell? ⟨w.heap.size, 1, none⟩ = some (.string X) := by simp
 have d2 : (w.alloc (.cells #[.int .i64 k, .string X, .slice A cs.length c] 94)).cell? ⟨w.heap.size, 2, none⟩ = some (.slice A cs.length c) := by simp
 have hlen : (cs.length : Int) ≤ 4398046511104 := by omega
 clear hR hl
 by_cases h1 : k = 1
 ·subst h1
  cases hn : nameB X.data.toList with
  | false =>
   have hL : Hid (oneB ⟨1, X.data.toList, cs⟩ = false) := by show oneB _ = false; unfold oneB; rw [if_pos rfl]; simp only [hn]; rfl
   have HH := Lib.hid hn; clear hn
   go_enter Tryz.func120, Tryz.ntmps120
   go_wp2_with fail
   refine (HN.out _).mono ?_
   rintro e w1 ⟨rfl, rfl⟩
   rw [HH.out]
   go_wp2
   go_ret
   exact ⟨by rw [hL.out]; rfl, HB0.out⟩
  | true =>
   have HH := Lib.hid hn
   cases hr : rightB cs with
   | false =>
    have hL : Hid (oneB ⟨1, X.data.toList, cs⟩ = false) := by show oneB _ = false; unfold oneB; rw [if_pos rfl]; simp only [hr, Bool.and_false, Bool.false_and]
    have HH2 := Lib.hid hr; clear hr hn
    go_enter Tryz.func120, Tryz.ntmps120
    go_wp2_with fail
    refine (HN.out _).mono ?_
    rintro e w1 ⟨rfl, rfl⟩
    rw [HH.out]
    go_wp2_with fail
    refine (HC0.out _ HB0.out).mono ?_
    rintro e w2 ⟨rfl, hb2⟩
    rw [HH2.out]
    have HB2 := Lib.hid (HB0.out.trans (hb2.mono HB0.out.size)); clear hb2
    go_wp2
    go_ret
    exact ⟨by rw [hL.out]; rfl, HB2.out⟩
   | true =>
    have hL : Hid (oneB ⟨1, X.data.toList, cs⟩ = !asksB cs) := by show oneB _ = _; unfold oneB; rw [if_pos rfl]; simp only [hr, hn, Bool.true_and]
    have HH2 := Lib.hid hr; clear hr hn
    go_enter Tryz.func120, Tryz.ntmps120
    go_wp2_with fail
    refine (HN.out _).mono ?_
    rintro e w1 ⟨rfl, rfl⟩
    rw [HH.out]
    go_wp2_with fail
    refine (HC0.out _ HB0.out).mono ?_
    rintro e w2 ⟨rfl, hb2⟩
    rw [HH2.out]
    have HB2 := Lib.hid (HB0.out.trans (hb2.mono HB0.out.size))
    have e2 := (hb2.cell (by simp)).trans d2
    clear hb2
    go_wp2_with fail
    refine (HC1.out _ HB2.out).mono ?_
    rintro e w3 ⟨rfl, hb3⟩
    have HB3 := Lib.hid (HB2.out.trans (hb3.mono HB2.out.size)); clear hb3
    go_wp2
    go_ret
    exact ⟨by rw [hL.out, Bool.not_not]; rfl, HB3.out⟩
 ·have h1' := int_ne h1
  by_cases h2 : k = 2
  ·subst h2
   cases hn : eventB X.data.toList with
   | false =>
    have hL : Hid (oneB ⟨2, X.data.toList, cs⟩ = false) := by show oneB _ = false; unfold oneB; rw [if_neg (by simp), if_pos (by simp)]; simp only [hn]; rfl
    have HH := Lib.hid hn; clear hn
    go_enter Tryz.func120, Tryz.ntmps120
    go_wp2_with fail
    refine (HE.out _).mono ?_
    rintro e w1 ⟨rfl, rfl⟩
    rw [HH.out]
    go_wp2
    go_ret
    exact ⟨by rw [hL.out]; rfl, HB0.out⟩
   | true =>
    have HH := Lib.hid hn
    by_cases hc : cs.length = 0
    ·have hL : Hid (oneB ⟨2, X.data.toList, cs⟩ = true) := by show oneB _ = true; unfold oneB; rw [if_neg (by simp), if_pos (by simp)]; simp only [hn, hc]; rfl
     rw [hc] at d2 HB0 ⊢
     clear hn
     go_enter Tryz.func120, Tryz.ntmps120
     go_wp2_with fail
     refine (HE.out _).mono ?_
     rintro e w1 ⟨rfl, rfl⟩
     rw [HH.out]
     go_wp2
     go_ret
     exact ⟨by rw [hL.out]; rfl, HB0.out⟩
    ·have hc' : 0 < cs.length := by omega
     have hc2 := decide_eq_true hc'
     have hL : Hid (oneB ⟨2, X.data.toList, cs⟩ = false) := by show oneB _ = false; unfold oneB; rw [if_neg (by simp), if_pos (by simp)]; simp only [hn, decide_eq_false hc]; rfl
     clear hn
     go_enter Tryz.func120, Tryz.ntmps120
     go_wp2_with fail
     refine (HE.out _).mono ?_
     rintro e w1 ⟨rfl, rfl⟩
     rw [HH.out]
     go_wp2
     go_ret
     exact ⟨by rw [hL.out]; rfl, HB0.out⟩
  ·have h2' := int_ne h2
   by_cases h3 : k = 3
   ·subst h3
    cases hn : eventB X.data.toList with
    | false =>
     have hL : Hid (oneB ⟨3, X.data.toList, cs⟩ = false) := by show oneB _ = false; unfold oneB; rw [if_neg (by simp), if_pos (by simp)]; simp only [hn]; rfl
     have HH := Lib.hid hn; clear hn
     go_enter Tryz.func120, Tryz.ntmps120
     go_wp2_with fail
     refine (HE.out _).mono ?_
     rintro e w1 ⟨rfl, rfl⟩
     rw [HH.out]
     go_wp2
     go_ret
     exact ⟨by rw [hL.out]; rfl, HB0.out⟩
    | true =>
     have HH := Lib.hid hn
     by_cases hc : cs.length = 0
     ·have hL : Hid (oneB ⟨3, X.data.toList, cs⟩ = true) := by show oneB _ = true; unfold oneB; rw [if_neg (by simp), if_pos (by simp)]; simp only [hn, hc]; rfl
      rw [hc] at d2 HB0 ⊢
      clear hn
      go_enter Tryz.func120, Tryz.ntmps120
      go_wp2_with fail
      refine (HE.out _).mono ?_
      rintro e w1 ⟨rfl, rfl⟩
      rw [HH.out]
      go_wp2
      go_ret
      exact ⟨by rw [hL.out]; rfl, HB0.out⟩
     ·have hc' : 0 < cs.length := by omega
      have hc2 := decide_eq_true hc'
      have hL : Hid (oneB ⟨3, X.data.toList, cs⟩ = false) := by show oneB _ = false; unfold oneB; rw [if_neg (by simp), if_pos (by simp)]; simp only [hn, decide_eq_false hc]; rfl
      clear hn
      go_enter Tryz.func120, Tryz.ntmps120
      go_wp2_with fail
      refine (HE.out _).mono ?_
      rintro e w1 ⟨rfl, rfl⟩
      rw [HH.out]
      go_wp2
      go_ret
      exact ⟨by rw [hL.out]; rfl, HB0.out⟩
   ·have h3' := int_ne h3
    have hL : Hid (oneB ⟨k, X.data.toList, cs⟩ = false) := by show oneB _ = false; unfold oneB; rw [if_neg h1, if_neg (by simp only; omega)]
    go_enter Tryz.func120, Tryz.ntmps120
    go_wp2
    go_ret
    exact ⟨by rw [hL.out]; rfl, HB0.out⟩
set_option maxHeartbeats 1000000 in
theorem actIndex_any (v : Value) (ps : List AP) (w : World) (hR : RdA w v ps) (hl : ps.length ≤ 4611686018427387904) :
  Calls Tryz.prog 222 #[v, .func (.func 120) #[] #[]] w fun e w' => e = .returned (.int .i64 (ixP (fun q : AP => !oneB q.1) ps 0)) ∧ Below w.heap.size w w' := by
 obtain ⟨A, c, rfl⟩ := hR.form
 have HR := Lib.hid hR; clear hR
 obtain ⟨n, hn⟩ : ∃ n, ps.length = n := ⟨_, rfl⟩
 have HN := Lib.hid hn
 rw [hn] at hl HR ⊢
 clear hn
 go_enter Tryz.func222, Tryz.ntmps222
 go_wp2
 go_loopw [4, 5, 8] (fun x4 x5 i wr => x4 = .int .i64 0 ∧ (x5 = .int .i64 0 ∨ True) ∧ ∃ k : Nat, k ≤ n ∧ i = .int .i64 k ∧ Hid (ixP (fun q : AP => !oneB q.1) (ps.drop k) k = ixP (fun q : AP => !oneB q.1) ps 0) ∧ Below w.heap.size w wr) (fun _ _ i _ => n - (intOf i).toNat)
 case atStart => exact ⟨rfl, Or.inr trivial, 0, by omega, rfl, rfl, Below.refl _ _⟩
 case round =>
  obtain ⟨rfl, _, k, hk, rfl, HI, hb⟩ := hrel
  have HBL := Lib.hid hb
  by_cases hkn : k < n
  ·have HR' := HR.out.below hb
   have hst := ix_step (p := fun q : AP => !oneB q.1) (l := ps) (k := k) (by rw [HN.out]; exact hkn)
   rw [HI.out] at hst
   obtain ⟨b, o, rfl, _, hc0, hc1, hc2, hA⟩ := HR'.at_ (k := k) (by rw [HN.out]; exact hkn)
   generalize ps[k]'(by rw [HN.out]; exact hkn) = x at *
   obtain ⟨⟨xk, xn, xe⟩, xv⟩ := x
   obtain ⟨X, hX, hXl⟩ := bstr_some xn
   simp only at hc0 hc1 hc2
   rw [hX] at hc1
   subst hXl
   have hA1 := hA.rd
   have hA2 := hA.len
   simp only at hA1 hA2
   clear hA
   obtain ⟨Ax, cx, rfl⟩ := hA1.slice
   have HC := Lib.hid (aWrong_any xk X _ xe wr hA1 hA2)
   clear hb HR'
   by_cases he : (!oneB ⟨xk, X.data.toList, xe⟩) = true
   ·have hr : ixP (fun q : AP => !oneB q.1) ps 0 = k := by rw [hst, if_pos he]
    have HRR := Lib.hid hr
    have HE := Lib.hid he
    clear hst hr he HI
    go_wp2_with fail
    refine HC.out.mono ?_
    rintro e w1 ⟨rfl, hb1⟩
    rw [HE.out]
    have HB1 := Lib.hid (HBL.out.trans (hb1.mono HBL.out.size)); clear hb1
    go_wp2
    go_ret
    exact ⟨ret_int HRR.out.symm, HB1.out⟩
   ·have hr : ixP (fun q : AP => !oneB q.1) (ps.drop (k + 1)) (k + 1) = ixP (fun q : AP => !oneB q.1) ps 0 := by rw [hst, if_neg he]
    have HRR := Lib.hid hr
    have HE := Lib.hid ((Bool.not_eq_true _).mp he)
    clear hst hr he HI
    go_wp2_with fail
    refine HC.out.mono ?_
    rintro e w1 ⟨rfl, hb1⟩
    rw [HE.out]
    have HB1 := Lib.hid (HBL.out.trans (hb1.mono HBL.out.size)); clear hb1
    go_wp2
    go_roundw
    case rel => exact ⟨rfl, Or.inr trivial, k + 1, by omega, by go_num, HRR.out, HB1.out⟩
    case measure => simp [intOf]; omega
  ·have hr : ixP (fun q : AP => !oneB q.1) ps 0 = -1 := by rw [← HI.out, ix_end (by rw [HN.out]; exact hkn)]
   have HRR := Lib.hid hr
   clear hr HI
   go_wp2
   go_ret
   exact ⟨ret_int HRR.out.symm, HBL.out⟩
theorem actContains_any (v : Value) (ps : List AP) (w : World) (hR : RdA w v ps) (hl : ps.length ≤ 4611686018427387904) :
  Calls Tryz.prog 198 #[v, .func (.func 120) #[] #[]] w fun e w' => e = .returned (.bool (ps.any (fun q : AP => !oneB q.1))) ∧ Below w.heap.size w w' := by
 have HI := Lib.hid (actIndex_any v ps w hR hl)
 have HW := Lib.hid (ix_any (fun q : AP => !oneB q.1) ps)
 obtain ⟨A, c, rfl⟩ := hR.form
 clear hR
 go_enter Tryz.func198, Tryz.ntmps198
 go_wp2_with fail
 refine HI.out.mono ?_
 rintro e w1 ⟨rfl, hb1⟩
 have HB1 := Lib.hid hb1; clear hb1
 go_wp2
 go_ret
 refine ⟨?_, HB1.out⟩
 rw [← HW.out]
 rfl
end Go.Proofs.YtdelihhbmagphaaGreatDoor
namespace Go.Proofs.YtdelihhbmagphaaGreatDoor
open Go.RowKit
def opL (v : VA) : List Value := [.int .i64 v.kd, .int .i64 (if v.kd = 1 then v.a else 0), .bool (decide (v.kd = 2 ∧ v.a = 1)), .complex .f64 (fl (if v.kd = 3 then v.a else 0)) (fl (if v.kd = 3 then v.b else 0))]
def OpAt (w : World) (b o : Nat) (v : VA) : Prop := ∀ j u, (opL v)[j]? = some u → w.cell? ⟨b, o + j, none⟩ = some u
theorem OpAt.below {w w' : World} {b o : Nat} {v : VA} (h : OpAt w b o v) (hb : Below w.heap.size w w') : OpAt w' b o v := fun j u hu => (hb.cell (cell_lt (h j u hu))).trans (h j u hu)
end Go.Proofs.YtdelihhbmagphaaGreatDoor
namespace Go.Proofs.YtdelihhbmagphaaGreatDoor
open Go.RowKit
structure EE (vs : List VM) (xs : List VA) (ss : List (List UInt8)) (cs : List CM) (k : Nat) (st : List VA) : Prop where
 le : k ≤ cs.length
 len : st.length ≤ k
 run : runB (cs.drop k) st.length = some 1
 er : eRun vs xs ss (cs.drop k) st = eRun vs xs ss cs []
 ok : ∀ v ∈ st, OkV v
section
variable {vs : List VM} {xs : List VA} {ss : List (List UInt8)} {cs : List CM} {k : Nat} {st : List VA}
theorem EE.zero (h : rightB cs = true) : EE vs xs ss cs 0 [] := by
 unfold rightB at h
 simp at h
 exact ⟨Nat.zero_le _, Nat.le_refl _, h.2, rfl, fun x hx => by cases hx⟩
end
end Go.Proofs.YtdelihhbmagphaaGreatDoor
