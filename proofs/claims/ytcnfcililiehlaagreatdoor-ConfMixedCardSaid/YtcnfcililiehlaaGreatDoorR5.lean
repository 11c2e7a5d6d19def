/- Own texts, joined: Ev, A1, A2, A3, Vi. -/
import Derived.Test.YtcnfcililiehlaaGreatDoorR2
import Derived.Test.YtcnfcililiehlaaGreatDoorR3
import Derived.Test.YtcnfcililiehlaaGreatDoorR4
import Derived.Lib.SplitLaws
import Derived.Lib.Split
import Derived.Lib.IndexBytes
import Derived.Lib.Join
namespace Go.Proofs.YtcnfcililiehlaaGreatDoor
open Go.RowKit
def eventB (l : List UInt8) : Bool := nameB (Lib.trimPrefix l [100, 111, 110, 101, 46])
theorem event_any (s : ByteArray) (w : World) :
 Calls Tryz.prog 112 #[.string s] w fun e w' => e = .returned (.bool (eventB s.data.toList)) /\ w = w' := by
 go_enter Tryz.func112, Tryz.ntmps112
 go_wp2_with fail
 refine (Tryz.strings_TrimPrefix s ⟨#[100, 111, 110, 101, 46]⟩ w).mono ?_;rintro e w' ⟨rfl, rfl⟩
 go_wp2_with fail
 refine (name_any _ _).mono ?_;rintro e w' ⟨rfl, rfl⟩;go_wp2;go_ret;exact ⟨rfl, rfl⟩
theorem nameB_nodot {l : List UInt8} (h : nameB l = true) : ∀ c ∈ l, c ≠ 46 := by
 cases l with
 | nil => intro c hc; simp at hc
 | cons a r =>
  simp only [nameB, Bool.and_eq_true] at h;obtain ⟨⟨⟨_, ha⟩, hr⟩, _⟩ := h;intro c hc e;subst e;rcases List.mem_cons.1 hc with hc | hc
  ·subst hc; revert ha; decide
  ·have := List.all_eq_true.1 hr _ hc;revert this; decide
theorem hasPrefix_iff (l p : List UInt8) : Lib.hasPrefix l p = true ↔ l.take p.length = p := by
 unfold Lib.hasPrefix;rw [List.isPrefixOf_iff_prefix, List.prefix_iff_eq_take];exact ⟨fun h => h.symm, fun h => h.symm⟩
theorem nameB_done {l : List UInt8} (h : l.take 5 = [100, 111, 110, 101, 46]) : nameB l = false := by
 cases hn : nameB l
 ·rfl
 ·have hm : (46 : UInt8) ∈ l.take 5 := by rw [h]; decide
  exact absurd rfl (nameB_nodot hn 46 (List.mem_of_mem_take hm))
theorem eventB_name {l : List UInt8} (h : nameB l = true) : eventB l = true := by
 unfold eventB Lib.trimPrefix;rw [if_neg]
 ·exact h
 ·intro hp;have := nameB_done ((hasPrefix_iff _ _).1 hp);rw [h] at this; cases this
theorem eventB_short {l : List UInt8} (h : nameB l = false) (h5 : ¬ 5 < l.length) : eventB l = false := by
 unfold eventB Lib.trimPrefix;split
 ·rw [List.drop_of_length_le (by simp; omega)]; rfl
 ·exact h
theorem eventB_other {l : List UInt8} (h : nameB l = false) (h5 : l.take 5 ≠ [100, 111, 110, 101, 46]) : eventB l = false := by
 unfold eventB Lib.trimPrefix;rw [if_neg]
 ·exact h
 ·intro hp;exact h5 ((hasPrefix_iff _ _).1 hp)
theorem eventB_done {l : List UInt8} (h5 : l.take 5 = [100, 111, 110, 101, 46]) : eventB l = nameB (l.drop 5) := by
 unfold eventB Lib.trimPrefix;rw [if_pos ((hasPrefix_iff l [100, 111, 110, 101, 46]).2 h5)]; rfl
theorem refEvent_any (s : ByteArray) (w : World) (hs : s.size <= 281474976710656) :
 Calls Tryz.prog 180 #[.string s] w fun e w' => e = .returned (.bool (eventB s.data.toList)) /\ w = w' := by
 have hl : s.data.toList.length = s.size := (Lib.size_eq s).symm;cases hn : nameB s.data.toList
 ·by_cases h5 : 5 < s.size
  ·have et : (s.extract 0 5).data.toList = s.data.toList.take 5 := by rw [Lib.extract_data, List.drop_zero]
   have ed : (s.extract 5 s.size).data.toList = s.data.toList.drop 5 := by rw [Lib.extract_to_end]
   by_cases hd : s.data.toList.take 5 = [100, 111, 110, 101, 46]
   ·have hr := eventB_done hd;have ht : ((s.extract 0 5).toList == [100, 111, 110, 101, 46]) = true := by rw [Lib.toList_data, et, hd]; rfl
    have HR := Lib.hid hr;clear hr hd et ed
    go_enter Tryz.func180, Tryz.ntmps180
    go_wp2_with (go_at_call 53; refine (refName_any _ _).mono ?_; rintro e w' ⟨rfl, rfl⟩)
    go_ret;refine ⟨ret_bool ?_, rfl⟩;rw [HR.out, List.take_of_length_le (by rw [List.length_drop]; omega)]
   ·have hr := eventB_other hn hd;have ht : ((s.extract 0 5).toList == [100, 111, 110, 101, 46]) = false := by
     rw [Lib.toList_data, et]; exact beq_eq_false_iff_ne.2 hd
    have HR := Lib.hid hr;clear hr hd et ed
    go_enter Tryz.func180, Tryz.ntmps180
    go_wp2_with (go_at_call 53; refine (refName_any _ _).mono ?_; rintro e w' ⟨rfl, rfl⟩)
    go_ret;exact ⟨ret_bool HR.out.symm, rfl⟩
  ·have hr := eventB_short hn (by omega);have HR := Lib.hid hr;clear hr
   go_enter Tryz.func180, Tryz.ntmps180
   go_wp2_with (go_at_call 53; refine (refName_any _ _).mono ?_; rintro e w' ⟨rfl, rfl⟩)
   go_ret;exact ⟨ret_bool HR.out.symm, rfl⟩
 ·have hr := eventB_name hn;have HR := Lib.hid hr;clear hr
  go_enter Tryz.func180, Tryz.ntmps180
  go_wp2_with (go_at_call 53; refine (refName_any _ _).mono ?_; rintro e w' ⟨rfl, rfl⟩)
  go_ret;exact ⟨ret_bool HR.out.symm, rfl⟩
end Go.Proofs.YtcnfcililiehlaaGreatDoor
namespace Go.Proofs.YtcnfcililiehlaaGreatDoor
structure AM where
 kd : Int
 nm : List UInt8
 ex : List CM
def isIn (c : CM) : Bool := decide (c.op = 6)
def asksB (cs : List CM) : Bool := cs.any isIn
def oneB (a : AM) : Bool :=
 if a.kd = 1 then nameB a.nm && rightB a.ex && !asksB a.ex else if a.kd = 2 \/ a.kd = 3 then eventB a.nm && decide (a.ex.length = 0) else false
def rightA (l : List AM) : Bool := decide (1 <= l.length /\ l.length <= 8) && l.all oneB
def wRaise : List UInt8 := [114, 97, 105, 115, 101, 58]
def wSend : List UInt8 := [115, 101, 110, 100, 58]
def semis : List UInt8 -> List (List UInt8)
 | [] => [[]]
 | c :: r => if c = 59 then [] :: semis r else match semis r with
  | [] => [[c]]
  | p :: ps => (c :: p) :: ps
def readA (s : List UInt8) : AM :=
 if Lib.hasPrefix s wRaise = true then ⟨2, s.drop 6, []⟩ else if Lib.hasPrefix s wSend = true then ⟨3, s.drop 5, []⟩ else ⟨1, (Lib.cut s [61]).1, (parseP (Lib.cut s [61]).2.1).1⟩
def parseA (s : List UInt8) : List AM × Int :=
 if 6000 < s.length \/ 8 <= Lib.countByte s 59 then ([], 4) else if ((semis s).map readA).all oneB = true then ((semis s).map readA, 0) else ([], 1)
theorem at_index : ∀ {s : List UInt8} {c : UInt8} {i : Nat}, Lib.indexByte s c = i -> s = s.take i ++ c :: s.drop (i + 1) /\ ∀ x ∈ s.take i, x ≠ c
 | [], c, i, h => by simp [Lib.indexByte] at h
 | b :: l, c, i, h => by
  unfold Lib.indexByte at h;split at h
  ·rename_i hb
   have : i = 0 := by omega
   subst this;have := beq_iff_eq.1 hb;subst this;exact ⟨rfl, by simp⟩
  ·rename_i hb
   split at h
   ·omega
   ·rename_i hn
    have hg := Lib.indexByte_ge l c;have hn' : Lib.indexByte l c ≠ -1 := fun e => hn (by rw [e]; rfl)
    obtain ⟨k, hk⟩ : ∃ k : Nat, Lib.indexByte l c = k := ⟨(Lib.indexByte l c).toNat, by omega⟩
    have : i = k + 1 := by omega
    subst this;obtain ⟨h1, h2⟩ := at_index hk;refine ⟨?_, ?_⟩
    ·show b :: l = b :: (l.take k ++ c :: l.drop (k + 1));rw [<- h1]
    ·intro x hx;rw [List.take_succ_cons] at hx;rcases List.mem_cons.1 hx with rfl | hx
     ·intro e; subst e; exact hb (by simp)
     ·exact h2 x hx
theorem index_no : ∀ {s : List UInt8} {c : UInt8}, Lib.indexByte s c = -1 -> ∀ x ∈ s, x ≠ c
 | [], c, h => by simp
 | b :: l, c, h => by
  unfold Lib.indexByte at h;split at h
  ·omega
  ·rename_i hb
   split at h
   ·rename_i hn
    have hn := beq_iff_eq.1 hn;intro x hx;rcases List.mem_cons.1 hx with rfl | hx
    ·intro e; subst e; exact hb (by simp)
    ·exact index_no hn x hx
   ·have := Lib.indexByte_ge l c; omega
end Go.Proofs.YtcnfcililiehlaaGreatDoor
namespace Go.Proofs.YtcnfcililiehlaaGreatDoor
def mayB (v : VM) (x : VA) : Bool := decide (x.kd = v.kd) && decide (v.lo <= x.a /\ x.a <= v.hi) && (decide (x.kd ≠ 3) || decide (v.lo <= x.b /\ x.b <= v.hi))
end Go.Proofs.YtcnfcililiehlaaGreatDoor
namespace Go.Proofs.YtcnfcililiehlaaGreatDoor
open Go.RowKit
/-! rows of actions: each with the slice of its expression -/
abbrev AP := AM × Value
def actV (p : AP) : List Value := [.int .i64 p.1.kd, bstr p.1.nm, p.2]
def flatA (ps : List AP) : List Value := ps.flatMap actV
theorem flatA_at {ps : List AP} {i : Nat} (h : i < ps.length) {j : Nat} (hj : j < 3) : (flatA ps)[i * 3 + j]? = (actV ps[i])[j]? := by
 induction ps generalizing i with
 | nil => simp at h
 | cons v r ih =>
  show (actV v ++ flatA r)[i * 3 + j]? = _;cases i with
  | zero => rw [List.getElem?_append_left (by simp [actV]; omega)]; simp
  | succ k =>
   rw [List.getElem?_append_right (by simp [actV]; omega)];have e : (k + 1) * 3 + j - (actV v).length = k * 3 + j := by simp [actV]; omega
   rw [e];exact ih (by simpa using h)
structure ActR (w : World) (p : AP) : Prop where
 rd : RdI w p.2 p.1.ex
 len : p.1.ex.length * 32 <= 140737488355328
 names : Names p.1.ex
 name : p.1.nm.length <= 140737488355328
theorem ActR.below {w w' : World} {p : AP} (h : ActR w p) (hb : Below w.heap.size w w') : ActR w' p := ⟨h.rd.below hb, h.len, h.names, h.name⟩
structure RdA (w : World) (v : Value) (ps : List AP) : Prop where
 inn : Inn w 3 v ps.length (flatA ps)
 acts : ∀ p ∈ ps, ActR w p
theorem RdA.below {w w' : World} {v : Value} {ps : List AP} (h : RdA w v ps) (hb : Below w.heap.size w w') : RdA w' v ps := ⟨Inn.below h.inn hb, fun p hp => (h.acts p hp).below hb⟩
theorem RdA.form {w : World} {v : Value} {ps : List AP} (h : RdA w v ps) : ∃ A c, v = .slice A ps.length c := Inn.form h.inn
theorem RdA.at_ {w : World} {A : Option Addr} {m c : Nat} {ps : List AP} (h : RdA w (.slice A m c) ps) {k : Nat} (hk : k < ps.length) :
 ∃ b o, A = some ⟨b, o, none⟩ /\ b < w.heap.size /\ w.cell? ⟨b, o + k * 3, none⟩ = some (.int .i64 ps[k].1.kd) /\ w.cell? ⟨b, o + k * 3 + 1, none⟩ = some (bstr ps[k].1.nm) /\ w.cell? ⟨b, o + k * 3 + 2, none⟩ = some ps[k].2 /\ ActR w ps[k] := by
 obtain ⟨b, o, hA, hlt, hc⟩ := Inn.at_ h.inn hk;exact ⟨b, o, hA, hlt, hc 0 _ ((flatA_at hk (by omega)).trans rfl), hc 1 _ ((flatA_at hk (by omega)).trans rfl), hc 2 _ ((flatA_at hk (by omega)).trans rfl), h.acts _ (List.getElem_mem hk)⟩
theorem RdI.slice {w : World} {v : Value} {cs : List CM} (h : RdI w v cs) : ∃ A c, v = .slice A cs.length c := by
 rcases h with ⟨rfl, rfl⟩ | ⟨ad, c, rfl, _⟩
 ·exact ⟨none, 0, rfl⟩
 ·exact ⟨_, _, rfl⟩
theorem RdC.form {w : World} {v : Value} {cs : List CM} (h : RdC w v cs) : ∃ A c, v = .slice A cs.length c := by
 obtain ⟨A, c, e, _⟩ := h; exact ⟨A, c, e⟩
theorem RdC.at_ {w : World} {A : Option Addr} {m c : Nat} {cs : List CM} (h : RdC w (.slice A m c) cs) {k : Nat} (hk : k < cs.length) :
 ∃ b o, A = some ⟨b, o, none⟩ /\ w.cell? ⟨b, o + k * 3, none⟩ = some (.int .i64 cs[k].op) /\ w.cell? ⟨b, o + k * 3 + 1, none⟩ = some (.int .i64 cs[k].a) /\ w.cell? ⟨b, o + k * 3 + 2, none⟩ = some (bstr cs[k].nm) := by
 obtain ⟨A', c', e, hc⟩ := h;simp only [Value.slice.injEq] at e;obtain ⟨rfl, _, _⟩ := e;exact hc k hk
theorem ix_any {α : Type} (p : α -> Bool) (l : List α) : decide (0 <= ixP p l 0) = l.any p := by
 rcases ix_find p l 0 with ⟨h1, h2⟩ | ⟨j, hj, h1, h2⟩
 ·rw [h1];have : l.any p = false := by
   rw [List.any_eq_false];intro x hx;exact List.find?_eq_none.1 h2 x hx
  rw [this]; rfl
 ·rw [h1, decide_eq_true (by omega)];have := List.find?_some h2;have hm := List.mem_of_find?_eq_some h2;exact (List.any_eq_true.2 ⟨_, hm, this⟩).symm
theorem asks_any (c : CM) (X : ByteArray) (w : World) :
 Calls Tryz.prog 203 #[.agg #[.int .i64 c.op, .int .i64 c.a, .string X]] w fun e w' => e = .returned (.bool (isIn c)) /\ Below w.heap.size w w' := by
 have HB : Hid (∀ W : World, ∀ o : Obj, Below W.heap.size W (W.alloc o)) := fun W o => (Below.refl _ _).alloc (Nat.le_refl _) o
 by_cases h : c.op = 6
 ·have hL : isIn c = true := decide_eq_true h;rw [hL, h]; clear hL h
  go_enter Tryz.func203, Tryz.ntmps203
  go_wp2;go_ret;exact ⟨rfl, HB.out _ _⟩
 ·have hL : isIn c = false := decide_eq_false h;have h' := int_ne h;rw [hL]; clear hL
  go_enter Tryz.func203, Tryz.ntmps203
  go_wp2;go_ret;exact ⟨rfl, HB.out _ _⟩
set_option maxHeartbeats 1000000 in
theorem askIndex_any (v : Value) (cs : List CM) (w : World) (hR : RdC w v cs) (hl : cs.length <= 4611686018427387904) :
 Calls Tryz.prog 234 #[v, .func (.func 203) #[] #[]] w fun e w' => e = .returned (.int .i64 (ixP (isIn) cs 0)) /\ Below w.heap.size w w' := by
 obtain ⟨A, c, rfl⟩ := hR.form;have HR := Lib.hid hR; clear hR;obtain ⟨n, hn⟩ : ∃ n, cs.length = n := ⟨_, rfl⟩
 have HN := Lib.hid hn;rw [hn] at hl HR ⊢;clear hn
 go_enter Tryz.func234, Tryz.ntmps234
 go_wp2
 go_loopw [4, 5, 8] (fun x4 x5 i wr => x4 = .int .i64 0 /\ (x5 = .int .i64 0 \/ True) /\ ∃ k : Nat, k <= n /\ i = .int .i64 k /\ Hid (ixP (isIn) (cs.drop k) k = ixP (isIn) cs 0) /\ Below w.heap.size w wr) (fun _ _ i _ => n - (intOf i).toNat)
 case atStart => exact ⟨rfl, Or.inr trivial, 0, by omega, rfl, rfl, Below.refl _ _⟩
 case round =>
  obtain ⟨rfl, _, k, hk, rfl, HI, hb⟩ := hrel;have HBL := Lib.hid hb;by_cases hkn : k < n
  ·have HR' := HR.out.below hb;have hst := ix_step (p := isIn) (l := cs) (k := k) (by rw [HN.out]; exact hkn);rw [HI.out] at hst;obtain ⟨b, o, rfl, hc0, hc1, hc2⟩ := HR'.at_ (k := k) (by rw [HN.out]; exact hkn);obtain ⟨X, hX, hXl⟩ := bstr_some (cs[k]'(by rw [HN.out]; exact hkn)).nm;rw [hX] at hc2;clear hX hXl;generalize cs[k]'(by rw [HN.out]; exact hkn) = x at *
   have HC := Lib.hid (asks_any x X wr);clear hb HR';by_cases he : isIn x = true
   ·have hr : ixP (isIn) cs 0 = k := by rw [hst, if_pos he]
    have HRR := Lib.hid hr;have HE := Lib.hid he;clear hst hr he HI
    go_wp2_with fail
    refine HC.out.mono ?_;rintro e w1 ⟨rfl, hb1⟩;rw [HE.out];have HB1 := Lib.hid (HBL.out.trans (hb1.mono HBL.out.size)); clear hb1;go_wp2;go_ret;exact ⟨ret_int HRR.out.symm, HB1.out⟩
   ·have hr : ixP (isIn) (cs.drop (k + 1)) (k + 1) = ixP (isIn) cs 0 := by rw [hst, if_neg he]
    have HRR := Lib.hid hr;have HE := Lib.hid ((Bool.not_eq_true _).mp he);clear hst hr he HI
    go_wp2_with fail
    refine HC.out.mono ?_;rintro e w1 ⟨rfl, hb1⟩;rw [HE.out];have HB1 := Lib.hid (HBL.out.trans (hb1.mono HBL.out.size)); clear hb1;go_wp2
    go_roundw
    case rel => exact ⟨rfl, Or.inr trivial, k + 1, by omega, by go_num, HRR.out, HB1.out⟩
    case measure => simp [intOf]; omega
  ·have hr : ixP (isIn) cs 0 = -1 := by rw [<- HI.out, ix_end (by rw [HN.out]; exact hkn)]
   have HRR := Lib.hid hr;clear hr HI;go_wp2;go_ret;exact ⟨ret_int HRR.out.symm, HBL.out⟩
theorem askContains_any (v : Value) (cs : List CM) (w : World) (hR : RdC w v cs) (hl : cs.length <= 4611686018427387904) :
 Calls Tryz.prog 202 #[v, .func (.func 203) #[] #[]] w fun e w' => e = .returned (.bool (cs.any (isIn))) /\ Below w.heap.size w w' := by
 have HI := Lib.hid (askIndex_any v cs w hR hl);have HW := Lib.hid (ix_any (isIn) cs);obtain ⟨A, c, rfl⟩ := hR.form;clear hR
 go_enter Tryz.func202, Tryz.ntmps202
 go_wp2_with fail
 refine HI.out.mono ?_;rintro e w1 ⟨rfl, hb1⟩;have HB1 := Lib.hid hb1; clear hb1;go_wp2;go_ret;refine ⟨?_, HB1.out⟩;rw [<- HW.out];rfl
theorem aWrong_any (k : Int) (X : ByteArray) (v : Value) (cs : List CM) (w : World) (hR : RdI w v cs) (hl : cs.length * 32 <= 140737488355328) :
 Calls Tryz.prog 161 #[.agg #[.int .i64 k, .string X, v]] w fun e w' => e = .returned (.bool (!oneB ⟨k, X.data.toList, cs⟩)) /\ Below w.heap.size w w' := by
 have HC0 : Hid (∀ W, Below w.heap.size w W -> Calls Tryz.prog 201 #[v] W fun e w' => e = .returned (.bool (rightB cs)) /\ Below W.heap.size W w') := fun W hb => right_any v cs W (hR.below hb).rd (by omega)
 have HC1 : Hid (∀ W, Below w.heap.size w W -> Calls Tryz.prog 202 #[v, .func (.func 203) #[] #[]] W fun e w' => e = .returned (.bool (asksB cs)) /\ Below W.heap.size W w') := fun W hb => askContains_any v cs W (hR.below hb).rd (by omega)
 have HN := Lib.hid (name_any X);have HE := Lib.hid (event_any X);obtain ⟨A, c, rfl⟩ := hR.slice;have HB0 : Hid (Below w.heap.size w (w.alloc (.cells #[.int .i64 k, .string X, .slice A cs.length c] 116))) := (Below.refl _ _).alloc (Nat.le_refl _) _;have d0 : (w.alloc (.cells #[.int .i64 k, .string X, .slice A cs.length c] 116)).cell? ⟨w.heap.size, 0, none⟩ = some (.int .i64 k) := by simp
 have d1 : (w.alloc (.cells #[.int .i64 k, .string X, .slice A cs.length c] 116)).cell? ⟨w.heap.size, 1, none⟩ = some (.string X) := by simp
 have d2 : (w.alloc (.cells #[.int .i64 k, .string X, .slice A cs.length c] 116)).cell? ⟨w.heap.size, 2, none⟩ = some (.slice A cs.length c) := by simp
 have hlen : (cs.length : Int) <= 4398046511104 := by omega
 clear hR hl;by_cases h1 : k = 1
 ·subst h1;cases hn : nameB X.data.toList with
  | false =>
   have hL : Hid (oneB ⟨1, X.data.toList, cs⟩ = false) := by show oneB _ = false; unfold oneB; rw [if_pos rfl]; simp only [hn]; rfl
   have HH := Lib.hid hn; clear hn
   go_enter Tryz.func161, Tryz.ntmps161
   go_wp2_with fail
   refine (HN.out _).mono ?_;rintro e w1 ⟨rfl, rfl⟩;rw [HH.out];go_wp2;go_ret;exact ⟨by rw [hL.out]; rfl, HB0.out⟩
  | true =>
   have HH := Lib.hid hn;cases hr : rightB cs with
   | false =>
    have hL : Hid (oneB ⟨1, X.data.toList, cs⟩ = false) := by show oneB _ = false; unfold oneB; rw [if_pos rfl]; simp only [hr, Bool.and_false, Bool.false_and]
    have HH2 := Lib.hid hr; clear hr hn
    go_enter Tryz.func161, Tryz.ntmps161
    go_wp2_with fail
    refine (HN.out _).mono ?_;rintro e w1 ⟨rfl, rfl⟩;rw [HH.out]
    go_wp2_with fail
    refine (HC0.out _ HB0.out).mono ?_;rintro e w2 ⟨rfl, hb2⟩;rw [HH2.out];have HB2 := Lib.hid (HB0.out.trans (hb2.mono HB0.out.size)); clear hb2;go_wp2;go_ret;exact ⟨by rw [hL.out]; rfl, HB2.out⟩
   | true =>
    have hL : Hid (oneB ⟨1, X.data.toList, cs⟩ = !asksB cs) := by show oneB _ = _; unfold oneB; rw [if_pos rfl]; simp only [hr, hn, Bool.true_and]
    have HH2 := Lib.hid hr; clear hr hn
    go_enter Tryz.func161, Tryz.ntmps161
    go_wp2_with fail
    refine (HN.out _).mono ?_;rintro e w1 ⟨rfl, rfl⟩;rw [HH.out]
    go_wp2_with fail
    refine (HC0.out _ HB0.out).mono ?_;rintro e w2 ⟨rfl, hb2⟩;rw [HH2.out];have HB2 := Lib.hid (HB0.out.trans (hb2.mono HB0.out.size));have e2 := (hb2.cell (by simp)).trans d2;clear hb2
    go_wp2_with fail
    refine (HC1.out _ HB2.out).mono ?_;rintro e w3 ⟨rfl, hb3⟩;have HB3 := Lib.hid (HB2.out.trans (hb3.mono HB2.out.size)); clear hb3;go_wp2;go_ret;exact ⟨by rw [hL.out, Bool.not_not]; rfl, HB3.out⟩
 ·have h1' := int_ne h1;by_cases h2 : k = 2
  ·subst h2;cases hn : eventB X.data.toList with
   | false =>
    have hL : Hid (oneB ⟨2, X.data.toList, cs⟩ = false) := by show oneB _ = false; unfold oneB; rw [if_neg (by simp), if_pos (by simp)]; simp only [hn]; rfl
    have HH := Lib.hid hn; clear hn
    go_enter Tryz.func161, Tryz.ntmps161
    go_wp2_with fail
    refine (HE.out _).mono ?_;rintro e w1 ⟨rfl, rfl⟩;rw [HH.out];go_wp2;go_ret;exact ⟨by rw [hL.out]; rfl, HB0.out⟩
   | true =>
    have HH := Lib.hid hn;by_cases hc : cs.length = 0
    ·have hL : Hid (oneB ⟨2, X.data.toList, cs⟩ = true) := by show oneB _ = true; unfold oneB; rw [if_neg (by simp), if_pos (by simp)]; simp only [hn, hc]; rfl
     rw [hc] at d2 HB0 ⊢;clear hn
     go_enter Tryz.func161, Tryz.ntmps161
     go_wp2_with fail
     refine (HE.out _).mono ?_;rintro e w1 ⟨rfl, rfl⟩;rw [HH.out];go_wp2;go_ret;exact ⟨by rw [hL.out]; rfl, HB0.out⟩
    ·have hc' : 0 < cs.length := by omega
     have hc2 := decide_eq_true hc';have hL : Hid (oneB ⟨2, X.data.toList, cs⟩ = false) := by show oneB _ = false; unfold oneB; rw [if_neg (by simp), if_pos (by simp)]; simp only [hn, decide_eq_false hc]; rfl
     clear hn
     go_enter Tryz.func161, Tryz.ntmps161
     go_wp2_with fail
     refine (HE.out _).mono ?_;rintro e w1 ⟨rfl, rfl⟩;rw [HH.out];go_wp2;go_ret;exact ⟨by rw [hL.out]; rfl, HB0.out⟩
  ·have h2' := int_ne h2;by_cases h3 : k = 3
   ·subst h3;cases hn : eventB X.data.toList with
    | false =>
     have hL : Hid (oneB ⟨3, X.data.toList, cs⟩ = false) := by show oneB _ = false; unfold oneB; rw [if_neg (by simp), if_pos (by simp)]; simp only [hn]; rfl
     have HH := Lib.hid hn; clear hn
     go_enter Tryz.func161, Tryz.ntmps161
     go_wp2_with fail
     refine (HE.out _).mono ?_;rintro e w1 ⟨rfl, rfl⟩;rw [HH.out];go_wp2;go_ret;exact ⟨by rw [hL.out]; rfl, HB0.out⟩
    | true =>
     have HH := Lib.hid hn;by_cases hc : cs.length = 0
     ·have hL : Hid (oneB ⟨3, X.data.toList, cs⟩ = true) := by show oneB _ = true; unfold oneB; rw [if_neg (by simp), if_pos (by simp)]; simp only [hn, hc]; rfl
      rw [hc] at d2 HB0 ⊢;clear hn
      go_enter Tryz.func161, Tryz.ntmps161
      go_wp2_with fail
      refine (HE.out _).mono ?_;rintro e w1 ⟨rfl, rfl⟩;rw [HH.out];go_wp2;go_ret;exact ⟨by rw [hL.out]; rfl, HB0.out⟩
     ·have hc' : 0 < cs.length := by omega
      have hc2 := decide_eq_true hc';have hL : Hid (oneB ⟨3, X.data.toList, cs⟩ = false) := by show oneB _ = false; unfold oneB; rw [if_neg (by simp), if_pos (by simp)]; simp only [hn, decide_eq_false hc]; rfl
      clear hn
      go_enter Tryz.func161, Tryz.ntmps161
      go_wp2_with fail
      refine (HE.out _).mono ?_;rintro e w1 ⟨rfl, rfl⟩;rw [HH.out];go_wp2;go_ret;exact ⟨by rw [hL.out]; rfl, HB0.out⟩
   ·have h3' := int_ne h3;have hL : Hid (oneB ⟨k, X.data.toList, cs⟩ = false) := by show oneB _ = false; unfold oneB; rw [if_neg h1, if_neg (by simp only; omega)]
    go_enter Tryz.func161, Tryz.ntmps161
    go_wp2;go_ret;exact ⟨by rw [hL.out]; rfl, HB0.out⟩
set_option maxHeartbeats 1000000 in
theorem actIndex_any (v : Value) (ps : List AP) (w : World) (hR : RdA w v ps) (hl : ps.length <= 4611686018427387904) :
 Calls Tryz.prog 261 #[v, .func (.func 161) #[] #[]] w fun e w' => e = .returned (.int .i64 (ixP (fun q : AP => !oneB q.1) ps 0)) /\ Below w.heap.size w w' := by
 obtain ⟨A, c, rfl⟩ := hR.form;have HR := Lib.hid hR; clear hR;obtain ⟨n, hn⟩ : ∃ n, ps.length = n := ⟨_, rfl⟩
 have HN := Lib.hid hn;rw [hn] at hl HR ⊢;clear hn
 go_enter Tryz.func261, Tryz.ntmps261
 go_wp2
 go_loopw [4, 5, 8] (fun x4 x5 i wr => x4 = .int .i64 0 /\ (x5 = .int .i64 0 \/ True) /\ ∃ k : Nat, k <= n /\ i = .int .i64 k /\ Hid (ixP (fun q : AP => !oneB q.1) (ps.drop k) k = ixP (fun q : AP => !oneB q.1) ps 0) /\ Below w.heap.size w wr) (fun _ _ i _ => n - (intOf i).toNat)
 case atStart => exact ⟨rfl, Or.inr trivial, 0, by omega, rfl, rfl, Below.refl _ _⟩
 case round =>
  obtain ⟨rfl, _, k, hk, rfl, HI, hb⟩ := hrel;have HBL := Lib.hid hb;by_cases hkn : k < n
  ·have HR' := HR.out.below hb;have hst := ix_step (p := fun q : AP => !oneB q.1) (l := ps) (k := k) (by rw [HN.out]; exact hkn);rw [HI.out] at hst;obtain ⟨b, o, rfl, _, hc0, hc1, hc2, hA⟩ := HR'.at_ (k := k) (by rw [HN.out]; exact hkn);generalize ps[k]'(by rw [HN.out]; exact hkn) = x at *
   obtain ⟨⟨xk, xn, xe⟩, xv⟩ := x;obtain ⟨X, hX, hXl⟩ := bstr_some xn;simp only at hc0 hc1 hc2;rw [hX] at hc1;subst hXl;have hA1 := hA.rd;have hA2 := hA.len;simp only at hA1 hA2;clear hA;obtain ⟨Ax, cx, rfl⟩ := hA1.slice;have HC := Lib.hid (aWrong_any xk X _ xe wr hA1 hA2);clear hb HR';by_cases he : (!oneB ⟨xk, X.data.toList, xe⟩) = true
   ·have hr : ixP (fun q : AP => !oneB q.1) ps 0 = k := by rw [hst, if_pos he]
    have HRR := Lib.hid hr;have HE := Lib.hid he;clear hst hr he HI
    go_wp2_with fail
    refine HC.out.mono ?_;rintro e w1 ⟨rfl, hb1⟩;rw [HE.out];have HB1 := Lib.hid (HBL.out.trans (hb1.mono HBL.out.size)); clear hb1;go_wp2;go_ret;exact ⟨ret_int HRR.out.symm, HB1.out⟩
   ·have hr : ixP (fun q : AP => !oneB q.1) (ps.drop (k + 1)) (k + 1) = ixP (fun q : AP => !oneB q.1) ps 0 := by rw [hst, if_neg he]
    have HRR := Lib.hid hr;have HE := Lib.hid ((Bool.not_eq_true _).mp he);clear hst hr he HI
    go_wp2_with fail
    refine HC.out.mono ?_;rintro e w1 ⟨rfl, hb1⟩;rw [HE.out];have HB1 := Lib.hid (HBL.out.trans (hb1.mono HBL.out.size)); clear hb1;go_wp2
    go_roundw
    case rel => exact ⟨rfl, Or.inr trivial, k + 1, by omega, by go_num, HRR.out, HB1.out⟩
    case measure => simp [intOf]; omega
  ·have hr : ixP (fun q : AP => !oneB q.1) ps 0 = -1 := by rw [<- HI.out, ix_end (by rw [HN.out]; exact hkn)]
   have HRR := Lib.hid hr;clear hr HI;go_wp2;go_ret;exact ⟨ret_int HRR.out.symm, HBL.out⟩
theorem actContains_any (v : Value) (ps : List AP) (w : World) (hR : RdA w v ps) (hl : ps.length <= 4611686018427387904) :
 Calls Tryz.prog 236 #[v, .func (.func 161) #[] #[]] w fun e w' => e = .returned (.bool (ps.any (fun q : AP => !oneB q.1))) /\ Below w.heap.size w w' := by
 have HI := Lib.hid (actIndex_any v ps w hR hl);have HW := Lib.hid (ix_any (fun q : AP => !oneB q.1) ps);obtain ⟨A, c, rfl⟩ := hR.form;clear hR
 go_enter Tryz.func236, Tryz.ntmps236
 go_wp2_with fail
 refine HI.out.mono ?_;rintro e w1 ⟨rfl, hb1⟩;have HB1 := Lib.hid hb1; clear hb1;go_wp2;go_ret;refine ⟨?_, HB1.out⟩;rw [<- HW.out];rfl
end Go.Proofs.YtcnfcililiehlaaGreatDoor
namespace Go.Proofs.YtcnfcililiehlaaGreatDoor
open Go.RowKit
theorem old_cell {W : World} {a : Addr} {v : Value} {o : Obj} (h : W.cell? a = some v) : (W.alloc o).cell? a = some v := (World.cell?_alloc_lt W _ _ (cell_lt h)).trans h
end Go.Proofs.YtcnfcililiehlaaGreatDoor
