/- Own texts, joined: Es. -/
import Derived.Test.YtdelihhbmagphaaGreatDoorR7
namespace Go.Proofs.YtdelihhbmagphaaGreatDoor
open Go.RowKit
def pieceV (p : Pc) : List Value := [bstr p.1, .int .i64 p.2]
def flatP (st : List Pc) : List Value := st.flatMap pieceV
theorem flatP_append (a b : List Pc) : flatP (a ++ b) = flatP a ++ flatP b := by simp [flatP]
theorem flatP_one (c : Pc) : flatP [c] = pieceV c := by simp [flatP]
theorem flatP_at {cs : List Pc} {i : Nat} (h : i < cs.length) : (flatP cs)[i * 2]? = some (bstr cs[i].1) ∧ (flatP cs)[i * 2 + 1]? = some (.int .i64 cs[i].2) := by
 induction cs generalizing i with
 | nil => simp at h
 | cons c r ih =>
  have e : flatP (c :: r) = bstr c.1 :: .int .i64 c.2 :: flatP r := rfl
  rw [e]
  cases i with
  | zero => exact ⟨rfl, rfl⟩
  | succ j =>
   have := ih (i := j) (by simpa using h)
   have h1 : (j + 1) * 2 = j * 2 + 2 := by omega
   rw [h1]
   exact this
theorem flatP_take (cs : List Pc) (n : Nat) : (flatP cs).take (n * 2) = flatP (cs.take n) := by
 induction cs generalizing n with
 | nil => simp [flatP]
 | cons c r ih =>
  cases n with
  | zero => simp [flatP]
  | succ n =>
   have e : flatP (c :: r) = bstr c.1 :: .int .i64 c.2 :: flatP r := rfl
   rw [e, show (n + 1) * 2 = n * 2 + 2 by omega, List.take_succ_cons, List.take_succ_cons, ih n]
   rfl
def none0 : Pc := ([], 0)
def stepP (st : List Pc) (c : CM) : List Pc := st.take (st.length - operN c.op) ++ [joinP c ((st.drop (st.length - operN c.op)).getD 0 none0) ((st.drop (st.length - operN c.op)).getD 1 none0)]
def stackP (cs : List CM) : List Pc := cs.foldl stepP []
def showP (cs : List CM) : List UInt8 × Int := if rightB cs = true then (((stackP cs).getD 0 none0).1, 0) else ([], 1)
def sumP : List Pc → Nat
 | [] => 0
 | p :: r => p.1.length + sumP r
theorem sumP_append (a b : List Pc) : sumP (a ++ b) = sumP a + sumP b := by
 induction a with
 | nil => simp [sumP]
 | cons p r ih => simp [sumP, ih]; omega
theorem sumP_at {st : List Pc} {i : Nat} : (st.getD i none0).1.length ≤ sumP st := by
 induction st generalizing i with
 | nil => simp [none0]
 | cons p r ih =>
  cases i with
  | zero => simp [sumP]
  | succ j => have := ih (i := j); simp only [List.getD_cons_succ, sumP] at *; omega
theorem sumP_two {st : List Pc} : (st.getD 0 none0).1.length + (st.getD 1 none0).1.length ≤ sumP st := by
 match st with
 | [] => simp [none0]
 | [p] => simp [none0, sumP]
 | p :: q :: r => simp [sumP]
theorem name_len {l : List UInt8} (h : nameB l = true) : l.length ≤ 12 := by
 rcases Nat.lt_or_ge 12 l.length with h1 | h1
 ·rw [nameB_long h1] at h; cases h
 ·exact h1
theorem formed_name {c : CM} (h : formedB c = true) : c.nm.length ≤ 12 := by
 unfold formedB at h
 split at h
 ·simp at h; rw [h.1]; simp
 ·split at h
  ·simp at h; rw [h.1]; simp
  ·split at h
   ·simp at h; exact name_len h.2
   ·simp at h; rw [h.2.2.2]; simp
theorem formed_num {c : CM} (h : formedB c = true) (ho : c.op = 1 ∨ c.op = 2) : 0 ≤ c.a ∧ c.a ≤ 1099511627776 := by
 unfold formedB at h
 rcases ho with e | e
 ·rw [if_pos e] at h; simp at h; exact h.2
 ·rw [if_neg (by omega), if_pos e] at h; simp at h; omega
theorem formed_op {c : CM} (h : formedB c = true) : 1 ≤ c.op ∧ c.op ≤ 23 := by
 unfold formedB at h
 split at h
 ·omega
 ·split at h
  ·omega
  ·split at h
   ·omega
   ·simp at h; exact ⟨h.1, h.2.1⟩
theorem betP_len (k : Nat) (u0 u1 : Pc) : (betP (tabAt k).2.1 (tabAt k).2.2 u0 u1).1.length ≤ u0.1.length + u1.1.length + 6 := by
 have h1 := inP_len u0.1 u0.2 (if (tabAt k).2.2 = 3 then (tabAt k).2.2 + 1 else (tabAt k).2.2)
 have h2 := inP_len u1.1 u1.2 ((tabAt k).2.2 + 1)
 have h3 := tab_len k
 unfold betP
 simp only [List.length_append]
 omega
theorem joinP_len {c : CM} (h : formedB c = true) (u0 u1 : Pc) : (joinP c u0 u1).1.length ≤ u0.1.length + u1.1.length + 110 := by
 have hn := formed_name h
 have h6 := inP_len u0.1 u0.2 6
 unfold joinP
 split
 ·rename_i e; have := formed_num h (Or.inl e); have := itoa_short this.1 this.2; simp only; omega
 ·split
  ·rename_i e; have := formed_num h (Or.inr e); have := itoa_short this.1 this.2; simp only [List.length_append, List.length_singleton]; omega
  ·split
   ·simp [wTrue]
   ·split
    ·simp [wFalse]
    ·split
     ·simp only; omega
     ·split
      ·simp; omega
      ·split
       ·simp only [List.length_append, List.length_singleton]; omega
       ·split
        ·simp only [List.length_append, List.length_singleton]; omega
        ·split
         ·simp; omega
         ·split
          ·simp; omega
          ·have := betP_len (c.op - 11).toNat u0 u1; omega
theorem stepP_sum {st : List Pc} {c : CM} (h : formedB c = true) : sumP (stepP st c) ≤ sumP st + 110 := by
 unfold stepP
 have h1 : sumP st = sumP (st.take (st.length - operN c.op)) + sumP (st.drop (st.length - operN c.op)) := by rw [← sumP_append, List.take_append_drop]
 rw [sumP_append]
 have h2 := joinP_len h ((st.drop (st.length - operN c.op)).getD 0 none0) ((st.drop (st.length - operN c.op)).getD 1 none0)
 have h3 := sumP_two (st := st.drop (st.length - operN c.op))
 simp only [sumP]
 omega
theorem stepP_length {st : List Pc} {c : CM} (h : operN c.op ≤ st.length) : (stepP st c).length = st.length + 1 - operN c.op := by
 unfold stepP
 simp; omega
theorem joined_none {c : CM} (h : formedB c = true) (ho : operN c.op = 0) (u0 u1 : Pc) (vu : Value) (w : World) (hL : Laid w) :
  Calls Tryz.prog 138 #[.agg #[.int .i64 c.op, .int .i64 c.a, bstr c.nm], vu] w (JoinPost (joinP c u0 u1) w) := by
 have hn := formed_name h
 have h6 : 1 ≤ c.op ∧ c.op ≤ 6 := by
  have := formed_op h
  unfold operN at ho
  split at ho
  ·assumption
  ·split at ho <;> omega
 have hc : c.op = 1 ∨ c.op = 2 ∨ c.op = 3 ∨ c.op = 4 ∨ c.op = 5 ∨ c.op = 6 := by omega
 have hnum := fun ho => formed_num h ho
 obtain ⟨op, a, nm⟩ := c
 simp only at *
 rcases hc with rfl | rfl | rfl | rfl | rfl | rfl
 ·exact joined_1 a nm vu w (hnum (Or.inl rfl)).1 (hnum (Or.inl rfl)).2 hL
 ·exact joined_2 a nm vu w (hnum (Or.inr rfl)).1 (hnum (Or.inr rfl)).2 hL
 ·exact joined_3 a nm vu w
 ·exact joined_4 a nm vu w
 ·exact joined_5 a nm vu w (by omega)
 ·exact joined_6 a nm vu w (by omega)
theorem joined_one {c : CM} (h : formedB c = true) (ho : operN c.op = 1) (x1 : Pc) (b o cc : Nat) (U0 : ByteArray) (s0 : Int) (w : World) (e0 : w.cell? ⟨b, o, none⟩ = some (.string U0)) (e1 : w.cell? ⟨b, o + 1, none⟩ = some (.int .i64 s0)) (hU : U0.size ≤ 10000) :
  Calls Tryz.prog 138 #[.agg #[.int .i64 c.op, .int .i64 c.a, bstr c.nm], .slice (some ⟨b, o, none⟩) 1 cc] w (JoinPost (joinP c (U0.data.toList, s0) x1) w) := by
 have hc : c.op = 7 ∨ c.op = 8 ∨ c.op = 9 ∨ c.op = 10 := by
  unfold operN at ho
  split at ho
  ·omega
  ·split at ho <;> omega
 obtain ⟨op, a, nm⟩ := c
 simp only at *
 rcases hc with rfl | rfl | rfl | rfl
 ·exact joined_7 a nm b o cc U0 s0 x1 w e0 e1 hU
 ·exact joined_8 a nm b o cc U0 s0 x1 w e0 e1 hU
 ·exact joined_9 a nm b o cc U0 s0 x1 w e0 e1 hU
 ·exact joined_10 a nm b o cc U0 s0 x1 w e0 e1 hU
theorem joined_pair {c : CM} (h : formedB c = true) (ho : operN c.op = 2) (b o cc : Nat) (U0 U1 : ByteArray) (s0 s1 : Int) (w : World) (hO : Ops w) (e0 : w.cell? ⟨b, o, none⟩ = some (.string U0)) (e1 : w.cell? ⟨b, o + 1, none⟩ = some (.int .i64 s0)) (e2 : w.cell? ⟨b, o + 2, none⟩ = some (.string U1)) (e3 : w.cell? ⟨b, o + 2 + 1, none⟩ = some (.int .i64 s1))
  (hU : U0.size ≤ 10000) (hU1 : U1.size ≤ 10000) :
  Calls Tryz.prog 138 #[.agg #[.int .i64 c.op, .int .i64 c.a, bstr c.nm], .slice (some ⟨b, o, none⟩) 2 cc] w (JoinPost (joinP c (U0.data.toList, s0) (U1.data.toList, s1)) w) := by
 have hop := formed_op h
 have hc : 11 ≤ c.op := by
  unfold operN at ho
  split at ho
  ·omega
  ·split at ho <;> omega
 obtain ⟨op, a, nm⟩ := c
 simp only at *
 obtain ⟨k, rfl⟩ : ∃ k : Nat, op = (k : Int) + 11 := ⟨(op - 11).toNat, by omega⟩
 exact joined_two k (by omega) a nm b o cc U0 U1 s0 s1 w hO e0 e1 e2 e3 hU hU1
theorem own_take {w : World} {base : Nat} {e : TypeId} {size n N : Nat} {A : Option Addr} {cap : Nat} {xs : List Value} (h : w.ownsRow base e size (.slice A (n + N) cap) (n + N) xs) : w.ownsRow base e size (.slice A n cap) n (xs.take (n * size)) := by
 obtain ⟨h1, h2⟩ := h
 rcases h2 with ⟨hv, h0⟩ | ⟨g, cap', cur, hv, hb, hh, hnc, hcm, hcs, ht⟩
 ·simp only [Value.slice.injEq] at hv
  obtain ⟨rfl, _, rfl⟩ := hv
  obtain rfl : n = 0 := by omega
  exact ⟨by simp, Or.inl ⟨rfl, rfl⟩⟩
 ·simp only [Value.slice.injEq] at hv
  obtain ⟨rfl, _, rfl⟩ := hv
  refine ⟨?_, Or.inr ⟨g, cap, cur, rfl, hb, hh, by omega, hcm, hcs, ?_⟩⟩
  ·rw [List.length_take, h1]
   exact Nat.min_eq_left (Nat.mul_le_mul_right _ (by omega))
  ·rw [← ht, List.take_take, Nat.min_eq_left (Nat.mul_le_mul_right _ (by omega))]
end Go.Proofs.YtdelihhbmagphaaGreatDoor
