/- Layer 16: the wakes. -/
import Derived.Test.YtlbhkendbngmaaaJ6
import Derived.Test.YtlbhkendbngmaaaJ2
namespace Go.Proofs.Ytlbhkendbngmaaa.Wi
open Go.RowKit
set_option maxRecDepth 100000

theorem own_ints {w : World} {B : Nat} {v : Value} {l : List Int} (h : w.ownsRow B 3 1 v l.length (intV l)) : RdL w v l := by
  obtain ⟨A, c, hv⟩ := own_form h
  refine ⟨A, c, hv, fun i hi => ?_⟩
  rcases h.2 with ⟨_, h0⟩ | ⟨g, cap, cur, hv2, _⟩
  · omega
  · rw [hv] at hv2
    injection hv2 with h1 _ _
    refine ⟨g, 0, h1, ?_⟩
    have hc := h.cells (g := g) (by rw [hv, h1]; rfl) i (.int .i64 l[i]) (by simp [intV, hi])
    rwa [add_lit] at hc
theorem sets_at {l : List SetM} {i : Nat} (h : i < l.length) : (setsV l)[i * 4]? = some (.int .i64 l[i].var) ∧ (setsV l)[i * 4 + 1]? = some (.int .i64 l[i].kd) ∧ (setsV l)[i * 4 + 2]? = some (.int .i64 l[i].a) ∧ (setsV l)[i * 4 + 3]? = some (.int .i64 l[i].b) := by
  induction l generalizing i with
  | nil => simp at h
  | cons c r ih =>
    have e : setsV (c :: r) = .int .i64 c.var :: .int .i64 c.kd :: .int .i64 c.a :: .int .i64 c.b :: setsV r := rfl
    rw [e]
    cases i with
    | zero => exact ⟨rfl, rfl, rfl, rfl⟩
    | succ j =>
      have := ih (i := j) (by simpa using h)
      have h1 : (j + 1) * 4 = j * 4 + 4 := by omega
      rw [h1]
      exact this
theorem own_sets {w : World} {B : Nat} {v : Value} {l : List SetM} (h : w.ownsRow B 66 4 v l.length (setsV l)) (hw : ∀ x ∈ l, okW x.a ∧ okW x.b) : RdS w v l := by
  obtain ⟨A, c, hv⟩ := own_form h
  refine ⟨A, c, hv, fun i hi => ?_⟩
  rcases h.2 with ⟨_, h0⟩ | ⟨g, cap, cur, hv2, _⟩
  · omega
  · rw [hv] at hv2
    injection hv2 with h1 _ _
    obtain ⟨f0, f1, f2, f3⟩ := sets_at hi
    have ho : v.ownBlock = some g := by rw [hv, h1]; rfl
    refine ⟨g, 0, h1, ?_, ?_, ?_, ?_, hw _ (List.getElem_mem hi)⟩
    · have := h.cells (g := g) ho _ _ f0; rwa [add_lit] at this
    · have := h.cells (g := g) ho _ _ f1; rwa [add_lit] at this
    · have := h.cells (g := g) ho _ _ f2; rwa [add_lit] at this
    · have := h.cells (g := g) ho _ _ f3; rwa [add_lit] at this
theorem pairs_at {Q : List (PastM × Value)} {i : Nat} (h : i < Q.length) : (Q.flatMap pairV)[i * 2]? = some (.int .i64 Q[i].1.st) ∧ (Q.flatMap pairV)[i * 2 + 1]? = some Q[i].2 := by
  induction Q generalizing i with
  | nil => simp at h
  | cons c r ih =>
    have e : (c :: r).flatMap pairV = .int .i64 c.1.st :: c.2 :: r.flatMap pairV := rfl
    rw [e]
    cases i with
    | zero => exact ⟨rfl, rfl⟩
    | succ j =>
      have := ih (i := j) (by simpa using h)
      have h1 : (j + 1) * 2 = j * 2 + 2 := by omega
      rw [h1]
      exact this
theorem own_pasts {w : World} {B : Nat} {v : Value} {l : List PastM} (h : PR B w l v) (hw : ∀ x ∈ l, x.set.length ≤ 4611686018427387904) : RdP w v l := by
  obtain ⟨Q, hq, h, h3⟩ := h
  subst hq
  obtain ⟨A, c, hv⟩ := own_form h
  refine ⟨A, c, hv, fun i hi => ?_⟩
  have hi2 : i < Q.length := by simpa using hi
  rcases h.2 with ⟨_, h0⟩ | ⟨g, cap, cur, hv2, _⟩
  · omega
  · rw [hv] at hv2
    injection hv2 with h1 _ _
    obtain ⟨f0, f1⟩ := pairs_at hi2
    have ho : v.ownBlock = some g := by rw [hv, h1]; rfl
    have he : (Q.map Prod.fst)[i] = Q[i].1 := by simp
    refine ⟨g, 0, Q[i].2, h1, ?_, ?_, ?_, ?_⟩
    · have := h.cells (g := g) ho _ _ f0; rw [add_lit] at this; rw [he]; exact this
    · have := h.cells (g := g) ho _ _ f1; rwa [add_lit] at this
    · rw [he]; exact own_ints (h3 _ (List.getElem_mem hi2))
    · exact hw _ (List.getElem_mem hi)
/-- no list is too long -/
structure Small (m : MsgM) : Prop where
  ev : m.ev.length ≤ 20
  tr : m.tr.length ≤ 48
  ss : m.ss.length ≤ 48
  en : m.en.length ≤ 48
  vs : m.vs.length ≤ 48
  sets : m.sets.length ≤ 48 ∧ ∀ x ∈ m.sets, okW x.a ∧ okW x.b
  pasts : m.pasts.length ≤ 48 ∧ ∀ x ∈ m.pasts, x.set.length ≤ 4611686018427387904
theorem small_ok {m : MsgM} (h : OkMsg m) : Small m :=
  ⟨h.ev, h.tr.1, h.ss.1, h.en.1, h.vs.1, ⟨by have := h.sets.1; omega, fun x hx => (h.sets.2 x hx).2.2⟩, ⟨by have := h.pasts.1; omega, fun x hx => by have := (h.pasts.2 x hx).2.1; omega⟩⟩
theorem small_no : Small noMsg := ⟨by decide, by decide, by decide, by decide, by decide, ⟨by decide, fun x hx => by cases hx⟩, ⟨by decide, fun x hx => by cases hx⟩⟩
theorem small_decode (s : Bytes) : Small (decodeM s).1 := by
  rcases decode_err s with h | ⟨h, _⟩ | ⟨h, _⟩
  · obtain ⟨_, h2⟩ := decode_ok h
    exact small_ok (msg_reads.only _ _ _ h2).1
  · rw [h]; exact small_no
  · rw [h]; exact small_no
theorem MsgO.rd {B : Nat} {w : World} {m : MsgM} {v : Value} (h : MsgO B w m v) (hs : Small m) : ∃ t s n u st ps, v = msgV m ⟨m.ev.toArray⟩ t s n u st ps ∧ MsgIn w m ⟨m.ev.toArray⟩ t s n u st ps := by
  obtain ⟨t, s, n, u, st, ps, rfl, hst, h1, h2, h3, h4, h5, h6⟩ := h
  have k1 := hs.tr
  have k2 := hs.ss
  have k3 := hs.en
  have k4 := hs.vs
  have k5 := hs.sets.1
  have k6 := hs.pasts.1
  have k7 := hs.ev
  refine ⟨t, s, n, u, st, ps, rfl, rfl, ?_, hst, own_ints h1, own_ints h2, own_ints h3, own_ints h4, own_sets h5 hs.sets.2, own_pasts h6 hs.pasts.2, by omega, by omega, by omega, by omega, by omega, by omega⟩
  rw [bsz]; omega
def goB : ByteArray := ⟨#[103, 111]⟩
def wakeM : MsgM := ⟨1, 5, goB.data.toList, [1], [], [], [], [], []⟩
theorem wake_ok : OkMsg wakeM := ⟨by decide, by decide, by decide, ⟨by decide, fun x hx => by
  rw [List.mem_singleton.1 hx]
  unfold okI
  decide⟩, ⟨by decide, fun x hx => by cases hx⟩, ⟨by decide, fun x hx => by cases hx⟩, ⟨by decide, fun x hx => by cases hx⟩, ⟨by decide, fun x hx => by cases hx⟩, ⟨by decide, fun x hx => by cases hx⟩⟩
theorem wake_enc : (encodeM wakeM).2 = 0 := by
  unfold encodeM
  rw [if_neg (fun k => k wake_ok), if_neg (by decide)]
theorem wake_size : (encodeM wakeM).1.length ≤ 800 := by
  have := (encode_ok wake_enc)
  rw [this.2.2]
  exact this.2.1
theorem pack_wake : packC 2 5 [] = (sealC (dataT 2 5 []), 0) := by unfold packC; rw [if_neg (by decide), if_neg (by decide)]; rfl
theorem wake_unpack : unpackC (sealC (dataT 2 5 [])) = ((2, 5, []), 0) := by
  have := unpack_pack (k := 2) (n := 5) (load := []) (by decide) (by rw [pack_wake])
  rw [pack_wake] at this
  exact this
theorem nil_ints (w : World) : RdL w (.slice none 0 0) [] := ⟨none, 0, rfl, fun i hi => by cases hi⟩
theorem nil_sets (w : World) : RdS w (.slice none 0 0) [] := ⟨none, 0, rfl, fun i hi => by cases hi⟩
theorem nil_pasts (w : World) : RdP w (.slice none 0 0) [] := ⟨none, 0, rfl, fun i hi => by cases hi⟩
set_option maxHeartbeats 2000000 in
theorem wakes_any (w : World) : Calls Try.prog 12 #[] w fun e w' => e = .returned (.bool true) ∧ Below w.heap.size w w' := by
  obtain ⟨w1, hw1⟩ : ∃ W, W = w.alloc (.cells #[.int .i64 1] 3) := ⟨_, rfl⟩
  obtain ⟨w2, hw2⟩ : ∃ W, W = w1.alloc (.cells #[.int .i64 1, .int .u64 5, .string ⟨#[103, 111]⟩, .slice (some ⟨w.heap.size, 0, none⟩) 1 1, .slice none 0 0, .slice none 0 0, .slice none 0 0, .slice none 0 0, .slice none 0 0] 27) := ⟨_, rfl⟩
  have hs1 : w1.heap.size = w.heap.size + 1 := by rw [hw1]; simp
  have hb1 : Below w.heap.size w w1 := by rw [hw1]; exact (Below.refl _ _).alloc (Nat.le_refl _) _
  have hb2 : Below w1.heap.size w1 w2 := by rw [hw2]; exact (Below.refl _ _).alloc (Nat.le_refl _) _
  have hb : Below w.heap.size w w2 := hb1.trans (hb2.mono (by omega))
  have hmi : MsgIn w2 wakeM goB (.slice (some ⟨w.heap.size, 0, none⟩) 1 1) (.slice none 0 0) (.slice none 0 0) (.slice none 0 0) (.slice none 0 0) (.slice none 0 0) := by
    refine ⟨rfl, by decide, by decide, ⟨_, _, rfl, fun i hi => ⟨_, _, rfl, ?_⟩⟩, nil_ints _, nil_ints _, nil_ints _, nil_sets _, nil_pasts _, by decide, by decide, by decide, by decide, by decide, by decide⟩
    obtain rfl : i = 0 := by simp [wakeM] at hi; omega
    have h0 : w1.cell? ⟨w.heap.size, 0, none⟩ = some (.int .i64 1) := by rw [hw1]; simp
    exact (hb2.cell (cell_lt h0)).trans h0
  have henc := encode_any w2 wakeM goB _ _ _ _ _ _ hmi
  rw [wake_enc] at henc
  obtain ⟨S, hS⟩ : ∃ S : ByteArray, S = ⟨(encodeM wakeM).1.toArray⟩ := ⟨_, rfl⟩
  have hSl : S.data.toList = (encodeM wakeM).1 := by rw [hS]
  have hSz : S.size ≤ 800 := by rw [Lib.size_eq, hSl]; exact wake_size
  rw [← hS] at henc
  have hdec := fun w => decode_any S w (by omega)
  rw [hSl, decode_encode wake_enc] at hdec
  have hcl : w.heap.size + 1 < w2.heap.size := by rw [hw2]; simp [hs1]
  have q0 : w2.cell? ⟨w.heap.size + 1, 0, none⟩ = some (.int .i64 1) := by rw [hw2, ← hs1]; exact (cell_of_row _ _ 0 _ _ _ (heap_alloc_new w1 _)).trans rfl
  have q1 : w2.cell? ⟨w.heap.size + 1, 1, none⟩ = some (.int .u64 5) := by rw [hw2, ← hs1]; exact (cell_of_row _ _ 1 _ _ _ (heap_alloc_new w1 _)).trans rfl
  have q2 : w2.cell? ⟨w.heap.size + 1, 2, none⟩ = some (.string ⟨#[103, 111]⟩) := by rw [hw2, ← hs1]; exact (cell_of_row _ _ 2 _ _ _ (heap_alloc_new w1 _)).trans rfl
  have q3 : w2.cell? ⟨w.heap.size + 1, 3, none⟩ = some (.slice (some ⟨w.heap.size, 0, none⟩) 1 1) := by rw [hw2, ← hs1]; exact (cell_of_row _ _ 3 _ _ _ (heap_alloc_new w1 _)).trans rfl
  have q4 : w2.cell? ⟨w.heap.size + 1, 4, none⟩ = some (.slice none 0 0) := by rw [hw2, ← hs1]; exact (cell_of_row _ _ 4 _ _ _ (heap_alloc_new w1 _)).trans rfl
  have q5 : w2.cell? ⟨w.heap.size + 1, 5, none⟩ = some (.slice none 0 0) := by rw [hw2, ← hs1]; exact (cell_of_row _ _ 5 _ _ _ (heap_alloc_new w1 _)).trans rfl
  have q6 : w2.cell? ⟨w.heap.size + 1, 6, none⟩ = some (.slice none 0 0) := by rw [hw2, ← hs1]; exact (cell_of_row _ _ 6 _ _ _ (heap_alloc_new w1 _)).trans rfl
  have q7 : w2.cell? ⟨w.heap.size + 1, 7, none⟩ = some (.slice none 0 0) := by rw [hw2, ← hs1]; exact (cell_of_row _ _ 7 _ _ _ (heap_alloc_new w1 _)).trans rfl
  have q8 : w2.cell? ⟨w.heap.size + 1, 8, none⟩ = some (.slice none 0 0) := by rw [hw2, ← hs1]; exact (cell_of_row _ _ 8 _ _ _ (heap_alloc_new w1 _)).trans rfl
  have HW1 := Lib.hid hw1; have HW2 := Lib.hid hw2; have HB := Lib.hid hb; have HMI := Lib.hid hmi; have HENC : Hid (Calls Try.prog 9 #[.agg #[.int .i64 1, .int .u64 5, .string ⟨#[103, 111]⟩, .slice (some ⟨w.heap.size, 0, none⟩) 1 1, .slice none 0 0, .slice none 0 0, .slice none 0 0, .slice none 0 0, .slice none 0 0]] w2 fun e w' => e = .returned (.tuple #[.string S, .int .i64 0]) ∧ Below w2.heap.size w2 w') := Lib.hid henc; have HDEC : Hid (∀ w, Calls Try.prog 13 #[.string S] w fun e w' => (∃ v, e = .returned (.tuple #[v, .int .i64 0]) ∧ MsgO w.heap.size w' wakeM v) ∧ Below w.heap.size w w') := Lib.hid hdec; have HS1 := Lib.hid hs1
  clear hw1 hw2 hb hmi henc hdec hs1 hb1 hb2 hS hSl hSz
  go_enter Try.func12, Try.ntmps12
  go_upto_region 2 with fail
  rw [← HW1.out, ← HW2.out]
  go_wp2_with fail
  refine HENC.out.mono ?_
  rintro e w3 ⟨rfl, hb3⟩
  have HB3 := Lib.hid hb3
  clear hb3 HENC
  go_wp2_with fail
  refine (HDEC.out _).mono ?_
  rintro e w4 ⟨⟨v, rfl, hmo⟩, hb4⟩
  obtain ⟨t1, t2, t3, t4, t5, t6, rfl, hmi4⟩ := hmo.rd (small_ok wake_ok)
  obtain ⟨A3, C3, e3⟩ := hmi4.tr.form
  obtain ⟨A4, C4, e4⟩ := hmi4.ss.form
  obtain ⟨A5, C5, e5⟩ := hmi4.en.form
  obtain ⟨A6, C6, e6⟩ := hmi4.vs.form
  obtain ⟨A7, C7, e7⟩ := hmi4.sets.form
  obtain ⟨A8, C8, e8⟩ := hmi4.pasts.form
  replace e3 : t1 = .slice A3 1 C3 := e3
  replace e4 : t2 = .slice A4 0 C4 := e4
  replace e5 : t3 = .slice A5 0 C5 := e5
  replace e6 : t4 = .slice A6 0 C6 := e6
  replace e7 : t5 = .slice A7 0 C7 := e7
  replace e8 : t6 = .slice A8 0 C8 := e8
  subst e3 e4 e5 e6 e7 e8
  have hv : msgV wakeM ⟨wakeM.ev.toArray⟩ (.slice A3 1 C3) (.slice A4 0 C4) (.slice A5 0 C5) (.slice A6 0 C6) (.slice A7 0 C7) (.slice A8 0 C8) = .agg #[.int .i64 1, .int .u64 5, .string ⟨#[103, 111]⟩, .slice A3 1 C3, .slice A4 0 C4, .slice A5 0 C5, .slice A6 0 C6, .slice A7 0 C7, .slice A8 0 C8] := rfl
  rw [hv]
  obtain ⟨w5, hw5⟩ : ∃ W, W = w4.alloc (.cells #[.int .i64 1, .int .u64 5, .string ⟨#[103, 111]⟩, .slice A3 1 C3, .slice A4 0 C4, .slice A5 0 C5, .slice A6 0 C6, .slice A7 0 C7, .slice A8 0 C8] 27) := ⟨_, rfl⟩
  have hb5 : Below w4.heap.size w4 w5 := by rw [hw5]; exact (Below.refl _ _).alloc (Nat.le_refl _) _
  have hz5 : w4.heap.size < w5.heap.size := by rw [hw5]; simp
  have hb25 : Below w2.heap.size w2 w5 := HB3.out.trans ((hb4.mono HB3.out.size).trans (hb5.mono (Nat.le_trans HB3.out.size hb4.size)))
  have p0 : w5.cell? ⟨w4.heap.size, 0, none⟩ = some (.int .i64 1) := by rw [hw5]; exact (cell_of_row _ _ 0 _ _ _ (heap_alloc_new w4 _)).trans rfl
  have p1 : w5.cell? ⟨w4.heap.size, 1, none⟩ = some (.int .u64 5) := by rw [hw5]; exact (cell_of_row _ _ 1 _ _ _ (heap_alloc_new w4 _)).trans rfl
  have p2 : w5.cell? ⟨w4.heap.size, 2, none⟩ = some (.string ⟨#[103, 111]⟩) := by rw [hw5]; exact (cell_of_row _ _ 2 _ _ _ (heap_alloc_new w4 _)).trans rfl
  have p3 : w5.cell? ⟨w4.heap.size, 3, none⟩ = some (.slice A3 1 C3) := by rw [hw5]; exact (cell_of_row _ _ 3 _ _ _ (heap_alloc_new w4 _)).trans rfl
  have p4 : w5.cell? ⟨w4.heap.size, 4, none⟩ = some (.slice A4 0 C4) := by rw [hw5]; exact (cell_of_row _ _ 4 _ _ _ (heap_alloc_new w4 _)).trans rfl
  have p5 : w5.cell? ⟨w4.heap.size, 5, none⟩ = some (.slice A5 0 C5) := by rw [hw5]; exact (cell_of_row _ _ 5 _ _ _ (heap_alloc_new w4 _)).trans rfl
  have p6 : w5.cell? ⟨w4.heap.size, 6, none⟩ = some (.slice A6 0 C6) := by rw [hw5]; exact (cell_of_row _ _ 6 _ _ _ (heap_alloc_new w4 _)).trans rfl
  have p7 : w5.cell? ⟨w4.heap.size, 7, none⟩ = some (.slice A7 0 C7) := by rw [hw5]; exact (cell_of_row _ _ 7 _ _ _ (heap_alloc_new w4 _)).trans rfl
  have p8 : w5.cell? ⟨w4.heap.size, 8, none⟩ = some (.slice A8 0 C8) := by rw [hw5]; exact (cell_of_row _ _ 8 _ _ _ (heap_alloc_new w4 _)).trans rfl
  have HW5 := Lib.hid hw5; have HB25 := Lib.hid hb25; have HMI5 := Lib.hid (hmi4.below hb5)
  have HPK := Lib.hid (pack_any 2 5 ⟨#[]⟩ w5 (by decide))
  rw [show (⟨#[]⟩ : ByteArray).data.toList = [] from rfl, pack_wake] at HPK
  clear hw5 hb5 hb25 hv hmi4 hmo hb4 HDEC HB3
  go_upto_region 4 with fail
  rw [← HW5.out]
  go_wp2_with fail
  refine HPK.out.mono ?_
  rintro e w6 ⟨rfl, hb6⟩
  obtain ⟨P, hP⟩ : ∃ P : ByteArray, P = ⟨(sealC (dataT 2 5 [])).toArray⟩ := ⟨_, rfl⟩
  have hPl : P.data.toList = sealC (dataT 2 5 []) := by rw [hP]
  have hPs : P.size = 13 := by rw [Lib.size_eq, hPl, seal_len, data_len]; rfl
  have hbs : bstr (sealC (dataT 2 5 [])) = .string P := by rw [hP]; rfl
  have hun := fun w => unpack_any P w (by omega)
  rw [hPl, wake_unpack] at hun
  have HUN : Hid (∀ w, Calls Try.prog 18 #[.string P] w fun e w' => e = .returned (.tuple #[.int .i64 2, .int .u64 5, .string ⟨#[]⟩, .int .i64 0]) ∧ Below w.heap.size w w') := Lib.hid hun
  have HB6 := Lib.hid hb6
  have hbs2 : bstr (sealC (dataT 2 5 []), (0 : Int)).1 = .string P := hbs
  rw [hbs2]
  clear hb6 hun hbs hbs2 hP hPl HPK
  go_wp2_with fail
  refine (HUN.out _).mono ?_
  rintro e w7 ⟨rfl, hb7⟩
  have h57 := HB6.out.trans (hb7.mono HB6.out.size)
  have h27 := HB25.out.trans (h57.mono HB25.out.size)
  have q0' := (h27.cell (cell_lt q0)).trans q0
  have p0' := (h57.cell (cell_lt p0)).trans p0
  have q1' := (h27.cell (cell_lt q1)).trans q1
  have p1' := (h57.cell (cell_lt p1)).trans p1
  have q2' := (h27.cell (cell_lt q2)).trans q2
  have p2' := (h57.cell (cell_lt p2)).trans p2
  have q3' := (h27.cell (cell_lt q3)).trans q3
  have p3' := (h57.cell (cell_lt p3)).trans p3
  have q4' := (h27.cell (cell_lt q4)).trans q4
  have p4' := (h57.cell (cell_lt p4)).trans p4
  have q5' := (h27.cell (cell_lt q5)).trans q5
  have p5' := (h57.cell (cell_lt p5)).trans p5
  have q6' := (h27.cell (cell_lt q6)).trans q6
  have p6' := (h57.cell (cell_lt p6)).trans p6
  have q7' := (h27.cell (cell_lt q7)).trans q7
  have p7' := (h57.cell (cell_lt p7)).trans p7
  have q8' := (h27.cell (cell_lt q8)).trans q8
  have p8' := (h57.cell (cell_lt p8)).trans p8
  have HSAME := Lib.hid (refSame_any w7 wakeM ⟨#[103, 111]⟩ _ _ _ _ _ _ _ _ _ _ _ _ (HMI.out.below h27) (HMI5.out.below h57))
  have HEND := Lib.hid (HB.out.trans (h27.mono HB.out.size))
  have HSM : Hid (Calls Try.prog 14 #[.agg #[.int .i64 1, .int .u64 5, .string ⟨#[103, 111]⟩, .slice (some ⟨w.heap.size, 0, none⟩) 1 1, .slice none 0 0, .slice none 0 0, .slice none 0 0, .slice none 0 0, .slice none 0 0], .agg #[.int .i64 1, .int .u64 5, .string ⟨#[103, 111]⟩, .slice A3 1 C3, .slice A4 0 C4, .slice A5 0 C5, .slice A6 0 C6, .slice A7 0 C7, .slice A8 0 C8]] w7 fun e w' => e = .returned (.bool true) ∧ Below w7.heap.size w7 w') := Lib.hid HSAME.out
  clear h57 h27 hb7 HSAME HUN HB6 HMI HMI5 HB25 q0 p0 q1 p1 q2 p2 q3 p3 q4 p4 q5 p5 q6 p6 q7 p7 q8 p8
  go_wp2_with fail
  refine HSM.out.mono ?_
  rintro e w8 ⟨rfl, hb8⟩
  have HE8 := Lib.hid (HEND.out.trans (hb8.mono HEND.out.size))
  clear hb8
  go_wp2
  go_ret
  exact ⟨rfl, HE8.out⟩
end Go.Proofs.Ytlbhkendbngmaaa.Wi
