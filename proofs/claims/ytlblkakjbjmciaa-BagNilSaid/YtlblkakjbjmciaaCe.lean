/- Layer 16 as mathematics: messages as bytes, there and back. -/
import Derived.Test.YtlblkakjbjmciaaCa
namespace Go.Proofs.Ytlblkakjbjmciaa.Wi

abbrev Bytes := List UInt8
/-- a number of 64 bits, the lowest byte first -/
def leN : Nat → Nat → Bytes
  | 0, _ => []
  | k + 1, n => UInt8.ofNat (n % 256) :: leN k (n / 256)
theorem leN_len : ∀ k n, (leN k n).length = k
  | 0, _ => rfl
  | k + 1, n => by show (leN k (n / 256)).length + 1 = k + 1; rw [leN_len k]
theorem word_leN : ∀ (k n : Nat), n < 256 ^ k → wordL (leN k n) = n
  | 0, n, h => by have : n = 0 := by simpa using h
                  subst this; rfl
  | k + 1, n, h => by
    show wordL (UInt8.ofNat (n % 256) :: leN k (n / 256)) = n
    rw [word_cons, word_leN k (n / 256) (by rw [Nat.pow_succ] at h; omega), UInt8.toNat_ofNat']
    omega
theorem leN_word : ∀ l : Bytes, leN l.length (wordL l) = l
  | [] => rfl
  | b :: r => by
    rw [word_cons]
    show UInt8.ofNat ((256 * wordL r + b.toNat) % 256) :: leN r.length ((256 * wordL r + b.toNat) / 256) = _
    have hb := byte_lt8 b
    rw [show (256 * wordL r + b.toNat) % 256 = b.toNat by omega, show (256 * wordL r + b.toNat) / 256 = wordL r by omega, leN_word r]
    congr 1
    apply UInt8.toNat_inj.1
    rw [UInt8.toNat_ofNat']; omega
theorem word_lt8 {l : Bytes} (h : l.length = 8) : wordL l < 18446744073709551616 := by have := word_lt l; rw [h] at this; exact this

/-- what reads: a thing and what stands behind it, or a fault -/
abbrev P (α : Type) := Bytes → Option (α × Bytes)
/-- p reads just what s tells of the things that may be -/
structure Reads {α : Type} (p : P α) (t : α → Bytes) (ok : α → Prop) : Prop where
  back : ∀ x r, ok x → p (t x ++ r) = some (x, r)
  only : ∀ s x r, p s = some (x, r) → ok x ∧ s = t x ++ r
def takeP (n : Nat) : P Bytes := fun s => if n ≤ s.length then some (s.take n, s.drop n) else none
theorem take_reads (n : Nat) : Reads (takeP n) id (fun l => l.length = n) where
  back := fun x r h => by unfold takeP; rw [if_pos (by simp [h])]; simp [← h]
  only := fun s x r h => by
    unfold takeP at h
    split at h
    · next hl =>
      injection h with h; injection h with h1 h2
      subst h1; subst h2
      exact ⟨by rw [List.length_take]; omega, (List.take_append_drop _ _).symm⟩
    · cases h
/-- a small number: a byte, at most so great -/
def smallP (most : Nat) : P Nat := fun s => match s with | [] => none | b :: r => if b.toNat ≤ most then some (b.toNat, r) else none
def byteT (n : Nat) : Bytes := [UInt8.ofNat n]
theorem small_reads (most : Nat) (hm : most < 256) : Reads (smallP most) byteT (fun n => n ≤ most) where
  back := fun x r h => by
    have e : (UInt8.ofNat x).toNat = x := by rw [UInt8.toNat_ofNat']; omega
    show (if (UInt8.ofNat x).toNat ≤ most then some ((UInt8.ofNat x).toNat, r) else none) = _
    rw [e, if_pos h]
  only := fun s x r h => by
    match s, h with
    | b :: s, h =>
      unfold smallP at h
      simp only at h
      split at h
      · next hl =>
        injection h with h; injection h with h1 h2
        subst h1; subst h2
        refine ⟨hl, ?_⟩
        have : UInt8.ofNat b.toNat = b := by apply UInt8.toNat_inj.1; rw [UInt8.toNat_ofNat']; have := byte_lt8 b; omega
        show b :: s = UInt8.ofNat b.toNat :: s
        rw [this]
      · cases h
/-- one behind the other, where the second one may hang on the first -/
def bindP {α β : Type} (p : P α) (q : α → P β) : P (α × β) := fun s => match p s with | none => none | some (x, r) => match q x r with | none => none | some (y, u) => some ((x, y), u)
theorem bind_reads {α β : Type} {p : P α} {q : α → P β} {t : α → Bytes} {u : β → Bytes} {ok : α → Prop} {ok2 : α → β → Prop} (hp : Reads p t ok) (hq : ∀ x, ok x → Reads (q x) u (ok2 x)) : Reads (bindP p q) (fun z => t z.1 ++ u z.2) (fun z => ok z.1 ∧ ok2 z.1 z.2) where
  back := fun z r h => by
    unfold bindP
    rw [List.append_assoc, hp.back z.1 _ h.1]
    simp only
    rw [(hq z.1 h.1).back z.2 r h.2]
  only := fun s z r h => by
    unfold bindP at h
    match hs : p s, h with
    | some (x, r1), h =>
      simp only at h
      obtain ⟨h1, h2⟩ := hp.only s x r1 hs
      match hs2 : q x r1, h with
      | some (y, r2), h =>
        simp only at h
        injection h with h; injection h with h3 h4
        subst h3; subst h4
        obtain ⟨h5, h6⟩ := (hq x h1).only r1 y r2 hs2
        exact ⟨⟨h1, h5⟩, by rw [h2, h6, List.append_assoc]⟩
/-- n things behind one another -/
def manyP {α : Type} (p : P α) : Nat → P (List α)
  | 0, s => some ([], s)
  | n + 1, s => match p s with | none => none | some (x, r) => match manyP p n r with | none => none | some (l, u) => some (x :: l, u)
theorem many_reads {α : Type} {p : P α} {t : α → Bytes} {ok : α → Prop} (hp : Reads p t ok) : ∀ n, Reads (manyP p n) (fun l => l.flatMap t) (fun l => l.length = n ∧ ∀ x ∈ l, ok x)
  | 0 => ⟨fun l r h => by match l, h with | [], _ => rfl, fun s l r h => by injection h with h; injection h with h1 h2; subst h1; subst h2; exact ⟨⟨rfl, fun x hx => by cases hx⟩, rfl⟩⟩
  | n + 1 => by
    have ih := many_reads hp n
    refine ⟨fun l r h => ?_, fun s l r h => ?_⟩
    · match l, h with
      | x :: l, h =>
        show (match p ((x :: l).flatMap t ++ r) with | none => none | some (x, r) => match manyP p n r with | none => none | some (l, u) => some (x :: l, u)) = _
        rw [List.flatMap_cons, List.append_assoc, hp.back x _ (h.2 x List.mem_cons_self)]
        simp only
        rw [ih.back l r ⟨by simpa using h.1, fun y hy => h.2 y (List.mem_cons_of_mem _ hy)⟩]
    · unfold manyP at h
      match hs : p s, h with
      | some (x, r1), h =>
        simp only at h
        obtain ⟨h1, h2⟩ := hp.only s x r1 hs
        match hs2 : manyP p n r1, h with
        | some (l2, r2), h =>
          simp only at h
          injection h with h; injection h with h3 h4
          subst h3; subst h4
          obtain ⟨h5, h6⟩ := ih.only r1 l2 r2 hs2
          refine ⟨⟨by rw [List.length_cons, h5.1], fun y hy => ?_⟩, by rw [h2, h6, List.flatMap_cons, List.append_assoc]⟩
          rcases List.mem_cons.1 hy with rfl | hy
          · exact h1
          · exact h5.2 y hy
/-- the same things by other names -/
def mapP {α β : Type} (f : α → β) (p : P α) : P β := fun s => match p s with | none => none | some (x, r) => some (f x, r)
theorem map_reads {α β : Type} {p : P α} {t : α → Bytes} {ok : α → Prop} {ok2 : β → Prop} (f : α → β) (g : β → α) (hp : Reads p t ok) (hf : ∀ x, ok x → ok2 (f x) ∧ g (f x) = x) (hg : ∀ y, ok2 y → ok (g y) ∧ f (g y) = y) : Reads (mapP f p) (fun y => t (g y)) ok2 where
  back := fun y r h => by
    unfold mapP
    rw [hp.back (g y) r (hg y h).1]
    simp only
    rw [(hg y h).2]
  only := fun s y r h => by
    unfold mapP at h
    match hs : p s, h with
    | some (x, r1), h =>
      simp only at h
      injection h with h; injection h with h1 h2
      subst h1; subst h2
      obtain ⟨h3, h4⟩ := hp.only s x r1 hs
      exact ⟨(hf x h3).1, by rw [(hf x h3).2]; exact h4⟩
theorem Reads.text {α : Type} {p : P α} {t t2 : α → Bytes} {ok : α → Prop} (h : Reads p t ok) (e : ∀ x, ok x → t2 x = t x) : Reads p t2 ok :=
  ⟨fun x r hx => by rw [e x hx]; exact h.back x r hx, fun s x r hs => by obtain ⟨h1, h2⟩ := h.only s x r hs; exact ⟨h1, by rw [e x h1]; exact h2⟩⟩
/-- .. those alone that may be -/
def guardP {α : Type} (c : α → Bool) (p : P α) : P α := fun s => match p s with | none => none | some (x, r) => if c x = true then some (x, r) else none
theorem guard_reads {α : Type} {p : P α} {t : α → Bytes} {ok : α → Prop} (c : α → Bool) (hp : Reads p t ok) : Reads (guardP c p) t (fun x => ok x ∧ c x = true) where
  back := fun x r h => by
    unfold guardP
    rw [hp.back x r h.1]
    simp only
    rw [if_pos h.2]
  only := fun s x r h => by
    unfold guardP at h
    match hs : p s, h with
    | some (y, r1), h =>
      simp only at h
      split at h
      · next hc =>
        injection h with h; injection h with h1 h2
        subst h1; subst h2
        obtain ⟨h3, h4⟩ := hp.only s y r1 hs
        exact ⟨⟨h3, hc⟩, h4⟩
      · cases h
def okI (most : Nat) (x : Int) : Prop := 0 ≤ x ∧ x ≤ most
def intP (most : Nat) : P Int := mapP (fun n : Nat => (n : Int)) (smallP most)
def intT (x : Int) : Bytes := byteT x.toNat
theorem int_reads (most : Nat) (hm : most < 256) : Reads (intP most) intT (okI most) :=
  map_reads (ok2 := okI most) (fun n : Nat => (n : Int)) Int.toNat (small_reads most hm) (fun x h => ⟨⟨by omega, by omega⟩, Int.toNat_natCast x⟩) (fun y h => ⟨by have := h.1; have := h.2; omega, by have := h.1; omega⟩)
def numP : P Nat := mapP wordL (takeP 8)
theorem num_reads : Reads numP (leN 8) (fun n => n < 18446744073709551616) :=
  map_reads (ok2 := fun n => n < 18446744073709551616) wordL (leN 8) (take_reads 8) (fun x h => ⟨word_lt8 h, by rw [← h]; exact leN_word x⟩) (fun y h => ⟨leN_len 8 y, word_leN 8 y h⟩)
def okW (x : Int) : Prop := -9223372036854775808 ≤ x ∧ x ≤ 9223372036854775807
def wideI (n : Nat) : Int := if n < 9223372036854775808 then (n : Int) else (n : Int) - 18446744073709551616
def wideN (x : Int) : Nat := (x % 18446744073709551616).toNat
def wideP : P Int := mapP wideI numP
def wideT (x : Int) : Bytes := leN 8 (wideN x)
theorem wide_reads : Reads wideP wideT okW :=
  map_reads (ok2 := okW) wideI wideN num_reads (fun x h => by
    unfold wideI wideN okW
    split
    · exact ⟨⟨by omega, by omega⟩, by omega⟩
    · exact ⟨⟨by omega, by omega⟩, by omega⟩) (fun y h => by
    have h1 := h.1
    have h2 := h.2
    unfold wideI wideN
    refine ⟨by omega, ?_⟩
    split <;> omega)
def okL (l : List Int) : Prop := l.length ≤ 48 ∧ ∀ x ∈ l, okI 63 x
def listT (l : List Int) : Bytes := byteT l.length ++ l.flatMap intT
def listP : P (List Int) := mapP Prod.snd (bindP (smallP 48) (manyP (intP 63)))
theorem list_reads : Reads listP listT okL :=
  map_reads (ok2 := okL) Prod.snd (fun l => (l.length, l)) (bind_reads (small_reads 48 (by decide)) (fun n _ => many_reads (int_reads 63 (by decide)) n)) (fun x h => ⟨⟨by rw [h.2.1]; exact h.1, h.2.2⟩, by rw [h.2.1]⟩) (fun y h => ⟨⟨h.1, rfl, h.2⟩, rfl⟩)
def evP : P Bytes := mapP Prod.snd (bindP (smallP 20) takeP)
def evT (l : Bytes) : Bytes := byteT l.length ++ l
theorem ev_reads : Reads evP evT (fun l => l.length ≤ 20) :=
  map_reads (ok2 := fun l : Bytes => l.length ≤ 20) Prod.snd (fun l => (l.length, l)) (bind_reads (u := id) (ok2 := fun n (l : Bytes) => l.length = n) (small_reads 20 (by decide)) (fun n _ => take_reads n)) (fun x h => ⟨by rw [h.2]; exact h.1, by rw [h.2]⟩) (fun y h => ⟨⟨h, rfl⟩, rfl⟩)
structure SetM where
  var : Int
  kd : Int
  a : Int
  b : Int
deriving DecidableEq
structure PastM where
  st : Int
  set : List Int
deriving DecidableEq
structure MsgM where
  kd : Int
  step : Nat
  ev : Bytes
  tr : List Int
  ss : List Int
  en : List Int
  vs : List Int
  sets : List SetM
  pasts : List PastM
deriving DecidableEq
def okSet (x : SetM) : Prop := okI 63 x.var ∧ (1 ≤ x.kd ∧ x.kd ≤ 3) ∧ okW x.a ∧ okW x.b
def setT (x : SetM) : Bytes := intT x.var ++ (intT x.kd ++ (wideT x.a ++ wideT x.b))
def setP : P SetM := mapP (fun z => ⟨z.1, z.2.1, z.2.2.1, z.2.2.2⟩) (bindP (intP 63) fun _ => bindP (guardP (fun k => decide (1 ≤ k)) (intP 3)) fun _ => bindP wideP fun _ => wideP)
theorem set_reads : Reads setP setT okSet :=
  map_reads (ok2 := okSet) _ (fun x : SetM => (x.var, x.kd, x.a, x.b)) (bind_reads (int_reads 63 (by decide)) fun _ _ => bind_reads (guard_reads _ (int_reads 3 (by decide))) fun _ _ => bind_reads wide_reads fun _ _ => wide_reads)
    (fun z h => ⟨⟨h.1, ⟨of_decide_eq_true h.2.1.2, h.2.1.1.2⟩, h.2.2.1, h.2.2.2⟩, rfl⟩) (fun y h => ⟨⟨h.1, ⟨⟨by have := h.2.1.1; show (0 : Int) ≤ y.kd; omega, h.2.1.2⟩, decide_eq_true h.2.1.1⟩, h.2.2.1, h.2.2.2⟩, rfl⟩)
def okPast (x : PastM) : Prop := okI 63 x.st ∧ okL x.set
def pastT (x : PastM) : Bytes := intT x.st ++ listT x.set
def pastP : P PastM := mapP (fun z => ⟨z.1, z.2⟩) (bindP (intP 63) fun _ => listP)
theorem past_reads : Reads pastP pastT okPast :=
  map_reads (ok2 := okPast) _ (fun x : PastM => (x.st, x.set)) (bind_reads (int_reads 63 (by decide)) fun _ _ => list_reads) (fun z h => ⟨h, rfl⟩) (fun y h => ⟨h, rfl⟩)
def someP {α : Type} (most : Nat) (p : P α) : P (List α) := mapP Prod.snd (bindP (smallP most) (manyP p))
def someT {α : Type} (t : α → Bytes) (l : List α) : Bytes := byteT l.length ++ l.flatMap t
theorem some_reads {α : Type} {p : P α} {t : α → Bytes} {ok : α → Prop} (most : Nat) (hm : most < 256) (hp : Reads p t ok) : Reads (someP most p) (someT t) (fun l => l.length ≤ most ∧ ∀ x ∈ l, ok x) :=
  map_reads (ok2 := fun l : List α => l.length ≤ most ∧ ∀ x ∈ l, ok x) Prod.snd (fun l => (l.length, l)) (bind_reads (small_reads most hm) (fun n _ => many_reads hp n)) (fun x h => ⟨⟨by rw [h.2.1]; exact h.1, h.2.2⟩, by rw [h.2.1]⟩) (fun y h => ⟨⟨h.1, rfl, h.2⟩, rfl⟩)
structure OkMsg (m : MsgM) : Prop where
  kd : 1 ≤ m.kd ∧ m.kd ≤ 9
  step : m.step < 18446744073709551616
  ev : m.ev.length ≤ 20
  tr : okL m.tr
  ss : okL m.ss
  en : okL m.en
  vs : okL m.vs
  sets : m.sets.length ≤ 8 ∧ ∀ x ∈ m.sets, okSet x
  pasts : m.pasts.length ≤ 40 ∧ ∀ x ∈ m.pasts, okPast x
def msgT (m : MsgM) : Bytes := intT m.kd ++ (leN 8 m.step ++ (evT m.ev ++ (listT m.tr ++ (listT m.ss ++ (listT m.en ++ (listT m.vs ++ (someT setT m.sets ++ someT pastT m.pasts)))))))
def msgP : P MsgM := mapP (fun z => ⟨z.1, z.2.1, z.2.2.1, z.2.2.2.1, z.2.2.2.2.1, z.2.2.2.2.2.1, z.2.2.2.2.2.2.1, z.2.2.2.2.2.2.2.1, z.2.2.2.2.2.2.2.2⟩)
  (bindP (guardP (fun k => decide (1 ≤ k)) (intP 9)) fun _ => bindP numP fun _ => bindP evP fun _ => bindP listP fun _ => bindP listP fun _ => bindP listP fun _ => bindP listP fun _ => bindP (someP 8 setP) fun _ => someP 40 pastP)
theorem msg_reads : Reads msgP msgT OkMsg :=
  map_reads (ok2 := OkMsg) _ (fun m : MsgM => (m.kd, m.step, m.ev, m.tr, m.ss, m.en, m.vs, m.sets, m.pasts))
    (bind_reads (guard_reads _ (int_reads 9 (by decide))) fun _ _ => bind_reads num_reads fun _ _ => bind_reads ev_reads fun _ _ => bind_reads list_reads fun _ _ => bind_reads list_reads fun _ _ => bind_reads list_reads fun _ _ => bind_reads list_reads fun _ _ => bind_reads (some_reads 8 (by decide) set_reads) fun _ _ => some_reads 40 (by decide) past_reads)
    (fun z h => ⟨⟨⟨of_decide_eq_true h.1.2, h.1.1.2⟩, h.2.1, h.2.2.1, h.2.2.2.1, h.2.2.2.2.1, h.2.2.2.2.2.1, h.2.2.2.2.2.2.1, h.2.2.2.2.2.2.2.1, h.2.2.2.2.2.2.2.2⟩, rfl⟩)
    (fun m h => ⟨⟨⟨⟨by have := h.kd.1; show (0 : Int) ≤ m.kd; omega, h.kd.2⟩, decide_eq_true h.kd.1⟩, h.step, h.ev, h.tr, h.ss, h.en, h.vs, h.sets, h.pasts⟩, rfl⟩)
noncomputable instance {m : MsgM} : Decidable (OkMsg m) := Classical.propDecidable _
def noMsg : MsgM := ⟨0, 0, [], [], [], [], [], [], []⟩
noncomputable def encodeM (m : MsgM) : Bytes × Int := if ¬ OkMsg m then ([], 1) else if 800 < (msgT m).length then ([], 4) else (msgT m, 0)
def decodeM (s : Bytes) : MsgM × Int := if 800 < s.length then (noMsg, 4) else match msgP s with | some (m, []) => (m, 0) | _ => (noMsg, 1)
theorem encode_ok {m : MsgM} (h : (encodeM m).2 = 0) : OkMsg m ∧ (msgT m).length ≤ 800 ∧ (encodeM m).1 = msgT m := by
  unfold encodeM at h ⊢
  by_cases h1 : ¬ OkMsg m
  · rw [if_pos h1] at h; cases h
  · rw [if_neg h1] at h ⊢
    by_cases h2 : 800 < (msgT m).length
    · rw [if_pos h2] at h; cases h
    · rw [if_neg h2]; exact ⟨Classical.not_not.1 h1, by omega, rfl⟩
theorem decode_ok {s : Bytes} (h : (decodeM s).2 = 0) : s.length ≤ 800 ∧ msgP s = some ((decodeM s).1, []) := by
  unfold decodeM at h ⊢
  by_cases h1 : 800 < s.length
  · rw [if_pos h1] at h; cases h
  · rw [if_neg h1] at h ⊢
    split at h
    · next m hm => exact ⟨by omega, by rw [hm]⟩
    · cases h
/-- what is told is read to what it was -/
theorem decode_encode {m : MsgM} (h : (encodeM m).2 = 0) : decodeM (encodeM m).1 = (m, 0) := by
  obtain ⟨h1, h2, h3⟩ := encode_ok h
  rw [h3]
  have h4 := msg_reads.back m [] h1
  rw [List.append_nil] at h4
  unfold decodeM
  rw [if_neg (by omega), h4]
/-- what is read is told in the bytes that it was -/
theorem encode_decode {s : Bytes} (h : (decodeM s).2 = 0) : encodeM (decodeM s).1 = (s, 0) := by
  obtain ⟨h1, h2⟩ := decode_ok h
  obtain ⟨h3, h4⟩ := msg_reads.only s _ [] h2
  rw [List.append_nil] at h4
  unfold encodeM
  rw [if_neg (fun k => k h3), ← h4, if_neg (by omega)]
theorem decode_err (s : Bytes) : (decodeM s).2 = 0 ∨ decodeM s = (noMsg, 4) ∧ 800 < s.length ∨ decodeM s = (noMsg, 1) ∧ s.length ≤ 800 := by
  unfold decodeM
  by_cases h1 : 800 < s.length
  · rw [if_pos h1]; exact Or.inr (Or.inl ⟨rfl, h1⟩)
  · rw [if_neg h1]
    split
    · exact Or.inl rfl
    · exact Or.inr (Or.inr ⟨rfl, by omega⟩)
/-- a message's bytes, cut off -/
theorem cut_told {m : MsgM} (h : (encodeM m).2 = 0) {k : Nat} (hk : k < (encodeM m).1.length) : decodeM ((encodeM m).1.take k) = (noMsg, 1) := by
  obtain ⟨h1, h2, h3⟩ := encode_ok h
  rw [h3] at hk ⊢
  rcases decode_err ((msgT m).take k) with h4 | ⟨_, h4⟩ | ⟨h4, _⟩
  · exfalso
    obtain ⟨_, h5⟩ := decode_ok h4
    obtain ⟨h6, h7⟩ := msg_reads.only _ _ [] h5
    rw [List.append_nil] at h7
    have h8 := msg_reads.back _ ((msgT m).drop k) h6
    rw [← h7, List.take_append_drop] at h8
    have h9 := msg_reads.back m [] h1
    rw [List.append_nil, h8] at h9
    injection h9 with h9; injection h9 with _ h9
    have := congrArg List.length h9
    rw [List.length_drop, List.length_nil] at this
    omega
  · rw [List.length_take] at h4; omega
  · exact h4
/-- a byte behind it -/
theorem more_told {m : MsgM} (h : (encodeM m).2 = 0) (b : UInt8) : decodeM ((encodeM m).1 ++ [b]) = (noMsg, 1) ∨ decodeM ((encodeM m).1 ++ [b]) = (noMsg, 4) ∧ (encodeM m).1.length = 800 := by
  obtain ⟨h1, h2, h3⟩ := encode_ok h
  rw [h3]
  rcases decode_err (msgT m ++ [b]) with h4 | ⟨h4, h5⟩ | ⟨h4, _⟩
  · exfalso
    obtain ⟨_, h5⟩ := decode_ok h4
    rw [msg_reads.back m [b] h1] at h5
    injection h5 with h5; injection h5 with _ h5
    cases h5
  · rw [List.length_append] at h5
    exact Or.inr ⟨h4, by simp at h5; omega⟩
  · exact Or.inl h4
end Go.Proofs.Ytlblkakjbjmciaa.Wi
