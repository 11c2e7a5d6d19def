/- What has a kind comes to a value of that kind, or goes beyond a bound, or is divided by nought: plain mathematics. -/
import Derived.Test.YtpidikbhjiaogaaWd
namespace Go.Proofs.Ytpidikbhjiaogaa
open Go.RowKit

/-- a value of that kind, or one of three errors -/
def Snd (p : VA × Int) (k : Int) : Prop := (p.2 = 0 ∧ p.1.kd = k) ∨ p.2 = 5 ∨ p.2 = 6 ∨ p.2 = 7
theorem snd_num (n : Int) : Snd (numE n) 1 := by
  unfold numE
  split
  · exact Or.inl ⟨rfl, rfl⟩
  · exact Or.inr (Or.inr (Or.inr rfl))
theorem snd_pt (a b : Int) : Snd (ptE a b) 3 := by
  unfold ptE
  split
  · exact Or.inl ⟨rfl, rfl⟩
  · exact Or.inr (Or.inl rfl)
theorem snd_tru (b : Bool) : Snd (truV b, 0) 2 := Or.inl ⟨rfl, rfl⟩
theorem snd_un {o : Int} {v : VA} (ho : 7 ≤ o ∧ o ≤ 10) (hv : OkV v) (h : (errK (unK o v.kd)).2 = 0) : Snd (unE o v) (errK (unK o v.kd)).1 := by
  rcases ok_cases hv with ⟨n, _, rfl⟩ | ⟨b, rfl⟩ | ⟨a, b, _, _, rfl⟩ <;> rcases (show o = 7 ∨ o = 8 ∨ o = 9 ∨ o = 10 by omega) with rfl | rfl | rfl | rfl
  all_goals first
    | exact snd_num _
    | exact snd_tru _
    | exact Or.inl ⟨rfl, rfl⟩
    | exact absurd h (by show (8 : Int) ≠ 0; decide)
theorem snd_numbers {o n m : Int} (ho : 11 ≤ o ∧ o ≤ 23) (h16 : o ≠ 16) (h17 : o ≠ 17) (h : (errK (binK o 1)).2 = 0) : Snd (numbersE o n m) (errK (binK o 1)).1 := by
  rcases (show o = 11 ∨ o = 12 ∨ o = 13 ∨ o = 14 ∨ o = 15 ∨ o = 18 ∨ o = 19 ∨ o = 20 ∨ o = 21 ∨ o = 22 ∨ o = 23 by omega) with rfl | rfl | rfl | rfl | rfl | rfl | rfl | rfl | rfl | rfl | rfl
  · exact snd_num _
  · exact snd_num _
  · exact snd_num _
  · by_cases hm : m = 0
    · rw [show numbersE 14 n m = erV 6 from if_pos hm]; exact Or.inr (Or.inr (Or.inl rfl))
    · rw [show numbersE 14 n m = numE (n.tdiv m) from if_neg hm]; exact snd_num _
  · by_cases hm : m = 0
    · rw [show numbersE 15 n m = erV 6 from if_pos hm]; exact Or.inr (Or.inr (Or.inl rfl))
    · rw [show numbersE 15 n m = (numV (n.tmod m), 0) from if_neg hm]; exact Or.inl ⟨rfl, rfl⟩
  · exact snd_tru _
  · exact snd_tru _
  · exact snd_tru _
  · exact snd_tru _
  · exact absurd h (by decide)
  · exact absurd h (by decide)
theorem snd_join {o : Int} {x y : VA} (ho : 11 ≤ o ∧ o ≤ 23) (hx : OkV x) (_hy : OkV y) (h : (joinK o x.kd y.kd).2 = 0) : Snd (joinE o x y) (joinK o x.kd y.kd).1 := by
  by_cases hk : x.kd = y.kd
  · have e : joinK o x.kd y.kd = errK (binK o x.kd) := by unfold joinK; rw [if_neg (by simp [hk])]
    rw [e] at h ⊢
    by_cases h16 : o = 16
    · subst h16
      rw [show joinE 16 x y = (truV (decide (x.a = y.a ∧ x.b = y.b)), 0) by unfold joinE; rw [if_neg (by simp [hk]), if_pos rfl]]
      exact snd_tru _
    · by_cases h17 : o = 17
      · subst h17
        rw [show joinE 17 x y = (truV (!decide (x.a = y.a ∧ x.b = y.b)), 0) by unfold joinE; rw [if_neg (by simp [hk]), if_neg (by decide), if_pos rfl]]
        exact snd_tru _
      · have e2 : joinE o x y = if x.kd = 1 then numbersE o x.a y.a else if x.kd = 2 then truthsE o (decide (x.a = 1)) (decide (y.a = 1)) else pointsE o x.a x.b y.a y.b := by
          unfold joinE; rw [if_neg (by simp [hk]), if_neg h16, if_neg h17]
        rw [e2]
        rcases ok_cases hx with ⟨n, _, rfl⟩ | ⟨b, rfl⟩ | ⟨a, b, _, _, rfl⟩
        · exact snd_numbers ho h16 h17 h
        · rcases (show o = 11 ∨ o = 12 ∨ o = 13 ∨ o = 14 ∨ o = 15 ∨ o = 18 ∨ o = 19 ∨ o = 20 ∨ o = 21 ∨ o = 22 ∨ o = 23 by omega) with rfl | rfl | rfl | rfl | rfl | rfl | rfl | rfl | rfl | rfl | rfl
          all_goals first
            | exact snd_tru _
            | exact absurd h (by show (8 : Int) ≠ 0; decide)
        · rcases (show o = 11 ∨ o = 12 ∨ o = 13 ∨ o = 14 ∨ o = 15 ∨ o = 18 ∨ o = 19 ∨ o = 20 ∨ o = 21 ∨ o = 22 ∨ o = 23 by omega) with rfl | rfl | rfl | rfl | rfl | rfl | rfl | rfl | rfl | rfl | rfl
          all_goals first
            | exact snd_pt _ _
            | exact absurd h (by show (8 : Int) ≠ 0; decide)
  · unfold joinK at h
    rw [if_pos (by simpa using hk)] at h
    cases h

section
variable {vs : List VM} {xs : List VA} {ss ns : List (List UInt8)}
theorem snd_leaf (hl : vs.length = xs.length) (hk : ∀ i (h : i < xs.length) (h' : i < vs.length), xs[i].kd = vs[i].kd) {c : CM} (hop : 1 ≤ c.op ∧ c.op ≤ 6) (hn : c.op = 6 → c.nm ∈ ns) :
    ((leafK vs ns c).2 = 0 → Snd (leafE vs xs ss c) (leafK vs ns c).1) ∧ ((leafK vs ns c).2 ≠ 0 → (leafK vs ns c).2 = 8 ∨ (leafE vs xs ss c).2 ≠ 0) := by
  obtain ⟨op, a, nm⟩ := c
  simp only at hop hn
  rcases op_leaf hop with rfl | rfl | rfl | rfl | rfl | rfl
  · exact ⟨fun _ => Or.inl ⟨rfl, rfl⟩, fun h => absurd rfl h⟩
  · exact ⟨fun _ => Or.inl ⟨rfl, rfl⟩, fun h => absurd rfl h⟩
  · exact ⟨fun _ => Or.inl ⟨rfl, rfl⟩, fun h => absurd rfl h⟩
  · exact ⟨fun _ => Or.inl ⟨rfl, rfl⟩, fun h => absurd rfl h⟩
  · rw [show leafK vs ns ⟨5, a, nm⟩ = varK vs nm from rfl, show leafE vs xs ss ⟨5, a, nm⟩ = varE vs xs nm from rfl]
    rcases varK_ix vs nm with ⟨h1, h2⟩ | ⟨j, hj, h1, h2⟩
    · rcases varE_ix vs xs nm hl with ⟨_, h4⟩ | ⟨i, _, h3, _⟩
      · rw [h2, h4]; exact ⟨fun h => absurd h (by decide), fun _ => Or.inr (by decide)⟩
      · omega
    · rcases varE_ix vs xs nm hl with ⟨h3, _⟩ | ⟨i, hi, h3, h4⟩
      · omega
      · have hij : i = j := by omega
        subst hij
        rw [h2, h4]
        split
        · exact ⟨fun _ => Or.inl ⟨rfl, hk i hi hj⟩, fun h => absurd rfl h⟩
        · exact ⟨fun h => absurd h (by decide), fun _ => Or.inl rfl⟩
  · have hm := hn rfl
    rw [show leafK vs ns ⟨6, a, nm⟩ = (2, 0) by unfold leafK; simp [hm]]
    exact ⟨fun _ => Or.inl ⟨rfl, rfl⟩, fun h => absurd rfl h⟩
theorem errK_two {k : Int} (h : (errK k).2 ≠ 0) : (errK k).2 = 8 := by
  unfold errK at h ⊢
  split
  · rfl
  · rename_i hk; rw [if_neg hk] at h; exact absurd rfl h
theorem snd_not {p : VA × Int} {k : Int} (h : Snd p k) (h0 : p.2 ≠ 0) : p.2 = 5 ∨ p.2 = 6 ∨ p.2 = 7 := h.resolve_left (fun e => h0 e.1)
theorem snd_tree (hl : vs.length = xs.length) (hk : ∀ i (h : i < xs.length) (h' : i < vs.length), xs[i].kd = vs[i].kd) (hx : ∀ x ∈ xs, OkV x) {t : T} (ht : OkT t) (hn : ∀ c ∈ post t, c.op = 6 → c.nm ∈ ns) :
    ((kT vs ns t).2 = 0 → Snd (eT vs xs ss t) (kT vs ns t).1) ∧ ((kT vs ns t).2 ≠ 0 → (kT vs ns t).2 = 8 ∨ (eT vs xs ss t).2 ≠ 0) := by
  induction t with
  | leaf c => exact snd_leaf hl hk (operN_zero ht.2) (hn c (by simp [post]))
  | un o t ih =>
    obtain ⟨i1, i2⟩ := ih ht.2.2 (fun c hc => hn c (by simp [post, hc]))
    have e1 : kT vs ns (.un o t) = if (kT vs ns t).2 ≠ 0 then (0, (kT vs ns t).2) else errK (unK o (kT vs ns t).1) := rfl
    have e2 : eT vs xs ss (.un o t) = if (eT vs xs ss t).2 ≠ 0 then erV (eT vs xs ss t).2 else unE o (eT vs xs ss t).1 := rfl
    have hf := fin_eT (ss := ss) hx hl ht.2.2
    by_cases hkz : (kT vs ns t).2 = 0
    · rw [e1, if_neg (by simp [hkz])]
      by_cases hez : (eT vs xs ss t).2 = 0
      · rw [e2, if_neg (by simp [hez])]
        have hok : OkV (eT vs xs ss t).1 := by
          rcases hf with ⟨_, h⟩ | ⟨h, _⟩
          · exact h
          · exact absurd hez h
        have hkd : (eT vs xs ss t).1.kd = (kT vs ns t).1 := by
          rcases i1 hkz with ⟨_, h⟩ | h | h | h
          · exact h
          all_goals rw [hez] at h; cases h
        rw [← hkd]
        exact ⟨fun h => snd_un ⟨ht.1, ht.2.1⟩ hok h, fun h => Or.inl (errK_two h)⟩
      · rw [e2, if_pos hez]
        exact ⟨fun _ => Or.inr (by have h := snd_not (i1 hkz) hez; exact h), fun _ => Or.inr hez⟩
    · rw [e1, if_pos hkz]
      refine ⟨fun h => absurd h hkz, fun _ => ?_⟩
      rcases i2 hkz with h | h
      · exact Or.inl h
      · rw [e2, if_pos h]; exact Or.inr h
  | bin o l r ihl ihr =>
    obtain ⟨i1, i2⟩ := ihl ht.2.2.1 (fun c hc => hn c (by simp [post, hc]))
    obtain ⟨j1, j2⟩ := ihr ht.2.2.2 (fun c hc => hn c (by simp [post, hc]))
    have e1 : kT vs ns (.bin o l r) = if (kT vs ns l).2 ≠ 0 then (0, (kT vs ns l).2) else if (kT vs ns r).2 ≠ 0 then (0, (kT vs ns r).2) else joinK o (kT vs ns l).1 (kT vs ns r).1 := rfl
    have e2 : eT vs xs ss (.bin o l r) = if (eT vs xs ss l).2 ≠ 0 then erV (eT vs xs ss l).2 else if (eT vs xs ss r).2 ≠ 0 then erV (eT vs xs ss r).2 else joinE o (eT vs xs ss l).1 (eT vs xs ss r).1 := rfl
    have hfl := fin_eT (ss := ss) hx hl ht.2.2.1
    have hfr := fin_eT (ss := ss) hx hl ht.2.2.2
    by_cases hkl : (kT vs ns l).2 = 0
    · rw [e1, if_neg (by simp [hkl])]
      by_cases hkr : (kT vs ns r).2 = 0
      · rw [if_neg (by simp [hkr])]
        by_cases hel : (eT vs xs ss l).2 = 0
        · rw [e2, if_neg (by simp [hel])]
          by_cases her : (eT vs xs ss r).2 = 0
          · rw [if_neg (by simp [her])]
            have okl : OkV (eT vs xs ss l).1 := by
              rcases hfl with ⟨_, h⟩ | ⟨h, _⟩
              · exact h
              · exact absurd hel h
            have okr : OkV (eT vs xs ss r).1 := by
              rcases hfr with ⟨_, h⟩ | ⟨h, _⟩
              · exact h
              · exact absurd her h
            have kdl : (eT vs xs ss l).1.kd = (kT vs ns l).1 := by
              rcases i1 hkl with ⟨_, h⟩ | h | h | h
              · exact h
              all_goals rw [hel] at h; cases h
            have kdr : (eT vs xs ss r).1.kd = (kT vs ns r).1 := by
              rcases j1 hkr with ⟨_, h⟩ | h | h | h
              · exact h
              all_goals rw [her] at h; cases h
            rw [← kdl, ← kdr]
            refine ⟨fun h => snd_join ⟨ht.1, ht.2.1⟩ okl okr h, fun h => Or.inl ?_⟩
            unfold joinK at h ⊢
            split
            · rfl
            · rename_i hne; rw [if_neg hne] at h; exact errK_two h
          · rw [if_pos her]
            exact ⟨fun _ => Or.inr (by have h := snd_not (j1 hkr) her; exact h), fun _ => Or.inr her⟩
        · rw [e2, if_pos hel]
          exact ⟨fun _ => Or.inr (by have h := snd_not (i1 hkl) hel; exact h), fun _ => Or.inr hel⟩
      · rw [if_pos hkr]
        refine ⟨fun h => absurd h hkr, fun _ => ?_⟩
        rcases j2 hkr with h | h
        · exact Or.inl h
        · rw [e2]
          by_cases hel : (eT vs xs ss l).2 = 0
          · rw [if_neg (by simp [hel]), if_pos h]; exact Or.inr h
          · rw [if_pos hel]; exact Or.inr hel
    · rw [e1, if_pos hkl]
      refine ⟨fun h => absurd h hkl, fun _ => ?_⟩
      rcases i2 hkl with h | h
      · exact Or.inl h
      · rw [e2, if_pos h]; exact Or.inr h
end
/-- the law's own form -/
theorem snd_law {vs : List VM} {xs : List VA} {ss ns : List (List UInt8)} {cs : List CM} (hl : vs.length = xs.length) (hk : ∀ i (h : i < xs.length) (h' : i < vs.length), xs[i].kd = vs[i].kd) (hr : xs.all rightV = true) (hi : ∀ x ∈ xs, inL x.a = true) (hn : ∀ c ∈ cs, c.op = 6 → c.nm ∈ ns) :
    ((kindP vs ns cs).2 = 0 → ((evP vs xs ss cs).2 = 0 ∧ (evP vs xs ss cs).1.kd = (kindP vs ns cs).1 ∧ rightV (evP vs xs ss cs).1 = true) ∨ ((evP vs xs ss cs).1 = VA.zero ∧ ((evP vs xs ss cs).2 = 5 ∨ (evP vs xs ss cs).2 = 6 ∨ (evP vs xs ss cs).2 = 7))) ∧
    ((kindP vs ns cs).2 ≠ 0 → (kindP vs ns cs).2 = 8 ∨ (evP vs xs ss cs).2 ≠ 0) := by
  cases hB : rightB cs with
  | false =>
    rw [evP_form hB, show kindP vs ns cs = (0, 1) by unfold kindP; rw [hB]; rfl]
    exact ⟨fun h => absurd h (by decide), fun _ => Or.inr (by decide)⟩
  | true =>
    have hW : worldB vs xs = true := by unfold worldB; rw [decide_eq_true hl.symm, hr]; rfl
    obtain ⟨_, _, hx⟩ := world_of hW hi
    obtain ⟨t, ht, htc⟩ := right_tree hB
    have hl32 : (post t).length ≤ 32 := by rw [htc]; unfold rightB at hB; simp at hB; exact hB.1
    have hkt : kindP vs ns cs = kT vs ns t := by rw [← htc]; exact kind_tree ht hl32
    have het : evP vs xs ss cs = eT vs xs ss t := by rw [evP_run hB hW, ← htc]; exact ev_tree hx hl ht
    obtain ⟨h1, h2⟩ := snd_tree (ss := ss) hl hk hx ht (ns := ns) (by rw [htc]; exact hn)
    rw [hkt, het]
    refine ⟨fun h => ?_, h2⟩
    rcases fin_eT (ss := ss) hx hl ht with ⟨f1, f2⟩ | ⟨f1, f2⟩
    · rcases h1 h with ⟨_, g⟩ | g | g | g
      · exact Or.inl ⟨f1, g, f2.1⟩
      all_goals rw [f1] at g; cases g
    · exact Or.inr ⟨f2, snd_not (h1 h) f1⟩
end Go.Proofs.Ytpidikbhjiaogaa
