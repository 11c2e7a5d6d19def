/- Two expressions joined: what they come to; the law's join. -/
import Derived.Test.YtpidikbhjiaogaaVu
namespace Go.Proofs.Ytpidikbhjiaogaa
open Go.RowKit

/-- what two that are joined come to -/
theorem ev_join {vs : List VM} {xs : List VA} {ss : List (List UInt8)} {a b : List CM} {o : Int} (ha : rightB a = true) (hb : rightB b = true) (hW : worldB vs xs = true) (hi : ∀ x ∈ xs, inL x.a = true) (hl : a.length + b.length + 1 ≤ 32) (ho : 11 ≤ o ∧ o ≤ 23) :
    evP vs xs ss (a ++ b ++ [opC o]) = if (evP vs xs ss a).2 ≠ 0 then erV (evP vs xs ss a).2 else if (evP vs xs ss b).2 ≠ 0 then erV (evP vs xs ss b).2 else joinE o (evP vs xs ss a).1 (evP vs xs ss b).1 := by
  obtain ⟨l, hl1, rfl⟩ := right_tree ha
  obtain ⟨r, hr1, rfl⟩ := right_tree hb
  obtain ⟨h1, _, h3⟩ := world_of hW hi
  have hok : OkT (.bin o l r) := ⟨ho.1, ho.2, hl1, hr1⟩
  have hp : post l ++ post r ++ [opC o] = post (.bin o l r) := rfl
  have hB : rightB (post (.bin o l r)) = true := tree_right hok (by rw [← hp]; simp; omega)
  rw [hp, evP_run hB hW, evP_run ha hW, evP_run hb hW, ev_tree h3 h1.symm hok, ev_tree h3 h1.symm hl1, ev_tree h3 h1.symm hr1]
  rfl
theorem ev_ok {vs : List VM} {xs : List VA} {ss : List (List UInt8)} {a : List CM} (hi : ∀ x ∈ xs, inL x.a = true) (h : (evP vs xs ss a).2 = 0) : rightB a = true ∧ worldB vs xs = true ∧ OkV (evP vs xs ss a).1 := by
  cases ha : rightB a with
  | false => rw [evP_form ha] at h; cases h
  | true =>
    cases hW : worldB vs xs with
    | false => rw [evP_arg ha hW] at h; cases h
    | true =>
      refine ⟨rfl, rfl, ?_⟩
      obtain ⟨l, hl1, rfl⟩ := right_tree ha
      obtain ⟨h1, _, h3⟩ := world_of hW hi
      rw [evP_run ha hW, ev_tree h3 h1.symm hl1] at h ⊢
      rcases fin_eT h3 h1.symm hl1 with ⟨_, h2⟩ | ⟨h2, _⟩
      · exact h2
      · exact absurd h h2

set_option maxRecDepth 100000 in
set_option maxHeartbeats 2000000 in
theorem join_any (va vb : Value) (a b : List CM) (o : Int) (w : World) (hA : RdI w va a) (hla : a.length * 32 ≤ 140737488355328) (hB : RdI w vb b) (_hlb : b.length * 32 ≤ 140737488355328) (hl : (a.length + b.length + 1) * 32 ≤ 140737488355328) :
    Calls Try.prog 15 #[va, vb, .int .i64 o] w fun e w' => ∃ v, e = .returned v ∧ w'.ownsRow w.heap.size 41 3 v (a ++ b ++ [opC o]).length (flat (a ++ b ++ [opC o])) ∧ Below w.heap.size w w' := by
  obtain ⟨ic, hc0, hc1, hc2, hc3⟩ := info_parts Try.infoCell
  have HC0 := Lib.hid hc0; have HC1 := Lib.hid hc1; have HC2 := Lib.hid hc2; have HC3 := Lib.hid hc3
  clear hc0 hc1 hc2 hc3
  have hia := hA.inn; have hib := hB.inn
  obtain ⟨A, ca, rfl⟩ := hia.form
  obtain ⟨B, cb, rfl⟩ := hib.form
  have HW : Hid (Below w.heap.size w (w.alloc (.cells #[] 41))) := (Below.refl _ _).alloc (Nat.le_refl _) _
  have HE : Hid ((w.alloc (.cells #[] 41)).ownsRow w.heap.size 41 3 (.slice (some ⟨w.heap.size, 0, none⟩) 0 0) 0 []) := World.ownsRow_made w #[] 0 (Nat.le_refl _) (by unfold maxLen; omega) (by simp)
  have HIA : Hid (∀ W, Below w.heap.size w W → Inn W 3 (.slice A a.length ca) a.length (flat a)) := fun W hb => hia.below hb
  have HIB : Hid (∀ W, Below w.heap.size w W → Inn W 3 (.slice B b.length cb) b.length (flat b)) := fun W hb => hib.below hb
  have hfa : flat (a ++ b ++ [opC o]) = flat a ++ flat b ++ [.int .i64 o, .int .i64 0, .string ⟨#[]⟩] := by
    simp only [flat, List.flatMap_append]
    rfl
  have hla' : (a ++ b ++ [opC o]).length = a.length + b.length + 1 := by simp only [List.length_append, List.length_cons, List.length_nil]
  rw [hfa, hla']
  clear hA hB hia hib hfa hla'
  go_enter Try.func15, Try.ntmps15
  go_wp2_with (at_builtin; refine Ow.wpList_append rfl (.tmp 7) (.tmp 8) 26 rfl w.heap.size 41 ic _ 3 32 Try.underlying26 HC0.out HC1.out HC2.out HC3.out rfl (by decide) _ 0 [] rfl HE.out _ a.length (flat a) rfl (HIA.out _ HW.out) (flat_vals a) (by unfold maxLen; omega) (by omega) (by simp) ?_)
  intro v1 w1 ho1 hg1 _
  have ho1 : w1.ownsRow w.heap.size 41 3 v1 a.length (flat a) := by simpa using ho1
  have HB1 : Hid (Below w.heap.size w w1) := HW.out.grown hg1 (by simp) (fun k hk => (HE.out.lt k hk).1)
  have HO1 := Lib.hid ho1
  clear ho1 hg1
  go_wp2_with (at_builtin; refine Ow.wpList_append rfl (.tmp 9) (.tmp 10) 26 rfl w.heap.size 41 ic _ 3 32 Try.underlying26 HC0.out HC1.out HC2.out HC3.out rfl (by decide) v1 a.length (flat a) rfl HO1.out _ b.length (flat b) rfl (HIB.out _ HB1.out) (flat_vals b) (by unfold maxLen; omega) (by omega) HB1.out.size ?_)
  intro v2 w2 ho2 hg2 _
  have HB2 : Hid (Below w.heap.size w w2) := HB1.out.grown hg2 HB1.out.size (fun k hk => (HO1.out.lt k hk).1)
  have HO2 := Lib.hid ho2
  have HN2 : Hid (Inn (w2.alloc (.cells #[.int .i64 o, .int .i64 0, .string ⟨#[]⟩] 41)) 3 (.slice (some ⟨w2.heap.size, 0, none⟩) 1 1) 1 [.int .i64 o, .int .i64 0, .string ⟨#[]⟩]) := Inn.of_own (Oz.own_laid (B := 0) (size := 3) w2 #[.int .i64 o, .int .i64 0, .string ⟨#[]⟩] (Nat.zero_le _) (by decide) rfl)
  have HB2' : Hid (Below w.heap.size w (w2.alloc (.cells #[.int .i64 o, .int .i64 0, .string ⟨#[]⟩] 41))) := HB2.out.alloc HB2.out.size _
  clear ho2 hg2
  go_wp2_with (at_builtin; refine Ow.wpList_append rfl (.tmp 11) (.tmp 14) 26 rfl w.heap.size 41 ic _ 3 32 Try.underlying26 HC0.out HC1.out HC2.out HC3.out rfl (by decide) v2 (a.length + b.length) (flat a ++ flat b) rfl (HO2.out.alloc _) _ 1 [.int .i64 o, .int .i64 0, .string ⟨#[]⟩] rfl HN2.out (by intro u hu; simp only [List.mem_cons, List.not_mem_nil, or_false] at hu; rcases hu with rfl | rfl | rfl <;> rfl) (by unfold maxLen; omega) (by omega) HB2'.out.size ?_)
  intro v3 w3 ho3 hg3 _
  have HB3 : Hid (Below w.heap.size w w3) := HB2'.out.grown hg3 HB2'.out.size (fun k hk => (HO2.out.lt k hk).1)
  have HO3 := Lib.hid ho3
  clear ho3 hg3
  go_wp2
  go_ret
  exact ⟨v3, rfl, by simpa [List.append_assoc] using HO3.out, HB3.out⟩
end Go.Proofs.Ytpidikbhjiaogaa
