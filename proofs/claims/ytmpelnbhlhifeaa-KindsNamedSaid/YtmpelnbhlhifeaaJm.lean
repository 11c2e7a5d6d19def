/- A scope in which the run jumps to any of its labels: what holds at each jump, by the label, and a measure that each pass lowers. -/
import Derived.Scope
import Derived.ScopeJumps
import Derived.WalkMore
namespace Go.Proofs.Ytmpelnbhlhifeaa
open Go

/-- As Q; by a goto to label l: J l. -/
def jumps (J : Nat → Act → World → Prop) (Q : Exit → Act → World → Prop) : Exit → Act → World → Prop
  | .goto l, a, w => J l a w
  | e, a, w => Q e a w

section
variable {P : Program} {a : Act} {w : World} {Q : Exit → Act → World → Prop} {J : Nat → Act → World → Prop}
@[go_sem] theorem jumps_normal : jumps J Q .normal a w = Q .normal a w := rfl
@[go_sem] theorem jumps_exit (id : Nat) : jumps J Q (.exit id) a w = Q (.exit id) a w := rfl
@[go_sem] theorem jumps_ret : jumps J Q .ret a w = Q .ret a w := rfl
@[go_sem] theorem jumps_panic (ch : List PanicEntry) : jumps J Q (.panic ch) a w = Q (.panic ch) a w := rfl
theorem jumps_goto (l : Nat) : jumps J Q (.goto l) a w = J l a w := rfl

/-- the walk stands at a label: what is left is gone through by what holds there -/
theorem walk_on {K : Act → World → Prop} {y : Code} (hK : ∀ a w, y.wp P Q a w → K a w) (h : y.wp P Q a w) : Exit.then K Q .normal a w := hK _ _ h

theorem wp_rest {rest : Code} (h : rest.wp P Q a w) : (Code.seq .skip rest).wp P Q a w := wp_seq (wp_skip h)

/-- J holds at each label; a pass from a label lowers the measure, be it that the run jumps or walks on to the next label. -/
theorem wp_scope_labels {c : Code} (J : Nat → Act → World → Prop) (m : Nat → Act → World → Nat)
    (pass : ∀ l a w, J l a w → ∃ rest, findLabel c l = some (.seq .skip rest) ∧
      ((∀ l' a' w' rest', findLabel c l' = some (.seq .skip rest') → J l' a' w' → m l' a' w' < m l a w → rest'.wp P (jumps (fun l' a' w' => J l' a' w' ∧ m l' a' w' < m l a w) Q) a' w') →
        rest.wp P (jumps (fun l' a' w' => J l' a' w' ∧ m l' a' w' < m l a w) Q) a w))
    (first : (∀ l' a' w' rest', findLabel c l' = some (.seq .skip rest') → J l' a' w' → rest'.wp P (jumps J Q) a' w') → c.wp P (jumps J Q) a w) : (Code.scope c).wp P Q a w := by
  have mono : ∀ {J1 J2 : Nat → Act → World → Prop} {rest : Code} {a w}, (∀ l a w, J1 l a w → J2 l a w) → rest.wp P (jumps J1 Q) a w → rest.wp P (jumps J2 Q) a w := by
    intro J1 J2 rest a w hj h
    refine wp_mono h ?_
    intro e a w he
    cases e with
    | goto l => exact hj l a w he
    | normal => exact he
    | exit id => exact he
    | ret => exact he
    | panic ch => exact he
    | outgrown => exact he
  have all : ∀ n l a w rest, findLabel c l = some (.seq .skip rest) → m l a w = n → J l a w → rest.wp P (jumps (fun l' a' w' => J l' a' w' ∧ m l' a' w' < n) Q) a w := by
    intro n
    induction n using Nat.strongRecOn with
    | _ n ih =>
      intro l a w rest hf hn hJ
      obtain ⟨rest', hf', hp⟩ := pass l a w hJ
      rw [hf] at hf'
      injection hf' with hf'
      injection hf' with _ hf'
      subst hf'
      rw [hn] at hp
      exact hp (fun l' a' w' rest2 hf2 hJ2 hlt => mono (fun l3 a3 w3 h3 => ⟨h3.1, by omega⟩) (ih _ hlt l' a' w' rest2 hf2 rfl hJ2))
  intro b k cs
  have key : ∀ n l a w rest, findLabel c l = some (.seq .skip rest) → m l a w = n → J l a w → ∃ e a' w', Q e a' w' ∧ Arrives P (lone (b.at a (.code (.seq .skip rest) :: .inScope c :: k)) cs w) b k cs e a' w' := by
    intro n
    induction n using Nat.strongRecOn with
    | _ n ih =>
      intro l a w rest hf hn hJ
      obtain ⟨e, a1, w1, hq, harr⟩ := wp_rest (all n l a w rest hf hn hJ) b (.inScope c :: k) cs
      cases e with
      | normal => exact ⟨.normal, a1, w1, hq, Steps.trans harr (.one step_inScope)⟩
      | exit id => exact ⟨.exit id, a1, w1, hq, fun k' hk => harr k' (by simp [exitTo, hk])⟩
      | goto l' =>
        obtain ⟨hJ', hlt⟩ := hq
        obtain ⟨rest2, hf2, _⟩ := pass l' a1 w1 hJ'
        have hg : gotoIn l' (.inScope c :: k) = some (.code (.seq .skip rest2) :: .inScope c :: k) := by simp [gotoIn, hf2]
        obtain ⟨e2, a2, w2, hq2, harr2⟩ := ih _ (by omega) l' a1 w1 rest2 hf2 rfl hJ'
        exact ⟨e2, a2, w2, hq2, .of_steps (harr _ hg) harr2⟩
      | ret => exact ⟨_, a1, w1, hq, harr⟩
      | panic ch => exact ⟨_, a1, w1, hq, harr⟩
      | outgrown => exact ⟨_, a1, w1, hq, harr⟩
  obtain ⟨e, a1, w1, hq, harr⟩ := first (fun l' a' w' rest' hf hJ => mono (fun _ _ _ h => h.1) (all _ l' a' w' rest' hf rfl hJ)) b (.inScope c :: k) cs
  cases e with
  | normal => exact ⟨.normal, a1, w1, hq, .head step_scope (Steps.trans harr (.one step_inScope))⟩
  | exit id => exact ⟨.exit id, a1, w1, hq, fun k' hk => .head step_scope (harr k' (by simp [exitTo, hk]))⟩
  | goto l' =>
    obtain ⟨rest2, hf2, _⟩ := pass l' a1 w1 hq
    have hg : gotoIn l' (.inScope c :: k) = some (.code (.seq .skip rest2) :: .inScope c :: k) := by simp [gotoIn, hf2]
    obtain ⟨e2, a2, w2, hq2, harr2⟩ := key _ l' a1 w1 rest2 hf2 rfl hq
    exact ⟨e2, a2, w2, hq2, .of_steps (.head step_scope (harr _ hg)) harr2⟩
  | ret => exact ⟨_, a1, w1, hq, .of_steps (.one step_scope) harr⟩
  | panic ch => exact ⟨_, a1, w1, hq, .of_steps (.one step_scope) harr⟩
  | outgrown => exact ⟨_, a1, w1, hq, .of_steps (.one step_scope) harr⟩
end
end Go.Proofs.Ytmpelnbhlhifeaa
