/- Own texts, joined: A7, F8, A13, A8, A16. -/
import Derived.Test.YtjgfkmakfdepcaaGreatDoorR7
import Derived.Test.YtjgfkmakfdepcaaGreatDoorR9
import Derived.Test.YtjgfkmakfdepcaaGreatDoorR13
import Derived.Test.YtjgfkmakfdepcaaGreatDoorR14
import Derived.Test.YtjgfkmakfdepcaaGreatDoorR19
import Derived.Test.YtjgfkmakfdepcaaGreatDoorR22
import Derived.ProofKit
import Derived.Deep.Slices
import Derived.Lib.LaidTab
import Derived.Lib.LaidU8
import Derived.LaidMore
namespace Go.Proofs.YtjgfkmakfdepcaaGreatDoor
open Go.RowKit

/-- the greatest length that the library looks for at once: any number -/
def ML (w : World) : Prop := ∃ m, w.cell? ⟨0, 0, none⟩ = some (.int .i64 m)
theorem ML.below {w w' : World} (h : ML w) (hb : Below w.heap.size w w') : ML w' := by
  obtain ⟨m, h⟩ := h
  exact ⟨m, (hb.cell (cell_lt h)).trans h⟩
theorem parse_names (s : List UInt8) : Names (parseP s).1 ∧ (parseP s).1.length ≤ 32 := by
  by_cases h : (parseP s).2.2 = 0
  · obtain ⟨_, t, h1, h2, h3, _⟩ := parse_sound h
    rw [h2]
    refine ⟨fun c hc => ?_, h3⟩
    have := formed_name (right_formed (tree_right h1 h3) c hc)
    omega
  · rw [parse_none h]
    exact ⟨(fun c hc => by cases hc), by simp⟩
theorem own_rdi {w : World} {B : Nat} {v : Value} {cs : List CM} (h : w.ownsRow B 93 3 v cs.length (flat cs)) : RdI w v cs := by
  rcases own_form h with ⟨rfl, h0⟩ | ⟨g, cap, rfl, _⟩
  · exact Or.inl ⟨rfl, List.length_eq_zero_iff.1 h0⟩
  · exact Or.inr ⟨_, _, rfl, own_rd h⟩
theorem below_drewN {B : Nat} {w w' : World} (h : Below B w w') (n : Nat) : Below B w (w'.drewN n) := ⟨h.os, h.tape, h.output, h.size, h.block⟩
theorem cut_len (l : List UInt8) : (Lib.cut l [61]).1.length ≤ l.length ∧ (Lib.cut l [61]).2.1.length ≤ l.length := by
  unfold Lib.cut
  split
  · simp only [List.length_take, List.length_drop]; omega
  · simp

/-- an action whose expression is a row of one's own -/
structure ActO (B : Nat) (w : World) (p : AP) : Prop where
  own : w.ownsRow B 93 3 p.2 p.1.ex.length (flat p.1.ex)
  len : p.1.ex.length * 32 ≤ 140737488355328
  names : Names p.1.ex
  name : p.1.nm.length ≤ 140737488355328
theorem ActO.rd {B : Nat} {w : World} {p : AP} (h : ActO B w p) : ActR w p := ⟨own_rdi h.own, h.len, h.names, h.name⟩
theorem own_lower {w : World} {B B' : Nat} {e : TypeId} {size n : Nat} {v : Value} {xs : List Value} (h : w.ownsRow B e size v n xs) (hb : B' ≤ B) : w.ownsRow B' e size v n xs := by
  obtain ⟨h1, h2⟩ := h
  refine ⟨h1, ?_⟩
  rcases h2 with h2 | ⟨g, cap, cur, h3, h4, h5⟩
  · exact Or.inl h2
  · exact Or.inr ⟨g, cap, cur, h3, by omega, h5⟩
/-- what read comes to -/
def ReadPost (a : AM) (w : World) (e : Ending) (w' : World) : Prop := ∃ v, e = .returned (.agg #[.int .i64 a.kd, bstr a.nm, v]) ∧ ActO w.heap.size w' (a, v) ∧ Below w.heap.size w w'
theorem ReadPost.of {a b : AM} {w w' : World} {v : Value} {N : ByteArray} {k : Int} (hab : a = b) (hk : k = b.kd) (hN : N.data.toList = b.nm) (hA : ActO w.heap.size w' (b, v)) (hb : Below w.heap.size w w') : ReadPost a w (.returned (.agg #[.int .i64 k, .string N, v])) w' := by
  subst hab; subst hk
  refine ⟨v, ?_, hA, hb⟩
  rw [← hN, bstr_of]

set_option maxRecDepth 100000 in
set_option maxHeartbeats 8000000 in
theorem aread_any (s : ByteArray) (w : World) (hs : s.size ≤ 6000) (hO : Ops w) (hM : ML w) :
    Calls Tryz.prog 32 #[.string s] w (ReadPost (readA s.data.toList) w) := by
  have hsl : s.data.toList.length = s.size := (Lib.size_eq s).symm
  have HB0 : Hid (Below w.heap.size w (w.alloc (.cells #[.int .i64 0, .string ⟨#[]⟩, .slice none 0 0] 59))) := (Below.refl _ _).alloc (Nat.le_refl _) _
  have HD0 : Hid ((w.alloc (.cells #[.int .i64 0, .string ⟨#[]⟩, .slice none 0 0] 59)).heap[w.heap.size]? = some (.cells #[.int .i64 0, .string ⟨#[]⟩, .slice none 0 0] 59 (0, 0))) := heap_at rfl _ _
  have H1 := Lib.hid (Tryz.strings_CutPrefix s ⟨#[114, 97, 105, 115, 101, 58]⟩)
  have H2 := Lib.hid (Tryz.strings_CutPrefix s ⟨#[115, 101, 110, 100, 58]⟩)
  by_cases hp : Lib.hasPrefix s.data.toList wRaise = true
  · have hrd : readA s.data.toList = ⟨2, s.data.toList.drop 6, []⟩ := if_pos hp
    have ht : Lib.trimPrefix s.data.toList wRaise = s.data.toList.drop 6 := by unfold Lib.trimPrefix; rw [if_pos hp]; rfl
    obtain ⟨X, hX⟩ : ∃ X : ByteArray, (⟨(s.data.toList.drop 6).toArray⟩ : ByteArray) = X := ⟨_, rfl⟩
    have hXl : X.data.toList = s.data.toList.drop 6 := by rw [← hX]
    have hXs : X.size ≤ 6000 := by rw [Lib.size_eq, hXl, List.length_drop]; omega
    rw [← hXl] at hrd
    have HM1 : Hid (∀ W, Calls Tryz.prog 59 #[.string s, .string ⟨#[114, 97, 105, 115, 101, 58]⟩] W fun e w' => e = .returned (.tuple #[.string X, .bool true]) ∧ w' = W) := fun W => (H1.out W).mono (by rintro e w' ⟨he, hw⟩; exact ⟨by rw [he, ← hX]; rw [show Lib.hasPrefix s.data.toList (ByteArray.mk #[114, 97, 105, 115, 101, 58]).data.toList = true from hp, show Lib.trimPrefix s.data.toList (ByteArray.mk #[114, 97, 105, 115, 101, 58]).data.toList = s.data.toList.drop 6 from ht], hw⟩)
    have HCL : Hid (∀ W, Calls Tryz.prog 37 #[.string X] W fun e w' => e = .returned (.string X) ∧ Below W.heap.size W w') := fun W => clone_any X W (by omega)
    have HRD := Lib.hid hrd
    have hXn : X.data.toList.length ≤ 140737488355328 := by rw [← Lib.size_eq]; omega
    have HXN := Lib.hid hXn
    clear hX hXl hXs hrd hO hM hsl hXn ht H1 H2 hp
    generalize readA s.data.toList = rd at *
    go_enter Tryz.func32, Tryz.ntmps32
    go_wp2_with fail
    refine (HM1.out _).mono ?_
    rintro e w1 ⟨rfl, rfl⟩
    go_wp2_with fail
    refine (HCL.out _).mono ?_
    rintro e w3 ⟨rfl, hb3⟩
    have HD3 := Lib.hid ((hb3.block _ (lt_of_block HD0.out)).trans HD0.out)
    have HB3 := Lib.hid (HB0.out.trans (hb3.mono HB0.out.size))
    clear hb3
    obtain ⟨c0, c1, c2, f0, f1, f2⟩ := at3 HD3.out
    go_wp2
    obtain ⟨⟨r0, r1, r2⟩, hbl⟩ := fin3 HD3.out (Nat.le_refl _) HB3.out (.int .i64 2) (.string X) (.slice none 0 0)
    exact bodyPost_ret (v := .agg #[.int .i64 2, .string X, .slice none 0 0]) (by simp [results, Tryz.results32, go_sem, r0, r1, r2]) rfl (ReadPost.of HRD.out rfl rfl ⟨World.ownsRow_nil _ _ _ _, by simp, (fun c hc => by cases hc), HXN.out⟩ hbl)
  · have hp' := (Bool.not_eq_true _).mp hp
    by_cases hq : Lib.hasPrefix s.data.toList wSend = true
    · have hrd : readA s.data.toList = ⟨3, s.data.toList.drop 5, []⟩ := by unfold readA; rw [if_neg hp, if_pos hq]
      have ht : Lib.trimPrefix s.data.toList wSend = s.data.toList.drop 5 := by unfold Lib.trimPrefix; rw [if_pos hq]; rfl
      obtain ⟨X, hX⟩ : ∃ X : ByteArray, (⟨(s.data.toList.drop 5).toArray⟩ : ByteArray) = X := ⟨_, rfl⟩
      have hXl : X.data.toList = s.data.toList.drop 5 := by rw [← hX]
      have hXs : X.size ≤ 6000 := by rw [Lib.size_eq, hXl, List.length_drop]; omega
      rw [← hXl] at hrd
      have HM1 : Hid (∀ W, Calls Tryz.prog 59 #[.string s, .string ⟨#[115, 101, 110, 100, 58]⟩] W fun e w' => e = .returned (.tuple #[.string X, .bool true]) ∧ w' = W) := fun W => (H2.out W).mono (by rintro e w' ⟨he, hw⟩; exact ⟨by rw [he, ← hX]; rw [show Lib.hasPrefix s.data.toList (ByteArray.mk #[115, 101, 110, 100, 58]).data.toList = true from hq, show Lib.trimPrefix s.data.toList (ByteArray.mk #[115, 101, 110, 100, 58]).data.toList = s.data.toList.drop 5 from ht], hw⟩)
      have HM0 : Hid (∀ W, Calls Tryz.prog 59 #[.string s, .string ⟨#[114, 97, 105, 115, 101, 58]⟩] W fun e w' => ∃ x, e = .returned (.tuple #[.string x, .bool false]) ∧ w' = W) := fun W => (H1.out W).mono (by rintro e w' ⟨he, hw⟩; exact ⟨_, by rw [he]; rw [show Lib.hasPrefix s.data.toList (ByteArray.mk #[114, 97, 105, 115, 101, 58]).data.toList = false from hp'], hw⟩)
      have HCL : Hid (∀ W, Calls Tryz.prog 37 #[.string X] W fun e w' => e = .returned (.string X) ∧ Below W.heap.size W w') := fun W => clone_any X W (by omega)
      have HRD := Lib.hid hrd
      have hXn : X.data.toList.length ≤ 140737488355328 := by rw [← Lib.size_eq]; omega
      have HXN := Lib.hid hXn
      clear hX hXl hXs hrd hO hM hsl hXn ht H1 H2 hp hp' hq
      generalize readA s.data.toList = rd at *
      go_enter Tryz.func32, Tryz.ntmps32
      go_wp2_with fail
      refine (HM0.out _).mono ?_
      rintro e w1 ⟨x1, rfl, rfl⟩
      go_wp2_with fail
      refine (HM1.out _).mono ?_
      rintro e w1 ⟨rfl, rfl⟩
      go_wp2_with fail
      refine (HCL.out _).mono ?_
      rintro e w3 ⟨rfl, hb3⟩
      have HD3 := Lib.hid ((hb3.block _ (lt_of_block HD0.out)).trans HD0.out)
      have HB3 := Lib.hid (HB0.out.trans (hb3.mono HB0.out.size))
      clear hb3
      obtain ⟨c0, c1, c2, f0, f1, f2⟩ := at3 HD3.out
      go_wp2
      obtain ⟨⟨r0, r1, r2⟩, hbl⟩ := fin3 HD3.out (Nat.le_refl _) HB3.out (.int .i64 3) (.string X) (.slice none 0 0)
      exact bodyPost_ret (v := .agg #[.int .i64 3, .string X, .slice none 0 0]) (by simp [results, Tryz.results32, go_sem, r0, r1, r2]) rfl (ReadPost.of HRD.out rfl rfl ⟨World.ownsRow_nil _ _ _ _, by simp, (fun c hc => by cases hc), HXN.out⟩ hbl)
    · have hq' := (Bool.not_eq_true _).mp hq
      have hrd : readA s.data.toList = ⟨1, (Lib.cut s.data.toList [61]).1, (parseP (Lib.cut s.data.toList [61]).2.1).1⟩ := by unfold readA; rw [if_neg hp, if_neg hq]
      obtain ⟨hc1, hc2⟩ := cut_len s.data.toList
      obtain ⟨m, hm⟩ := hM
      have hm0 : (w.alloc (.cells #[.int .i64 0, .string ⟨#[]⟩, .slice none 0 0] 59)).cell? ⟨0, 0, none⟩ = some (.int .i64 m) := (HB0.out.cell (cell_lt hm)).trans hm
      have H3 := Lib.hid (Tryz.strings_Cut s ⟨#[61]⟩ m (w.alloc (.cells #[.int .i64 0, .string ⟨#[]⟩, .slice none 0 0] 59)) (by omega) hm0)
      obtain ⟨X, hX⟩ : ∃ X : ByteArray, (⟨(Lib.cut s.data.toList [61]).1.toArray⟩ : ByteArray) = X := ⟨_, rfl⟩
      obtain ⟨Y, hY⟩ : ∃ Y : ByteArray, (⟨(Lib.cut s.data.toList [61]).2.1.toArray⟩ : ByteArray) = Y := ⟨_, rfl⟩
      have hXl : X.data.toList = (Lib.cut s.data.toList [61]).1 := by rw [← hX]
      have hYl : Y.data.toList = (Lib.cut s.data.toList [61]).2.1 := by rw [← hY]
      have hXs : X.size ≤ 6000 := by rw [Lib.size_eq, hXl]; omega
      have hYs : Y.size ≤ 6000 := by rw [Lib.size_eq, hYl]; omega
      rw [← hYl, ← hXl] at hrd
      have H3' : Hid (Calls Tryz.prog 60 #[.string s, .string ⟨#[61]⟩] (w.alloc (.cells #[.int .i64 0, .string ⟨#[]⟩, .slice none 0 0] 59)) fun e w' => ∃ b, e = .returned (.tuple #[.string X, .string Y, .bool b]) ∧ ∃ n, w' = (w.alloc (.cells #[.int .i64 0, .string ⟨#[]⟩, .slice none 0 0] 59)).drewN n) := by
        refine H3.out.mono ?_
        rintro e w' ⟨he, hw⟩
        exact ⟨_, by rw [he, ← hX, ← hY], hw⟩
      have HPR : Hid (∀ W, Below w.heap.size w W → Calls Tryz.prog 61 #[.string Y] W (ParsePost Y.data.toList W)) := fun W hb => parse_any Y W (hO.below hb) (by omega)
      have HNM := Lib.hid (parse_names Y.data.toList)
      have HCL : Hid (∀ W, Calls Tryz.prog 37 #[.string X] W fun e w' => e = .returned (.string X) ∧ Below W.heap.size W w') := fun W => clone_any X W (by omega)
      have HRD := Lib.hid hrd
      have hXn : X.data.toList.length ≤ 140737488355328 := by rw [← Lib.size_eq]; omega
      have HXN := Lib.hid hXn
      clear hX hY hXl hYl hXs hYs hrd hc1 hc2 hm hm0 H3 hO hp hq hsl hXn
      generalize readA s.data.toList = rd at *
      have H1' : Hid (∀ W, Calls Tryz.prog 59 #[.string s, .string ⟨#[114, 97, 105, 115, 101, 58]⟩] W fun e w' => ∃ x, e = .returned (.tuple #[.string x, .bool false]) ∧ w' = W) := fun W => (H1.out W).mono (by rintro e w' ⟨he, hw⟩; exact ⟨_, by rw [he]; rw [show Lib.hasPrefix s.data.toList (ByteArray.mk #[114, 97, 105, 115, 101, 58]).data.toList = false from hp'], hw⟩)
      have H2' : Hid (∀ W, Calls Tryz.prog 59 #[.string s, .string ⟨#[115, 101, 110, 100, 58]⟩] W fun e w' => ∃ x, e = .returned (.tuple #[.string x, .bool false]) ∧ w' = W) := fun W => (H2.out W).mono (by rintro e w' ⟨he, hw⟩; exact ⟨_, by rw [he]; rw [show Lib.hasPrefix s.data.toList (ByteArray.mk #[115, 101, 110, 100, 58]).data.toList = false from hq'], hw⟩)
      clear H1 H2 hp' hq'
      go_enter Tryz.func32, Tryz.ntmps32
      go_wp2_with fail
      refine (H1'.out _).mono ?_
      rintro e w1 ⟨x1, rfl, rfl⟩
      go_wp2_with fail
      refine (H2'.out _).mono ?_
      rintro e w1 ⟨x2, rfl, rfl⟩
      go_wp2_with fail
      refine H3'.out.mono ?_
      rintro e w1 ⟨bb, rfl, n, rfl⟩
      have HB1 : Hid (Below w.heap.size w ((w.alloc (.cells #[.int .i64 0, .string ⟨#[]⟩, .slice none 0 0] 59)).drewN n)) := below_drewN HB0.out n
      go_wp2_with fail
      refine (HPR.out _ HB1.out).mono ?_
      rintro e w2 ⟨v, rfl, hown, hb2⟩
      obtain ⟨Av, cv, rfl⟩ := own_slice hown
      have HD2 : Hid (w2.heap[w.heap.size]? = some (.cells #[.int .i64 0, .string ⟨#[]⟩, .slice none 0 0] 59 (0, 0))) := (hb2.block _ (by simp [World.drewN])).trans HD0.out
      have HB2 := Lib.hid (HB1.out.trans (hb2.mono HB1.out.size))
      have HO2 := Lib.hid hown
      have hge : w.heap.size + 1 ≤ ((w.alloc (.cells #[.int .i64 0, .string ⟨#[]⟩, .slice none 0 0] 59)).drewN n).heap.size := by simp [World.drewN]
      have HGE := Lib.hid hge
      clear hb2 hown hge
      go_wp2_with fail
      refine (HCL.out _).mono ?_
      rintro e w3 ⟨rfl, hb3⟩
      have HD3 := Lib.hid ((hb3.block _ (lt_of_block HD2.out)).trans HD2.out)
      have HB3 := Lib.hid (HB2.out.trans (hb3.mono HB2.out.size))
      have HO3 := Lib.hid (own_below HO2.out hb3)
      clear hb3
      obtain ⟨c0, c1, c2, f0, f1, f2⟩ := at3 HD3.out
      go_wp2
      obtain ⟨⟨r0, r1, r2⟩, hbl⟩ := fin3 HD3.out (Nat.le_refl _) HB3.out (.int .i64 1) (.string X) (.slice Av (parseP Y.data.toList).1.length cv)
      have HO4 := HO3.out.kept (Lib.grownBy_setB (Lib.grownBy_setB (Lib.grownBy_setB (World.grownBy.refl w3 (some w.heap.size)) 0 (.int .i64 1)) 1 (.string X)) 2 (.slice Av (parseP Y.data.toList).1.length cv)) (by
        cases hv : Value.ownBlock (.slice Av (parseP Y.data.toList).1.length cv) with
        | none => exact Or.inl rfl
        | some g => exact Or.inr (fun he => by have := (HO3.out.lt g hv).1; have h2 := HGE.out; injection he with he; omega))
      exact bodyPost_ret (v := .agg #[.int .i64 1, .string X, (.slice Av (parseP Y.data.toList).1.length cv)]) (by simp [results, Tryz.results32, go_sem, r0, r1, r2]) rfl (ReadPost.of HRD.out rfl rfl ⟨own_lower HO4 (by have := HGE.out; omega), by have := HNM.out.2; simp only; omega, HNM.out.1, HXN.out⟩ hbl)
end Go.Proofs.YtjgfkmakfdepcaaGreatDoor
namespace Go.Proofs.YtjgfkmakfdepcaaGreatDoor
open Go.RowKit Go.ChangeShapes Go.WideShapes Go.ChangeAt

theorem cellsOp : Tryz.prog.cellsOf 157 = 3 := by kernel_rfl
theorem cellsOps : Tryz.prog.cellsOf 158 = 39 := by kernel_rfl

section
variable {H : Type} {enc : TypeId × Value → H} {W : World} {base : Nat} {sp : Nat → Bool} {held : Bool} {fuel : Nat} {cs : List Value}

set_option maxRecDepth 100000 in
theorem op_struct {o st : Int} {b : List UInt8} {q : List MemPlace} (h : DataW.trod enc Tryz.prog W base sp held fuel 157 cs = some (.agg [.lit (.int .i64 o), .lit (.string b), .lit (.int .i64 st)], q)) : cs = [.int .i64 o, .string ⟨b.toArray⟩, .int .i64 st] := by
  obtain ⟨xs, n, rfl, hx, hl, hxl, hf⟩ := DataW.trod_struct Tryz.underlying157 h
  rw [cellsOp] at hl
  match cs, hl with
  | [u0, u1, u2], _ =>
    have e0 : DataW.trod enc Tryz.prog W base sp held n 3 (([u0, u1, u2].drop 0).take (Tryz.prog.cellsOf 3)) = xs[0]? := hf 0 _ rfl
    have e1 : DataW.trod enc Tryz.prog W base sp held n 9 (([u0, u1, u2].drop 1).take (Tryz.prog.cellsOf 9)) = xs[1]? := hf 1 _ rfl
    have e2 : DataW.trod enc Tryz.prog W base sp held n 3 (([u0, u1, u2].drop 2).take (Tryz.prog.cellsOf 3)) = xs[2]? := hf 2 _ rfl
    have hx3 : xs.length = 3 := hxl
    match xs, hx3 with
    | [y0, y1, y2], _ =>
      rw [cellsI] at e0 e2
      rw [cellsS] at e1
      obtain ⟨z0, h0, g0, _⟩ := DataW.trod_int Tryz.underlying3 (show _ = some y0 from e0)
      obtain ⟨z1, h1, g1, _⟩ := DataW.trod_string Tryz.underlying9 (show _ = some y1 from e1)
      obtain ⟨z2, h2, g2, _⟩ := DataW.trod_int Tryz.underlying3 (show _ = some y2 from e2)
      simp at h0 h1 h2
      subst g0; subst g1; subst g2
      simp at hx
      obtain ⟨⟨rfl, rfl, rfl⟩, _⟩ := hx
      rw [h0, h1, h2]
end

set_option maxRecDepth 100000 in
/-- a table of operators that reads as the program's text lays it -/
theorem ops_of {W : World} (h : Lib.VarReads Tryz.prog W "quintain/expr.operators" (.agg (tabOps.map fun o => .agg [.lit (.int .i64 o.1), .lit (.string o.2.1), .lit (.int .i64 o.2.2)]))) : Ops W := by
  obtain ⟨g, t, cs, fuel, p, hg, ht, hv, hd⟩ := h
  obtain rfl := Option.some.inj (gOps.symm.trans hg)
  obtain rfl : 158 = t := Option.some.inj ((show (Tryz.prog.globals[1]?).map (·.type) = some 158 by kernel_rfl).symm.trans ht)
  unfold Ops
  rw [hv]
  congr 1
  apply Array.toList_inj.1
  have hlen : cs.toList.length = 39 := by
    cases fuel with
    | zero => simp [DataW.trod] at hd
    | succ fuel =>
      simp only [DataW.trod, Tryz.underlying158] at hd
      split at hd
      · rename_i hl
        rw [cellsOps] at hl
        simpa using hl
      · cases hd
  have hrow : ∀ i, i < 13 → (cs.toList.drop (i * 3)).take 3 = opRow (tabAt i) := by
    intro i hi
    obtain ⟨f', d, q, hd1, hd2⟩ := Lib.array_elem Tryz.underlying158 hd i hi
    rw [cellsOp] at hd2
    have hd3 : d = .agg [.lit (.int .i64 (tabAt i).1), .lit (.string (tabAt i).2.1), .lit (.int .i64 (tabAt i).2.2)] := by
      rw [List.getElem?_map, List.getElem?_eq_getElem (by simp [tabOps]; omega)] at hd1
      have := Option.some.inj hd1
      rw [← this]
      unfold tabAt
      rw [List.getD_eq_getElem?_getD, List.getElem?_eq_getElem (by simp [tabOps]; omega)]
      rfl
    rw [hd3] at hd2
    exact op_struct hd2
  apply List.ext_getElem?
  intro j
  by_cases hj : j < 39
  · have h1 := hrow (j / 3) (by omega)
    obtain ⟨t0, t1, t2⟩ := tab_cells (j / 3) (by omega)
    rw [← Array.getElem?_toList] at t0 t1 t2
    have hc : j = j / 3 * 3 ∨ j = j / 3 * 3 + 1 ∨ j = j / 3 * 3 + 2 := by omega
    have get : ∀ r, r < 3 → cs.toList[j / 3 * 3 + r]? = (opRow (tabAt (j / 3)))[r]? := by
      intro r hr
      rw [← h1, List.getElem?_take, if_pos hr, List.getElem?_drop]
    rcases hc with e | e | e
    · rw [e]; exact (get 0 (by omega)).trans (by rw [t0]; rfl)
    · rw [e]; exact (get 1 (by omega)).trans (by rw [t1]; rfl)
    · rw [e]; exact (get 2 (by omega)).trans (by rw [t2]; rfl)
  · rw [List.getElem?_eq_none (by omega), List.getElem?_eq_none (by simp [opsCells, tabOps, opRow]; omega)]
end Go.Proofs.YtjgfkmakfdepcaaGreatDoor
namespace Go.Proofs.YtjgfkmakfdepcaaGreatDoor
open Go.RowKit Go.ChangeShapes Go.WideShapes Go.ChangeAt Go.Joins

theorem cellsAct : Tryz.prog.cellsOf 59 = 3 := by kernel_rfl
theorem cellsSlC : Tryz.prog.cellsOf 57 = 1 := by kernel_rfl
theorem bytesAct : Tryz.prog.bytesOf 59 = 48 := by kernel_rfl
/-- the number that the library looks for at once is some number -/
theorem ml_of {W : World} (h : W.ShapedOpen Tryz.prog) : ML W :=
  Go.Proofs.cell_of_shapedOpen_int (zero := #[.int .i64 0]) (t := 3) h (of_decide_eq_true (by kernel_rfl)) (by kernel_rfl) rfl (by kernel_rfl) (by kernel_rfl) Tryz.underlying3

section
variable {H : Type} {enc : TypeId × Value → H} {W : World} {fuel : Nat} {cs : List Value}
set_option maxRecDepth 100000 in
theorem act_struct {x : DataW H × List MemPlace} (h : DataW.trod enc Tryz.prog W 0 (fun _ => true) true fuel 59 cs = some x) :
    ∃ (k : Int) (s : ByteArray) (v : Value) (y : DataW H × List MemPlace) (n : Nat) (d0 : DataW H), cs = [.int .i64 k, .string s, v] ∧ x.1 = .agg [d0, .lit (.string s.data.toList), y.1] ∧ DataW.trod enc Tryz.prog W 0 (fun _ => true) true n 57 [v] = some y := by
  obtain ⟨xs, n, rfl, hx, hl, hxl, hf⟩ := DataW.trod_struct Tryz.underlying59 h
  rw [cellsAct] at hl
  match cs, hl with
  | [u0, u1, u2], _ =>
    have e0 : DataW.trod enc Tryz.prog W 0 (fun _ => true) true n 3 (([u0, u1, u2].drop 0).take (Tryz.prog.cellsOf 3)) = xs[0]? := hf 0 _ rfl
    have e1 : DataW.trod enc Tryz.prog W 0 (fun _ => true) true n 9 (([u0, u1, u2].drop 1).take (Tryz.prog.cellsOf 9)) = xs[1]? := hf 1 _ rfl
    have e2 : DataW.trod enc Tryz.prog W 0 (fun _ => true) true n 57 (([u0, u1, u2].drop 2).take (Tryz.prog.cellsOf 57)) = xs[2]? := hf 2 _ rfl
    have hx3 : xs.length = 3 := hxl
    match xs, hx3 with
    | [y0, y1, y2], _ =>
      rw [cellsI] at e0
      rw [cellsS] at e1
      rw [cellsSlC] at e2
      obtain ⟨a, h0, _, _⟩ := DataW.trod_int Tryz.underlying3 (show _ = some y0 from e0)
      obtain ⟨s, h1, g1, _⟩ := DataW.trod_string Tryz.underlying9 (show _ = some y1 from e1)
      simp at h0 h1
      refine ⟨a, s, u2, y2, n, y0.1, by rw [h0, h1], by rw [hx, g1]; rfl, e2⟩
end

section
variable {H : Type} {enc : TypeId × Value → H} {W : World} {n : Nat} {v : Value} {y : DataW H × List MemPlace}
set_option maxRecDepth 100000 in
theorem acts_in (h : DataW.trod enc Tryz.prog W 0 (fun _ => true) true n 22 [v] = some y) (hw : ∀ x ∈ y.1.weights Tryz.prog 22, x ≤ 140737488355328) :
    ∃ ps, RdA W v ps ∧ ps.length * 48 ≤ 140737488355328 ∧ ∀ A m c, v = .slice A m c → m ≤ c := by
  obtain ⟨rows, h1, h2, h4⟩ := open_rows Tryz.underlying22 cellsAct (by decide) h
  rcases h2 with ⟨_, rfl⟩ | ⟨es, sp, hy, hl, hr⟩
  · exact ⟨[], ⟨h1, fun p hp => by cases hp⟩, by simp, h4⟩
  · rw [hy] at hw
    simp only [DataW.weights, Tryz.underlying22, List.mem_cons, List.mem_append] at hw
    obtain ⟨ps, rfl, hps⟩ := rows_at actV (fun _ (p : AP) => ActR W p) rows 0 (fun i r hir => by
      obtain ⟨k, d, q, he, ht⟩ := hr i r hir
      obtain ⟨ak, s, u, z, m, d0, rfl, hd, hz⟩ := act_struct ht
      obtain ⟨cs, hc1, hc2, hc3, _⟩ := cells_in hz
      refine ⟨(⟨ak, s.data.toList, cs⟩, u), by simp only [actV]; rw [bstr_of], hc1, ?_, hc2, ?_⟩
      · rcases hc3 with ⟨_, rfl⟩ | ⟨es2, sp2, hz2, hl2⟩
        · simp
        · have hm := hw ((es2.length + sp2.length) * Tryz.prog.bytesOf 93) (Or.inr (Or.inl (weights_all es i d he _ (by
            simp only at hd
            rw [hd, hz2]
            simp [DataW.weights, DataW.weightsEach, Tryz.underlying59, Tryz.underlying57]))))
          rw [bytesCell] at hm
          simp only; omega
      · have hm := hw s.data.toList.length (Or.inr (Or.inl (weights_all es i d he _ (by
          simp only at hd
          rw [hd]
          simp [DataW.weights, DataW.weightsEach, Tryz.underlying59]))))
        exact hm)
    have hf : (ps.map actV).flatten = flatA ps := by simp [flatA, List.flatMap_def]
    rw [hf, List.length_map] at h1
    refine ⟨ps, ⟨h1, fun p hp => ?_⟩, ?_, h4⟩
    · obtain ⟨i, hi⟩ := List.getElem?_of_mem hp
      exact hps i p hi
    · have hm := hw ((es.length + sp.length) * Tryz.prog.bytesOf 59) (Or.inl rfl)
      rw [bytesAct] at hm
      rw [List.length_map] at hl
      omega
end

set_option maxRecDepth 100000 in
theorem open_acts {H : Type} {enc : TypeId × Value → H} {W : World} {r : Reach} {b0 : Nat} {v : Value} {d : DataW H} {ps : List MemPlace} (hval : Value.okWide Tryz.prog W r b0 22 v)
    (h : DataW.Trod enc Tryz.prog W 0 (fun _ => true) true 22 v d ps) {ts : List TypeId} {ds : List (DataW H)} (hsz : (DataW.weightsEach Tryz.prog ts ds).all (· ≤ reachBytes) = true) {j : Nat} (ht : ts[j]? = some 22) (hd : ds[j]? = some d) :
    ∃ al, RdA W v al ∧ al.length * 48 ≤ 140737488355328 ∧ ∀ A m c, v = .slice A m c → m ≤ c := by
  obtain ⟨a0, len, cap, rfl⟩ := okWide_slice Tryz.underlying22 hval
  obtain ⟨fuel, hf⟩ := h
  refine acts_in (y := (d, ps)) hf (fun x hx => ?_)
  have := List.all_eq_true.1 hsz _ (DataW.weights_mem_each ht hd x hx)
  unfold reachBytes at this
  simp at this
  omega

set_option maxRecDepth 100000 in
theorem open_vscope {H : Type} {enc : TypeId × Value → H} {W : World} {r : Reach} {b0 : Nat} {v : Value} {d : DataW H} {ps : List MemPlace} (hval : Value.okWide Tryz.prog W r b0 41 v)
    (h : DataW.Trod enc Tryz.prog W 0 (fun _ => true) true 41 v d ps) :
    ∃ (vv xv : Value) (vs : List VM) (xs : List VA) (d1 d2 : DataW H), v = .agg #[vv, xv] ∧ d = .agg [d1, d2] ∧ RdV W vv vs ∧ RdX W xv xs ∧ (∀ x ∈ xs, inL x.a = true) ∧
      ((d1 = .nil ∧ vs = []) ∨ ∃ es sp, d1 = .slice es sp ∧ vs.length = es.length) ∧ ((d2 = .nil ∧ xs = []) ∨ ∃ es sp, d2 = .slice es sp ∧ xs.length = es.length) := by
  obtain ⟨v0, v1, y0, y1, n, rfl, rfl, _, h0, h1⟩ := open_agg2 Tryz.underlying41 (by kernel_rfl) (by kernel_rfl) hval h
  obtain ⟨vs, a1, _, a2, _⟩ := vars_in h0
  obtain ⟨xs, b1, b2, b3⟩ := vals_in h1
  exact ⟨v0, v1, vs, xs, y0.1, y1.1, rfl, rfl, a1, b1, b2, a2, b3⟩

set_option maxRecDepth 100000 in
theorem vscope_sized {H : Type} {ts : List TypeId} {ds : List (DataW H)} (h : (DataW.weightsEach Tryz.prog ts ds).all (· ≤ reachBytes) = true) {j : Nat} {d1 d2 : DataW H} {vs : List VM} {xs : List VA} (ht : ts[j]? = some 41) (hd : ds[j]? = some (.agg [d1, d2]))
    (h1 : (d1 = .nil ∧ vs = []) ∨ ∃ es sp, d1 = .slice es sp ∧ vs.length = es.length) (h2 : (d2 = .nil ∧ xs = []) ∨ ∃ es sp, d2 = .slice es sp ∧ xs.length = es.length) : vs.length * 64 ≤ reachBytes ∧ xs.length * 24 ≤ reachBytes := by
  refine ⟨?_, ?_⟩
  · rcases h1 with ⟨_, rfl⟩ | ⟨es, sp, rfl, hl⟩
    · simp
    · have := List.all_eq_true.1 h _ (DataW.weights_mem_each ht hd ((es.length + sp.length) * Tryz.prog.bytesOf 56) (by simp [DataW.weights, DataW.weightsEach, Tryz.underlying41, Tryz.underlying38]))
      rw [bytesVar] at this
      simp at this
      omega
  · rcases h2 with ⟨_, rfl⟩ | ⟨es, sp, rfl, hl⟩
    · simp
    · have := List.all_eq_true.1 h _ (DataW.weights_mem_each ht hd ((es.length + sp.length) * Tryz.prog.bytesOf 54) (by simp [DataW.weights, DataW.weightsEach, Tryz.underlying41, Tryz.underlying39]))
      rw [bytesVal] at this
      simp at this
      omega
end Go.Proofs.YtjgfkmakfdepcaaGreatDoor
namespace Go.Proofs.YtjgfkmakfdepcaaGreatDoor
open Go.RowKit

theorem semis_le : ∀ (s : List UInt8), ∀ p ∈ semis s, p.length ≤ s.length
  | [], p, h => by simp [semis] at h; subst h; simp
  | c :: r, p, h => by
    have ih := semis_le r
    unfold semis at h
    split at h
    · rcases List.mem_cons.1 h with rfl | h
      · simp
      · have := ih p h; simp; omega
    · split at h
      · rename_i he; exact absurd he (semis_ne r)
      · rename_i q qs he
        rcases List.mem_cons.1 h with rfl | h
        · have := ih q (by rw [he]; simp); simp; omega
        · have := ih p (by rw [he]; simp [h]); simp; omega

/-- what Parse comes to -/
def ParsedPost (l : List AM) (er : Int) (w : World) (e : Ending) (w' : World) : Prop :=
  ∃ v ps, e = .returned (.tuple #[v, .int .i64 er]) ∧ ps.map Prod.fst = l ∧ w'.ownsRow w.heap.size 59 3 v ps.length (flatA ps) ∧ (∀ p ∈ ps, ActR w' p) ∧ Below w.heap.size w w'
theorem ParsedPost.no {er : Int} {w w' : World} (hb : Below w.heap.size w w') : ParsedPost [] er w (.returned (.tuple #[.slice none 0 0, .int .i64 er])) w' :=
  ⟨_, [], rfl, rfl, World.ownsRow_nil _ _ _ _, (fun p hp => by cases hp), hb⟩
/-- where the loop stands -/
structure PaI (l : List (List UInt8)) (w wr : World) (k : Nat) (lv : Value) (ps : List AP) : Prop where
  le : k ≤ l.length
  eq : ps.map Prod.fst = (l.take k).map readA
  one : ((l.take k).map readA).all oneB = true
  row : wr.ownsRow w.heap.size 59 3 lv ps.length (flatA ps)
  act : ∀ p ∈ ps, ActO w.heap.size wr p
  far : ∀ p ∈ ps, ∀ g, lv.ownBlock = some g → p.2.ownBlock ≠ some g
  below : Below w.heap.size w wr
theorem ActO.below {B : Nat} {w w' : World} {p : AP} (h : ActO B w p) (hb : Below w.heap.size w w') : ActO B w' p := ⟨own_below h.own hb, h.len, h.names, h.name⟩
theorem PaI.moved {l : List (List UInt8)} {w wr w' : World} {k : Nat} {lv : Value} {ps : List AP} (h : PaI l w wr k lv ps) (hb : Below wr.heap.size wr w') : PaI l w w' k lv ps :=
  ⟨h.le, h.eq, h.one, own_below h.row hb, fun p hp => (h.act p hp).below hb, h.far, h.below.trans (hb.mono h.below.size)⟩
theorem PaI.len {l : List (List UInt8)} {w wr : World} {k : Nat} {lv : Value} {ps : List AP} (h : PaI l w wr k lv ps) : ps.length = k := by
  have := congrArg List.length h.eq
  rw [List.length_map, List.length_map, List.length_take] at this
  have := h.le
  omega
theorem PaI.push {l : List (List UInt8)} {w wr w' : World} {k : Nat} {lv lv' v : Value} {ps : List AP} (h : PaI l w wr k lv ps) (hk : k < l.length) (ho : oneB (readA l[k]) = true) (hA : ActO wr.heap.size wr (readA l[k], v) ∨ ActO w.heap.size wr (readA l[k], v) ∧ ∀ g, lv.ownBlock = some g → v.ownBlock ≠ some g)
    (hr : w'.ownsRow w.heap.size 59 3 lv' (ps.length + 1) (flatA ps ++ actV (readA l[k], v))) (hg : wr.grownBy w' lv.ownBlock)
    (hob : (lv'.ownBlock = lv.ownBlock ∧ ∀ g, lv'.ownBlock = some g → g < w'.heap.size) ∨ ∀ g, lv'.ownBlock = some g → wr.heap.size ≤ g ∧ g < w'.heap.size) : PaI l w w' (k + 1) lv' (ps ++ [(readA l[k], v)]) := by
  have hs := h.below.size
  have hA1 : ActO w.heap.size wr (readA l[k], v) := by
    rcases hA with hA | ⟨hA, _⟩
    · exact ⟨own_lower hA.own hs, hA.len, hA.names, hA.name⟩
    · exact hA
  have hA2 : ∀ g, lv.ownBlock = some g → v.ownBlock ≠ some g := by
    rcases hA with hA | ⟨_, hA⟩
    · intro g h1 h2
      have := (hA.own.lt g h2).1
      have := (h.row.lt g h1).2
      omega
    · exact hA
  have hall : ∀ p ∈ ps ++ [(readA l[k], v)], ActO w.heap.size wr p ∧ ∀ g, lv.ownBlock = some g → p.2.ownBlock ≠ some g := by
    intro p hp
    rcases List.mem_append.1 hp with hp | hp
    · exact ⟨h.act p hp, h.far p hp⟩
    · simp at hp; subst hp; exact ⟨hA1, hA2⟩
  have ht : l.take (k + 1) = l.take k ++ [l[k]] := List.take_succ_eq_append_getElem hk
  refine ⟨hk, ?_, ?_, ?_, fun p hp => ?_, fun p hp => ?_, h.below.grown hg hs (fun g hg' => (h.row.lt g hg').1)⟩
  · rw [ht, List.map_append, List.map_append, h.eq]; rfl
  · rw [ht, List.map_append, List.all_append, h.one]; simp [ho]
  · rw [flatA_append, List.length_append]
    simpa [flatA] using hr
  · obtain ⟨h1, h2⟩ := hall p hp
    exact ⟨own_grown h1.own hg h2, h1.len, h1.names, h1.name⟩
  · obtain ⟨h1, h2⟩ := hall p hp
    exact ne_symm (new_ne h1.own (ne_symm h2) hob)
theorem all_wrong {l : List (List UInt8)} {k : Nat} (hk : k < l.length) (h : oneB (readA l[k]) = false) : (l.map readA).all oneB = false := by
  rw [List.all_eq_false]
  exact ⟨readA l[k], List.mem_map.2 ⟨_, List.getElem_mem hk, rfl⟩, by simp [h]⟩
theorem infoAct : (Tryz.prog.info? 59).map (fun i => (i.zero, i.size, i.bytes)) = some (some (.agg #[.int .i64 0, .string ByteArray.empty, .slice none 0 0]), 3, 48) := by kernel_rfl

set_option maxRecDepth 100000 in
set_option maxHeartbeats 8000000 in
theorem parseA_any (s : ByteArray) (w : World) (hO : Ops w) (hM : ML w) (hs : s.size ≤ 9223372036854775807) :
    Calls Tryz.prog 15 #[.string s] w (ParsedPost (parseA s.data.toList).1 (parseA s.data.toList).2 w) := by
  have hsl : s.data.toList.length = s.size := (Lib.size_eq s).symm
  by_cases h6 : 6000 < s.size
  · have hp : parseA s.data.toList = ([], 4) := if_pos (Or.inl (by omega))
    have h6' : (6000 : Int) < s.size := by omega
    rw [hp]; clear hp hsl
    go_enter Tryz.func15, Tryz.ntmps15
    go_wp2
    go_ret2
    exact ParsedPost.no (Below.refl _ _)
  have h6' : ¬ (6000 : Int) < s.size := by omega
  have HCN := Lib.hid (Tryz.strings_Count_one s 59 w)
  by_cases h8 : 8 ≤ Lib.countByte s.data.toList 59
  · have hp : parseA s.data.toList = ([], 4) := if_pos (Or.inr h8)
    have h8' : (8 : Int) ≤ (Lib.countByte s.data.toList 59 : Nat) := by omega
    rw [hp]; clear hp hsl hO hM
    generalize Lib.countByte s.data.toList 59 = c at *
    go_enter Tryz.func15, Tryz.ntmps15
    go_wp2_with fail
    refine HCN.out.mono ?_
    rintro e w1 ⟨rfl, rfl⟩
    go_wp2
    go_ret2
    exact ParsedPost.no (Below.refl _ _)
  have h8' : ¬ (8 : Int) ≤ (Lib.countByte s.data.toList 59 : Nat) := by omega
  have hpc : (semis s.data.toList).length = Lib.countByte s.data.toList 59 + 1 := semis_len s.data.toList
  have hpa : parseA s.data.toList = if ((semis s.data.toList).map readA).all oneB = true then ((semis s.data.toList).map readA, 0) else ([], 1) := if_neg (by omega)
  obtain ⟨m, hm⟩ := hM
  have hspl := Tryz.strings_Split s ⟨#[59]⟩ m w (by omega) hm (by decide)
  have hsi := split_is s
  have hcb : Lib.countB s ⟨#[59]⟩ = Lib.countByte s.data.toList 59 := Lib.count_one 59 s.data.toList
  rw [hcb] at hspl hsi
  generalize hts : Lib.splitB ⟨#[59]⟩ 0 (Lib.countByte s.data.toList 59) s = ts at *
  have hle := semis_le s.data.toList
  generalize semis s.data.toList = l at *
  have htl : ts.length = l.length := by rw [← hsi, List.length_map]
  obtain ⟨n, hn⟩ : ∃ n, l.length = n := ⟨_, rfl⟩
  have hn8 : n ≤ 8 := by omega
  rw [show Lib.countByte s.data.toList 59 + 1 = n by omega] at hspl
  have HSP := Lib.hid hspl
  have HB0 : Hid (Below w.heap.size w (w.alloc (.cells (ts.map Value.string).toArray 9))) := (Below.refl _ _).alloc (Nat.le_refl _) _
  have hat : ∀ (k : Nat), k < n → ∃ X : ByteArray, (∃ h : k < l.length, X.data.toList = l[k]) ∧ X.size ≤ 6000 ∧ (w.alloc (.cells (ts.map Value.string).toArray 9)).cell? ⟨w.heap.size, k, none⟩ = some (.string X) := by
    intro k hk
    have hkt : k < ts.length := by omega
    have hkl : k < l.length := by omega
    refine ⟨ts[k], ⟨hkl, ?_⟩, ?_, ?_⟩
    · have : (ts.map (·.data.toList))[k]'(by simpa using hkt) = l[k] := by simp only [hsi]
      rw [← this, List.getElem_map]
    · have h1 := hle l[k] (List.getElem_mem hkl)
      have : (ts.map (·.data.toList))[k]'(by simpa using hkt) = l[k] := by simp only [hsi]
      rw [List.getElem_map] at this
      rw [Lib.size_eq, this]; omega
    · have := cell_of_row (w.alloc (.cells (ts.map Value.string).toArray 9)) w.heap.size k _ _ _ (heap_alloc_new w _)
      rw [this]; simp [hkt]
  have HAT := Lib.hid hat
  have HN := Lib.hid hn
  have HPA := Lib.hid hpa
  have HI0 : Hid (PaI l (w.alloc (.cells (ts.map Value.string).toArray 9)) (w.alloc (.cells (ts.map Value.string).toArray 9)) 0 (.slice none 0 0) []) := ⟨Nat.zero_le _, rfl, rfl, World.ownsRow_nil _ _ _ _, (fun p hp => by cases hp), (fun p hp => by cases hp), Below.refl _ _⟩
  have hlt0 : Hid (w.heap.size < (w.alloc (.cells (ts.map Value.string).toArray 9)).heap.size) := by show _ < _; simp
  have HRA : Hid (∀ (X : ByteArray) (W : World), X.size ≤ 6000 → Below w.heap.size w W → Calls Tryz.prog 32 #[.string X] W (ReadPost (readA X.data.toList) W)) := fun X W hX hb => aread_any X W hX (hO.below hb) (ML.below ⟨m, hm⟩ hb)
  obtain ⟨ia, hi0, hi1, hi2, hi3⟩ := info_of infoAct
  have HX0 := Lib.hid hi0; have HX1 := Lib.hid hi1; have HX2 := Lib.hid hi2; have HX3 := Lib.hid hi3
  generalize hw0 : w.alloc (.cells (ts.map Value.string).toArray 9) = w0 at *
  have HSP' : Hid (Calls Tryz.prog 31 #[.string s, .string ⟨#[59]⟩] w fun e w' => e = .returned (.slice (some ⟨w.heap.size, 0, none⟩) n n) ∧ w' = w0) := HSP.out
  clear HSP hspl hsi hcb hts hle htl hat hpa hpc hm hn hO hsl hi0 hi1 hi2 hi3 hw0
  generalize Lib.countByte s.data.toList 59 = cb at *
  go_enter Tryz.func15, Tryz.ntmps15
  go_wp2_with fail
  refine HCN.out.mono ?_
  rintro e w1 ⟨rfl, hw1⟩
  obtain rfl := hw1.symm
  go_wp2_with fail
  refine HSP'.out.mono ?_
  rintro e w1 ⟨rfl, hw1⟩
  obtain rfl := hw1.symm
  go_wp2
  go_loopw [2, 3, 4, 19] (fun x2 x3 x4 x19 wr => x2 = .slice none 0 0 ∧ x3 = .int .i64 0 ∧ ∃ (k : Nat) (ps : List AP) (lv : Value), PaI l w0 wr k lv ps ∧ x4 = lv ∧ x19 = .int .i64 (k : Int)) (fun _ _ _ i _ => n - (intOf i).toNat)
  case atStart => exact ⟨rfl, rfl, 0, [], _, HI0.out, rfl, rfl⟩
  case round =>
    obtain ⟨rfl, rfl, k, ps, lv, hI, hx4, rfl⟩ := hrel
    replace hx4 := hx4.symm
    subst hx4
    obtain ⟨wl, hwl⟩ : ∃ W, W = wr := ⟨_, rfl⟩
    subst hwl
    have hk := hI.le
    rw [HN.out] at hk
    have hpl : ps.length ≤ 8 := by have := hI.len; omega
    have HI := Lib.hid hI
    have HBW := Lib.hid (HB0.out.trans (hI.below.mono HB0.out.size))
    by_cases hkn : k < n
    · obtain ⟨X, ⟨hkl, hXl⟩, hXs, hXc⟩ := HAT.out k hkn
      have hc := (hI.below.cell hlt0.out).trans hXc
      have HR := Lib.hid (HRA.out X wl hXs HBW.out)
      rw [hXl] at HR
      clear hI hXc hXl
      go_wp2_with fail
      refine HR.out.mono ?_
      rintro e w2 ⟨v, rfl, hA, hb2⟩
      obtain ⟨N, hN, hNl⟩ := bstr_some (readA l[k]).nm
      rw [hN]
      have hI2 := HI.out.moved hb2
      have hAw := aWrong_any (readA l[k]).kd N v (readA l[k]).ex
      have he : (⟨(readA l[k]).kd, N.data.toList, (readA l[k]).ex⟩ : AM) = readA l[k] := by rw [hNl]
      rw [he] at hAw
      have hAL := hA.len
      have hAR := hA.rd.rd
      have hown := hA.own
      simp only at hown
      obtain ⟨Av, cv, rfl⟩ := own_slice hown
      clear hown
      have hfl : [Value.int .i64 (readA l[k]).kd, .string N, .slice Av (readA l[k]).ex.length cv] = actV (readA l[k], .slice Av (readA l[k]).ex.length cv) := by unfold actV; simp only; rw [hN]
      have HFL := Lib.hid hfl
      have hpush := fun w3 w4 lv' (hb3 : Below w2.heap.size w2 w3) => (hI2.moved hb3).push (w' := w4) (lv' := lv') (v := .slice Av (readA l[k]).ex.length cv) hkl
      have hA3 := fun w3 (hb3 : Below w2.heap.size w2 w3) => (ActO.below hA hb3)
      have hfar : ∀ g, Value.ownBlock lv = some g → Value.ownBlock (.slice Av (readA l[k]).ex.length cv) ≠ some g := fun g h1 h2 => by
        have := (hA.own.lt g h2).1
        have := (HI.out.row.lt g h1).2
        omega
      have hwr := fun (h : oneB (readA l[k]) = false) => all_wrong hkl h
      have HPU : Hid (∀ w3 w4 lv', Below w2.heap.size w2 w3 → oneB (readA l[k]) = true → w4.ownsRow w0.heap.size 59 3 lv' (ps.length + 1) (flatA ps ++ actV (readA l[k], .slice Av (readA l[k]).ex.length cv)) → w3.grownBy w4 lv.ownBlock → ((lv'.ownBlock = lv.ownBlock ∧ ∀ g, lv'.ownBlock = some g → g < w4.heap.size) ∨ ∀ g, lv'.ownBlock = some g → w3.heap.size ≤ g ∧ g < w4.heap.size) → PaI l w0 w4 (k + 1) lv' (ps ++ [(readA l[k], .slice Av (readA l[k]).ex.length cv)])) := fun w3 w4 lv' hb3 h1 h2 h3 h4 => hpush w3 w4 lv' hb3 h1 (Or.inr ⟨⟨own_lower (hA3 w3 hb3).own (by have := HI.out.below.size; omega), hA.len, hA.names, hA.name⟩, hfar⟩) h2 h3 h4
      have HI2 := Lib.hid hI2
      have HWR := Lib.hid hwr
      clear hb2 hA hI2 hN hNl he hpush hA3 hfar hfl hwr
      generalize readA l[k] = a at *
      obtain ⟨ak, an, ae⟩ := a
      simp only at hAw hAL hAR
      have HB3 : Hid (Below w2.heap.size w2 (w2.alloc (.cells #[.int .i64 ak, .string N, .slice Av ae.length cv] 59))) := (Below.refl _ _).alloc (Nat.le_refl _) _
      have HAW := Lib.hid (hAw (w2.alloc (.cells #[.int .i64 ak, .string N, .slice Av ae.length cv] 59)) (hAR.below HB3.out) hAL)
      clear hAw hAR
      cases hone : oneB ⟨ak, an, ae⟩ with
      | false =>
        have hp := HPA.out
        rw [HWR.out hone, if_neg (by decide)] at hp
        have HP := Lib.hid hp
        rw [hone] at HAW
        clear hone hp
        go_wp2_with fail
        refine HAW.out.mono ?_
        rintro e w4 ⟨rfl, hb4⟩
        have HB4 := Lib.hid (HB0.out.trans ((HI2.out.below.trans ((HB3.out.trans (hb4.mono HB3.out.size)).mono HI2.out.below.size)).mono HB0.out.size))
        clear hb4
        go_wp2
        go_ret2
        rw [HP.out]
        exact ParsedPost.no HB4.out
      | true =>
        rw [hone] at HAW
        have HON := Lib.hid hone
        clear hone
        go_wp2_with fail
        refine HAW.out.mono ?_
        rintro e w4 ⟨rfl, hb4⟩
        have HB4 : Hid (Below w2.heap.size w2 w4) := HB3.out.trans (hb4.mono HB3.out.size)
        have c0 : w4.cell? ⟨w2.heap.size, 0, none⟩ = some (.int .i64 ak) := (hb4.cell (by simp)).trans (by simp)
        have c1 : w4.cell? ⟨w2.heap.size, 1, none⟩ = some (.string N) := (hb4.cell (by simp)).trans (by simp)
        have c2 : w4.cell? ⟨w2.heap.size, 2, none⟩ = some (.slice Av ae.length cv) := (hb4.cell (by simp)).trans (by simp)
        have HB5 : Hid (Below w2.heap.size w2 (w4.alloc (.cells #[.int .i64 ak, .string N, .slice Av ae.length cv] 59))) := HB4.out.alloc HB4.out.size _
        have HI5 := Lib.hid (HI2.out.moved HB5.out)
        have HIN : Hid (Inn (w4.alloc (.cells #[.int .i64 ak, .string N, .slice Av ae.length cv] 59)) 3 (.slice (some ⟨w4.heap.size, 0, none⟩) 1 1) 1 [.int .i64 ak, .string N, .slice Av ae.length cv]) := Inn.of_own (Oz.own_laid (B := 0) (size := 3) w4 #[.int .i64 ak, .string N, .slice Av ae.length cv] (Nat.zero_le _) (by decide) rfl)
        clear hb4
        go_wp2_with (at_builtin; refine Ow.wpList_append rfl (.tmp 27) (.tmp 29) 22 rfl w0.heap.size 59 ia _ 3 48 Tryz.underlying22 HX0.out HX1.out HX2.out HX3.out rfl (by decide) _ ps.length (flatA ps) rfl HI5.out.row _ 1 [.int .i64 ak, .string N, .slice Av ae.length cv] rfl HIN.out (by intro u hu; simp only [List.mem_cons, List.not_mem_nil, or_false] at hu; rcases hu with rfl | rfl | rfl <;> rfl) (by unfold maxLen; omega) (by omega) HI5.out.below.size ?_)
        intro lv' w5 ho5 hg5 hob5
        have HI6 := Lib.hid (HPU.out _ w5 lv' HB5.out HON.out (by rw [← HFL.out]; exact ho5) hg5 (by simpa using hob5))
        clear ho5 hg5 hob5
        go_wp2
        go_roundw
        case rel => exact ⟨rfl, rfl, k + 1, _, _, HI6.out, rfl, by go_num⟩
        case measure => simp [intOf]; omega
    · obtain rfl : k = n := by omega
      have hp := HPA.out
      have h1 := hI.one
      have h2 := hI.eq
      rw [← HN.out, List.take_length] at h1 h2
      rw [h1, if_pos rfl] at hp
      have HP := Lib.hid hp
      have H2 := Lib.hid h2
      clear hI h1 h2 hp
      go_wp2
      go_ret2
      rw [HP.out]
      exact ⟨_, ps, rfl, H2.out, own_lower HI.out.row HB0.out.size, fun p hp => (HI.out.act p hp).rd, HBW.out⟩
end Go.Proofs.YtjgfkmakfdepcaaGreatDoor
namespace Go.Proofs.YtjgfkmakfdepcaaGreatDoor
open Go.RowKit

/-- where the loop stands -/
structure ShI (l : List AM) (w wr : World) (k : Nat) (lv : Value) : Prop where
  le : k ≤ l.length
  row : wr.ownsRow w.heap.size 9 1 lv k ((l.take k).map fun a => bstr (textA a))
  below : Below w.heap.size w wr
theorem ShI.moved {l : List AM} {w wr w' : World} {k : Nat} {lv : Value} (h : ShI l w wr k lv) (hb : Below wr.heap.size wr w') : ShI l w w' k lv :=
  ⟨h.le, own_below h.row hb, h.below.trans (hb.mono h.below.size)⟩
theorem ShI.push {l : List AM} {w wr w' : World} {k : Nat} {lv lv' : Value} {a : AM} (h : ShI l w wr k lv) (hk : l[k]? = some a)
    (hr : w'.ownsRow w.heap.size 9 1 lv' (k + 1) (((l.take k).map fun a => bstr (textA a)) ++ [bstr (textA a)])) (hg : wr.grownBy w' lv.ownBlock) : ShI l w w' (k + 1) lv' := by
  obtain ⟨hk', rfl⟩ := List.getElem?_eq_some_iff.1 hk
  refine ⟨hk', ?_, h.below.grown hg h.below.size (fun g hg' => (h.row.lt g hg').1)⟩
  rw [List.take_succ_eq_append_getElem hk', List.map_append]
  exact hr
end Go.Proofs.YtjgfkmakfdepcaaGreatDoor
