/- Copied lists of cells; the chapter's example (wakes of quintainlaw04). -/
import Derived.Test.YtmpelnbhlhifeaaKi
namespace Go.Proofs.Ytmpelnbhlhifeaa
open Go.RowKit

theorem own_low {w : World} {B B' : Nat} {e : TypeId} {size n : Nat} {v : Value} {xs : List Value} (h : w.ownsRow B e size v n xs) (hb : B' ≤ B) : w.ownsRow B' e size v n xs := by
  obtain ⟨h1, h2⟩ := h
  refine ⟨h1, ?_⟩
  rcases h2 with h2 | ⟨g, cap, cur, h3, h4, h5⟩
  · exact Or.inl h2
  · exact Or.inr ⟨g, cap, cur, h3, by omega, h5⟩
theorem own_made0 (w : World) (e : TypeId) (size : Nat) : (w.alloc (.cells #[] e)).ownsRow 0 e size (.slice (some ⟨w.heap.size, 0, none⟩) 0 0) 0 [] :=
  own_low (World.ownsRow_made w #[] 0 (Nat.le_refl _) (by unfold maxLen; omega) (by simp)) (Nat.zero_le _)

/-- cells that are read, wherever their slice begins -/
theorem RdC.inn {w : World} {A : Option Addr} {c : Nat} {cs : List CM} (h : RdC w (.slice A cs.length c) cs) (hA : A = none → c = 0 ∧ cs = []) : Inn w 3 (.slice A cs.length c) cs.length (flat cs) := by
  rcases A with _ | ad
  · obtain ⟨rfl, rfl⟩ := hA rfl
    exact Inn.nil _ _
  · exact RdI.inn (Or.inr ⟨ad, c, rfl, h⟩)

set_option maxRecDepth 100000 in
theorem copied4_any (v : Value) (cs : List CM) (w : World) (h : RdI w v cs) (hl : cs.length * 32 ≤ 140737488355328) :
    Calls Try.prog 9 #[v] w fun e w' => ∃ v', e = .returned v' ∧ Own w cs v' w' := by
  obtain ⟨i0, hi0, hz0, hz1, hz2⟩ := info_parts Try.infoCell
  have HI := Lib.hid hi0; have HZ0 := Lib.hid hz0; have HZ1 := Lib.hid hz1; have HZ2 := Lib.hid hz2
  clear hi0 hz0 hz1 hz2
  have hW : Below w.heap.size w (w.alloc (.cells #[] 38)) := (Below.refl _ _).alloc (Nat.le_refl _) _
  have HW := Lib.hid hW; clear hW
  have HE := Lib.hid (own_empty w #[] rfl)
  rcases h with ⟨rfl, rfl⟩ | ⟨ad, c, rfl, hR⟩
  · go_enter Try.func9, Try.ntmps9
    go_wp2_with (at_builtin; refine wpList_append_own_none _ rfl _ _ 22 rfl w.heap.size 38 i0 3 Try.underlying22 HI.out _ _ _ rfl HE.out rfl ?_)
    go_ret
    exact ⟨_, rfl, HE.out, HW.out⟩
  · have HN := Lib.hid (hR.news (.cells #[] 38))
    have hfl := flat_length cs
    have HFL := Lib.hid hfl; clear hfl hR
    go_enter Try.func9, Try.ntmps9
    go_wp2_with (at_builtin; refine wpList_append_own _ rfl _ _ 22 rfl w.heap.size 38 i0 _ 3 32 Try.underlying22 HI.out HZ0.out HZ1.out HZ2.out rfl (by decide) _ 0 [] rfl HE.out ad cs.length c (flat cs) rfl HFL.out HN.out (flat_vals cs) (by unfold maxLen; omega) (by omega) (by simp) ?_)
    intro v' w2 hown' hgrow _
    have HO : Hid (w2.ownsRow w.heap.size 38 3 v' cs.length (flat cs)) := by
      exact hown'
    have HB : Hid (Below w.heap.size w w2) := HW.out.grown hgrow (by simp) (fun k hk => by simp [Value.ownBlock] at hk; omega)
    clear hown' hgrow
    go_wp2
    go_ret
    exact ⟨v', rfl, HO.out, HB.out⟩

def xlCells : List CM := [⟨5, 0, [120]⟩, ⟨1, 1, []⟩, ⟨18, 0, []⟩]
def xVar : VM := ⟨[120], 1, 0, 0, 0, 0, 0⟩
theorem kind_x1 : kindP [xVar] [] xlCells = (2, 0) := by decide +kernel
theorem kind_x2 : kindP [] [] xlCells = (0, 2) := by decide +kernel

/-- a row that was put down whole -/
theorem rd_new_cells (w : World) (cs : List CM) (arr : Array Value) (t : TypeId) (n : Nat) (h : arr.toList = flat cs) (hn : n = cs.length) : RdC (w.alloc (.cells arr t)) (.slice (some ⟨w.heap.size, 0, none⟩) n n) cs := by
  subst hn
  refine ⟨_, _, rfl, fun i hi => ⟨_, _, rfl, ?_⟩⟩
  obtain ⟨f0, f1, f2⟩ := flat_at hi
  have key : ∀ j u, (flat cs)[j]? = some u → (w.alloc (.cells arr t)).cell? ⟨w.heap.size, j, none⟩ = some u := by
    intro j u hu
    rw [cell_of_row _ _ j _ _ _ (heap_alloc_new w _), ← Array.getElem?_toList, h]; exact hu
  rw [Nat.zero_add]
  exact ⟨key _ _ f0, key _ _ f1, key _ _ f2⟩
theorem inn_new (w : World) (xs : List Value) (arr : Array Value) (t : TypeId) (size n m : Nat) (h : arr.toList = xs) (hl : xs.length = n * size) : Inn (w.alloc (.cells arr t)) size (.slice (some ⟨w.heap.size, 0, none⟩) n m) n xs := by
  refine Or.inr ⟨_, _, rfl, hl, fun _ => ⟨_, _, rfl, by simp, fun j u hu => ?_⟩⟩
  rw [Nat.zero_add, cell_of_row _ _ j _ _ _ (heap_alloc_new w _), ← Array.getElem?_toList, h]; exact hu

set_option maxRecDepth 100000 in
set_option maxHeartbeats 1000000 in
theorem wakes4_any (w : World) :
    Calls Try.prog 11 #[] w fun e w' => e = .returned (.bool true) ∧ Below w.heap.size w w' := by
  have h1 := inn_new w (flatV [xVar]) #[.string ⟨#[120]⟩, .int .i64 1, .int .i64 0, .int .i64 0, .int .i64 0, .int .i64 0, .int .i64 0] 44 7 1 1 rfl rfl
  have h2 := rd_new_cells (w.alloc (.cells #[.string ⟨#[120]⟩, .int .i64 1, .int .i64 0, .int .i64 0, .int .i64 0, .int .i64 0, .int .i64 0] 44)) xlCells #[.int .i64 5, .int .i64 0, .string ⟨#[120]⟩, .int .i64 1, .int .i64 1, .string ⟨#[]⟩, .int .i64 18, .int .i64 0, .string ⟨#[]⟩] 38 3 rfl rfl
  have hb0 : Below w.heap.size w ((w.alloc (.cells #[.string ⟨#[120]⟩, .int .i64 1, .int .i64 0, .int .i64 0, .int .i64 0, .int .i64 0, .int .i64 0] 44)).alloc (.cells #[.int .i64 5, .int .i64 0, .string ⟨#[120]⟩, .int .i64 1, .int .i64 1, .string ⟨#[]⟩, .int .i64 18, .int .i64 0, .string ⟨#[]⟩] 38)) := ((Below.refl _ _).alloc (Nat.le_refl _) _).alloc (by simp) _
  rw [show ∀ o, (w.alloc o).heap.size = w.heap.size + 1 from fun o => by simp] at h2
  have H1 := Lib.hid (RdV.below (vs := [xVar]) h1 ((Below.refl _ _).alloc (Nat.le_refl _) (.cells #[.int .i64 5, .int .i64 0, .string ⟨#[120]⟩, .int .i64 1, .int .i64 1, .string ⟨#[]⟩, .int .i64 18, .int .i64 0, .string ⟨#[]⟩] 38)))
  have HC1 := Lib.hid (fun W r s t => kindsOf_any (.slice (some ⟨w.heap.size + 1, 0, none⟩) 3 3) (.slice (some ⟨w.heap.size, 0, none⟩) 1 1) (.slice none 0 0) xlCells [xVar] [] W r (by decide) s (by decide) t (by decide))
  have HC2 := Lib.hid (fun W r s t => kindsOf_any (.slice (some ⟨w.heap.size + 1, 0, none⟩) 3 3) (.slice none 0 0) (.slice none 0 0) xlCells [] [] W r (by decide) s (by decide) t (by decide))
  have H2 := Lib.hid h2
  have HB0 := Lib.hid hb0
  clear h1 h2 hb0
  go_enter Try.func11, Try.ntmps11
  go_wp2_with fail
  refine (HC1.out _ H2.out H1.out (Inn.nil _ _)).mono ?_
  rintro e w1 ⟨rfl, hb1⟩
  rw [kind_x1]
  have HB1 := Lib.hid (HB0.out.trans (hb1.mono HB0.out.size))
  have HR1 := Lib.hid (H2.out.below hb1)
  clear hb1
  go_wp2_with fail
  refine (HC2.out _ HR1.out (Inn.nil _ _) (Inn.nil _ _)).mono ?_
  rintro e w2 ⟨rfl, hb2⟩
  rw [kind_x2]
  have HB2 := Lib.hid (HB1.out.trans (hb2.mono HB1.out.size))
  clear hb2
  go_wp2
  go_ret
  exact ⟨rfl, HB2.out⟩
end Go.Proofs.Ytmpelnbhlhifeaa
