/- Own texts, joined: H1. -/
import Derived.Test.YtjgfkmakfdepcaaGreatDoorP22
import Derived.Test.YtjgfkmakfdepcaaGreatDoorP23
namespace Go.Proofs.YtjgfkmakfdepcaaGreatDoor

section
open Go.RowKit

def waitV (x : Wt) : List Value := [.int .i64 x.1, .int .i64 x.2]
def flatW (ws : List Wt) : List Value := ws.flatMap waitV
theorem flatW_append (a b : List Wt) : flatW (a ++ b) = flatW a ++ flatW b := by simp [flatW]
theorem flatW_one (c : Wt) : flatW [c] = waitV c := by simp [flatW]
theorem flatW_length (cs : List Wt) : (flatW cs).length = cs.length * 2 := by
  induction cs with
  | nil => rfl
  | cons c r ih => show (waitV c ++ flatW r).length = _; rw [List.length_append, ih]; simp [waitV]; omega
theorem flatW_at {cs : List Wt} {i : Nat} (h : i < cs.length) : (flatW cs)[i * 2]? = some (.int .i64 cs[i].1) ∧ (flatW cs)[i * 2 + 1]? = some (.int .i64 cs[i].2) := by
  induction cs generalizing i with
  | nil => simp at h
  | cons c r ih =>
    have e : flatW (c :: r) = .int .i64 c.1 :: .int .i64 c.2 :: flatW r := rfl
    rw [e]
    cases i with
    | zero => exact ⟨rfl, rfl⟩
    | succ j =>
      have := ih (i := j) (by simpa using h)
      have h1 : (j + 1) * 2 = j * 2 + 2 := by omega
      rw [h1]
      exact this
theorem flatW_vals (c : Wt) : ∀ u ∈ waitV c, u.oneCell' = true := by
  intro u hu
  simp [waitV] at hu
  rcases hu with rfl | rfl <;> rfl

theorem Tryz.infoOpen : (Tryz.prog.info? 170).map (fun i => (i.zero, i.size, i.bytes)) = some (some (.agg #[.int .i64 0, .int .i64 0]), 2, 16) := by kernel_rfl
theorem reader_open : (133 : TypeId) ≠ 170 := by decide
theorem reader_cell : (133 : TypeId) ≠ 93 := by decide
theorem cell_open : (93 : TypeId) ≠ 170 := by decide
theorem open_cell : (170 : TypeId) ≠ 93 := by decide

section
variable {w0 w w1 w2 : World} {g : Nat} {s : ByteArray} {p p' : Nat} {cs cs' : List CM} {ws ws' : List Wt}

theorem own_ne2 {base size n k : Nat} {e t : TypeId} {v : Value} {xs : List Value} {o : Array Value} {fr : Nat × Nat} (hown : w.ownsRow base e size v n xs) (hbox : w.heap[k]? = some (.cells o t fr)) (hte : t ≠ e) : v.ownBlock ≠ some k := by
  rcases hown.2 with ⟨rfl, _⟩ | ⟨g', cap, cur, rfl, _, hh, _⟩
  · simp [Value.ownBlock]
  · intro e1
    have e1 : g' = k := by simpa [Value.ownBlock] using e1
    subst e1
    rw [hbox] at hh
    simp only [Option.some.injEq, Obj.cells.injEq] at hh
    exact hte hh.2.1
theorem own_apart {base b2 size size2 n n2 : Nat} {e e2 : TypeId} {v v2 : Value} {xs ys : List Value} (h1 : w.ownsRow base e size v n xs) (h2 : w.ownsRow b2 e2 size2 v2 n2 ys) (hte : e ≠ e2) : v2.ownBlock = none ∨ v2.ownBlock ≠ v.ownBlock := by
  rcases h1.2 with ⟨rfl, _⟩ | ⟨g', cap, cur, rfl, _, hh, _⟩
  · cases hv : v2.ownBlock with
    | none => exact Or.inl rfl
    | some k => exact Or.inr (by simp [Value.ownBlock])
  · exact Or.inr (own_ne2 h2 hh hte)

/-- the reader at block g -/
structure MS (w0 : World) (g : Nat) (s : ByteArray) (p : Nat) (cs : List CM) (ws : List Wt) (w : World) : Prop where
  box : ∃ vo vw, w.heap[g]? = some (.cells #[.string s, .int .i64 p, vo, vw] 133 (0, 0)) ∧ w.ownsRow w0.heap.size 93 3 vo cs.length (flat cs) ∧
    w.ownsRow w0.heap.size 170 2 vw ws.length (flatW ws.reverse)
  ge : w0.heap.size ≤ g
  below : Below w0.heap.size w0 w

theorem MS.lt (h : MS w0 g s p cs ws w) : g < w.heap.size := by
  obtain ⟨_, _, hb, _⟩ := h.box
  exact lt_of_block hb
theorem MS.size (h : MS w0 g s p cs ws w) : w0.heap.size ≤ w.heap.size := h.below.size
theorem MS.to_below (h : MS w0 g s p cs ws w) (hb : Below w.heap.size w w1) : MS w0 g s p cs ws w1 := by
  obtain ⟨vo, vw, hbox, ho, hw⟩ := h.box
  exact ⟨⟨vo, vw, (hb.block g h.lt).trans hbox, own_below ho hb, own_below hw hb⟩, h.ge, h.below.trans (hb.mono h.size)⟩
theorem MS.drewN (h : MS w0 g s p cs ws w) (n : Nat) : MS w0 g s p cs ws (w.drewN n) := by
  obtain ⟨vo, vw, hbox, ho, hw⟩ := h.box
  exact ⟨⟨vo, vw, hbox, ho, hw⟩, h.ge, ⟨h.below.os, h.below.tape, h.below.output, h.below.size, h.below.block⟩⟩
theorem MS.alloc (h : MS w0 g s p cs ws w) (o : Obj) : MS w0 g s p cs ws (w.alloc o) := h.to_below ((Below.refl _ _).alloc (Nat.le_refl _) o)
theorem MS.setAt (h : MS w0 g s p cs ws w) (q : Int) (hq : q = (p' : Int)) : MS w0 g s p' cs ws (w.setCell ⟨g, 1, none⟩ (.int .i64 q)) := by
  subst hq
  obtain ⟨vo, vw, hbox, ho, hw⟩ := h.box
  refine ⟨⟨vo, vw, ?_, ownsRow_setCell_other ho (own_ne2 ho hbox reader_cell) _, ownsRow_setCell_other hw (own_ne2 hw hbox reader_open) _⟩, h.ge, h.below.setCell h.ge _⟩
  rw [heap_setCell_same w g 1 _ _ _ hbox]; rfl

/-- behind an append to what is out -/
theorem MS.pushO {vo vw v' : Value} (h : MS w0 g s p cs ws w) (hbox : w.heap[g]? = some (.cells #[.string s, .int .i64 p, vo, vw] 133 (0, 0)))
    (ho : w.ownsRow w0.heap.size 93 3 vo cs.length (flat cs)) (hw : w.ownsRow w0.heap.size 170 2 vw ws.length (flatW ws.reverse))
    (hb : Below w.heap.size w w1) (hown : w2.ownsRow w0.heap.size 93 3 v' cs'.length (flat cs')) (hg : w1.grownBy w2 vo.ownBlock) : MS w0 g s p cs' ws (w2.setCell ⟨g, 2, none⟩ v') := by
  have h1 := h.to_below hb
  have hne := own_ne2 ho hbox reader_cell
  have hbox2 : w2.heap[g]? = some (.cells #[.string s, .int .i64 p, vo, vw] 133 (0, 0)) := (hg.block g h1.lt (fun e => hne e.symm)).trans ((hb.block g h.lt).trans hbox)
  have hw2 := (own_below hw hb).kept hg (own_apart ho hw cell_open)
  refine ⟨⟨v', vw, ?_, ownsRow_setCell_other hown (own_ne2 hown hbox2 reader_cell) _, ownsRow_setCell_other hw2 (own_ne2 hw2 hbox2 reader_open) _⟩, h.ge, ?_⟩
  · rw [heap_setCell_same w2 g 2 _ _ _ hbox2]; rfl
  · exact (h1.below.grown hg h1.size (fun k hk => (ho.lt k hk).1)).setCell h.ge _
/-- behind an append to what waits -/
theorem MS.pushW {vo vw v' : Value} (h : MS w0 g s p cs ws w) (hbox : w.heap[g]? = some (.cells #[.string s, .int .i64 p, vo, vw] 133 (0, 0)))
    (ho : w.ownsRow w0.heap.size 93 3 vo cs.length (flat cs)) (hw : w.ownsRow w0.heap.size 170 2 vw ws.length (flatW ws.reverse))
    (hb : Below w.heap.size w w1) (hown : w2.ownsRow w0.heap.size 170 2 v' ws'.length (flatW ws'.reverse)) (hg : w1.grownBy w2 vw.ownBlock) : MS w0 g s p cs ws' (w2.setCell ⟨g, 3, none⟩ v') := by
  have h1 := h.to_below hb
  have hne := own_ne2 hw hbox reader_open
  have hbox2 : w2.heap[g]? = some (.cells #[.string s, .int .i64 p, vo, vw] 133 (0, 0)) := (hg.block g h1.lt (fun e => hne e.symm)).trans ((hb.block g h.lt).trans hbox)
  have ho2 := (own_below ho hb).kept hg (own_apart hw ho open_cell)
  refine ⟨⟨vo, v', ?_, ownsRow_setCell_other ho2 (own_ne2 ho2 hbox2 reader_cell) _, ownsRow_setCell_other hown (own_ne2 hown hbox2 reader_open) _⟩, h.ge, ?_⟩
  · rw [heap_setCell_same w2 g 3 _ _ _ hbox2]; rfl
  · exact (h1.below.grown hg h1.size (fun k hk => (hw.lt k hk).1)).setCell h.ge _
theorem own_shrink {base b cap n : Nat} {x : Wt} {r : List Wt} (h : w.ownsRow base 170 2 (.slice (some ⟨b, 0, none⟩) (n + 1) cap) (n + 1) (flatW (r.reverse ++ [x]))) (hn : r.length = n) :
    w.ownsRow base 170 2 (.slice (some ⟨b, 0, none⟩) n cap) n (flatW r.reverse) := by
  refine ⟨by rw [flatW_length, List.length_reverse, hn], ?_⟩
  rcases h.2 with ⟨hv, _⟩ | ⟨g', cap', cur, hv, hb, hh, hc, hm, hcs, ht⟩
  · cases hv
  · simp only [Value.slice.injEq, Option.some.injEq, Addr.mk.injEq] at hv
    obtain ⟨⟨rfl, _, _⟩, _, rfl⟩ := hv
    refine Or.inr ⟨b, cap, cur, rfl, hb, hh, by omega, hm, hcs, ?_⟩
    rw [flatW_append] at ht
    have hl : (flatW r.reverse).length = n * 2 := by rw [flatW_length, List.length_reverse, hn]
    have h1 : (cur.toList.take ((n + 1) * 2)).take (n * 2) = flatW r.reverse := by rw [ht, ← hl, List.take_left]
    rw [List.take_take, Nat.min_eq_left (by omega)] at h1
    exact h1
/-- behind what waits has lost its last -/
theorem MS.popW {x : Wt} {b cap n : Nat} {vo : Value} (h : MS w0 g s p cs (x :: ws) w) (hn : ws.length = n) (hbox : w.heap[g]? = some (.cells #[.string s, .int .i64 p, vo, .slice (some ⟨b, 0, none⟩) (n + 1) cap] 133 (0, 0)))
    (ho : w.ownsRow w0.heap.size 93 3 vo cs.length (flat cs)) (hw : w.ownsRow w0.heap.size 170 2 (.slice (some ⟨b, 0, none⟩) (n + 1) cap) (n + 1) (flatW (x :: ws).reverse)) :
    MS w0 g s p cs ws (w.setCell ⟨g, 3, none⟩ (.slice (some ⟨b, 0, none⟩) n cap)) := by
  rw [List.reverse_cons] at hw
  have hs := own_shrink hw hn
  refine ⟨⟨vo, .slice (some ⟨b, 0, none⟩) n cap, ?_, ownsRow_setCell_other ho (own_ne2 ho hbox reader_cell) _, ?_⟩, h.ge, h.below.setCell h.ge _⟩
  · rw [heap_setCell_same w g 3 _ _ _ hbox]; rfl
  · rw [hn]; exact ownsRow_setCell_other hs (own_ne2 hs hbox reader_open) _

/-- what the walk wants of the reader's block -/
theorem MS.at_ (h : MS w0 g s p cs ws w) : ∃ vo vw, (w.cell? ⟨g, 0, none⟩ = some (.string s) ∧ w.cell? ⟨g, 1, none⟩ = some (.int .i64 p) ∧ w.cell? ⟨g, 2, none⟩ = some vo ∧ w.cell? ⟨g, 3, none⟩ = some vw ∧ w.frozen? ⟨g, 1, none⟩ = false ∧ w.frozen? ⟨g, 2, none⟩ = false ∧ w.frozen? ⟨g, 3, none⟩ = false) ∧
    w.heap[g]? = some (.cells #[.string s, .int .i64 p, vo, vw] 133 (0, 0)) ∧ w.ownsRow w0.heap.size 93 3 vo cs.length (flat cs) ∧ w.ownsRow w0.heap.size 170 2 vw ws.length (flatW ws.reverse) := by
  obtain ⟨vo, vw, hbox, ho, hw⟩ := h.box
  exact ⟨vo, vw, ⟨(cell_of_row w g 0 _ _ _ hbox).trans rfl, (cell_of_row w g 1 _ _ _ hbox).trans rfl, (cell_of_row w g 2 _ _ _ hbox).trans rfl, (cell_of_row w g 3 _ _ _ hbox).trans rfl, frozen_of_row w g 1 _ _ hbox, frozen_of_row w g 2 _ _ hbox, frozen_of_row w g 3 _ _ hbox⟩, hbox, ho, hw⟩
/-- what waits, from the bottom -/
def wAt (ws : List Wt) (i : Nat) : Wt := ws.reverse.getD i (0, 0)
theorem wAt_top (x : Wt) (r : List Wt) : wAt (x :: r) r.length = x := by simp [wAt, List.getD]
theorem waits_form {vw : Value} (hw : w.ownsRow w0.heap.size 170 2 vw ws.length (flatW ws.reverse)) : (ws = [] ∧ ∃ A c, vw = .slice A 0 c) ∨
    ∃ b cap n x r, ws = x :: r ∧ r.length = n ∧ vw = .slice (some ⟨b, 0, none⟩) (n + 1) cap ∧ n + 1 ≤ cap ∧ b < w.heap.size ∧ ∀ i, i < n + 1 → w.cell? ⟨b, i * 2, none⟩ = some (.int .i64 (wAt ws i).1) ∧ w.cell? ⟨b, i * 2 + 1, none⟩ = some (.int .i64 (wAt ws i).2) := by
  have hsh : ∃ A c, vw = .slice A ws.length c := by
    rcases hw.2 with ⟨rfl, h0⟩ | ⟨b, cap, cur, rfl, _⟩
    · exact ⟨none, 0, by rw [h0]⟩
    · exact ⟨_, _, rfl⟩
  cases ws with
  | nil => exact Or.inl ⟨rfl, hsh⟩
  | cons x r =>
    refine Or.inr ?_
    rcases hw.2 with ⟨_, h0⟩ | ⟨b, cap, cur, rfl, hb, hh, hc, _⟩
    · cases h0
    · refine ⟨b, cap, r.length, x, r, rfl, rfl, rfl, hc, lt_of_block hh, fun i hi => ?_⟩
      have hl : i < (x :: r).reverse.length := by simpa using hi
      obtain ⟨f0, f1⟩ := flatW_at hl
      have e : wAt (x :: r) i = (x :: r).reverse[i] := by unfold wAt; rw [List.getD_eq_getElem?_getD, List.getElem?_eq_getElem hl]; rfl
      rw [e]
      exact ⟨(hw.cellAt (i * 2) (by show i * 2 < (r.length + 1) * 2; omega)).trans f0, (hw.cellAt (i * 2 + 1) (by show i * 2 + 1 < (r.length + 1) * 2; omega)).trans f1⟩
end
end

section
open Go.RowKit

theorem cmpW_top {x : Wt} {r : List Wt} : cmpW (x :: r) = if 0 < x.2 then (if x.2 = 3 then true else cmpW r) else false := rfl

set_option maxRecDepth 100000 in
set_option maxHeartbeats 2000000 in
theorem compared_any {w0 w : World} {g : Nat} {s : ByteArray} {p : Nat} {cs : List CM} {ws : List Wt} (h : MS w0 g s p cs ws w) (hl : ws.length ≤ 1000) :
    Calls Tryz.prog 121 #[rp g] w fun e w' => e = .returned (.bool (cmpW ws)) ∧ ∃ n, w' = w.drewN n := by
  obtain ⟨vo, vw, ⟨c0, c1, c2, c3, f1, f2, f3⟩, hbox, ho, hw⟩ := h.at_
  rcases waits_form hw with ⟨rfl, A, c, rfl⟩ | ⟨b, cap, n, x, r, hws, hn, rfl, hcap, hb, hcells⟩
  · clear hbox ho hw h c0 c1 c2 f1 f2 f3
    unfold rp
    go_enter Tryz.func121, Tryz.ntmps121
    go_wp2
    go_loopw [3] (fun i wr => i = .int .i64 (-1) ∧ wr = w) (fun _ _ => 0)
    case atStart => exact ⟨rfl, rfl⟩
    case round =>
      obtain ⟨rfl, rfl⟩ := hrel
      go_wp2
      go_ret
      exact ⟨rfl, 0, rfl⟩
  · have hwl : ws.length = n + 1 := by rw [hws]; simp [hn]
    have hbot : ∀ k, k ≤ n + 1 → cmpW (ws.drop (n + 1 - k)) = (if h : 0 < k then (if 0 < (wAt ws (k - 1)).2 then (if (wAt ws (k - 1)).2 = 3 then true else cmpW (ws.drop (n + 1 - (k - 1)))) else false) else false) := by
      intro k hk
      by_cases h0 : 0 < k
      · rw [dif_pos h0]
        have hlt : n + 1 - k < ws.length := by omega
        rw [List.drop_eq_getElem_cons hlt, cmpW_top, show n + 1 - k + 1 = n + 1 - (k - 1) by omega]
        have e : ws[n + 1 - k] = wAt ws (k - 1) := by
          unfold wAt
          rw [List.getD_eq_getElem?_getD, List.getElem?_reverse (by omega), show ws.length - 1 - (k - 1) = n + 1 - k by omega, List.getElem?_eq_getElem hlt]; rfl
        rw [e]
      · rw [dif_neg h0, show n + 1 - k = ws.length by omega, List.drop_length]; rfl
    have HBOT := Lib.hid hbot
    have HC := Lib.hid hcells
    have HWL := Lib.hid hwl
    have hn1 : n + 1 ≤ 1000 := by omega
    clear hbox ho hw h c0 c1 c2 f1 f2 f3 hbot hcells hws hn hwl hl
    unfold rp
    go_enter Tryz.func121, Tryz.ntmps121
    go_wp2
    go_loopw [2, 3] (fun x2 i wr => x2 = .bool false ∧ ∃ k m : Nat, k ≤ n + 1 ∧ i = .int .i64 ((k : Int) - 1) ∧ wr = w.drewN m ∧ Hid (cmpW (ws.drop (n + 1 - k)) = cmpW ws)) (fun _ i _ => (intOf i + 1).toNat)
    case atStart => exact ⟨rfl, n + 1, 0, by omega, by go_num, rfl, by rw [Nat.sub_self]; exact rfl⟩
    case round =>
      obtain ⟨rfl, k, m, hk, rfl, rfl, HK⟩ := hrel
      by_cases h0 : k = 0
      · subst h0
        have hE := HBOT.out 0 (by omega)
        rw [dif_neg (by omega)] at hE
        have HE := Lib.hid (hE.symm.trans HK.out); clear hE
        go_wp2
        go_ret
        exact ⟨ret_bool HE.out, m, rfl⟩
      · obtain ⟨j, rfl⟩ : ∃ j, k = j + 1 := ⟨k - 1, by omega⟩
        have hE := HBOT.out (j + 1) hk
        rw [dif_pos (by omega), Nat.add_sub_cancel] at hE
        obtain ⟨q0, q1⟩ := HC.out j (by omega)
        generalize wAt ws j = y at *
        obtain ⟨y1, y2⟩ := y
        simp only at hE q0 q1
        have hj : ((j + 1 : Nat) : Int) - 1 = (j : Int) := by omega
        rw [hj]
        by_cases hp : 0 < y2
        · rw [if_pos hp] at hE
          by_cases h3 : y2 = 3
          · subst h3
            rw [if_pos rfl] at hE
            have HE := Lib.hid (hE.symm.trans HK.out); clear hE
            go_wp2
            go_ret
            exact ⟨ret_bool HE.out, m, rfl⟩
          · rw [if_neg h3] at hE
            have HE : Hid (cmpW (ws.drop (n + 1 - j)) = cmpW ws) := hE.symm.trans HK.out
            have h3' : (y2 == 3) = false := beq_eq_false_iff_ne.2 h3
            clear hE h3
            go_wp2
            go_roundw
            case rel => exact ⟨rfl, j, m, by omega, by go_num, rfl, HE⟩
            case measure => simp [intOf]
        · rw [if_neg hp] at hE
          have HE := Lib.hid (hE.symm.trans HK.out); clear hE
          have hp' : decide (0 < y2) = false := decide_eq_false hp
          go_wp2
          go_ret
          exact ⟨ret_bool HE.out, m, rfl⟩
end

section
open Go.RowKit

theorem flush_sum (k : Int) (out : List CM) (ws : List Wt) : (flushO k out ws).length + (flushW k ws).length = out.length + ws.length := by
  induction ws generalizing out with
  | nil => rfl
  | cons x r ih =>
    show (if k ≤ x.2 then flushO k (out ++ [opC x.1]) r else out).length + (if k ≤ x.2 then flushW k r else x :: r).length = _
    split
    · rw [ih]; simp; omega
    · rfl
def lenV : Value → Nat
  | .slice _ n _ => n
  | _ => 0
/-- the world behind a cell that is put out -/
theorem MS.outNew {w0 w : World} {g : Nat} {s : ByteArray} {p : Nat} {cs : List CM} {ws : List Wt} {vo vw : Value} (h : MS w0 g s p cs ws w) (hbox : w.heap[g]? = some (.cells #[.string s, .int .i64 p, vo, vw] 133 (0, 0)))
    (ho : w.ownsRow w0.heap.size 93 3 vo cs.length (flat cs)) (hw : w.ownsRow w0.heap.size 170 2 vw ws.length (flatW ws.reverse)) (c : CM)
    {w1 w2 : World} {gg cap : Nat} (hb : Below w.heap.size w w1) (hown : w2.ownsRow w0.heap.size 93 3 (.slice (some ⟨gg, 0, none⟩) (cs.length + 1) cap) (cs.length + 1) (flat cs ++ cellV c)) (hg : w1.grownBy w2 vo.ownBlock) :
    MS w0 g s p (cs ++ [c]) ws (w2.setCell ⟨g, 2, none⟩ (.slice (some ⟨gg, 0, none⟩) (cs.length + 1) cap)) := by
  refine h.pushO hbox ho hw hb ?_ hg
  rw [flat_append, flat_one, List.length_append]
  exact hown

theorem MS.len {w0 w : World} {g : Nat} {s : ByteArray} {p : Nat} {cs : List CM} {ws : List Wt} (h : MS w0 g s p cs ws w) : lenV (cur w ⟨g, 3, none⟩) = ws.length := by
  obtain ⟨vo, vw, ⟨c0, c1, c2, c3, f1, f2, f3⟩, hbox, ho, hw⟩ := h.at_
  unfold cur
  rw [c3]
  rcases hw.2 with ⟨rfl, h0⟩ | ⟨b, cap, cur, rfl, _⟩
  · rw [h0]; rfl
  · rfl
theorem far_cell {W w2 : World} {g : Nat} {vs : Array Value} {t : TypeId} {o : Obj} {row : Option Nat} {j : Nat} {u : Value} (hbox : W.heap[g]? = some (.cells vs t (0, 0))) (hu : vs[j]? = some u)
    (hne : row ≠ some g) (hg : (W.alloc o).grownBy w2 row) : w2.cell? ⟨g, j, none⟩ = some u := by
  have hl := lt_of_block hbox
  exact (hg.cell_far ⟨g, j, none⟩ (by simp; omega) (Ne.symm hne)).trans ((World.cell?_alloc_lt W _ _ hl).trans ((cell_of_row W g j _ _ _ hbox).trans hu))
/-- the place of what is out may be written behind an append -/
theorem far_out {W w2 : World} {g : Nat} {s : ByteArray} {p : Nat} {vo vw : Value} {o : Obj} {row : Option Nat} {j : Nat} (hbox : W.heap[g]? = some (.cells #[.string s, .int .i64 p, vo, vw] 133 (0, 0)))
    (hne : row ≠ some g) (hg : (W.alloc o).grownBy w2 row) : w2.frozen? ⟨g, j, none⟩ = false := by
  have hl := lt_of_block hbox
  exact (hg.frozen_far ⟨g, j, none⟩ (by simp; omega) (Ne.symm hne)).trans ((World.frozen?_alloc_past _ g j hl).trans (frozen_of_row W g j _ _ hbox))

set_option maxRecDepth 100000 in
set_option maxHeartbeats 4000000 in
theorem flush_any {w0 w : World} {g : Nat} {s : ByteArray} {p : Nat} {cs : List CM} {ws : List Wt} (h : MS w0 g s p cs ws w) (hl : cs.length + ws.length ≤ 1000) (k : Int) :
    Calls Tryz.prog 120 #[rp g, .int .i64 k] w fun e w' => e = .returned (.tuple #[]) ∧ MS w0 g s p (flushO k cs ws) (flushW k ws) w' := by
  obtain ⟨i0, hi0, hz0, hz1, hz2⟩ := info_parts Tryz.infoCell
  have HI := Lib.hid hi0; have HZ0 := Lib.hid hz0; have HZ1 := Lib.hid hz1; have HZ2 := Lib.hid hz2
  clear hi0 hz0 hz1 hz2
  have HH := Lib.hid h
  obtain ⟨C, hC⟩ : ∃ C, flushO k cs ws = C := ⟨_, rfl⟩
  obtain ⟨V, hV⟩ : ∃ V, flushW k ws = V := ⟨_, rfl⟩
  have HC := Lib.hid hC; have HV := Lib.hid hV; have HL := Lib.hid hl
  rw [hC, hV]
  clear h hC hV hl
  unfold rp
  go_enter Tryz.func120, Tryz.ntmps120
  go_wp2
  go_loopw [] (fun wr => ∃ out r, Hid (MS w0 g s p out r wr ∧ flushO k out r = C ∧ flushW k r = V ∧ out.length + r.length ≤ 1000)) (fun wr => lenV (cur wr ⟨g, 3, none⟩))
  case atStart => exact ⟨cs, ws, HH.out, HC.out, HV.out, HL.out⟩
  case round =>
    obtain ⟨out, r, HR⟩ := hrel
    obtain ⟨hm, hO, hW, hlen⟩ := HR.out
    obtain ⟨vo, vw, ⟨c0, c1, c2, c3, f1, f2, f3⟩, hbox, ho, hw⟩ := hm.at_
    rcases waits_form hw with ⟨rfl, A, c, rfl⟩ | ⟨b, cap, n, x, r', hws, hn, rfl, hcap, hb, hcells⟩
    · have HE : Hid (MS w0 g s p C V wr) := by rw [← hO, ← hW]; exact hm
      clear hm hO hW hlen hbox ho hw HR c0 c1 c2 f1 f2 f3
      go_wp2
      go_quiet (fail)
      go_wp2
      go_end0
      exact ⟨rfl, HE.out.drewN _⟩
    · subst hws
      obtain ⟨q0, q1⟩ := hcells n (by omega)
      rw [← hn, wAt_top] at q0 q1
      rw [hn] at q0 q1
      obtain ⟨x1, x2⟩ := x
      simp only at q0 q1
      have hm2 : MS w0 g s p out ((x1, x2) :: r') wr := hm
      by_cases hk : k ≤ x2
      · have hO' : flushO k (out ++ [opC x1]) r' = C := by rw [← hO]; show _ = (if k ≤ x2 then flushO k (out ++ [opC x1]) r' else out); rw [if_pos hk]
        have hW' : flushW k r' = V := by rw [← hW]; show _ = (if k ≤ x2 then flushW k r' else (x1, x2) :: r'); rw [if_pos hk]
        have HO := Lib.hid hO'; have HW := Lib.hid hW'; have HM := Lib.hid hm2
        have HLEN : Hid (lenV (cur wr ⟨g, 3, none⟩) = n + 1) := by have := hm2.len; rw [List.length_cons, hn] at this; exact this
        have hlen' : out.length + (n + 1) ≤ 1000 := by simp at hlen; omega
        clear hm hm2 hO hW hO' hW' hlen hbox ho hw HR hcells
        go_wp2
        go_quiet (fail)
        go_wp2
        have hm3 : MS w0 g s p out ((x1, x2) :: r') (wr.drewN nq) := HM.out.drewN nq
        clear c0 c1 c2 c3 f1 f2 f3 q0 q1 hb HM
        generalize wr.drewN nq = W at hm3 ⊢
        obtain ⟨vo', vw, ⟨c0, c1, c2, c3, f1, f2, f3⟩, hbox, ho, hw⟩ := hm3.at_
        rcases waits_form hw with ⟨h0, _⟩ | ⟨b', cap', n', x', r'', hws, hn', rfl, hcap', hb', hcells⟩
        · cases h0
        obtain ⟨rfl, rfl⟩ := List.cons.inj hws
        obtain rfl : n = n' := by omega
        obtain ⟨q0, q1⟩ := hcells n (by omega)
        rw [← hn, wAt_top] at q0 q1
        rw [hn] at q0 q1
        simp only at q0 q1
        have HM3 := Lib.hid hm3; have HBX := Lib.hid hbox; have HOO := Lib.hid ho; have HWW := Lib.hid hw
        have HNE := Lib.hid (own_ne2 ho hbox reader_cell)
        have hgl := hm3.lt
        have hWs := hm3.size
        clear hm3 hbox ho hw hcells
        have hwr : IntKind.i64.wrap (n : Int) = (n : Int) := IntWalk.i64_in _ (by omega)
        have hi0 : (0 : Int) ≤ (n : Int) := by omega
        have hi1 : (n : Int) < (n : Int) + 1 := by omega
        go_region_law ((refine step_append_lies _ (by rfl) _ _ _ (by rfl) w0.heap.size 93 i0 _ 3 32 Tryz.underlying57 HI.out HZ0.out HZ1.out HZ2.out rfl (by omega) vo' out.length (flat out) (by rfl) ((HOO.out.alloc _).drew) ⟨W.heap.size, 0, none⟩ 1 1 (cellV (opC x1)) (by rfl) (by rfl) (World.news_of_block (cs := #[.int .i64 x1, .int .i64 0, .string ⟨#[]⟩]) (t := 93) (fr := (0, 0)) (heap_alloc_new W _)) (one_vals _) (by omega) (by unfold maxLen; omega) (by omega) (by simp; omega) (W.heap.size + 1) (by simp) ?_
                        intro gg cap2 w2 hown2 hgrow2 hat2 hlt2
                        obtain ⟨k2, kf2⟩ := push_far_drew hgrow2 hgl HNE.out c2 f2))
        all_goals
          have HM4 := Lib.hid (HM3.out.outNew HBX.out HOO.out HWW.out (opC x1) ((Below.refl W.heap.size W).alloc (Nat.le_refl _) _).drew hown2 hgrow2)
          clear hown2 hgrow2 hat2 hlt2 HBX HOO HWW HM3 HNE hgl hWs c0 c1 c2 c3 f1 f2 f3 q0 q1
          go_wp2
          generalize w2.setCell ⟨g, 2, none⟩ (.slice (some ⟨gg, 0, none⟩) (out.length + 1) cap2) = W2 at HM4 ⊢
          have hm5 : MS w0 g s p (out ++ [opC x1]) ((x1, x2) :: r') W2.drew := HM4.out.to_below (Below.refl _ _).drew
          clear HM4 k2 kf2
          refine wp_region_tail 12 (by kernel_rfl) (by kernel_rfl) ?_
          generalize W2.drew = W3 at hm5 ⊢
          obtain ⟨vo5, vw5, ⟨c0, c1, c2, c3, f1, f2, f3⟩, hbox, ho, hw⟩ := hm5.at_
          rcases waits_form hw with ⟨h0, _⟩ | ⟨b5, cap5, n5, x5, r5, hws5, hn5, rfl, hcap5, hb5, hcells⟩
          · cases h0
          obtain ⟨h5a, h5b⟩ := List.cons.inj hws5
          subst h5b
          obtain rfl : n = n5 := by omega
          have HM6 := Lib.hid (hm5.popW hn5 hbox ho (by simp only [List.length_cons, hn5] at hw; exact hw))
          clear hm5 hbox ho hw hcells hws5 h5a
          have hs0 : n ≤ cap5 := by omega
          have hs1 : (n : Int) ≤ (cap5 : Int) := by omega
          have hs2 : (0 : Int) ≤ (cap5 : Int) := by omega
          simp only [List.take_succ_cons, List.take_zero, List.drop_succ_cons, List.drop_zero]
          repeat still_step
          refine wpStill_nil ?_
          go_wp2
          go_roundw
          case rel => exact ⟨out ++ [opC x1], r', HM6.out, HO.out, HW.out, by simp; omega⟩
          case measure => rw [HM6.out.len, HLEN.out]; omega
      · have HE : Hid (MS w0 g s p C V wr) := by
          have e1 : flushO k out ((x1, x2) :: r') = out := by show (if k ≤ x2 then _ else out) = out; rw [if_neg hk]
          have e2 : flushW k ((x1, x2) :: r') = (x1, x2) :: r' := by show (if k ≤ x2 then _ else _) = _; rw [if_neg hk]
          rw [← hO, ← hW, e1, e2]; exact hm
        have hk' : decide (k ≤ x2) = false := decide_eq_false hk
        have hlen' : out.length + (n + 1) ≤ 1000 := by simp at hlen; omega
        clear hm hm2 hO hW hlen hbox ho hw HR hcells hk
        go_wp2
        go_quiet (fail)
        go_wp2
        go_end0
        exact ⟨rfl, HE.out.drewN _⟩
end

section
open Go.RowKit

theorem isD_cases (c : UInt8) : isD c = decide (48 ≤ (c.toNat : Int) ∧ (c.toNat : Int) ≤ 57) := by
  unfold isD
  by_cases h : 48 ≤ c.toNat ∧ c.toNat ≤ 57
  · rw [decide_eq_true h, decide_eq_true (by omega)]
  · rw [decide_eq_false h, decide_eq_false (by omega)]

set_option maxHeartbeats 1000000 in
theorem plain_any (c : UInt8) (w : World) :
    Calls Tryz.prog 137 #[.int .u8 c.toNat] w fun e w' => e = .returned (.bool (okB c)) ∧ w = w' := by
  have hd := isD_cases c
  rcases okB_cases c with ⟨hk, ⟨h1, h2⟩ | ⟨h1, h2⟩ | ⟨h1, h2, h3⟩⟩ | ⟨hk, h1, h2, h3⟩
  · rw [hk]; clear hk hd
    go_enter Tryz.func137, Tryz.ntmps137
    go_wp2
    go_ret
    exact ⟨rfl, rfl⟩
  all_goals
    rw [hk]; clear hk
    rw [h2] at hd
    by_cases ha : (97 : Int) ≤ c.toNat
    · have hb : ¬ (c.toNat : Int) ≤ 122 := fun h => h1 ⟨ha, h⟩
      clear h1 h2
      by_cases h48 : (48 : Int) ≤ c.toNat
      · by_cases h57 : (c.toNat : Int) ≤ 57
        · first
            | (exfalso; have := decide_eq_false_iff_not.1 hd.symm; exact this ⟨h48, h57⟩)
            | (clear hd
               go_enter Tryz.func137, Tryz.ntmps137
               go_wp2
               go_ret
               exact ⟨rfl, rfl⟩)
        · first
            | (exfalso; have := decide_eq_true_iff.1 hd.symm; exact h57 this.2)
            | (clear hd
               go_enter Tryz.func137, Tryz.ntmps137
               go_wp2
               go_ret
               exact ⟨rfl, rfl⟩)
      · first
          | (exfalso; omega)
    · clear h1 h2
      by_cases h48 : (48 : Int) ≤ c.toNat
      · by_cases h57 : (c.toNat : Int) ≤ 57
        · first
            | (exfalso; have := decide_eq_false_iff_not.1 hd.symm; exact this ⟨h48, h57⟩)
            | (clear hd
               go_enter Tryz.func137, Tryz.ntmps137
               go_wp2
               go_ret
               exact ⟨rfl, rfl⟩)
        · first
            | (exfalso; have := decide_eq_true_iff.1 hd.symm; exact h57 this.2)
            | (clear hd
               go_enter Tryz.func137, Tryz.ntmps137
               go_wp2
               go_ret
               exact ⟨rfl, rfl⟩)
      · first
          | (exfalso; have := decide_eq_true_iff.1 hd.symm; exact h48 this.1)
          | (clear hd
             go_enter Tryz.func137, Tryz.ntmps137
             go_wp2
             go_ret
             exact ⟨rfl, rfl⟩)

theorem refWord_any {w0 w : World} {g : Nat} {s : ByteArray} {p : Nat} {cs : List CM} {ws : List Wt} (h : MS w0 g s p cs ws w) (q : Nat) (hp : q ≤ s.size) (hs : s.size ≤ 600) :
    Calls Tryz.prog 118 #[rp g, .int .i64 q] w fun e w' => e = .returned (bstr (wordP s.data.toList q)) ∧ w' = w := by
  have hl : s.data.toList.length = s.size := (Lib.size_eq s).symm
  obtain ⟨vo, vw, ⟨c0, c1, c2, c3, f1, f2, f3⟩, hbox, ho, hw⟩ := h.at_
  clear hbox ho hw h c2 c3 f1 f2 f3
  have hfin : ∀ k, Wd s.data.toList q k → (k = s.size ∨ ∃ hk : k < s.size, okB s[k] = false) → Ending.returned (.string (s.extract q k)) = .returned (bstr (wordP s.data.toList q)) := by
    intro k hw hk
    rw [hw.stop (hk.imp (fun e => by omega) (fun ⟨h1, h2⟩ => ⟨by omega, by rw [at_list s k h1]; exact h2⟩))]
    unfold bstr
    congr 2
    apply ByteArray.ext
    apply Array.toList_inj.1
    rw [Lib.extract_data]
  have hstep : ∀ k (hk : k < s.size), Wd s.data.toList q k → okB s[k] = true → Wd s.data.toList q (k + 1) := by
    intro k hk hw ho
    exact hw.step (by omega) (by rw [at_list s k hk]; exact ho)
  have HF := Lib.hid hfin; have HS := Lib.hid hstep; clear hfin hstep
  have HW := Lib.hid (Wd.start (l := s.data.toList) (p := q) (by omega)); clear hl
  unfold rp
  go_enter Tryz.func118, Tryz.ntmps118
  go_wp2
  go_loop [5] (fun i => ∃ k : Nat, q ≤ k ∧ k ≤ s.size ∧ Hid (Wd s.data.toList q k) ∧ i = .int .i64 k) (fun i => s.size - (intOf i).toNat)
  case atStart => exact ⟨q, Nat.le_refl _, hp, HW, rfl⟩
  case round =>
    obtain ⟨k, hpk, hk, HK, rfl⟩ := hrel
    by_cases hlt : k < s.size
    · cases ho : okB s[k]
      · have HE := Lib.hid (HF.out k HK.out (Or.inr ⟨hlt, ho⟩))
        go_wp2_with (go_at_call 137; refine (plain_any _ _).mono ?_; rintro e w' ⟨rfl, rfl⟩)
        go_ret
        exact ⟨HE.out, rfl⟩
      · have HE := Lib.hid (HS.out k hlt HK.out ho)
        go_wp2_with (go_at_call 137; refine (plain_any _ _).mono ?_; rintro e w' ⟨rfl, rfl⟩)
        go_round
        case rel => exact ⟨k + 1, by omega, hlt, HE, by go_num⟩
        case measure => simp [intOf]; omega
    · have HE := Lib.hid (HF.out k HK.out (Or.inl (by omega)))
      go_wp2_with (go_at_call 137; refine (plain_any _ _).mono ?_; rintro e w' ⟨rfl, rfl⟩)
      go_ret
      exact ⟨HE.out, rfl⟩
end
end Go.Proofs.YtjgfkmakfdepcaaGreatDoor
