/- Own texts, joined: A13, A8, Rd. -/
import Derived.Test.YtdelihhbmagphaaGreatDoorR1
import Derived.Test.YtdelihhbmagphaaGreatDoorR11
import Derived.Test.YtdelihhbmagphaaGreatDoorR12
import Derived.Test.YtdelihhbmagphaaGreatDoorR15
namespace Go.Proofs.YtdelihhbmagphaaGreatDoor
open Go.RowKit Go.ChangeShapes Go.WideShapes Go.ChangeAt Go.Joins
theorem cellsAct : Tryz.prog.cellsOf 94 = 3 := by kernel_rfl
theorem cellsSlC : Tryz.prog.cellsOf 69 = 1 := by kernel_rfl
theorem bytesAct : Tryz.prog.bytesOf 94 = 48 := by kernel_rfl
theorem ml_of {W : World} (h : W.ShapedOpen Tryz.prog) : ML W :=
 Go.Proofs.cell_of_shapedOpen_int (zero := #[.int .i64 0]) (t := 3) h (of_decide_eq_true (by kernel_rfl)) (by kernel_rfl) rfl (by kernel_rfl) (by kernel_rfl) Tryz.underlying3
section
variable {H : Type} {enc : TypeId × Value → H} {W : World} {fuel : Nat} {cs : List Value}
set_option maxRecDepth 100000 in
theorem act_struct {x : DataW H × List MemPlace} (h : DataW.trod enc Tryz.prog W 0 (fun _ => true) true fuel 94 cs = some x) :
  ∃ (k : Int) (s : ByteArray) (v : Value) (y : DataW H × List MemPlace) (n : Nat) (d0 : DataW H), cs = [.int .i64 k, .string s, v] ∧ x.1 = .agg [d0, .lit (.string s.data.toList), y.1] ∧ DataW.trod enc Tryz.prog W 0 (fun _ => true) true n 69 [v] = some y := by
 obtain ⟨xs, n, rfl, hx, hl, hxl, hf⟩ := DataW.trod_struct Tryz.underlying94 h
 rw [cellsAct] at hl
 match cs, hl with
 | [u0, u1, u2], _ =>
  have e0 : DataW.trod enc Tryz.prog W 0 (fun _ => true) true n 3 (([u0, u1, u2].drop 0).take (Tryz.prog.cellsOf 3)) = xs[0]? := hf 0 _ rfl
  have e1 : DataW.trod enc Tryz.prog W 0 (fun _ => true) true n 9 (([u0, u1, u2].drop 1).take (Tryz.prog.cellsOf 9)) = xs[1]? := hf 1 _ rfl
  have e2 : DataW.trod enc Tryz.prog W 0 (fun _ => true) true n 69 (([u0, u1, u2].drop 2).take (Tryz.prog.cellsOf 69)) = xs[2]? := hf 2 _ rfl
  have hx3 : xs.length = 3 := hxl
  match xs, hx3 with
  | [y0, y1, y2], _ =>
   rw [cellsI] at e0
   rw [cellsS] at e1
   rw [cellsSlC] at e2
   obtain ⟨a, h0, _, _⟩ := DataW.trod_int Tryz.underlying3 (show _ = some y0 from e0)
   obtain ⟨s, h1, g1, _⟩ := DataW.trod_string Tryz.underlying9 (show _ = some y1 from e1)
   simp at h0 h1
   refine ⟨a, s, u2, y2, n, y0.1, by rw [h0, h1], by rw [hx, g1]; rfl, e2⟩
end
section
variable {H : Type} {enc : TypeId × Value → H} {W : World} {n : Nat} {v : Value} {y : DataW H × List MemPlace}
set_option maxRecDepth 100000 in
theorem acts_in (h : DataW.trod enc Tryz.prog W 0 (fun _ => true) true n 65 [v] = some y) (hw : ∀ x ∈ y.1.weights Tryz.prog 65, x ≤ 140737488355328) :
  ∃ ps, RdA W v ps ∧ ps.length * 48 ≤ 140737488355328 ∧ ∀ A m c, v = .slice A m c → m ≤ c := by
 obtain ⟨rows, h1, h2, h4⟩ := open_rows Tryz.underlying65 cellsAct (by decide) h
 rcases h2 with ⟨_, rfl⟩ | ⟨es, sp, hy, hl, hr⟩
 ·exact ⟨[], ⟨h1, fun p hp => by cases hp⟩, by simp, h4⟩
 ·rw [hy] at hw
  simp only [DataW.weights, Tryz.underlying65, List.mem_cons, List.mem_append] at hw
  obtain ⟨ps, rfl, hps⟩ := rows_at actV (fun _ (p : AP) => ActR W p) rows 0 (fun i r hir => by
   obtain ⟨k, d, q, he, ht⟩ := hr i r hir
   obtain ⟨ak, s, u, z, m, d0, rfl, hd, hz⟩ := act_struct ht
   obtain ⟨cs, hc1, hc2, hc3, _⟩ := cells_in hz
   refine ⟨(⟨ak, s.data.toList, cs⟩, u), by simp only [actV]; rw [bstr_of], hc1, ?_, hc2, ?_⟩
   ·rcases hc3 with ⟨_, rfl⟩ | ⟨es2, sp2, hz2, hl2⟩
    ·simp
    ·have hm := hw ((es2.length + sp2.length) * Tryz.prog.bytesOf 96) (Or.inr (Or.inl (weights_all es i d he _ (by
      simp only at hd
      rw [hd, hz2]
      simp [DataW.weights, DataW.weightsEach, Tryz.underlying94, Tryz.underlying69]))))
     rw [bytesCell] at hm
     simp only; omega
   ·have hm := hw s.data.toList.length (Or.inr (Or.inl (weights_all es i d he _ (by
     simp only at hd
     rw [hd]
     simp [DataW.weights, DataW.weightsEach, Tryz.underlying94]))))
    exact hm)
  have hf : (ps.map actV).flatten = flatA ps := by simp [flatA, List.flatMap_def]
  rw [hf, List.length_map] at h1
  refine ⟨ps, ⟨h1, fun p hp => ?_⟩, ?_, h4⟩
  ·obtain ⟨i, hi⟩ := List.getElem?_of_mem hp
   exact hps i p hi
  ·have hm := hw ((es.length + sp.length) * Tryz.prog.bytesOf 94) (Or.inl rfl)
   rw [bytesAct] at hm
   rw [List.length_map] at hl
   omega
end
end Go.Proofs.YtdelihhbmagphaaGreatDoor
namespace Go.Proofs.YtdelihhbmagphaaGreatDoor
open Go.RowKit
theorem semis_le : ∀ (s : List UInt8), ∀ p ∈ semis s, p.length ≤ s.length
 | [], p, h => by simp [semis] at h; subst h; simp
 | c :: r, p, h => by
  have ih := semis_le r
  unfold semis at h
  split at h
  ·rcases List.mem_cons.1 h with rfl | h
   ·simp
   ·have := ih p h; simp; omega
  ·split at h
   ·rename_i he; exact absurd he (semis_ne r)
   ·rename_i q qs he
    rcases List.mem_cons.1 h with rfl | h
    ·have := ih q (by rw [he]; simp); simp; omega
    ·have := ih p (by rw [he]; simp [h]); simp; omega
def ParsedPost (l : List AM) (er : Int) (w : World) (e : Ending) (w' : World) : Prop :=
 ∃ v ps, e = .returned (.tuple #[v, .int .i64 er]) ∧ ps.map Prod.fst = l ∧ w'.ownsRow w.heap.size 94 3 v ps.length (flatA ps) ∧ (∀ p ∈ ps, ActO w.heap.size w' p) ∧ Below w.heap.size w w'
theorem ParsedPost.no {er : Int} {w w' : World} (hb : Below w.heap.size w w') : ParsedPost [] er w (.returned (.tuple #[.slice none 0 0, .int .i64 er])) w' :=
 ⟨_, [], rfl, rfl, World.ownsRow_nil _ _ _ _, (fun p hp => by cases hp), hb⟩
structure PaI (l : List (List UInt8)) (w wr : World) (k : Nat) (lv : Value) (ps : List AP) : Prop where
 le : k ≤ l.length
 eq : ps.map Prod.fst = (l.take k).map readA
 one : ((l.take k).map readA).all oneB = true
 row : wr.ownsRow w.heap.size 94 3 lv ps.length (flatA ps)
 act : ∀ p ∈ ps, ActO w.heap.size wr p
 far : ∀ p ∈ ps, ∀ g, lv.ownBlock = some g → p.2.ownBlock ≠ some g
 below : Below w.heap.size w wr
theorem ActO.below {B : Nat} {w w' : World} {p : AP} (h : ActO B w p) (hb : Below w.heap.size w w') : ActO B w' p := ⟨own_below h.own hb, h.len, h.names, h.name⟩
theorem PaI.moved {l : List (List UInt8)} {w wr w' : World} {k : Nat} {lv : Value} {ps : List AP} (h : PaI l w wr k lv ps) (hb : Below wr.heap.size wr w') : PaI l w w' k lv ps :=
 ⟨h.le, h.eq, h.one, own_below h.row hb, fun p hp => (h.act p hp).below hb, h.far, h.below.trans (hb.mono h.below.size)⟩
theorem PaI.len {l : List (List UInt8)} {w wr : World} {k : Nat} {lv : Value} {ps : List AP} (h : PaI l w wr k lv ps) : ps.length = k := by
 have := congrArg List.length h.eq
 rw [List.length_map, List.length_map, List.length_take] at this
 have := h.le
 omega
theorem PaI.push {l : List (List UInt8)} {w wr w' : World} {k : Nat} {lv lv' v : Value} {ps : List AP} (h : PaI l w wr k lv ps) (hk : k < l.length) (ho : oneB (readA l[k]) = true) (hA : ActO wr.heap.size wr (readA l[k], v) ∨ ActO w.heap.size wr (readA l[k], v) ∧ ∀ g, lv.ownBlock = some g → v.ownBlock ≠ some g)
  (hr : w'.ownsRow w.heap.size 94 3 lv' (ps.length + 1) (flatA ps ++ actV (readA l[k], v))) (hg : wr.grownBy w' lv.ownBlock)
  (hob : (lv'.ownBlock = lv.ownBlock ∧ ∀ g, lv'.ownBlock = some g → g < w'.heap.size) ∨ ∀ g, lv'.ownBlock = some g → wr.heap.size ≤ g ∧ g < w'.heap.size) : PaI l w w' (k + 1) lv' (ps ++ [(readA l[k], v)]) := by
 have hs := h.below.size
 have hA1 : ActO w.heap.size wr (readA l[k], v) := by
  rcases hA with hA | ⟨hA, _⟩
  ·exact ⟨own_lower hA.own hs, hA.len, hA.names, hA.name⟩
  ·exact hA
 have hA2 : ∀ g, lv.ownBlock = some g → v.ownBlock ≠ some g := by
  rcases hA with hA | ⟨_, hA⟩
  ·intro g h1 h2
   have := (hA.own.lt g h2).1
   have := (h.row.lt g h1).2
   omega
  ·exact hA
 have hall : ∀ p ∈ ps ++ [(readA l[k], v)], ActO w.heap.size wr p ∧ ∀ g, lv.ownBlock = some g → p.2.ownBlock ≠ some g := by
  intro p hp
  rcases List.mem_append.1 hp with hp | hp
  ·exact ⟨h.act p hp, h.far p hp⟩
  ·simp at hp; subst hp; exact ⟨hA1, hA2⟩
 have ht : l.take (k + 1) = l.take k ++ [l[k]] := List.take_succ_eq_append_getElem hk
 refine ⟨hk, ?_, ?_, ?_, fun p hp => ?_, fun p hp => ?_, h.below.grown hg hs (fun g hg' => (h.row.lt g hg').1)⟩
 ·rw [ht, List.map_append, List.map_append, h.eq]; rfl
 ·rw [ht, List.map_append, List.all_append, h.one]; simp [ho]
 ·rw [flatA_append, List.length_append]
  simpa [flatA] using hr
 ·obtain ⟨h1, h2⟩ := hall p hp
  exact ⟨own_grown h1.own hg h2, h1.len, h1.names, h1.name⟩
 ·obtain ⟨h1, h2⟩ := hall p hp
  exact ne_symm (new_ne h1.own (ne_symm h2) hob)
theorem all_wrong {l : List (List UInt8)} {k : Nat} (hk : k < l.length) (h : oneB (readA l[k]) = false) : (l.map readA).all oneB = false := by
 rw [List.all_eq_false]
 exact ⟨readA l[k], List.mem_map.2 ⟨_, List.getElem_mem hk, rfl⟩, by simp [h]⟩
theorem infoAct : (Tryz.prog.info? 94).map (fun i => (i.zero, i.size, i.bytes)) = some (some (.agg #[.int .i64 0, .string ByteArray.empty, .slice none 0 0]), 3, 48) := by kernel_rfl
set_option maxRecDepth 100000 in
set_option maxHeartbeats 8000000 in
theorem parseA_any (s : ByteArray) (w : World) (hO : Ops w) (hM : ML w) (hs : s.size ≤ 9223372036854775807) :
  Calls Tryz.prog 83 #[.string s] w (ParsedPost (parseA s.data.toList).1 (parseA s.data.toList).2 w) := by
 have hsl : s.data.toList.length = s.size := (Lib.size_eq s).symm
 by_cases h6 : 6000 < s.size
 ·have hp : parseA s.data.toList = ([], 4) := if_pos (Or.inl (by omega))
  have h6' : (6000 : Int) < s.size := by omega
  rw [hp]; clear hp hsl
  go_enter Tryz.func83, Tryz.ntmps83
  go_wp2
  go_ret2
  exact ParsedPost.no (Below.refl _ _)
 have h6' : ¬ (6000 : Int) < s.size := by omega
 have HCN := Lib.hid (Tryz.strings_Count_one s 59 w)
 by_cases h8 : 8 ≤ Lib.countByte s.data.toList 59
 ·have hp : parseA s.data.toList = ([], 4) := if_pos (Or.inr h8)
  have h8' : (8 : Int) ≤ (Lib.countByte s.data.toList 59 : Nat) := by omega
  rw [hp]; clear hp hsl hO hM
  generalize Lib.countByte s.data.toList 59 = c at *
  go_enter Tryz.func83, Tryz.ntmps83
  go_wp2_with fail
  refine HCN.out.mono ?_
  rintro e w1 ⟨rfl, rfl⟩
  go_wp2
  go_ret2
  exact ParsedPost.no (Below.refl _ _)
 have h8' : ¬ (8 : Int) ≤ (Lib.countByte s.data.toList 59 : Nat) := by omega
 have hpc : (semis s.data.toList).length = Lib.countByte s.data.toList 59 + 1 := semis_len s.data.toList
 have hpa : parseA s.data.toList = if ((semis s.data.toList).map readA).all oneB = true then ((semis s.data.toList).map readA, 0) else ([], 1) := if_neg (by omega)
 obtain ⟨m, hm⟩ := hM
 have hspl := Tryz.strings_Split s ⟨#[59]⟩ m w (by omega) hm (by decide)
 have hsi := split_is s
 have hcb : Lib.countB s ⟨#[59]⟩ = Lib.countByte s.data.toList 59 := Lib.count_one 59 s.data.toList
 rw [hcb] at hspl hsi
 generalize hts : Lib.splitB ⟨#[59]⟩ 0 (Lib.countByte s.data.toList 59) s = ts at *
 have hle := semis_le s.data.toList
 generalize semis s.data.toList = l at *
 have htl : ts.length = l.length := by rw [← hsi, List.length_map]
 obtain ⟨n, hn⟩ : ∃ n, l.length = n := ⟨_, rfl⟩
 have hn8 : n ≤ 8 := by omega
 rw [show Lib.countByte s.data.toList 59 + 1 = n by omega] at hspl
 have HSP := Lib.hid hspl
 have HB0 : Hid (Below w.heap.size w (w.alloc (.cells (ts.map Value.string).toArray 9))) := (Below.refl _ _).alloc (Nat.le_refl _) _
 have hat : ∀ (k : Nat), k < n → ∃ X : ByteArray, (∃ h : k < l.length, X.data.toList = l[k]) ∧ X.size ≤ 6000 ∧ (w.alloc (.cells (ts.map Value.string).toArray 9)).cell? ⟨w.heap.size, k, none⟩ = some (.string X) := by
  intro k hk
  have hkt : k < ts.length := by omega
  have hkl : k < l.length := by omega
  refine ⟨ts[k], ⟨hkl, ?_⟩, ?_, ?_⟩
  ·have : (ts.map (·.data.toList))[k]'(by simpa using hkt) = l[k] := by simp only [hsi]
   rw [← this, List.getElem_map]
  ·have h1 := hle l[k] (List.getElem_mem hkl)
   have : (ts.map (·.data.toList))[k]'(by simpa using hkt) = l[k] := by simp only [hsi]
   rw [List.getElem_map] at this
   rw [Lib.size_eq, this]; omega
  ·have := cell_of_row (w.alloc (.cells (ts.map Value.string).toArray 9)) w.heap.size k _ _ _ (heap_alloc_new w _)
   rw [this]; simp [hkt]
 have HAT := Lib.hid hat
 have HN := Lib.hid hn
 have HPA := Lib.hid hpa
 have HI0 : Hid (PaI l (w.alloc (.cells (ts.map Value.string).toArray 9)) (w.alloc (.cells (ts.map Value.string).toArray 9)) 0 (.slice none 0 0) []) := ⟨Nat.zero_le _, rfl, rfl, World.ownsRow_nil _ _ _ _, (fun p hp => by cases hp), (fun p hp => by cases hp), Below.refl _ _⟩
 have hlt0 : Hid (w.heap.size < (w.alloc (.cells (ts.map Value.string).toArray 9)).heap.size) := by show _ < _; simp
 have HRA : Hid (∀ (X : ByteArray) (W : World), X.size ≤ 6000 → Below w.heap.size w W → Calls Tryz.prog 119 #[.string X] W (ReadPost (readA X.data.toList) W)) := fun X W hX hb => aread_any X W hX (hO.below hb) (ML.below ⟨m, hm⟩ hb)
 obtain ⟨ia, hi0, hi1, hi2, hi3⟩ := info_of infoAct
 have HX0 := Lib.hid hi0; have HX1 := Lib.hid hi1; have HX2 := Lib.hid hi2; have HX3 := Lib.hid hi3
 generalize hw0 : w.alloc (.cells (ts.map Value.string).toArray 9) = w0 at *
 have HSP' : Hid (Calls Tryz.prog 118 #[.string s, .string ⟨#[59]⟩] w fun e w' => e = .returned (.slice (some ⟨w.heap.size, 0, none⟩) n n) ∧ w' = w0) := HSP.out
 clear HSP hspl hsi hcb hts hle htl hat hpa hpc hm hn hO hsl hi0 hi1 hi2 hi3 hw0
 generalize Lib.countByte s.data.toList 59 = cb at *
 go_enter Tryz.func83, Tryz.ntmps83
 go_wp2_with fail
 refine HCN.out.mono ?_
 rintro e w1 ⟨rfl, hw1⟩
 obtain rfl := hw1.symm
 go_wp2_with fail
 refine HSP'.out.mono ?_
 rintro e w1 ⟨rfl, hw1⟩
 obtain rfl := hw1.symm
 go_wp2
 go_loopw [2, 3, 4, 19] (fun x2 x3 x4 x19 wr => x2 = .slice none 0 0 ∧ x3 = .int .i64 0 ∧ ∃ (k : Nat) (ps : List AP) (lv : Value), PaI l w0 wr k lv ps ∧ x4 = lv ∧ x19 = .int .i64 (k : Int)) (fun _ _ _ i _ => n - (intOf i).toNat)
 case atStart => exact ⟨rfl, rfl, 0, [], _, HI0.out, rfl, rfl⟩
 case round =>
  obtain ⟨rfl, rfl, k, ps, lv, hI, hx4, rfl⟩ := hrel
  replace hx4 := hx4.symm
  subst hx4
  obtain ⟨wl, hwl⟩ : ∃ W, W = wr := ⟨_, rfl⟩
  subst hwl
  have hk := hI.le
  rw [HN.out] at hk
  have hpl : ps.length ≤ 8 := by have := hI.len; omega
  have HI := Lib.hid hI
  have HBW := Lib.hid (HB0.out.trans (hI.below.mono HB0.out.size))
  by_cases hkn : k < n
  ·obtain ⟨X, ⟨hkl, hXl⟩, hXs, hXc⟩ := HAT.out k hkn
   have hc := (hI.below.cell hlt0.out).trans hXc
   have HR := Lib.hid (HRA.out X wl hXs HBW.out)
   rw [hXl] at HR
   clear hI hXc hXl
   go_wp2_with fail
   refine HR.out.mono ?_
   rintro e w2 ⟨v, rfl, hA, hb2⟩
   obtain ⟨N, hN, hNl⟩ := bstr_some (readA l[k]).nm
   rw [hN]
   have hI2 := HI.out.moved hb2
   have hAw := aWrong_any (readA l[k]).kd N v (readA l[k]).ex
   have he : (⟨(readA l[k]).kd, N.data.toList, (readA l[k]).ex⟩ : AM) = readA l[k] := by rw [hNl]
   rw [he] at hAw
   have hAL := hA.len
   have hAR := hA.rd.rd
   have hown := hA.own
   simp only at hown
   obtain ⟨Av, cv, rfl⟩ := own_slice hown
   clear hown
   have hfl : [Value.int .i64 (readA l[k]).kd, .string N, .slice Av (readA l[k]).ex.length cv] = actV (readA l[k], .slice Av (readA l[k]).ex.length cv) := by unfold actV; simp only; rw [hN]
   have HFL := Lib.hid hfl
   have hpush := fun w3 w4 lv' (hb3 : Below w2.heap.size w2 w3) => (hI2.moved hb3).push (w' := w4) (lv' := lv') (v := .slice Av (readA l[k]).ex.length cv) hkl
   have hA3 := fun w3 (hb3 : Below w2.heap.size w2 w3) => (ActO.below hA hb3)
   have hfar : ∀ g, Value.ownBlock lv = some g → Value.ownBlock (.slice Av (readA l[k]).ex.length cv) ≠ some g := fun g h1 h2 => by
    have := (hA.own.lt g h2).1
    have := (HI.out.row.lt g h1).2
    omega
   have hwr := fun (h : oneB (readA l[k]) = false) => all_wrong hkl h
   have HPU : Hid (∀ w3 w4 lv', Below w2.heap.size w2 w3 → oneB (readA l[k]) = true → w4.ownsRow w0.heap.size 94 3 lv' (ps.length + 1) (flatA ps ++ actV (readA l[k], .slice Av (readA l[k]).ex.length cv)) → w3.grownBy w4 lv.ownBlock → ((lv'.ownBlock = lv.ownBlock ∧ ∀ g, lv'.ownBlock = some g → g < w4.heap.size) ∨ ∀ g, lv'.ownBlock = some g → w3.heap.size ≤ g ∧ g < w4.heap.size) → PaI l w0 w4 (k + 1) lv' (ps ++ [(readA l[k], .slice Av (readA l[k]).ex.length cv)])) := fun w3 w4 lv' hb3 h1 h2 h3 h4 => hpush w3 w4 lv' hb3 h1 (Or.inr ⟨⟨own_lower (hA3 w3 hb3).own (by have := HI.out.below.size; omega), hA.len, hA.names, hA.name⟩, hfar⟩) h2 h3 h4
   have HI2 := Lib.hid hI2
   have HWR := Lib.hid hwr
   clear hb2 hA hI2 hN hNl he hpush hA3 hfar hfl hwr
   generalize readA l[k] = a at *
   obtain ⟨ak, an, ae⟩ := a
   simp only at hAw hAL hAR
   have HB3 : Hid (Below w2.heap.size w2 (w2.alloc (.cells #[.int .i64 ak, .string N, .slice Av ae.length cv] 94))) := (Below.refl _ _).alloc (Nat.le_refl _) _
   have HAW := Lib.hid (hAw (w2.alloc (.cells #[.int .i64 ak, .string N, .slice Av ae.length cv] 94)) (hAR.below HB3.out) hAL)
   clear hAw hAR
   cases hone : oneB ⟨ak, an, ae⟩ with
   | false =>
    have hp := HPA.out
    rw [HWR.out hone, if_neg (by decide)] at hp
    have HP := Lib.hid hp
    rw [hone] at HAW
    clear hone hp
    go_wp2_with fail
    refine HAW.out.mono ?_
    rintro e w4 ⟨rfl, hb4⟩
    have HB4 := Lib.hid (HB0.out.trans ((HI2.out.below.trans ((HB3.out.trans (hb4.mono HB3.out.size)).mono HI2.out.below.size)).mono HB0.out.size))
    clear hb4
    go_wp2
    go_ret2
    rw [HP.out]
    exact ParsedPost.no HB4.out
   | true =>
    rw [hone] at HAW
    have HON := Lib.hid hone
    clear hone
    go_wp2_with fail
    refine HAW.out.mono ?_
    rintro e w4 ⟨rfl, hb4⟩
    have HB4 : Hid (Below w2.heap.size w2 w4) := HB3.out.trans (hb4.mono HB3.out.size)
    have c0 : w4.cell? ⟨w2.heap.size, 0, none⟩ = some (.int .i64 ak) := (hb4.cell (by simp)).trans (by simp)
    have c1 : w4.cell? ⟨w2.heap.size, 1, none⟩ = some (.string N) := (hb4.cell (by simp)).trans (by simp)
    have c2 : w4.cell? ⟨w2.heap.size, 2, none⟩ = some (.slice Av ae.length cv) := (hb4.cell (by simp)).trans (by simp)
    have HB5 : Hid (Below w2.heap.size w2 (w4.alloc (.cells #[.int .i64 ak, .string N, .slice Av ae.length cv] 94))) := HB4.out.alloc HB4.out.size _
    have HI5 := Lib.hid (HI2.out.moved HB5.out)
    have HIN : Hid (Inn (w4.alloc (.cells #[.int .i64 ak, .string N, .slice Av ae.length cv] 94)) 3 (.slice (some ⟨w4.heap.size, 0, none⟩) 1 1) 1 [.int .i64 ak, .string N, .slice Av ae.length cv]) := Inn.of_own (Oz.own_laid (B := 0) (size := 3) w4 #[.int .i64 ak, .string N, .slice Av ae.length cv] (Nat.zero_le _) (by decide) rfl)
    clear hb4
    go_wp2_with (at_builtin; refine Ow.wpList_append rfl (.tmp 27) (.tmp 29) 65 rfl w0.heap.size 94 ia _ 3 48 Tryz.underlying65 HX0.out HX1.out HX2.out HX3.out rfl (by decide) _ ps.length (flatA ps) rfl HI5.out.row _ 1 [.int .i64 ak, .string N, .slice Av ae.length cv] rfl HIN.out (by intro u hu; simp only [List.mem_cons, List.not_mem_nil, or_false] at hu; rcases hu with rfl | rfl | rfl <;> rfl) (by unfold maxLen; omega) (by omega) HI5.out.below.size ?_)
    intro lv' w5 ho5 hg5 hob5
    have HI6 := Lib.hid (HPU.out _ w5 lv' HB5.out HON.out (by rw [← HFL.out]; exact ho5) hg5 (by simpa using hob5))
    clear ho5 hg5 hob5
    go_wp2
    go_roundw
    case rel => exact ⟨rfl, rfl, k + 1, _, _, HI6.out, rfl, by go_num⟩
    case measure => simp [intOf]; omega
  ·obtain rfl : k = n := by omega
   have hp := HPA.out
   have h1 := hI.one
   have h2 := hI.eq
   rw [← HN.out, List.take_length] at h1 h2
   rw [h1, if_pos rfl] at hp
   have HP := Lib.hid hp
   have H2 := Lib.hid h2
   clear hI h1 h2 hp
   go_wp2
   go_ret2
   rw [HP.out]
   exact ⟨_, ps, rfl, H2.out, own_lower HI.out.row HB0.out.size, fun p hp => ⟨own_lower (HI.out.act p hp).own HB0.out.size, (HI.out.act p hp).len, (HI.out.act p hp).names, (HI.out.act p hp).name⟩, HBW.out⟩
end Go.Proofs.YtdelihhbmagphaaGreatDoor
namespace Go.Proofs.YtdelihhbmagphaaGreatDoor.Pl
open Go.Lib
def inB (n : Int) : Bool := decide (-1048576 ≤ n ∧ n ≤ 1048576)
theorem inB_iff {n : Int} : inB n = true ↔ -1048576 ≤ n ∧ n ≤ 1048576 := decide_eq_true_iff
def sgn (b : Int) : List UInt8 := if b < 0 then [] else [43]
def shw (a b : Int) : List UInt8 := itoa a ++ (sgn b ++ itoa b) ++ [105]
def wloop (n : Nat) : List UInt8 → Nat × Nat
 | [] => (n, 0)
 | c :: r => if isD c = true ∧ n ≤ 1048576 then ((wloop (10 * n + digv c) r).1, (wloop (10 * n + digv c) r).2 + 1) else (n, 0)
theorem wloop_nil (n : Nat) : wloop n [] = (n, 0) := rfl
theorem wloop_go {n : Nat} {c : UInt8} {r : List UInt8} (h : isD c = true ∧ n ≤ 1048576) : wloop n (c :: r) = ((wloop (10 * n + digv c) r).1, (wloop (10 * n + digv c) r).2 + 1) := by rw [wloop, if_pos h]
theorem wloop_stop {n : Nat} {c : UInt8} {r : List UInt8} (h : ¬ (isD c = true ∧ n ≤ 1048576)) : wloop n (c :: r) = (n, 0) := by rw [wloop, if_neg h]
theorem wloop_spec : ∀ (l : List UInt8) (n : Nat), (wloop n l).2 ≤ l.length ∧ (∀ c ∈ l.take (wloop n l).2, isD c = true) ∧ (wloop n l).1 = valD n (l.take (wloop n l).2)
 | [], n => by rw [wloop_nil]; exact ⟨Nat.le_refl _, fun c hc => by simp at hc, by simp [valD_nil]⟩
 | c :: r, n => by
  by_cases h : isD c = true ∧ n ≤ 1048576
  ·obtain ⟨h1, h2, h3⟩ := wloop_spec r (10 * n + digv c)
   rw [wloop_go h]
   refine ⟨by simp; omega, ?_, ?_⟩
   ·intro x hx
    rw [List.take_succ_cons] at hx
    rcases List.mem_cons.1 hx with rfl | hx
    ·exact h.1
    ·exact h2 x hx
   ·rw [List.take_succ_cons, valD_cons]; exact h3
  ·rw [wloop_stop h]
   exact ⟨Nat.zero_le _, fun c hc => by simp at hc, by simp [valD_nil]⟩
theorem valD_ge : ∀ (l : List UInt8) (n : Nat), n ≤ valD n l
 | [], n => by rw [valD_nil]; exact Nat.le_refl _
 | c :: r, n => by rw [valD_cons]; have := valD_ge r (10 * n + digv c); omega
theorem wloop_all : ∀ (l m : List UInt8) (n : Nat), (∀ c ∈ l, isD c = true) → valD n l ≤ 1048576 → (∀ c, m.head? = some c → isD c = false) → wloop n (l ++ m) = (valD n l, l.length)
 | [], m, n, _, _, hm => by
  rw [List.nil_append, valD_nil]
  cases m with
  | nil => rfl
  | cons c r => exact wloop_stop (fun h => by have := hm c rfl; rw [h.1] at this; cases this)
 | c :: r, m, n, hl, hv, hm => by
  rw [valD_cons] at hv ⊢
  have hge := valD_ge r (10 * n + digv c)
  rw [List.cons_append, wloop_go ⟨hl c (by simp), by omega⟩, wloop_all r m _ (fun x hx => hl x (by simp [hx])) hv hm]
  rfl
def wholeL (l : List UInt8) : Int × Nat :=
 if l.head? = some 45 then
  if (wloop 0 l.tail).2 = 0 ∨ l.tail.head? = some 48 then (0, 0) else (-((wloop 0 l.tail).1 : Int), (wloop 0 l.tail).2 + 1)
 else if (wloop 0 l).2 = 0 ∨ (l.head? = some 48 ∧ 1 < (wloop 0 l).2) then (0, 0) else ((wloop 0 l).1, (wloop 0 l).2)
theorem itoa_pos {a : Int} (h : 0 ≤ a) : itoa a = decDigits a.toNat := by unfold itoa; rw [if_neg (by omega)]
theorem itoa_neg' {a : Int} (h : a < 0) : itoa a = 45 :: decDigits a.natAbs := by unfold itoa; rw [if_pos h]
theorem dig_ne_45 {c : UInt8} (h : isD c = true) : c ≠ 45 := fun e => by subst e; revert h; decide
theorem dig_ne_43 {c : UInt8} (h : isD c = true) : c ≠ 43 := fun e => by subst e; revert h; decide
theorem wholeL_itoa (a : Int) (m : List UInt8) (ha : inB a = true) (hm : ∀ c, m.head? = some c → isD c = false) : wholeL (itoa a ++ m) = (a, (itoa a).length) := by
 have hb := inB_iff.1 ha
 by_cases h : a < 0
 ·rw [itoa_neg' h]
  unfold wholeL
  rw [List.cons_append, List.head?_cons, if_pos rfl, List.tail_cons, wloop_all _ _ _ (dec_all _) (by rw [valD_dec]; omega) hm, valD_dec, head_append (dec_ne _)]
  have hl : (decDigits a.natAbs).length ≠ 0 := fun e => dec_ne _ (List.length_eq_zero_iff.1 e)
  rw [if_neg (by rintro (e | e); exact hl e; exact dec_head _ (by omega) e)]
  simp only [List.length_cons]
  congr 1; omega
 ·rw [itoa_pos (by omega)]
  obtain ⟨c, r, e, hc⟩ := dec_head_digit a.toNat
  unfold wholeL
  rw [head_append (dec_ne _), wloop_all _ _ _ (dec_all _) (by rw [valD_dec]; omega) hm, valD_dec]
  have hl : (decDigits a.toNat).length ≠ 0 := fun e => dec_ne _ (List.length_eq_zero_iff.1 e)
  rw [if_neg (by rw [e]; simpa using dig_ne_45 hc)]
  rw [if_neg]
  ·congr 1; omega
  ·rintro (e' | ⟨e1, e2⟩)
   ·exact hl e'
   ·by_cases h0 : a.toNat = 0
    ·rw [h0, dec_zero] at e2; simp at e2
    ·exact dec_head _ h0 e1
theorem wholeL_some (l : List UInt8) (a : Int) (n : Nat) (h : wholeL l = (a, n)) (hn : n ≠ 0) : n ≤ l.length ∧ l.take n = itoa a := by
 unfold wholeL at h
 split at h
 ·rename_i h45
  cases l with
  | nil => simp at h45
  | cons c r =>
   rw [List.head?_cons] at h45
   injection h45 with h45
   subst h45
   rw [List.tail_cons] at h
   split at h
   ·injection h with _ h2; exact absurd h2.symm hn
   ·rename_i hnot
    obtain ⟨h1, h2, h3⟩ := wloop_spec r 0
    generalize hk : (wloop 0 r).2 = k at *
    generalize hv : (wloop 0 r).1 = v at *
    injection h with ha hn'
    subst hn'
    refine ⟨by simp; omega, ?_⟩
    rw [List.take_succ_cons]
    have hk0 : k ≠ 0 := fun e => hnot (Or.inl e)
    have hne : r.take k ≠ [] := by
     intro e
     have := congrArg List.length e
     rw [List.length_take, List.length_nil] at this
     omega
    have hhd : (r.take k).head? = r.head? := by
     cases r with
     | nil => simp at h1; omega
     | cons x y => cases k with
      | zero => exact absurd rfl hk0
      | succ k => rfl
    have hu := dec_unique _ (r.take k) rfl h2 hne (fun e => absurd (Or.inr (hhd ▸ e)) hnot)
    rw [← h3] at hu
    have hv0 : v ≠ 0 := by
     intro e
     rw [e, dec_zero] at hu
     exact hnot (Or.inr (by rw [← hhd, ← hu]; rfl))
    rw [← ha, itoa_neg' (by omega), ← hu]
    congr 2; omega
 ·rename_i h45
  split at h
  ·injection h with _ h2; exact absurd h2.symm hn
  ·rename_i hnot
   obtain ⟨h1, h2, h3⟩ := wloop_spec l 0
   generalize hk : (wloop 0 l).2 = k at *
   generalize hv : (wloop 0 l).1 = v at *
   injection h with ha hn'
   subst hn'
   refine ⟨h1, ?_⟩
   have hne : l.take k ≠ [] := by
    intro e
    have := congrArg List.length e
    rw [List.length_take, List.length_nil] at this
    omega
   have hhd : (l.take k).head? = l.head? := by
    cases l with
    | nil => simp at h1; omega
    | cons x y => cases k with
     | zero => exact absurd rfl hn
     | succ k => rfl
   have hu := dec_unique _ (l.take k) rfl h2 hne (fun e => by
    rw [hhd] at e
    have : ¬ 1 < k := fun hk1 => hnot (Or.inr ⟨e, hk1⟩)
    rw [List.length_take]; omega)
   rw [← h3] at hu
   rw [← ha, itoa_pos (by omega), ← hu]
   congr 1
def finL (a : Int) (t : List UInt8) : Option (Int × Int) :=
 if (wholeL t).2 = 0 ∨ t.drop (wholeL t).2 ≠ [105] ∨ inB a = false ∨ inB (wholeL t).1 = false then none else some (a, (wholeL t).1)
def refT (a : Int) : List UInt8 → Option (Int × Int)
 | [] => none
 | c :: t => if c = 43 then (if t.head? = some 45 then none else finL a t) else if c = 45 then finL a (c :: t) else none
def refL (l : List UInt8) : Option (Int × Int) :=
 if (wholeL l).2 = 0 ∨ (wholeL l).2 = l.length then none else refT (wholeL l).1 (l.drop (wholeL l).2)
theorem finL_some {a : Int} {t : List UInt8} {p : Int × Int} (h : finL a t = some p) : ∃ b, p = (a, b) ∧ inB a = true ∧ inB b = true ∧ t = itoa b ++ [105] := by
 unfold finL at h
 split at h
 ·cases h
 ·rename_i hnot
  simp only [not_or, ne_eq, Decidable.not_not, Bool.not_eq_false] at hnot
  obtain ⟨h1, h2, h3, h4⟩ := hnot
  injection h with h
  refine ⟨_, h.symm, h3, h4, ?_⟩
  have hw := wholeL_some t (wholeL t).1 (wholeL t).2 rfl h1
  rw [← hw.2, ← h2, List.take_append_drop]
theorem itoa_head_neg {b : Int} : (itoa b).head? = some 45 ↔ b < 0 := by
 constructor
 ·intro h
  rcases Int.lt_or_le b 0 with hb | hb
  ·exact hb
  ·rw [itoa_pos hb] at h
   obtain ⟨c, r, e, hc⟩ := dec_head_digit b.toNat
   rw [e, List.head?_cons] at h
   injection h with h
   exact absurd h (dig_ne_45 hc)
 ·intro h; rw [itoa_neg' h]; rfl
theorem itoa_ne (b : Int) : itoa b ≠ [] := by
 unfold itoa; split
 ·simp
 ·exact dec_ne _
theorem refL_some {l : List UInt8} {a b : Int} (h : refL l = some (a, b)) : inB a = true ∧ inB b = true ∧ l = shw a b := by
 unfold refL at h
 split at h
 ·cases h
 ·rename_i hn
  have hw := wholeL_some l (wholeL l).1 (wholeL l).2 rfl (fun e => hn (Or.inl e))
  have hl : l = itoa (wholeL l).1 ++ l.drop (wholeL l).2 := by rw [← hw.2, List.take_append_drop]
  generalize wholeL l = wl at *
  unfold refT at h
  split at h
  ·cases h
  ·rename_i c t hd
   rw [hd] at hl
   split at h
   ·rename_i hc
    subst hc
    split at h
    ·cases h
    ·rename_i ht
     obtain ⟨b', hp, ha, hb, e⟩ := finL_some h
     injection hp with e1 e2
     subst e2
     rw [← e1] at hl ha
     refine ⟨ha, hb, ?_⟩
     rw [e, head_append (itoa_ne _), itoa_head_neg] at ht
     rw [hl, e]
     unfold shw sgn
     rw [if_neg ht]
     simp
   ·split at h
    ·rename_i hc
     subst hc
     obtain ⟨b', hp, ha, hb, e⟩ := finL_some h
     injection hp with e1 e2
     subst e2
     rw [← e1] at hl ha
     refine ⟨ha, hb, ?_⟩
     have hneg : b < 0 := by
      rw [← itoa_head_neg, ← head_append (m := [105]) (itoa_ne b), ← e]; rfl
     rw [hl, e]
     unfold shw sgn
     rw [if_pos hneg]
     simp
    ·cases h
theorem finL_itoa (a b : Int) (ha : inB a = true) (hb : inB b = true) : finL a (itoa b ++ [105]) = some (a, b) := by
 unfold finL
 rw [wholeL_itoa b [105] hb (fun c h => by simp at h; subst h; decide)]
 have hl : (itoa b).length ≠ 0 := fun e => itoa_ne b (List.length_eq_zero_iff.1 e)
 simp [hl, ha, hb]
theorem sgn_itoa (b : Int) : (∃ c t, sgn b ++ itoa b = c :: t ∧ (c = 43 ∨ c = 45)) := by
 unfold sgn
 split
 ·rename_i h; rw [itoa_neg' h]; exact ⟨45, _, rfl, Or.inr rfl⟩
 ·exact ⟨43, _, rfl, Or.inl rfl⟩
theorem refL_shw (a b : Int) (ha : inB a = true) (hb : inB b = true) : refL (shw a b) = some (a, b) := by
 have hw : wholeL (shw a b) = (a, (itoa a).length) := by
  unfold shw
  rw [List.append_assoc]
  refine wholeL_itoa a _ ha ?_
  intro c hc
  obtain ⟨x, t, e, hx⟩ := sgn_itoa b
  rw [e] at hc
  simp at hc
  subst hc
  rcases hx with rfl | rfl <;> decide
 have hl : (itoa a).length ≠ 0 := fun e => itoa_ne a (List.length_eq_zero_iff.1 e)
 unfold refL
 rw [hw]
 have hlen : (itoa a).length ≠ (shw a b).length := by unfold shw; simp
 rw [if_neg (by rintro (e | e); exact hl e; exact hlen e)]
 have hd : (shw a b).drop (itoa a).length = (sgn b ++ itoa b) ++ [105] := by
  unfold shw; rw [List.append_assoc, List.drop_left]
 simp only [hd]
 by_cases h : b < 0
 ·have e : sgn b ++ itoa b ++ [105] = 45 :: (decDigits b.natAbs ++ [105]) := by
   unfold sgn; rw [if_pos h, itoa_neg' h]; rfl
  rw [e]
  simp only [refT]
  rw [if_neg (by decide), if_pos trivial]
  have := finL_itoa a b ha hb
  rw [itoa_neg' h] at this
  exact this
 ·have e : sgn b ++ itoa b ++ [105] = 43 :: (itoa b ++ [105]) := by
   unfold sgn; rw [if_neg h]; rfl
  rw [e]
  simp only [refT]
  rw [if_pos trivial, if_neg, finL_itoa a b ha hb]
  rw [head_append (itoa_ne _), itoa_head_neg]; exact h
/-! ### The program's reader -/
def finP : NumEnd Int → NumEnd Int → Option (Int × Int)
 | .ok a, .ok b => if (inB a && inB b) = true then some (a, b) else none
 | _, _ => none
def guessL (l : List UInt8) (k : Int) : Option (Int × Int) :=
 if hasSuffix l [105] = false ∨ trimSuffix l [105] = [] ∨ k = -1 then none else
 finP (parseIntB 64 ((trimSuffix l [105]).take (1 + k).toNat)) (parseIntB 64 ((trimSuffix l [105]).drop (1 + k).toNat))
theorem guessL_bd {l : List UInt8} {k : Int} {a b : Int} (h : guessL l k = some (a, b)) : inB a = true ∧ inB b = true := by
 unfold guessL at h
 split at h
 ·cases h
 ·unfold finP at h
  split at h
  ·split at h
   ·rename_i hh
    injection h with h
    injection h with h1 h2
    subst h1; subst h2
    simpa using hh
   ·cases h
  ·cases h
theorem suffix_105 (m : List UInt8) : hasSuffix (m ++ [105]) [105] = true ∧ trimSuffix (m ++ [105]) [105] = m := by
 have h : hasSuffix (m ++ [105]) [105] = true := by
  unfold hasSuffix
  rw [List.isSuffixOf_iff_suffix]
  exact ⟨m, rfl⟩
 refine ⟨h, ?_⟩
 unfold trimSuffix
 rw [if_pos h]
 simp
theorem itoa_tail (a : Int) : ∃ c r, itoa a = c :: r ∧ ∀ x ∈ r, isD x = true := by
 by_cases h : a < 0
 ·exact ⟨45, _, itoa_neg' h, dec_all _⟩
 ·obtain ⟨c, r, e, hc⟩ := dec_head_digit a.toNat
  exact ⟨c, r, by rw [itoa_pos (by omega), e], fun x hx => dec_all a.toNat x (by rw [e]; simp [hx])⟩
theorem indexAny_shw (a b : Int) : indexAny ((itoa a ++ (sgn b ++ itoa b)).drop 1) [43, 45] = (((itoa a).length - 1 : Nat) : Int) := by
 obtain ⟨c, r, e, hr⟩ := itoa_tail a
 obtain ⟨x, t, e2, hx⟩ := sgn_itoa b
 rw [e, e2, List.cons_append, List.drop_succ_cons, List.drop_zero, List.length_cons, Nat.add_sub_cancel]
 refine indexAny_hit (x := x) ?_ (by simp) (by rcases hx with rfl | rfl <;> decide)
 intro j y hj hy
 rw [List.getElem?_append_left hj] at hy
 have hy' := hr y (List.mem_of_getElem? hy)
 have h1 := dig_ne_43 hy'
 have h2 := dig_ne_45 hy'
 simp [h1, h2]
theorem guessL_shw (a b : Int) (ha : inB a = true) (hb : inB b = true) : guessL (shw a b) (indexAny ((trimSuffix (shw a b) [105]).drop 1) [43, 45]) = some (a, b) := by
 have ha' := inB_iff.1 ha
 have hb' := inB_iff.1 hb
 obtain ⟨s1, s2⟩ := suffix_105 (itoa a ++ (sgn b ++ itoa b))
 have e : shw a b = itoa a ++ (sgn b ++ itoa b) ++ [105] := rfl
 rw [e, s2, indexAny_shw]
 have hl : 0 < (itoa a).length := List.length_pos_iff.2 (itoa_ne a)
 unfold guessL
 rw [s1, s2, if_neg]
 ·have ek : (1 + (((itoa a).length - 1 : Nat) : Int)).toNat = (itoa a).length := by omega
  rw [ek, List.take_left, List.drop_left, parseIntB_64, parseIntB_64, atoiAll_itoa a (by omega)]
  have e2 : atoiAll (sgn b ++ itoa b) = .ok b := by
   unfold sgn
   split
   ·exact atoiAll_itoa b (by omega)
   ·exact atoiAll_plus_itoa b (by omega) (by omega)
  rw [e2]
  simp [finP, ha, hb]
 ·rintro (h | h | h)
  ·cases h
  ·have := congrArg List.length h
   simp at this
   exact itoa_ne a this.1
  ·omega
theorem shw_ascii (a b : Int) : ∀ c ∈ shw a b, c.toNat < 128 := by
 have hd : ∀ c, isD c = true → c.toNat < 128 := fun c h => by have := isD_iff.1 h; omega
 have hi : ∀ n, ∀ c ∈ itoa n, c.toNat < 128 := fun n c hc => by
  unfold itoa at hc
  split at hc
  ·rcases List.mem_cons.1 hc with rfl | hc
   ·decide
   ·exact hd c (dec_all _ c hc)
  ·exact hd c (dec_all _ c hc)
 intro c hc
 unfold shw at hc
 rcases List.mem_append.1 hc with hc | hc
 ·rcases List.mem_append.1 hc with hc | hc
  ·exact hi a c hc
  ·rcases List.mem_append.1 hc with hc | hc
   ·unfold sgn at hc
    split at hc
    ·simp at hc
    ·rw [List.mem_singleton] at hc; subst hc; decide
   ·exact hi b c hc
 ·rw [List.mem_singleton] at hc; subst hc; decide
end Go.Proofs.YtdelihhbmagphaaGreatDoor.Pl
