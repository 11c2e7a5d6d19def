/- Own texts, joined: Xq, Xs. -/
import Derived.Test.YtgjeofaedidnpaaGreatDoorR24
import Derived.Test.YtgjeofaedidnpaaGreatDoorR30
import Derived.Test.YtgjeofaedidnpaaGreatDoorR35
import Derived.Test.YtgjeofaedidnpaaGreatDoorR36
import Derived.Test.YtgjeofaedidnpaaGreatDoorR37
namespace Go.Proofs.YtgjeofaedidnpaaGreatDoor.Ch.Vd
open Go.RowKit
set_option maxRecDepth 100000
def ex9 : CH := ⟨[99], [[103, 111]], [], [⟨[114], 2, 0, [97], [], []⟩, ⟨[97], 1, 1, [], [], []⟩], [⟨1, [103, 111], [], [97], []⟩]⟩
def no9 : CH := ⟨[99], [], [], [], []⟩
def ex9L : List UInt8 := [99, 104, 97, 114, 116, 32, 99, 10, 101, 118, 101, 110, 116, 32, 103, 111, 10, 111, 110, 101, 32, 114, 32, 97, 10, 32, 98, 97, 115, 105, 99, 32, 97, 10, 32, 32, 111, 110, 32, 103, 111, 32, 45, 32, 97, 32, 45, 10]
theorem ex9_parse : parseC ex9L = (ex9, 0, 0) := by decide +kernel
theorem ex9_words : (linesL ex9L).map lineW = [[wChart, [99]], [wEvent, [103, 111]], [wOne, [114], [97]], [wBasic, [97]], [wOn, [103, 111], wDash, [97], wDash]] := by decide +kernel
theorem known9 : ∀ l ∈ linesL ex9L, ∀ F r, lineW l = F :: r -> Known F r := by
 intro l hl F r hw;have hm : F :: r ∈ (linesL ex9L).map lineW := List.mem_map.2 ⟨l, hl, hw⟩;rw [ex9_words] at hm;simp only [List.mem_cons, List.not_mem_nil, or_false] at hm;intro g hg;rcases hm with h | h | h | h | h
 ·injection h with h1 h2
  subst h1; subst h2;obtain rfl : nameS = g := Option.some.inj hg;exact ⟨_, by decide, name_m.for _, enters_of Tryz.func64 (by kernel_rfl) rfl, by kernel_rfl⟩
 ·injection h with h1 h2
  subst h1; subst h2;obtain rfl : eventS = g := Option.some.inj hg;exact ⟨_, by decide, event_m.for _, enters_of Tryz.func65 (by kernel_rfl) rfl, by kernel_rfl⟩
 ·injection h with h1 h2
  subst h1; subst h2;obtain rfl : stateS 2 2 = g := Option.some.inj hg;exact ⟨_, by decide, one_m.for _, enters_of Tryz.func72 (by kernel_rfl) rfl, by kernel_rfl⟩
 ·injection h with h1 h2
  subst h1; subst h2;obtain rfl : stateS 1 1 = g := Option.some.inj hg;exact ⟨_, by decide, basic_m.for _, enters_of Tryz.func69 (by kernel_rfl) rfl, by kernel_rfl⟩
 ·injection h with h1 h2
  subst h1; subst h2;obtain rfl : onS = g := Option.some.inj hg;exact ⟨_, by decide, on_of _ (Or.inl rfl) (Or.inl rfl), enters_of Tryz.func77 (by kernel_rfl) rfl, by kernel_rfl⟩
theorem two {p : Nat -> Prop} (h0 : p 0) (h1 : p 1) : ∀ i, i < 2 -> p i := by
 intro i hi;have : i = 0 \/ i = 1 := by omega
 rcases this with rfl | rfl <;> assumption
theorem ex9_nst : Tr.Nst (dC ex9.ss) 2 := ⟨two (by decide) (by decide), two (by decide) (by decide), fun _ => by decide, fun i hi => (by obtain rfl : i = 0 := (by omega); decide)⟩
theorem ex9_par : Tr.par (dC ex9.ss) 0 = -1 /\ Tr.par (dC ex9.ss) 1 = 0 := by decide
theorem ex9_kids : Tr.kids (dC ex9.ss) 2 0 = [1] /\ Tr.kids (dC ex9.ss) 2 1 = [] := by decide
theorem ex9_tree : treeP ex9 := by
 obtain ⟨k0, k1⟩ := ex9_kids;refine ⟨by decide, by decide, ex9_nst, two ⟨by decide, by decide⟩ ⟨by decide, by decide⟩, two ?_ ?_, by decide⟩
 ·show (∀ k ∈ Tr.kids (dC ex9.ss) 2 0, _) /\ ((∃ k ∈ Tr.kids (dC ex9.ss) 2 0, _) ↔ _);rw [k0]; exact ⟨by decide, by decide⟩
 ·show (∀ k ∈ Tr.kids (dC ex9.ss) 2 1, _) /\ ((∃ k ∈ Tr.kids (dC ex9.ss) 2 1, _) ↔ _);rw [k1]; exact ⟨by decide, by decide⟩
theorem ex9_dom : Tr.dom (dC ex9.ss) (kC ex9.ss) 1 1 = 0 := by
 rw [ex9_nst.dom_par (k := 1) (p := 0) (by decide) (decide_eq_false (fun h => by have := h.1; exact absurd this (by decide))) ex9_par.2];refine Tr.dom_here (decide_eq_true ⟨by decide, by decide, fun m h1 h2 => ?_⟩);obtain rfl : m = 1 := by omega
 decide
theorem ex9_place : placeC ex9.ss [97] = 1 /\ placeC ex9.ss [98] = -1 := by decide
theorem ex9_valid : Valid ex9 := by
 refine ⟨by decide, by decide +kernel, by decide +kernel, ex9_tree, two ?_ ?_, fun v hv => (by cases hv), fun s hs => ?_, fun i hi => ?_, fun t ht => ?_⟩
 ·unfold initE;rw [if_neg (by decide), show iniC ex9.ss 0 = [97] from rfl, ex9_place.1];exact if_pos ⟨by decide, by decide, Or.inl ⟨rfl, ex9_par.2⟩⟩
 ·unfold initE;rw [if_pos (by decide)]; rfl
 ·simp only [ex9, List.mem_cons, List.not_mem_nil, or_false] at hs;rcases hs with rfl | rfl <;> decide
 ·obtain rfl : i = 0 := by have : i < 1 := hi; omega
  exact ⟨⟨by decide, by decide, Or.inl rfl⟩, fun h => absurd h (by decide)⟩
 ·simp only [ex9, List.mem_cons, List.not_mem_nil, or_false] at ht;subst ht;unfold tE;rw [if_neg (fun h => h (Or.inr (Or.inr (Or.inl (by decide)))))];have h1 : guardE ex9 [] = 0 := rfl;have h2 : blockE ex9 [] = 0 := rfl;have h3 : targE ex9 ⟨1, [103, 111], [], [97], []⟩ = 0 := by
   unfold targE;rw [if_neg (by decide)];show (if placeC ex9.ss [97] = -1 then 2 else if Tr.dom (dC ex9.ss) (kC ex9.ss) 1 (placeC ex9.ss [97]).toNat ≠ -1 then 0 else 9) = (0 : Int);rw [ex9_place.1, if_neg (by decide)];show (if Tr.dom (dC ex9.ss) (kC ex9.ss) 1 1 ≠ -1 then 0 else 9) = (0 : Int);rw [ex9_dom, if_pos (by decide)]
  show orE (guardE ex9 []) (orE (targE ex9 _) (blockE ex9 [])) = 0;rw [h1, h2, h3]; rfl
theorem no9_check : checkE no9 = 9 := by
 unfold checkE;rw [if_neg (by decide), if_neg (by decide +kernel), if_neg (by decide +kernel), if_pos (fun h => by have := h.pos; exact absurd this (by decide))]
theorem ex9_sb : Sb ex9 := by
 refine ⟨fun s hs => ?_, fun t ht => ?_⟩
 ·simp only [ex9, List.mem_cons, List.not_mem_nil, or_false] at hs;rcases hs with rfl | rfl <;> decide
 ·simp only [ex9, List.mem_cons, List.not_mem_nil, or_false] at ht;subst ht; decide
theorem no9_m (w : World) : ChM w no9 (.slice none 0 0) (.slice none 0 0) (.slice none 0 0) (.slice none 0 0) [] [] :=
 ⟨Inn.nil _ _, Inn.nil _ _, rfl, Inn.nil _ _, rfl, Inn.nil _ _, fun p hp => (by cases hp), fun p hp => (by cases hp), by decide, by decide, by decide, by decide⟩
theorem read_own {B : Nat} {w : World} {c : CH} {eV vV sV tV : Value} {sp : List SP} {tp : List TP} (h : ChO B w c eV vV sV tV sp tp) : ChM w c eV vV sV tV sp tp /\ ∀ A n k, eV = .slice A n k -> n <= k := by
 have hl : ∀ {e : TypeId} {size n : Nat} {v : Value} {xs : List Value}, w.ownsRow B e size v n xs -> n <= 9223372036854775807 := fun h => by
  rcases own_form h with ⟨_, rfl⟩ | ⟨g, cap, _, h1, h2⟩
  ·exact Nat.zero_le _
  ·unfold maxLen at h2; omega
 have hb : ∀ {v : Value} {l : List AM}, BlkO B w v l -> BlkR w v l := fun ⟨al, h1, h2, h3⟩ =>
  ⟨al, h1, ⟨Inn.of_own h2, fun p hp => ⟨inn_rdI (Inn.of_own (h3 p hp).own), (h3 p hp).len, (h3 p hp).names, (h3 p hp).name⟩⟩, hl h2⟩
 have hg : ∀ {v : Value} {cs : List CM}, GdO B w v cs -> GdR w v cs := fun h => ⟨inn_rdI (Inn.of_own h.own), h.len⟩
 refine ⟨⟨Inn.of_own h.es, Inn.of_own h.vs, h.ssE, Inn.of_own h.ss, h.tsE, Inn.of_own h.ts, fun p hp => ⟨hb (h.sd p hp).1, hb (h.sd p hp).2⟩, fun p hp => ⟨hg (h.td p hp).1, hb (h.td p hp).2⟩, hl h.es, hl h.vs, hl h.ss, hl h.ts⟩, fun A n k e => ?_⟩;obtain ⟨A', k', e', hk⟩ := own_cap h.es;rw [e'] at e;simp only [Value.slice.injEq] at e;omega
set_option maxHeartbeats 4000000 in
theorem wakes9_any (w : World) (hE : Env w) :
 Calls Tryz.prog 8 #[] w fun e w' => e = .returned (.bool true) /\ Below w.heap.size w w' := by
 have HP := Lib.hid (parse_of ⟨#[99, 104, 97, 114, 116, 32, 99, 10, 101, 118, 101, 110, 116, 32, 103, 111, 10, 111, 110, 101, 32, 114, 32, 97, 10, 32, 98, 97, 115, 105, 99, 32, 97, 10, 32, 32, 111, 110, 32, 103, 111, 32, 45, 32, 97, 32, 45, 10]⟩ w hE known9);clear hE
 go_enter Tryz.func8, Tryz.ntmps8
 go_wp2_with fail
 go_at_call 14
 refine HP.out.mono ?_;rintro e w1 ⟨⟨eV, vV, sV, tV, sp, tp, rfl, hO⟩, hb1⟩;rw [show parseC (ByteArray.mk #[99, 104, 97, 114, 116, 32, 99, 10, 101, 118, 101, 110, 116, 32, 103, 111, 10, 111, 110, 101, 32, 114, 32, 97, 10, 32, 98, 97, 115, 105, 99, 32, 97, 10, 32, 32, 111, 110, 32, 103, 111, 32, 45, 32, 97, 32, 45, 10]).data.toList = (ex9, 0, 0) from ex9_parse] at hO ⊢;have hl1 : sp.length = 2 := by have := congrArg List.length hO.ssE; rw [List.length_map] at this; exact this
 have hl2 : tp.length = 1 := by have := congrArg List.length hO.tsE; rw [List.length_map] at this; exact this
 obtain ⟨hM, hcap⟩ := read_own hO;have hck : ∀ W, Below w1.heap.size w1 W -> Calls Tryz.prog 9 #[chA ex9 eV vV sV tV] W fun e w' => e = .returned (.int .i64 0) /\ Below W.heap.size W w' := fun W hW => by
  have h := check_any (hM.below hW) hcap ex9_sb;rw [check_zero.2 ex9_valid] at h;exact h
 have hpa : ∀ W, Below w1.heap.size w1 W -> Calls Tryz.prog 12 #[chA ex9 eV vV sV tV, .string ⟨#[97]⟩] W fun e w' => e = .returned (.int .i64 1) /\ Below W.heap.size W w' := fun W hW => by
  have h := place_any (hM.below hW) (by omega) ⟨#[97]⟩;rw [show placeC ex9.ss (ByteArray.mk #[97]).data.toList = 1 from ex9_place.1] at h;exact h
 have hpb : ∀ W, Below w1.heap.size w1 W -> Calls Tryz.prog 12 #[chA ex9 eV vV sV tV, .string ⟨#[98]⟩] W fun e w' => e = .returned (.int .i64 (-1)) /\ Below W.heap.size W w' := fun W hW => by
  have h := place_any (hM.below hW) (by omega) ⟨#[98]⟩;rw [show placeC ex9.ss (ByteArray.mk #[98]).data.toList = -1 from ex9_place.2] at h;exact h
 have hno : ∀ W, Calls Tryz.prog 9 #[.agg #[.string ⟨#[99]⟩, .slice none 0 0, .slice none 0 0, .slice none 0 0, .slice none 0 0]] W fun e w' => e = .returned (.int .i64 9) /\ Below W.heap.size W w' := fun W => by
  have h := check_any (no9_m W) (fun A n k e => by simp only [Value.slice.injEq] at e; omega) (c := no9) ⟨fun s hs => (by cases hs), fun t ht => (by cases ht)⟩;rw [no9_check] at h;exact h
 obtain ⟨⟨Ae, ce, rfl⟩, ⟨Av, cv, rfl⟩, ⟨As, cs, rfl⟩, ⟨At, ct, rfl⟩⟩ := hM.forms;have e1 : bstr ex9.nm = .string ⟨#[99]⟩ := rfl;have e2 : ex9.es.length = 1 := rfl;have e3 : ex9.vs.length = 0 := rfl;unfold chA at hck hpa hpb;rw [hl1, hl2, e1, e2, e3] at hck hpa hpb ⊢;have HCK := Lib.hid hck; have HPA := Lib.hid hpa; have HPB := Lib.hid hpb; have HNO := Lib.hid hno;have HB1 := Lib.hid hb1;clear hck hpa hpb hno hb1 hM hO hcap hl1 hl2 e1 e2 e3 HP;obtain ⟨w2, hw2⟩ : ∃ W, W = w1.alloc (.cells #[.string ⟨#[99]⟩, .slice Ae 1 ce, .slice Av 0 cv, .slice As 2 cs, .slice At 1 ct] 27) := ⟨_, rfl⟩
 have hb2 : Below w1.heap.size w1 w2 := hw2 ▸ (Below.refl _ _).alloc (Nat.le_refl _) _;obtain ⟨d0, d1, d2, d3, d4⟩ : w2.cell? ⟨w1.heap.size, 0, none⟩ = some (.string ⟨#[99]⟩) /\ w2.cell? ⟨w1.heap.size, 1, none⟩ = some (.slice Ae 1 ce) /\ w2.cell? ⟨w1.heap.size, 2, none⟩ = some (.slice Av 0 cv) /\ w2.cell? ⟨w1.heap.size, 3, none⟩ = some (.slice As 2 cs) /\ w2.cell? ⟨w1.heap.size, 4, none⟩ = some (.slice At 1 ct) := by rw [hw2]; simp
 have HT : Hid (∀ W, Below w2.heap.size w2 W -> W.cell? ⟨w1.heap.size, 0, none⟩ = some (.string ⟨#[99]⟩) /\ W.cell? ⟨w1.heap.size, 1, none⟩ = some (.slice Ae 1 ce) /\ W.cell? ⟨w1.heap.size, 2, none⟩ = some (.slice Av 0 cv) /\ W.cell? ⟨w1.heap.size, 3, none⟩ = some (.slice As 2 cs) /\ W.cell? ⟨w1.heap.size, 4, none⟩ = some (.slice At 1 ct)) := fun W hW =>
  ⟨(hW.cell (cell_lt d0)).trans d0, (hW.cell (cell_lt d1)).trans d1, (hW.cell (cell_lt d2)).trans d2, (hW.cell (cell_lt d3)).trans d3, (hW.cell (cell_lt d4)).trans d4⟩
 have HW2 := Lib.hid hw2; have HB2 := Lib.hid hb2;clear hw2 hb2
 go_wp2_with fail
 rw [<- HW2.out];refine (HCK.out _ HB2.out).mono ?_;rintro e w3 ⟨rfl, hb3⟩;have HB3 := Lib.hid hb3; have HC3 := Lib.hid (HB2.out.trans (hb3.mono HB2.out.size)); clear hb3 d0 d1 d2 d3 d4
 go_wp2_with fail
 refine (HNO.out _).mono ?_;rintro e w4 ⟨rfl, hb4⟩;have HB4 := Lib.hid (HB3.out.trans (hb4.mono HB3.out.size)); have HC4 := Lib.hid (HC3.out.trans (hb4.mono HC3.out.size)); clear hb4;obtain ⟨d0, d1, d2, d3, d4⟩ := HT.out _ HB4.out
 go_wp2_with fail
 refine (HPA.out _ HC4.out).mono ?_;rintro e w5 ⟨rfl, hb5⟩;have HB5 := Lib.hid (HB4.out.trans (hb5.mono HB4.out.size)); have HC5 := Lib.hid (HC4.out.trans (hb5.mono HC4.out.size)); clear hb5 d0 d1 d2 d3 d4;obtain ⟨d0, d1, d2, d3, d4⟩ := HT.out _ HB5.out
 go_wp2_with fail
 refine (HPB.out _ HC5.out).mono ?_;rintro e w6 ⟨rfl, hb6⟩;have HC6 := Lib.hid (HC5.out.trans (hb6.mono HC5.out.size)); clear hb6;go_wp2;go_ret;exact ⟨rfl, HB1.out.trans (HC6.out.mono HB1.out.size)⟩
end Go.Proofs.YtgjeofaedidnpaaGreatDoor.Ch.Vd
namespace Go.Proofs.YtgjeofaedidnpaaGreatDoor.Ch.Vd
open Go.RowKit Go.ChangeShapes Go.WideShapes Go.ChangeAt Go.Joins
theorem cellsSt : Tryz.prog.cellsOf 39 = 6 := by kernel_rfl
theorem cellsTr : Tryz.prog.cellsOf 42 = 5 := by kernel_rfl
theorem cellsCh : Tryz.prog.cellsOf 27 = 5 := by kernel_rfl
theorem cellsSlA : Tryz.prog.cellsOf 37 = 1 := by kernel_rfl
theorem cellsSlS : Tryz.prog.cellsOf 22 = 1 := by kernel_rfl
theorem cellsSlV : Tryz.prog.cellsOf 23 = 1 := by kernel_rfl
theorem cellsSlSt : Tryz.prog.cellsOf 24 = 1 := by kernel_rfl
theorem cellsSlT : Tryz.prog.cellsOf 25 = 1 := by kernel_rfl
theorem bytesSt : Tryz.prog.bytesOf 39 = 96 := by kernel_rfl
theorem bytesTr : Tryz.prog.bytesOf 42 = 88 := by kernel_rfl
section
variable {H : Type} {enc : TypeId × Value -> H} {W : World} {fuel : Nat} {cs : List Value}
set_option maxRecDepth 100000 in
theorem val8 {u0 u1 u2 : Value} {x : DataW H × List MemPlace} (h : DataW.trod enc Tryz.prog W 0 (fun _ => true) true fuel 49 [u0, u1, u2] = some x) : ∃ a b c : Int, u0 = .int .i64 a /\ u1 = .int .i64 b /\ u2 = .int .i64 c := by
 obtain ⟨xs, n, rfl, _, hl, hxl, hf⟩ := DataW.trod_struct Tryz.underlying49 h;have e0 : DataW.trod enc Tryz.prog W 0 (fun _ => true) true n 3 (([u0, u1, u2].drop 0).take (Tryz.prog.cellsOf 3)) = xs[0]? := hf 0 _ rfl;have e1 : DataW.trod enc Tryz.prog W 0 (fun _ => true) true n 2 (([u0, u1, u2].drop 1).take (Tryz.prog.cellsOf 2)) = xs[1]? := hf 1 _ rfl;have e2 : DataW.trod enc Tryz.prog W 0 (fun _ => true) true n 2 (([u0, u1, u2].drop 2).take (Tryz.prog.cellsOf 2)) = xs[2]? := hf 2 _ rfl;have hx3 : xs.length = 3 := hxl;rw [cellsI, List.getElem?_eq_getElem (by omega)] at e0;rw [cellsI64, List.getElem?_eq_getElem (by omega)] at e1 e2;obtain ⟨a, h0, _, _⟩ := DataW.trod_int Tryz.underlying3 e0;obtain ⟨b, h1, _, _⟩ := DataW.trod_int Tryz.underlying2 e1;obtain ⟨c, h2, _, _⟩ := DataW.trod_int Tryz.underlying2 e2;simp at h0 h1 h2;exact ⟨a, b, c, h0, h1, h2⟩
set_option maxRecDepth 100000 in
theorem var8 {x : DataW H × List MemPlace} (h : DataW.trod enc Tryz.prog W 0 (fun _ => true) true fuel 51 cs = some x) : ∃ v : VM, cs = vaV v := by
 obtain ⟨xs, n, rfl, hx, hl, hxl, hf⟩ := DataW.trod_struct Tryz.underlying51 h;rw [cellsVar] at hl
 match cs, hl with
 | [u0, u1, u2, u3, u4, u5, u6], _ =>
  have e0 : DataW.trod enc Tryz.prog W 0 (fun _ => true) true n 9 (([u0, u1, u2, u3, u4, u5, u6].drop 0).take (Tryz.prog.cellsOf 9)) = xs[0]? := hf 0 _ rfl;have e1 : DataW.trod enc Tryz.prog W 0 (fun _ => true) true n 3 (([u0, u1, u2, u3, u4, u5, u6].drop 1).take (Tryz.prog.cellsOf 3)) = xs[1]? := hf 1 _ rfl;have e2 : DataW.trod enc Tryz.prog W 0 (fun _ => true) true n 2 (([u0, u1, u2, u3, u4, u5, u6].drop 2).take (Tryz.prog.cellsOf 2)) = xs[2]? := hf 2 _ rfl;have e3 : DataW.trod enc Tryz.prog W 0 (fun _ => true) true n 2 (([u0, u1, u2, u3, u4, u5, u6].drop 3).take (Tryz.prog.cellsOf 2)) = xs[3]? := hf 3 _ rfl;have e4 : DataW.trod enc Tryz.prog W 0 (fun _ => true) true n 49 (([u0, u1, u2, u3, u4, u5, u6].drop 4).take (Tryz.prog.cellsOf 49)) = xs[4]? := hf 4 _ rfl;have hx5 : xs.length = 5 := hxl
  match xs, hx5 with
  | [y0, y1, y2, y3, y4], _ =>
   rw [cellsS] at e0;rw [cellsI] at e1;rw [cellsI64] at e2 e3;rw [cellsVal] at e4;obtain ⟨s, h0, _, _⟩ := DataW.trod_string Tryz.underlying9 (show _ = some y0 from e0);obtain ⟨k, h1, _, _⟩ := DataW.trod_int Tryz.underlying3 (show _ = some y1 from e1);obtain ⟨lo, h2, _, _⟩ := DataW.trod_int Tryz.underlying2 (show _ = some y2 from e2);obtain ⟨hi, h3, _, _⟩ := DataW.trod_int Tryz.underlying2 (show _ = some y3 from e3);obtain ⟨a, b, c, h4, h5, h6⟩ := val8 (u0 := u4) (u1 := u5) (u2 := u6) (show _ = some y4 from e4);simp at h0 h1 h2 h3;exact ⟨⟨s.data.toList, k, lo, hi, a, b, c⟩, by rw [h0, h1, h2, h3, h4, h5, h6]; rfl⟩
set_option maxRecDepth 100000 in
theorem state8 {x : DataW H × List MemPlace} (h : DataW.trod enc Tryz.prog W 0 (fun _ => true) true fuel 39 cs = some x) :
 ∃ (s i : ByteArray) (k dp : Int) (v1 v2 : Value) (y1 y2 : DataW H × List MemPlace) (n : Nat) (d1 d2 : DataW H), cs = [.string s, .int .i64 k, .int .i64 dp, .string i, v1, v2] /\ x.1 = .agg [.lit (.string s.data.toList), d1, d2, .lit (.string i.data.toList), y1.1, y2.1] /\ DataW.trod enc Tryz.prog W 0 (fun _ => true) true n 37 [v1] = some y1 /\ DataW.trod enc Tryz.prog W 0 (fun _ => true) true n 37 [v2] = some y2 := by
 obtain ⟨xs, n, rfl, hx, hl, hxl, hf⟩ := DataW.trod_struct Tryz.underlying39 h;rw [cellsSt] at hl
 match cs, hl with
 | [u0, u1, u2, u3, u4, u5], _ =>
  have e0 : DataW.trod enc Tryz.prog W 0 (fun _ => true) true n 9 (([u0, u1, u2, u3, u4, u5].drop 0).take (Tryz.prog.cellsOf 9)) = xs[0]? := hf 0 _ rfl;have e1 : DataW.trod enc Tryz.prog W 0 (fun _ => true) true n 3 (([u0, u1, u2, u3, u4, u5].drop 1).take (Tryz.prog.cellsOf 3)) = xs[1]? := hf 1 _ rfl;have e2 : DataW.trod enc Tryz.prog W 0 (fun _ => true) true n 3 (([u0, u1, u2, u3, u4, u5].drop 2).take (Tryz.prog.cellsOf 3)) = xs[2]? := hf 2 _ rfl;have e3 : DataW.trod enc Tryz.prog W 0 (fun _ => true) true n 9 (([u0, u1, u2, u3, u4, u5].drop 3).take (Tryz.prog.cellsOf 9)) = xs[3]? := hf 3 _ rfl;have e4 : DataW.trod enc Tryz.prog W 0 (fun _ => true) true n 37 (([u0, u1, u2, u3, u4, u5].drop 4).take (Tryz.prog.cellsOf 37)) = xs[4]? := hf 4 _ rfl;have e5 : DataW.trod enc Tryz.prog W 0 (fun _ => true) true n 37 (([u0, u1, u2, u3, u4, u5].drop 5).take (Tryz.prog.cellsOf 37)) = xs[5]? := hf 5 _ rfl;have hx6 : xs.length = 6 := hxl
  match xs, hx6 with
  | [y0, y1, y2, y3, y4, y5], _ =>
   rw [cellsS] at e0 e3;rw [cellsI] at e1 e2;rw [cellsSlA] at e4 e5;obtain ⟨s, h0, g0, _⟩ := DataW.trod_string Tryz.underlying9 (show _ = some y0 from e0);obtain ⟨k, h1, _, _⟩ := DataW.trod_int Tryz.underlying3 (show _ = some y1 from e1);obtain ⟨dp, h2, _, _⟩ := DataW.trod_int Tryz.underlying3 (show _ = some y2 from e2);obtain ⟨i, h3, g3, _⟩ := DataW.trod_string Tryz.underlying9 (show _ = some y3 from e3);simp at h0 h1 h2 h3;exact ⟨s, i, k, dp, u4, u5, y4, y5, n, y1.1, y2.1, by rw [h0, h1, h2, h3], by rw [hx, g0, g3]; rfl, e4, e5⟩
set_option maxRecDepth 100000 in
theorem trans8 {x : DataW H × List MemPlace} (h : DataW.trod enc Tryz.prog W 0 (fun _ => true) true fuel 42 cs = some x) :
 ∃ (fr : Int) (s t : ByteArray) (v1 v2 : Value) (y1 y2 : DataW H × List MemPlace) (n : Nat) (d0 : DataW H), cs = [.int .i64 fr, .string s, v1, .string t, v2] /\ x.1 = .agg [d0, .lit (.string s.data.toList), y1.1, .lit (.string t.data.toList), y2.1] /\ DataW.trod enc Tryz.prog W 0 (fun _ => true) true n 40 [v1] = some y1 /\ DataW.trod enc Tryz.prog W 0 (fun _ => true) true n 37 [v2] = some y2 := by
 obtain ⟨xs, n, rfl, hx, hl, hxl, hf⟩ := DataW.trod_struct Tryz.underlying42 h;rw [cellsTr] at hl
 match cs, hl with
 | [u0, u1, u2, u3, u4], _ =>
  have e0 : DataW.trod enc Tryz.prog W 0 (fun _ => true) true n 3 (([u0, u1, u2, u3, u4].drop 0).take (Tryz.prog.cellsOf 3)) = xs[0]? := hf 0 _ rfl;have e1 : DataW.trod enc Tryz.prog W 0 (fun _ => true) true n 9 (([u0, u1, u2, u3, u4].drop 1).take (Tryz.prog.cellsOf 9)) = xs[1]? := hf 1 _ rfl;have e2 : DataW.trod enc Tryz.prog W 0 (fun _ => true) true n 40 (([u0, u1, u2, u3, u4].drop 2).take (Tryz.prog.cellsOf 40)) = xs[2]? := hf 2 _ rfl;have e3 : DataW.trod enc Tryz.prog W 0 (fun _ => true) true n 9 (([u0, u1, u2, u3, u4].drop 3).take (Tryz.prog.cellsOf 9)) = xs[3]? := hf 3 _ rfl;have e4 : DataW.trod enc Tryz.prog W 0 (fun _ => true) true n 37 (([u0, u1, u2, u3, u4].drop 4).take (Tryz.prog.cellsOf 37)) = xs[4]? := hf 4 _ rfl;have hx5 : xs.length = 5 := hxl
  match xs, hx5 with
  | [y0, y1, y2, y3, y4], _ =>
   rw [cellsI] at e0;rw [cellsS] at e1 e3;rw [cellsSlC] at e2;rw [cellsSlA] at e4;obtain ⟨fr, h0, _, _⟩ := DataW.trod_int Tryz.underlying3 (show _ = some y0 from e0);obtain ⟨s, h1, g1, _⟩ := DataW.trod_string Tryz.underlying9 (show _ = some y1 from e1);obtain ⟨t, h3, g3, _⟩ := DataW.trod_string Tryz.underlying9 (show _ = some y3 from e3);simp at h0 h1 h3;exact ⟨fr, s, t, u2, u4, y2, y4, n, y0.1, by rw [h0, h1, h3], by rw [hx, g1, g3]; rfl, e2, e4⟩
end
section
variable {H : Type} {enc : TypeId × Value -> H} {W : World} {n : Nat} {v : Value} {y : DataW H × List MemPlace}
theorem blk_in (h : DataW.trod enc Tryz.prog W 0 (fun _ => true) true n 37 [v] = some y) (hw : ∀ x ∈ y.1.weights Tryz.prog 37, x <= 140737488355328) : ∃ l, BlkR W v l /\ l.length <= 140737488355328 := by
 obtain ⟨ps, h1, h2, _⟩ := acts_in h hw;exact ⟨ps.map Prod.fst, ⟨ps, rfl, h1, by omega⟩, by rw [List.length_map]; omega⟩
theorem gd_in (h : DataW.trod enc Tryz.prog W 0 (fun _ => true) true n 40 [v] = some y) (hw : ∀ x ∈ y.1.weights Tryz.prog 40, x <= 140737488355328) : ∃ l, GdR W v l /\ l.length <= 140737488355328 /\ Names l := by
 obtain ⟨cs, h1, hn, h3, _⟩ := cells_in h;have hb : cs.length * 32 <= 140737488355328 := by
  rcases h3 with ⟨_, rfl⟩ | ⟨es, sp, hz, hl⟩
  ·simp
  ·rw [hz] at hw;have hm := hw ((es.length + sp.length) * Tryz.prog.bytesOf 144) (by simp [DataW.weights, Tryz.underlying40]);rw [bytesCell] at hm;omega
 exact ⟨cs, ⟨h1, hb⟩, by omega, hn⟩
set_option maxRecDepth 100000 in
theorem vars8 (h : DataW.trod enc Tryz.prog W 0 (fun _ => true) true n 23 [v] = some y) (hw : ∀ x ∈ y.1.weights Tryz.prog 23, x <= 140737488355328) :
 ∃ vs : List VM, Inn W 7 v vs.length (flatV vs) /\ vs.length * 64 <= 140737488355328 := by
 obtain ⟨rows, h1, h2, h4⟩ := open_rows Tryz.underlying23 cellsVar (by decide) h;rcases h2 with ⟨_, rfl⟩ | ⟨es, sp, hy, hl, hr⟩
 ·exact ⟨[], h1, by simp⟩
 ·rw [hy] at hw;simp only [DataW.weights, Tryz.underlying23, List.mem_cons, List.mem_append] at hw;obtain ⟨vs, rfl, _⟩ := rows_at vaV (fun _ (_ : VM) => True) rows 0 (fun i r hir => by
   obtain ⟨k, d, q, he, ht⟩ := hr i r hir;obtain ⟨x, rfl⟩ := var8 ht;exact ⟨x, rfl, trivial⟩)
  have hf : (vs.map vaV).flatten = flatV vs := by simp [flatV, List.flatMap_def]
  rw [hf, List.length_map] at h1;refine ⟨vs, h1, ?_⟩
  ·have hm := hw ((es.length + sp.length) * Tryz.prog.bytesOf 51) (Or.inl rfl);rw [bytesVar] at hm;rw [List.length_map] at hl;omega
set_option maxRecDepth 100000 in
theorem states8 (h : DataW.trod enc Tryz.prog W 0 (fun _ => true) true n 24 [v] = some y) (hw : ∀ x ∈ y.1.weights Tryz.prog 24, x <= 140737488355328) :
 ∃ ps : List SP, Inn W 6 v ps.length (flatS ps) /\ (∀ p ∈ ps, StR W p /\ p.1.en.length <= 140737488355328 /\ p.1.ex.length <= 140737488355328) /\ ps.length * 96 <= 140737488355328 := by
 obtain ⟨rows, h1, h2, h4⟩ := open_rows Tryz.underlying24 cellsSt (by decide) h;rcases h2 with ⟨_, rfl⟩ | ⟨es, sp, hy, hl, hr⟩
 ·exact ⟨[], h1, (fun p hp => by cases hp), by simp⟩
 ·rw [hy] at hw;simp only [DataW.weights, Tryz.underlying24, List.mem_cons, List.mem_append] at hw;obtain ⟨ps, rfl, hps⟩ := rows_at stV (fun _ (p : SP) => StR W p /\ p.1.en.length <= 140737488355328 /\ p.1.ex.length <= 140737488355328) rows 0 (fun i r hir => by
   obtain ⟨k, d, q, he, ht⟩ := hr i r hir;obtain ⟨s, ini, kd, dp, v1, v2, y1, y2, m, d1, d2, rfl, hd, t1, t2⟩ := state8 ht;simp only at hd;have hin : ∀ x, x ∈ (DataW.agg [.lit (.string s.data.toList), d1, d2, .lit (.string ini.data.toList), y1.1, y2.1] : DataW H).weights Tryz.prog 39 -> x <= 140737488355328 := fun x hx => hw x (Or.inr (Or.inl (weights_all es i d he _ (by rw [hd]; exact hx))))
   obtain ⟨l1, a1, a2⟩ := blk_in t1 (fun x hx => hin x (by simp [DataW.weights, DataW.weightsEach, Tryz.underlying39, hx]));obtain ⟨l2, b1, b2⟩ := blk_in t2 (fun x hx => hin x (by simp [DataW.weights, DataW.weightsEach, Tryz.underlying39, hx]));exact ⟨(⟨s.data.toList, kd, dp, ini.data.toList, l1, l2⟩, v1, v2), by simp only [stV]; rw [bstr_of, bstr_of], ⟨a1, b1⟩, a2, b2⟩)
  have hf : (ps.map stV).flatten = flatS ps := by simp [flatS, List.flatMap_def]
  rw [hf, List.length_map] at h1;refine ⟨ps, h1, fun p hp => ?_, ?_⟩
  ·obtain ⟨i, hi⟩ := List.getElem?_of_mem hp;exact hps i p hi
  ·have hm := hw ((es.length + sp.length) * Tryz.prog.bytesOf 39) (Or.inl rfl);rw [bytesSt] at hm;rw [List.length_map] at hl;omega
set_option maxRecDepth 100000 in
theorem transs8 (h : DataW.trod enc Tryz.prog W 0 (fun _ => true) true n 25 [v] = some y) (hw : ∀ x ∈ y.1.weights Tryz.prog 25, x <= 140737488355328) :
 ∃ ps : List TP, Inn W 5 v ps.length (flatT ps) /\ (∀ p ∈ ps, TrR W p /\ Names p.1.gd /\ p.1.ac.length <= 140737488355328) /\ ps.length * 88 <= 140737488355328 /\ ∀ A m c, v = .slice A m c -> m <= c := by
 obtain ⟨rows, h1, h2, h4⟩ := open_rows Tryz.underlying25 cellsTr (by decide) h;rcases h2 with ⟨_, rfl⟩ | ⟨es, sp, hy, hl, hr⟩
 ·exact ⟨[], h1, (fun p hp => by cases hp), by simp, h4⟩
 ·rw [hy] at hw;simp only [DataW.weights, Tryz.underlying25, List.mem_cons, List.mem_append] at hw;obtain ⟨ps, rfl, hps⟩ := rows_at trV (fun _ (p : TP) => TrR W p /\ Names p.1.gd /\ p.1.ac.length <= 140737488355328) rows 0 (fun i r hir => by
   obtain ⟨k, d, q, he, ht⟩ := hr i r hir;obtain ⟨fr, s, t, v1, v2, y1, y2, m, d0, rfl, hd, t1, t2⟩ := trans8 ht;simp only at hd;have hin : ∀ x, x ∈ (DataW.agg [d0, .lit (.string s.data.toList), y1.1, .lit (.string t.data.toList), y2.1] : DataW H).weights Tryz.prog 42 -> x <= 140737488355328 := fun x hx => hw x (Or.inr (Or.inl (weights_all es i d he _ (by rw [hd]; exact hx))))
   obtain ⟨l1, a1, _, a2⟩ := gd_in t1 (fun x hx => hin x (by simp [DataW.weights, DataW.weightsEach, Tryz.underlying42, hx]));obtain ⟨l2, b1, b2⟩ := blk_in t2 (fun x hx => hin x (by simp [DataW.weights, DataW.weightsEach, Tryz.underlying42, hx]));exact ⟨(⟨fr, s.data.toList, l1, t.data.toList, l2⟩, v1, v2), by simp only [trV]; rw [bstr_of, bstr_of], ⟨a1, b1⟩, a2, b2⟩)
  have hf : (ps.map trV).flatten = flatT ps := by simp [flatT, List.flatMap_def]
  rw [hf, List.length_map] at h1;refine ⟨ps, h1, fun p hp => ?_, ?_, h4⟩
  ·obtain ⟨i, hi⟩ := List.getElem?_of_mem hp;exact hps i p hi
  ·have hm := hw ((es.length + sp.length) * Tryz.prog.bytesOf 42) (Or.inl rfl);rw [bytesTr] at hm;rw [List.length_map] at hl;omega
set_option maxRecDepth 100000 in
theorem strs8 (h : DataW.trod enc Tryz.prog W 0 (fun _ => true) true n 22 [v] = some y) (hw : ∀ x ∈ y.1.weights Tryz.prog 22, x <= 140737488355328) :
 ∃ ss : List (List UInt8), Inn W 1 v ss.length (strsV ss) /\ ss.length * 16 <= 140737488355328 := by
 obtain ⟨rows, h1, h2, h4⟩ := open_rows Tryz.underlying22 cellsS (by decide) h;rcases h2 with ⟨_, rfl⟩ | ⟨es, sp, hy, hl, hr⟩
 ·exact ⟨[], h1, by simp⟩
 ·rw [hy] at hw;simp only [DataW.weights, Tryz.underlying22, List.mem_cons, List.mem_append] at hw;obtain ⟨ss, rfl, _⟩ := rows_at (fun l : List UInt8 => [bstr l]) (fun _ (_ : List UInt8) => True) rows 0 (fun i r hir => by
   obtain ⟨k, d, q, he, ht⟩ := hr i r hir;obtain ⟨s, h0, _, _⟩ := DataW.trod_string Tryz.underlying9 ht;exact ⟨s.data.toList, by rw [h0, bstr_of], trivial⟩)
  have hf : (ss.map (fun l : List UInt8 => [bstr l])).flatten = strsV ss := by
   clear h1 hl hr hy hw;unfold strsV
   induction ss with
   | nil => rfl
   | cons x r ih => simpa using ih
  rw [hf, List.length_map] at h1;refine ⟨ss, h1, ?_⟩
  ·have hm := hw ((es.length + sp.length) * Tryz.prog.bytesOf 9) (Or.inl rfl);rw [bytesStr] at hm;rw [List.length_map] at hl;omega
end
structure ChIn9 (W : World) (c : CH) (e1 v1 s1 t1 : Value) (sp : List SP) (tp : List TP) : Prop where
 m : ChM W c e1 v1 s1 t1 sp tp
 sb : Sb c
 es : c.es.length * 16 <= 140737488355328
 vs : c.vs.length * 64 <= 140737488355328
 ss : sp.length * 96 <= 140737488355328
 ts : tp.length * 88 <= 140737488355328
 tc : ∀ A m c, t1 = .slice A m c -> m <= c
 gn : ∀ t ∈ c.ts, Names t.gd
set_option maxRecDepth 100000 in
theorem open_chart9 {H : Type} {enc : TypeId × Value -> H} {W : World} {r : Reach} {b0 : Nat} {v : Value} {d : DataW H} {ps : List MemPlace} (hval : Value.okWide Tryz.prog W r b0 27 v)
 (h : DataW.Trod enc Tryz.prog W 0 (fun _ => true) true 27 v d ps) {ts : List TypeId} {ds : List (DataW H)} (hsz : (DataW.weightsEach Tryz.prog ts ds).all (· <= reachBytes) = true) {j : Nat} (ht : ts[j]? = some 27) (hd : ds[j]? = some d) :
 ∃ (c : CH) (e1 v1 s1 t1 : Value) (sp : List SP) (tp : List TP), v = .agg #[bstr c.nm, e1, v1, s1, t1] /\ ChIn9 W c e1 v1 s1 t1 sp tp := by
 have hw : ∀ x ∈ d.weights Tryz.prog 27, x <= 140737488355328 := fun x hx => by
  have := List.all_eq_true.1 hsz _ (DataW.weights_mem_each ht hd x hx);unfold reachBytes at this;simp at this;omega
 obtain ⟨cs, rfl, hcs⟩ := okWide_struct Tryz.underlying27 hval;obtain ⟨fuel, hf⟩ := h;obtain ⟨xs, n, _, hx, _, hxl, hfl⟩ := DataW.trod_struct Tryz.underlying27 hf;have h5 : cs.size = 5 := hcs.trans cellsCh;obtain ⟨l⟩ := cs
 match l, h5 with
 | [u0, u1, u2, u3, u4], _ =>
  have e0 : DataW.trod enc Tryz.prog W 0 (fun _ => true) true n 9 (([u0, u1, u2, u3, u4].drop 0).take (Tryz.prog.cellsOf 9)) = xs[0]? := hfl 0 _ rfl;have e1 : DataW.trod enc Tryz.prog W 0 (fun _ => true) true n 22 (([u0, u1, u2, u3, u4].drop 1).take (Tryz.prog.cellsOf 22)) = xs[1]? := hfl 1 _ rfl;have e2 : DataW.trod enc Tryz.prog W 0 (fun _ => true) true n 23 (([u0, u1, u2, u3, u4].drop 2).take (Tryz.prog.cellsOf 23)) = xs[2]? := hfl 2 _ rfl;have e3 : DataW.trod enc Tryz.prog W 0 (fun _ => true) true n 24 (([u0, u1, u2, u3, u4].drop 3).take (Tryz.prog.cellsOf 24)) = xs[3]? := hfl 3 _ rfl;have e4 : DataW.trod enc Tryz.prog W 0 (fun _ => true) true n 25 (([u0, u1, u2, u3, u4].drop 4).take (Tryz.prog.cellsOf 25)) = xs[4]? := hfl 4 _ rfl;have hx5 : xs.length = 5 := hxl
  match xs, hx5 with
  | [y0, y1, y2, y3, y4], _ =>
   rw [cellsS] at e0;rw [cellsSlS] at e1;rw [cellsSlV] at e2;rw [cellsSlSt] at e3;rw [cellsSlT] at e4;obtain ⟨s, h0, g0, _⟩ := DataW.trod_string Tryz.underlying9 (show _ = some y0 from e0);simp at h0;simp only [Prod.mk.injEq] at hx;obtain ⟨hd0, _⟩ := hx;have hdd : d = .agg [.lit (.string s.data.toList), y1.1, y2.1, y3.1, y4.1] := by rw [hd0, g0]; rfl
   rw [hdd] at hw;obtain ⟨es, a1, a3⟩ := strs8 (show _ = some y1 from e1) (fun x hx => hw x (by simp [DataW.weights, DataW.weightsEach, Tryz.underlying27, hx]));obtain ⟨vs, b1, b3⟩ := vars8 (show _ = some y2 from e2) (fun x hx => hw x (by simp [DataW.weights, DataW.weightsEach, Tryz.underlying27, hx]));obtain ⟨sp, c1, c2, c3⟩ := states8 (show _ = some y3 from e3) (fun x hx => hw x (by simp [DataW.weights, DataW.weightsEach, Tryz.underlying27, hx]));obtain ⟨tp, d1, d2, d3, d4⟩ := transs8 (show _ = some y4 from e4) (fun x hx => hw x (by simp [DataW.weights, DataW.weightsEach, Tryz.underlying27, hx]));refine ⟨⟨s.data.toList, es, vs, sp.map Prod.fst, tp.map Prod.fst⟩, u1, u2, u3, u4, sp, tp, by rw [h0, bstr_of], ⟨a1, b1, rfl, c1, rfl, d1, fun p hp => (c2 p hp).1, fun p hp => (d2 p hp).1, ?_, ?_, ?_, ?_⟩, ⟨fun x hx => ?_, fun x hx => ?_⟩, a3, b3, c3, d3, d4, fun x hx => by obtain ⟨p, hp, rfl⟩ := List.mem_map.1 hx; exact (d2 p hp).2.1⟩
   ·simp only; omega
   ·simp only; omega
   ·omega
   ·omega
   ·obtain ⟨p, hp, rfl⟩ := List.mem_map.1 hx; have := (c2 p hp).2; omega
   ·obtain ⟨p, hp, rfl⟩ := List.mem_map.1 hx; have := (d2 p hp).2; omega
end Go.Proofs.YtgjeofaedidnpaaGreatDoor.Ch.Vd
