/- Own texts, joined: Oo, Kq, Bd, Sh, Be, Bf, Bg. -/
import Derived.Test.YtcnfcililiehlaaGreatDoorR4
import Derived.Test.YtcnfcililiehlaaGreatDoorR7
import Derived.Test.YtcnfcililiehlaaGreatDoorR10
import Derived.ProofKit
import Derived.Deep.Slices
import Derived.Lib.SmallJoins
import Derived.SizedLaws
import Derived.Lib.LaidTab
import Derived.Lib.LaidU8
import Derived.LaidMore
import Derived.Lib.AppendIntMem
import Derived.StillTailTactics
namespace Go.Proofs.YtcnfcililiehlaaGreatDoor
open Go.RowKit Go.ChangeShapes Go.WideShapes Go.ChangeAt
section
variable {H : Type} {enc : TypeId × Value -> H} {P : Program} {W : World}
theorem open_inn {t e : TypeId} {size n : Nat} {v : Value} {y : DataW H × List MemPlace} (ht : P.underlying t = some (.slice e)) (hC : P.cellsOf e = size) (h0 : 0 < size)
 (h : DataW.trod enc P W 0 (fun _ => true) true n t [v] = some y) :
 ∃ rows : List (List Value), Inn W size v rows.length rows.flatten /\ (∀ r ∈ rows, r.length = size /\ ∃ k x, DataW.trod enc P W 0 (fun _ => true) true k e r = some x) /\
  ((y.1 = .nil /\ rows = []) \/ ∃ es sp, y.1 = .slice es sp /\ rows.length = es.length) /\ ∀ A m c, v = .slice A m c -> m <= c := by
 rcases Go.Deep.open_slice ht h with ⟨hcs, hx⟩ | ⟨a, len, cap, m, k, D, Pl, hcs, _, hl, hm, hmm, hx, hi⟩
 ·simp at hcs;subst hcs;exact ⟨[], Inn.nil _ _, (by intro r hr; cases hr), Or.inl ⟨by rw [hx], rfl⟩, fun A m c e => by injection e; omega⟩
 ·simp at hcs;subst hcs;rw [if_pos rfl] at hmm;subst hmm;rw [hC] at hi;have hall : ∀ q, q <= len -> ∃ rows : List (List Value), rows.length = q /\ (∀ r ∈ rows, r.length = size /\ ∃ k x, DataW.trod enc P W 0 (fun _ => true) true k e r = some x) /\ ∀ j u, rows.flatten[j]? = some u -> W.cell? (a.add j) = some u := by
   intro q
   induction q with
   | zero => intro _; exact ⟨[], rfl, (by intro r hr; cases hr), fun j u hu => by simp at hu⟩
   | succ q ih =>
    intro hq;obtain ⟨rows, h1, h2, h3⟩ := ih (by omega);obtain ⟨r, hr1, hr2⟩ := hi q (by omega);obtain ⟨_, hrl, hat⟩ := World.cells?_some hr1;have hfl : rows.flatten.length = q * size := by
     rw [<- h1];clear h3 hr1 hr2 hat ih h1
     induction rows with
     | nil => simp
     | cons x rs ihr =>
      rw [List.flatten_cons, List.length_append, (h2 x (by simp)).1, ihr (fun r hr => h2 r (by simp [hr]))];simp [Nat.succ_mul]; omega
    refine ⟨rows ++ [r], by simp [h1], fun r' hr' => ?_, fun j u hu => ?_⟩
    ·rcases List.mem_append.1 hr' with h | h
     ·exact h2 r' h
     ·simp at h; subst h; exact ⟨hrl, _, _, hr2⟩
    ·rw [List.flatten_append] at hu;by_cases hj : j < q * size
     ·rw [List.getElem?_append_left (by omega)] at hu;exact h3 j u hu
     ·rw [List.getElem?_append_right (by omega), hfl] at hu;simp only [List.flatten_cons, List.flatten_nil, List.append_nil] at hu;have hjl := (List.getElem?_eq_some_iff.1 hu).1;have h4 := hat (j - q * size) (by omega);rw [Go.Deep.add_add, hu] at h4;rw [show q * size + (j - q * size) = j by omega] at h4;exact h4
  obtain ⟨rows, h1, h2, h3⟩ := hall len (Nat.le_refl _);have hfl : rows.flatten.length = len * size := by
   rw [<- h1];clear h3 hall h1
   induction rows with
   | nil => simp
   | cons x rs ihr =>
    rw [List.flatten_cons, List.length_append, (h2 x (by simp)).1, ihr (fun r hr => h2 r (by simp [hr]))];simp [Nat.succ_mul]; omega
  refine ⟨rows, Or.inr ⟨a, m, by rw [h1], by rw [hfl, h1], fun hn => ?_⟩, h2, Or.inr ⟨_, _, by rw [hx], by simp [h1]⟩, fun A q c e => by injection e; omega⟩;rw [h1] at hn;have hlt : 0 < rows.flatten.length := by rw [hfl]; exact Nat.mul_pos hn h0
  have hc0 := h3 0 _ (List.getElem?_eq_getElem hlt);obtain ⟨bl, off, spot⟩ := a;have hc0' : W.cell? ⟨bl, off, spot⟩ = some (rows.flatten[0]'hlt) := by simpa [Addr.add] using hc0
  have := Go.Proofs.cell_spot hc0';subst this;exact ⟨bl, off, rfl, cell_lt hc0', fun j u hu => by have := h3 j u hu; rw [add_lit'] at this; exact this⟩
end
end Go.Proofs.YtcnfcililiehlaaGreatDoor
namespace Go.Proofs.YtcnfcililiehlaaGreatDoor
open Go.RowKit Go.ChangeShapes Go.WideShapes Go.ChangeAt
theorem cellsCell : Tryz.prog.cellsOf 176 = 3 := by kernel_rfl
theorem bytesCell : Tryz.prog.bytesOf 176 = 32 := by kernel_rfl
theorem cellsVar : Tryz.prog.cellsOf 86 = 7 := by kernel_rfl
theorem bytesVar : Tryz.prog.bytesOf 86 = 64 := by kernel_rfl
theorem cellsVal : Tryz.prog.cellsOf 84 = 3 := by kernel_rfl
theorem cellsI : Tryz.prog.cellsOf 3 = 1 := by kernel_rfl
theorem cellsI64 : Tryz.prog.cellsOf 2 = 1 := by kernel_rfl
theorem cellsS : Tryz.prog.cellsOf 9 = 1 := by kernel_rfl
theorem bytesStr : Tryz.prog.bytesOf 9 = 16 := by kernel_rfl
section
variable {H : Type} {enc : TypeId × Value -> H} {W : World} {base : Nat} {sp : Nat -> Bool} {held : Bool} {fuel : Nat} {cs : List Value}
set_option maxRecDepth 100000 in
theorem cell_struct {x : DataW H × List MemPlace} (h : DataW.trod enc Tryz.prog W base sp held fuel 176 cs = some x) : ∃ (o a : Int) (s : ByteArray), cs = [.int .i64 o, .int .i64 a, .string s] /\ s.size <= maxLen := by
 obtain ⟨xs, n, rfl, _, hl, hxl, hf⟩ := DataW.trod_struct Tryz.underlying176 h;rw [cellsCell] at hl
 match cs, hl with
 | [u0, u1, u2], _ =>
  have e0 : DataW.trod enc Tryz.prog W base sp held n 3 (([u0, u1, u2].drop 0).take (Tryz.prog.cellsOf 3)) = xs[0]? := hf 0 _ rfl;have e1 : DataW.trod enc Tryz.prog W base sp held n 2 (([u0, u1, u2].drop 1).take (Tryz.prog.cellsOf 2)) = xs[1]? := hf 1 _ rfl;have e2 : DataW.trod enc Tryz.prog W base sp held n 9 (([u0, u1, u2].drop 2).take (Tryz.prog.cellsOf 9)) = xs[2]? := hf 2 _ rfl;have hx3 : xs.length = 3 := hxl;rw [cellsI, List.getElem?_eq_getElem (by omega)] at e0;rw [cellsI64, List.getElem?_eq_getElem (by omega)] at e1;rw [cellsS, List.getElem?_eq_getElem (by omega)] at e2;obtain ⟨o, h0, _, _⟩ := DataW.trod_int Tryz.underlying3 e0;obtain ⟨a, h1, _, _⟩ := DataW.trod_int Tryz.underlying2 e1;obtain ⟨s, h2, _, hs⟩ := DataW.trod_string Tryz.underlying9 e2;simp at h0 h1 h2;exact ⟨o, a, s, by rw [h0, h1, h2], hs⟩
end
theorem rows_of {α : Type} (f : α -> List Value) (q : α -> Prop) : ∀ rows : List (List Value), (∀ r ∈ rows, ∃ a, r = f a /\ q a) -> ∃ l : List α, rows = l.map f /\ ∀ a ∈ l, q a
 | [], _ => ⟨[], rfl, fun _ h => by cases h⟩
 | r :: rs, h => by
  obtain ⟨a, ha, hq⟩ := h r (by simp);obtain ⟨l, hl, hql⟩ := rows_of f q rs (fun r hr => h r (by simp [hr]));refine ⟨a :: l, by rw [ha, hl]; rfl, fun b hb => ?_⟩;rcases List.mem_cons.1 hb with rfl | hb
  ·exact hq
  ·exact hql b hb
theorem inn_rdI {w : World} {v : Value} {cs : List CM} (h : Inn w 3 v cs.length (flat cs)) : RdI w v cs := by
 rcases h with ⟨rfl, h1, _⟩ | ⟨ad, c, rfl, _, h⟩
 ·exact Or.inl ⟨rfl, List.eq_nil_of_length_eq_zero h1⟩
 ·refine Or.inr ⟨ad, c, rfl, some ad, c, rfl, fun i hi => ?_⟩;obtain ⟨b, o, rfl, _, hc⟩ := h (by omega);obtain ⟨f0, f1, f2⟩ := flat_at hi;refine ⟨b, o, rfl, hc _ _ f0, ?_, ?_⟩
  ·rw [Nat.add_assoc]; exact hc _ _ f1
  ·rw [Nat.add_assoc]; exact hc _ _ f2
section
variable {H : Type} {enc : TypeId × Value -> H} {W : World} {n : Nat} {v : Value} {y : DataW H × List MemPlace}
theorem cells_in (h : DataW.trod enc Tryz.prog W 0 (fun _ => true) true n 114 [v] = some y) :
 ∃ cs, RdI W v cs /\ Names cs /\ ((y.1 = .nil /\ cs = []) \/ ∃ es sp, y.1 = .slice es sp /\ cs.length = es.length) /\ ∀ A m c, v = .slice A m c -> m <= c := by
 obtain ⟨rows, h1, h2, h3, h4⟩ := open_inn Tryz.underlying114 cellsCell (by decide) h;obtain ⟨cs, rfl, hq⟩ := rows_of cellV (fun c : CM => c.nm.length <= 9223372036854775807) rows (fun r hr => by
  obtain ⟨_, k, x, hx⟩ := h2 r hr;obtain ⟨o, a, s, rfl, hs⟩ := cell_struct hx;exact ⟨⟨o, a, s.data.toList⟩, rfl, by show s.data.toList.length <= _; rw [sz0]; unfold maxLen at hs; exact hs⟩)
 have hf : (cs.map cellV).flatten = flat cs := by simp [flat, List.flatMap_def]
 rw [hf, List.length_map] at h1;refine ⟨cs, inn_rdI h1, hq, ?_, h4⟩;rcases h3 with ⟨e1, e2⟩ | ⟨es, sp, e1, e2⟩
 ·exact Or.inl ⟨e1, List.map_eq_nil_iff.1 e2⟩
 ·exact Or.inr ⟨es, sp, e1, by rw [<- e2, List.length_map]⟩
end
end Go.Proofs.YtcnfcililiehlaaGreatDoor
namespace Go.Proofs.YtcnfcililiehlaaGreatDoor.Ch
open Go.RowKit
theorem quiet_at {P : Program} {f : FuncId} {args : Array Value} {w : World} {n : Nat} {v : Value} (h : Calls P f args (w.drewN n) fun e w' => e = .returned v /\ w' = w.drewN n) :
 Calls P f args (w.drewN n) fun e w'' => e = .returned v /\ ∃ m, w'' = w.drewN m := h.mono fun _ _ ⟨he, hr⟩ => ⟨he, n, hr⟩
section
variable {b B : Nat} {w : World} {c : CH} {eV vV sV tV : Value} {sp : List SP} {tp : List TP}
theorem isNoName_any (X : ByteArray) (w : World) : Calls Tryz.prog 102 #[.string X] w fun e w' => e = .returned (.bool (!nameB X.data.toList)) /\ w' = w := by
 go_enter Tryz.func102, Tryz.ntmps102
 go_wp2_with fail
 refine (name_any X _).mono ?_;rintro e w1 ⟨rfl, h⟩;obtain rfl := h;go_wp2;go_ret;exact ⟨rfl, rfl⟩
structure RestR (w0 w : World) (A : Option Addr) (cp : Nat) (r : List (List UInt8)) : Prop where
 inn : Inn w 1 (.slice A r.length cp) r.length (strsV r)
 new : ∀ g, (Value.slice A r.length cp).ownBlock = some g -> w0.heap.size <= g
theorem RestR.below {w0 w w' : World} {A : Option Addr} {cp : Nat} {r : List (List UInt8)} (h : RestR w0 w A cp r) (hb : Below w.heap.size w w') : RestR w0 w' A cp r := ⟨h.inn.below hb, h.new⟩
theorem RestR.at_ {w0 w : World} {A : Option Addr} {cp : Nat} {r : List (List UInt8)} (h : RestR w0 w A cp r) {k : Nat} (hk : k < r.length) : ∃ q o, A = some ⟨q, o, none⟩ /\ w0.heap.size <= q /\ q < w.heap.size /\ w.cell? ⟨q, o + k, none⟩ = some (bstr (wd r k)) := by
 obtain ⟨q, o, rfl, hq, hc⟩ := h.inn.at_ hk;refine ⟨q, o, rfl, h.new q rfl, hq, ?_⟩;have := hc 0 (bstr (wd r k)) (by simp [strsV, wd_at hk, hk])
 simpa using this
end
end Go.Proofs.YtcnfcililiehlaaGreatDoor.Ch
namespace Go.Proofs.YtcnfcililiehlaaGreatDoor.Pl
open Go.RowKit
structure Laid (w : World) : Prop where
 tab : Lib.TabIs Tryz.prog w "internal/strconv.uint64pow10" .u64 Lib.pow10Tab
 syn : ∃ tp p, w.var? Tryz.prog "strconv.ErrSyntax" = some #[.iface tp p]
 rng : ∃ tp p, w.var? Tryz.prog "strconv.ErrRange" = some #[.iface tp p]
theorem var_lt {w : World} {n : String} {g : Nat} {cs : Array Value} (hg : Tryz.prog.globalNamed n = some g) (h : w.var? Tryz.prog n = some cs) : g < w.heap.size := by
 unfold World.var? at h;simp only [hg, Option.bind_some] at h;rcases Nat.lt_or_ge g w.heap.size with h' | h'
 ·exact h'
 ·rw [Array.getElem?_eq_none h'] at h; cases h
theorem gTab : Tryz.prog.globalNamed "internal/strconv.uint64pow10" = some 4 := by kernel_rfl
theorem gSyn : Tryz.prog.globalNamed "strconv.ErrSyntax" = some 2 := by kernel_rfl
theorem gRng : Tryz.prog.globalNamed "strconv.ErrRange" = some 3 := by kernel_rfl
theorem Laid.below {w w' : World} (h : Laid w) (hb : Below w.heap.size w w') : Laid w' := by
 obtain ⟨h1, ⟨t2, p2, h2⟩, ⟨t3, p3, h3⟩⟩ := h;exact ⟨var?_below hb gTab (var_lt gTab h1) h1, ⟨t2, p2, var?_below hb gSyn (var_lt gSyn h2) h2⟩, ⟨t3, p3, var?_below hb gRng (var_lt gRng h3) h3⟩⟩
end Go.Proofs.YtcnfcililiehlaaGreatDoor.Pl
namespace Go.Proofs.YtcnfcililiehlaaGreatDoor.Ch
open Go.RowKit
theorem keeps_is {base : Nat} {rv : Value} {B : Nat} {e : TypeId} {size n : Nat} {ys : List Value} : Oz.Keeps1 base true (fun v w => v = rv /\ w.ownsRow B e size v n ys) :=
 fun v w w' row h hg hb hne => ⟨h.1, Oz.keeps_own (base := base) B e size n ys v w w' row h.2 hg hb hne⟩
theorem at5 {w : World} {D : Nat} {x0 x1 x2 x3 x4 : Value} {t : TypeId} (h : w.heap[D]? = some (.cells #[x0, x1, x2, x3, x4] t (0, 0))) :
 w.cell? ⟨D, 0, none⟩ = some x0 /\ w.cell? ⟨D, 1, none⟩ = some x1 /\ w.cell? ⟨D, 2, none⟩ = some x2 /\ w.cell? ⟨D, 3, none⟩ = some x3 /\ w.cell? ⟨D, 4, none⟩ = some x4 /\
 w.frozen? ⟨D, 0, none⟩ = false /\ w.frozen? ⟨D, 1, none⟩ = false /\ w.frozen? ⟨D, 2, none⟩ = false /\ w.frozen? ⟨D, 3, none⟩ = false /\ w.frozen? ⟨D, 4, none⟩ = false := by
 simp [World.cell?, World.frozen?, h]
structure Env (w : World) : Prop where
 ops : Ops w
 laid : Laid w
 ml : ML w
 pl : Pl.Laid w
theorem Env.below {w w' : World} (h : Env w) (hb : Below w.heap.size w w') : Env w' := ⟨h.ops.below hb, h.laid.below hb, h.ml.below hb, h.pl.below hb⟩
def MPost (b B : Nat) (w : World) (o : Option CH) (e : Ending) (w' : World) : Prop := KeptB b B w w' /\ match o with
 | none => e = .returned (.bool false)
 | some c' => e = .returned (.bool true) /\ Rdr b B 67 w' c'
theorem MPost.no {b B : Nat} {w w' : World} {o : Option CH} (ho : o = none) (h : KeptB b B w w') : MPost b B w o (.returned (.bool false)) w' := by subst ho; exact ⟨h, rfl⟩
def Method (f : FuncId) (g : StepS) : Prop := ∀ (b B : Nat) (w0 w : World) (c : CH) (eV vV sV tV : Value) (sp : List SP) (tp : List TP) (d : Nat) (F : ByteArray) (A : Option Addr) (cp : Nat) (r : List (List UInt8)),
 OwnCh b B 67 w0 c eV vV sV tV sp tp -> Below w0.heap.size w0 w -> Bdd 1000000 c -> d <= 6000 -> r.length <= 1000000 -> RestR w0 w A cp r -> (∀ x ∈ r, x.length <= 6000) -> Env w ->
 Calls Tryz.prog f #[.pointer (some ⟨b, 0, none⟩), .agg #[.int .i64 d, .string F, .slice A r.length cp]] w (MPost b B w (g c d r))
end Go.Proofs.YtcnfcililiehlaaGreatDoor.Ch
namespace Go.Proofs.YtcnfcililiehlaaGreatDoor.Ch
open Go.RowKit
theorem ret_true {b B : Nat} {w w' : World} {o : Option CH} {c' : CH} (ho : o = some c') (hk : KeptB b B w w') (hr : Rdr b B 67 w' c') : MPost b B w o (.returned (.bool true)) w' := by subst ho; exact ⟨hk, rfl, hr⟩
set_option maxRecDepth 100000 in
set_option maxHeartbeats 8000000 in
theorem name_m : Method 69 nameS := by
 intro b B w0 w c eV vV sV tV sp tp d F A cp r h hw hB hd hrl hr _ _;obtain ⟨w1, hw1⟩ : ∃ W, W = w.alloc (.cells #[.int .i64 d, .string F, .slice A r.length cp] 74) := ⟨_, rfl⟩
 have hb1 : Below w.heap.size w w1 := hw1 ▸ (Below.refl w.heap.size w).alloc (Nat.le_refl _) _;have d2 : w1.cell? ⟨w.heap.size, 2, none⟩ = some (.slice A r.length cp) := by rw [hw1]; simp
 have d0 : w1.cell? ⟨w.heap.size, 0, none⟩ = some (.int .i64 d) := by rw [hw1]; simp
 have h1 := (h.below hw).below hb1;have hle0 := h.le;have hzw := hw.size;have HD := Lib.hid (isNew_any h1);have HK : Hid (KeptB b B w w1) := KeptB.of_below hb1 (by omega);have HR := Lib.hid (hr.below hb1); have H1 := Lib.hid h1; have HW := Lib.hid hw1;obtain ⟨b0, _⟩ := h1.cells;have g0 := h1.frozen 0;clear h hw hB h1 hr hb1 hw1;obtain ⟨q1, hq1⟩ : ∃ q, c.nm.isEmpty = q := ⟨_, rfl⟩
 have hv0 : nameS c d r = if (q1 && decide (d = 0) && decide (r.length = 1) && nameB (wd r 0)) = true then some { c with nm := wd r 0 } else none := by unfold nameS; rw [hq1]
 have HV0 := Lib.hid hv0;rw [hq1] at HD;clear hq1 hv0
 go_enter Tryz.func69, Tryz.ntmps69
 go_wp2_with fail
 rw [<- HW.out];refine HD.out.mono ?_;rintro e w2 ⟨rfl, h2⟩;obtain rfl := h2;cases q1 with
 | false =>
  have hv : nameS c d r = none := HV0.out;have HV := Lib.hid hv; clear hv;go_wp2;go_ret;exact MPost.no HV.out HK.out
 | true =>
  by_cases hd0 : (0 : Int) < (d : Int)
  ·have hv : nameS c d r = none := by rw [HV0.out, decide_eq_false (show ¬ d = 0 by omega)]; rfl
   have HV := Lib.hid hv; clear hv;go_wp2;go_ret;exact MPost.no HV.out HK.out
  ·obtain rfl : d = 0 := by omega
   by_cases hr1 : (r.length : Int) = 1
   ·have hr1' : r.length = 1 := by omega
    obtain ⟨q, o, rfl, hq0, hq2, dx⟩ := HR.out.at_ (k := 0) (by omega);obtain ⟨x, hx⟩ : ∃ x, wd r 0 = x := ⟨_, rfl⟩
    obtain ⟨X, hX, hXl⟩ := bstr_some x;rw [hx, hX] at dx;rw [hr1'] at d2 HW;have HX := Lib.hid hX;rw [Nat.add_zero] at dx;obtain ⟨q2, hq2n⟩ : ∃ q, nameB x = q := ⟨_, rfl⟩
    have HNN : Hid (∀ W, Calls Tryz.prog 102 #[.string X] W fun e w' => e = .returned (.bool (!q2)) /\ w' = W) := fun W => by have := isNoName_any X W; rw [hXl, hq2n] at this; exact this
    have hv : nameS c 0 r = if q2 = true then some { c with nm := x } else none := by
     rw [HV0.out, decide_eq_true hr1', hx, hq2n]; rfl
    have HV := Lib.hid hv;clear hv hXl hq2n hx hX hd0 hr1 hr1' HR;cases q2 with
    | false =>
     go_wp2_with (go_at_call 102; refine (HNN.out _).mono ?_; rintro e w3 ⟨rfl, h3⟩; obtain rfl := h3)
     go_ret;exact MPost.no HV.out HK.out
    | true =>
     have hS := H1.out.setN ⟨by decide, by decide⟩ x;rw [HX.out] at hS;have HS := Lib.hid hS; clear hS
     go_wp2_with (go_at_call 102; refine (HNN.out _).mono ?_; rintro e w3 ⟨rfl, h3⟩; obtain rfl := h3)
     go_ret;exact ret_true HV.out (HK.out.trans HS.out.2) ⟨_, _, _, _, _, _, HS.out.1⟩
   ·have hv : nameS c 0 r = none := by rw [HV0.out, decide_eq_false (show ¬ r.length = 1 by omega)]; rfl
    have HV := Lib.hid hv; clear hv;generalize r.length = rl at *
    go_wp2;go_ret;exact MPost.no HV.out HK.out
end Go.Proofs.YtcnfcililiehlaaGreatDoor.Ch
namespace Go.Proofs.YtcnfcililiehlaaGreatDoor.Ch
open Go.RowKit
theorem RestR.all {w0 w : World} {A : Option Addr} {cp : Nat} {r : List (List UInt8)} (h : RestR w0 w A cp r) (h0 : 0 < r.length) : ∃ q o, A = some ⟨q, o, none⟩ /\ w0.heap.size <= q /\ q < w.heap.size /\ ∀ k, k < r.length -> w.cell? ⟨q, o + k, none⟩ = some (bstr (wd r k)) := by
 obtain ⟨q, o, rfl, h1, h2, _⟩ := h.at_ h0;refine ⟨q, o, rfl, h1, h2, fun k hk => ?_⟩;obtain ⟨q', o', e, _, _, h3⟩ := h.at_ hk;simp only [Option.some.injEq, Addr.mk.injEq, and_true] at e;obtain ⟨rfl, rfl⟩ := e;exact h3
end Go.Proofs.YtcnfcililiehlaaGreatDoor.Ch
