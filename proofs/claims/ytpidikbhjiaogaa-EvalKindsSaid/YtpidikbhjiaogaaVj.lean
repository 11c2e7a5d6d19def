/- (moment).done: what a cell makes of its operands. -/
import Derived.Test.YtpidikbhjiaogaaVi
import Derived.StillTailTactics
namespace Go.Proofs.Ytpidikbhjiaogaa
open Go.RowKit

/-- a region that reads up to a tail in one forced order, the world behind the draw by its name -/
theorem wp_region_tail {P : Program} {id : Nat} {Q : Exit → Act → World → Prop} {a : Act} {w : World} {l : List Oper} (n : Nat) (hm : P.follows .mixedOrders = true) (hB : Region.lexTailB .any l.toArray n = true)
    (h : wpStill P l.toArray w.drew (fun a' => wpList P l.toArray Q (l.drop n) a' w.drew) (l.take n) a) : (Code.region id l.toArray true).wp P Q a w := wp_region_still_tail n hm hB h

/-- the places of an operand in memory -/
def opL (v : VA) : List Value := [.int .i64 v.kd, .int .i64 (if v.kd = 1 then v.a else 0), .bool (decide (v.kd = 2 ∧ v.a = 1)), .complex .f64 (fl (if v.kd = 3 then v.a else 0)) (fl (if v.kd = 3 then v.b else 0))]
theorem opV_form (v : VA) : ∃ k x t c1 c2, opV v = .agg #[.int .i64 k, .int .i64 x, .bool t, .complex .f64 c1 c2] ∧ opL v = [.int .i64 k, .int .i64 x, .bool t, .complex .f64 c1 c2] := ⟨_, _, _, _, _, rfl, rfl⟩
/-- an operand at a place -/
def OpAt (w : World) (b o : Nat) (v : VA) : Prop := ∀ j u, (opL v)[j]? = some u → w.cell? ⟨b, o + j, none⟩ = some u
theorem OpAt.below {w w' : World} {b o : Nat} {v : VA} (h : OpAt w b o v) (hb : Below w.heap.size w w') : OpAt w' b o v := fun j u hu => (hb.cell (cell_lt (h j u hu))).trans (h j u hu)
theorem OpAt.at_ {w : World} {b o : Nat} {v : VA} {k x : Int} {t : Bool} {c1 c2 : Nat} (h : OpAt w b o v) (he : opL v = [.int .i64 k, .int .i64 x, .bool t, .complex .f64 c1 c2]) :
    w.cell? ⟨b, o, none⟩ = some (.int .i64 k) ∧ w.cell? ⟨b, o + 1, none⟩ = some (.int .i64 x) ∧ w.cell? ⟨b, o + 2, none⟩ = some (.bool t) ∧ w.cell? ⟨b, o + 3, none⟩ = some (.complex .f64 c1 c2) := by
  unfold OpAt at h
  rw [he] at h
  exact ⟨h 0 _ rfl, h 1 _ rfl, h 2 _ rfl, h 3 _ rfl⟩

set_option maxRecDepth 100000 in
set_option maxHeartbeats 2000000 in
theorem done0_any (vs : List VM) (xs : List VA) (ss : List (List UInt8)) (V X S : Option Addr) (vc xc sc : Nat) (op a : Int) (N : ByteArray) (U : Option Addr) (uc : Nat) (w : World) (hop : 1 ≤ op ∧ op ≤ 6) (h2 : op = 2 → inB a = true) (hV : RdV w (.slice V vs.length vc) vs) (hX : RdX w (.slice X xs.length xc) xs) (hS : RdW w (.slice S ss.length sc) ss) (hvl : vs.length ≤ 4611686018427387904) (hsl : ss.length ≤ 4611686018427387904) (hl : vs.length = xs.length) (hx : ∀ v ∈ xs, OkV v) :
    Calls Try.prog 28 #[.agg #[.slice V vs.length vc, .slice X xs.length xc, .slice S ss.length sc], .agg #[.int .i64 op, .int .i64 a, .string N], .slice U 0 uc] w fun e w' => e = outV (leafE vs xs ss ⟨op, a, N.data.toList⟩) ∧ Below w.heap.size w w' := by
  obtain ⟨W3, hW3⟩ : ∃ W, W = (((w.alloc (.cells #[.slice V vs.length vc, .slice X xs.length xc, .slice S ss.length sc] 60)).alloc (.cells #[.int .i64 op, .int .i64 a, .string N] 41)).alloc (.cells #[.int .i64 0, .int .i64 0, .bool false, .complex .f64 0 0] 64)) := ⟨_, rfl⟩
  have hb3 : Below w.heap.size w W3 := by rw [hW3]; exact (((Below.refl _ _).alloc (Nat.le_refl _) _).alloc (by simp) _).alloc (by simp; omega) _
  have HC := Lib.hid (alone_any vs xs ss V X S vc xc sc op a N W3 hop h2 (hV.below hb3) (hX.below hb3) (hS.below hb3) hvl hsl hl hx)
  generalize leafE vs xs ss ⟨op, a, N.data.toList⟩ = p at *
  clear hV hX hS hvl hsl hl hx h2 hb3
  subst hW3
  obtain ⟨k, x, t, c1, c2, er, hf⟩ := out_form (p)
  have HF := Lib.hid hf
  clear hf
  go_enter Try.func28, Try.ntmps28
  go_wp2_with fail
  refine (HC.out).mono ?_
  rintro e w1 ⟨rfl, hb1⟩
  rw [HF.out]
  obtain ⟨hh, hbw⟩ := fwd4 (show ((w.alloc _).alloc _).heap.size = w.heap.size + 1 + 1 by simp) (((Below.refl _ _).alloc (Nat.le_refl _) _).alloc (by simp) _) hb1
  obtain ⟨d0, d1, d2, d3, f0, f1, f2, f3⟩ := at4 hh
  clear hb1
  go_wp2
  obtain ⟨⟨r0, r1, r2, r3⟩, hbf⟩ := fin4 hh (by omega) hbw (.int .i64 k) (.int .i64 x) (.bool t) (.complex .f64 c1 c2)
  refine bodyPost_ret ?_ rfl ⟨HF.out.symm, hbf⟩
  simp [results, Try.results28, go_sem, r0, r1, r2, r3]

set_option maxRecDepth 100000 in
set_option maxHeartbeats 4000000 in
theorem done1_any (vs : List VM) (xs : List VA) (ss : List (List UInt8)) (V X S : Option Addr) (vc xc sc : Nat) (op a : Int) (N : ByteArray) (b o uc : Nat) (y : VA) (w : World) (hop : 7 ≤ op ∧ op ≤ 10) (hy : OkV y) (hu : OpAt w b o y) :
    Calls Try.prog 28 #[.agg #[.slice V vs.length vc, .slice X xs.length xc, .slice S ss.length sc], .agg #[.int .i64 op, .int .i64 a, .string N], .slice (some ⟨b, o, none⟩) 1 uc] w fun e w' => e = outV (unE op y) ∧ Below w.heap.size w w' := by
  obtain ⟨W3, hW3⟩ : ∃ W, W = (((w.alloc (.cells #[.slice V vs.length vc, .slice X xs.length xc, .slice S ss.length sc] 60)).alloc (.cells #[.int .i64 op, .int .i64 a, .string N] 41)).alloc (.cells #[.int .i64 0, .int .i64 0, .bool false, .complex .f64 0 0] 64)) := ⟨_, rfl⟩
  have hb3 : Below w.heap.size w W3 := by rw [hW3]; exact (((Below.refl _ _).alloc (Nat.le_refl _) _).alloc (by simp) _).alloc (by simp; omega) _
  obtain ⟨yk, yx, yt, y1, y2, hyv, hyc⟩ := opV_form y
  obtain ⟨m0, m1, m2, m3⟩ := (hu.below hb3).at_ hyc
  have HC := Lib.hid (ahead_any op y W3.drew hop hy)
  rw [hyv] at HC
  generalize unE op y = p at *
  clear hb3 hyv hyc hu hy hop
  subst hW3
  obtain ⟨k, x, t, c1, c2, er, hf⟩ := out_form (p)
  have HF := Lib.hid hf
  clear hf
  go_enter Try.func28, Try.ntmps28
  go_wp2_with fail
  go_region_with (go_at_call 43; refine (HC.out).mono ?_; rintro e w1 ⟨rfl, hb1⟩; rw [HF.out]; obtain ⟨hh, hbw⟩ := fwd4 (show ((w.alloc _).alloc _).heap.size = w.heap.size + 1 + 1 by simp) (((Below.refl _ _).alloc (Nat.le_refl _) _).alloc (by simp) _) (((Below.refl _ _).drew.trans hb1).mono (Nat.le_refl _)); obtain ⟨d0, d1, d2, d3, f0, f1, f2, f3⟩ := at4 hh; clear hb1)
  all_goals
    go_wp2
    obtain ⟨⟨r0, r1, r2, r3⟩, hbf⟩ := fin4 hh (by omega) hbw (.int .i64 k) (.int .i64 x) (.bool t) (.complex .f64 c1 c2)
    refine bodyPost_ret ?_ rfl ⟨HF.out.symm, hbf⟩
    simp [results, Try.results28, go_sem, r0, r1, r2, r3]

set_option maxRecDepth 100000 in
set_option maxHeartbeats 4000000 in
theorem done2_any (vs : List VM) (xs : List VA) (ss : List (List UInt8)) (V X S : Option Addr) (vc xc sc : Nat) (op a : Int) (N : ByteArray) (b o uc : Nat) (y z : VA) (w : World) (hop : 11 ≤ op ∧ op ≤ 23) (hy : OkV y) (hz : OkV z) (hu : OpAt w b o y) (hu2 : OpAt w b (o + 4) z) :
    Calls Try.prog 28 #[.agg #[.slice V vs.length vc, .slice X xs.length xc, .slice S ss.length sc], .agg #[.int .i64 op, .int .i64 a, .string N], .slice (some ⟨b, o, none⟩) 2 uc] w fun e w' => e = outV (joinE op y z) ∧ Below w.heap.size w w' := by
  obtain ⟨W3, hW3⟩ : ∃ W, W = (((w.alloc (.cells #[.slice V vs.length vc, .slice X xs.length xc, .slice S ss.length sc] 60)).alloc (.cells #[.int .i64 op, .int .i64 a, .string N] 41)).alloc (.cells #[.int .i64 0, .int .i64 0, .bool false, .complex .f64 0 0] 64)) := ⟨_, rfl⟩
  have hb3 : Below w.heap.size w W3 := by rw [hW3]; exact (((Below.refl _ _).alloc (Nat.le_refl _) _).alloc (by simp) _).alloc (by simp; omega) _
  obtain ⟨yk, yx, yt, y1, y2, hyv, hyc⟩ := opV_form y
  obtain ⟨m0, m1, m2, m3⟩ := (hu.below hb3).at_ hyc
  obtain ⟨zk, zx, zt, z1, z2, hzv, hzc⟩ := opV_form z
  obtain ⟨n0, n1, n2, n3⟩ := (hu2.below hb3).at_ hzc
  have HC := Lib.hid (between_any op y z W3.drew hop hy hz)
  rw [hyv, hzv] at HC
  generalize joinE op y z = p at *
  clear hb3 hyv hyc hu hy hop hzv hzc hz hu2
  subst hW3
  obtain ⟨k, x, t, c1, c2, er, hf⟩ := out_form (p)
  have HF := Lib.hid hf
  clear hf
  go_enter Try.func28, Try.ntmps28
  go_wp2_with fail
  go_region_with (go_at_call 44; refine (HC.out).mono ?_; rintro e w1 ⟨rfl, hb1⟩; rw [HF.out]; obtain ⟨hh, hbw⟩ := fwd4 (show ((w.alloc _).alloc _).heap.size = w.heap.size + 1 + 1 by simp) (((Below.refl _ _).alloc (Nat.le_refl _) _).alloc (by simp) _) (((Below.refl _ _).drew.trans hb1).mono (Nat.le_refl _)); obtain ⟨d0, d1, d2, d3, f0, f1, f2, f3⟩ := at4 hh; clear hb1)
  all_goals
    go_wp2
    obtain ⟨⟨r0, r1, r2, r3⟩, hbf⟩ := fin4 hh (by omega) hbw (.int .i64 k) (.int .i64 x) (.bool t) (.complex .f64 c1 c2)
    refine bodyPost_ret ?_ rfl ⟨HF.out.symm, hbf⟩
    simp [results, Try.results28, go_sem, r0, r1, r2, r3]
end Go.Proofs.Ytpidikbhjiaogaa
