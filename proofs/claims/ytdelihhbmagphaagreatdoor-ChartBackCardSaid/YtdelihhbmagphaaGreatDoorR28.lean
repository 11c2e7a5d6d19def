/- Own texts, joined: A15, A16, A9, A17, Bq. -/
import Derived.Test.YtdelihhbmagphaaGreatDoorR9
import Derived.Test.YtdelihhbmagphaaGreatDoorR16
import Derived.Test.YtdelihhbmagphaaGreatDoorR27
import Derived.Laws.StructEq
import Derived.Deep.QuietTactic
import Derived.BigQuiet
import Derived.Deep.Draws
namespace Go.Proofs.YtdelihhbmagphaaGreatDoor
open Go.RowKit
theorem any_not (ps : List AP) : ps.any (fun q : AP => !oneB q.1) = !((ps.map Prod.fst).all oneB) := by
 induction ps with
 | nil => rfl
 | cons a r ih => simp only [List.any_cons, List.map_cons, List.all_cons, ih, Bool.not_and]
theorem str_of {X : ByteArray} {l : List UInt8} (h : X.data.toList = l) : Value.string X = bstr l := by
 subst h; rfl
theorem aRight_any (v : Value) (ps : List AP) (w : World) (hR : RdA w v ps) (hl : ps.length ≤ 4611686018427387904) :
  Calls Tryz.prog 169 #[v] w fun e w' => e = .returned (.bool (rightA (ps.map Prod.fst))) ∧ Below w.heap.size w w' := by
 obtain ⟨A, c, rfl⟩ := hR.form
 have HC := Lib.hid (actContains_any _ ps w hR hl)
 have hr : rightA (ps.map Prod.fst) = (decide (1 ≤ ps.length ∧ ps.length ≤ 8) && (ps.map Prod.fst).all oneB) := by
  unfold rightA; rw [List.length_map]
 rw [any_not] at HC
 rw [hr]
 clear hR hr
 generalize (ps.map Prod.fst).all oneB = b at *
 generalize ps.length = n at *
 have HB0 : Hid (Below w.heap.size w w) := Below.refl _ _
 by_cases h1 : 1 ≤ n
 ·by_cases h8 : n ≤ 8
  ·have hd : decide (1 ≤ n ∧ n ≤ 8) = true := decide_eq_true ⟨h1, h8⟩
   rw [hd, Bool.true_and]
   have h1' : (1 : Int) ≤ n := by omega
   have h8' : (n : Int) ≤ 8 := by omega
   clear hd
   go_enter Tryz.func169, Tryz.ntmps169
   go_wp2_with fail
   refine HC.out.mono ?_
   rintro e w1 ⟨rfl, hb⟩
   have HB := Lib.hid hb
   clear hb
   cases b
   ·go_wp2
    go_ret
    exact ⟨rfl, HB.out⟩
   ·go_wp2
    go_ret
    exact ⟨rfl, HB.out⟩
  ·have hd : decide (1 ≤ n ∧ n ≤ 8) = false := decide_eq_false (by omega)
   rw [hd, Bool.false_and]
   have h1' : (1 : Int) ≤ n := by omega
   have h8' : ¬ (n : Int) ≤ 8 := by omega
   clear hd HC
   go_enter Tryz.func169, Tryz.ntmps169
   go_wp2
   go_ret
   exact ⟨rfl, HB0.out⟩
 ·have hd : decide (1 ≤ n ∧ n ≤ 8) = false := decide_eq_false (by omega)
  rw [hd, Bool.false_and]
  have h1' : ¬ (1 : Int) ≤ n := by omega
  clear hd HC
  go_enter Tryz.func169, Tryz.ntmps169
  go_wp2
  go_ret
  exact ⟨rfl, HB0.out⟩
theorem shown_any (a : AM) (X : ByteArray) (v : Value) (w : World) (hX : X.data.toList = a.nm) (hR : RdI w v a.ex) (ho : oneB a = true) (hO : Ops w) (hL : Laid w) :
  Calls Tryz.prog 170 #[.agg #[.int .i64 a.kd, .string X, v]] w fun e w' => e = .returned (bstr (textA a)) ∧ Below w.heap.size w w' := by
 obtain ⟨A, c, rfl⟩ := hR.slice
 obtain ⟨ak, an, ae⟩ := a
 simp only at hX hR
 have HB0 : Hid (Below w.heap.size w (w.alloc (.cells #[.int .i64 ak, .string X, .slice A ae.length c] 94))) := (Below.refl _ _).alloc (Nat.le_refl _) _
 have HX := Lib.hid hX
 rcases one_kinds ho with ⟨hk, hn, hr, _⟩ | ⟨hk, he, _⟩
 ·simp only at hk hn hr
  subst hk
  have hl1 : ae.length ≤ 4611686018427387904 := by have h := hr; unfold rightB at h; simp at h; omega
  have HS := Lib.hid (show_any _ ae _ (hR.below HB0.out).rd hl1 (hO.below HB0.out) (hL.below HB0.out))
  have hnl : X.size ≤ 12 := by have := name_len hn; rw [Lib.size_eq, hX]; omega
  have hsl : (⟨(showP ae).1.toArray⟩ : ByteArray).size ≤ 574 := by rw [Lib.size_eq]; exact show_len hr
  have ht : Hid (∀ Y : ByteArray, Y = ⟨(showP ae).1.toArray⟩ → Value.string (X ++ ⟨#[61]⟩ ++ Y) = bstr (textA ⟨1, an, ae⟩)) := by
   rintro Y rfl
   refine str_of ?_
   simp [textA, hX]
  have hpost : ∀ e w', ShowPost ae (w.alloc (.cells #[.int .i64 1, .string X, .slice A ae.length c] 94)) e w' → ∃ (Y : ByteArray) (n : Int), Hid (Y = ⟨(showP ae).1.toArray⟩) ∧ Y.size ≤ 574 ∧ e = .returned (.tuple #[.string Y, .int .i64 n]) ∧ Below (w.heap.size + 1) (w.alloc (.cells #[.int .i64 1, .string X, .slice A ae.length c] 94)) w' := by
   rintro e w' ⟨rfl, hb⟩
   exact ⟨_, _, rfl, hsl, rfl, by simpa using hb⟩
  have HP := Lib.hid hpost
  have d1 : (w.alloc (.cells #[.int .i64 1, .string X, .slice A ae.length c] 94)).cell? ⟨w.heap.size, 1, none⟩ = some (.string X) := by simp
  clear hR ho hO hL hpost hsl hX hn hr hl1
  generalize ae.length = m at *
  go_enter Tryz.func170, Tryz.ntmps170
  go_wp2_with fail
  refine HS.out.mono ?_
  intro e w1 hp
  obtain ⟨Y, n, HY, hYs, rfl, hb⟩ := HP.out e w1 hp
  clear hp
  have e1 := (hb.cell (by simp)).trans d1
  have HB := Lib.hid (HB0.out.trans (hb.mono (Nat.le_succ _)))
  clear hb d1
  go_wp2
  go_ret
  exact ⟨congrArg Ending.returned (ht.out Y HY.out), HB.out⟩
 ·simp only at hk he
  have hnl : X.size ≤ 17 := by have := event_len he; rw [Lib.size_eq, hX]; omega
  rcases hk with rfl | rfl
  ·have ht : Hid (Value.string ((⟨#[114, 97, 105, 115, 101, 58]⟩ : ByteArray) ++ X) = bstr (textA ⟨2, an, ae⟩)) := by
    refine str_of ?_
    simp [textA, wRaise, hX]
   clear hR ho hO hL hX he
   generalize ae.length = m at *
   go_enter Tryz.func170, Tryz.ntmps170
   go_wp2
   go_ret
   exact ⟨congrArg Ending.returned ht.out, HB0.out⟩
  ·have ht : Hid (Value.string ((⟨#[115, 101, 110, 100, 58]⟩ : ByteArray) ++ X) = bstr (textA ⟨3, an, ae⟩)) := by
    refine str_of ?_
    simp [textA, wSend, hX]
   clear hR ho hO hL hX he
   generalize ae.length = m at *
   go_enter Tryz.func170, Tryz.ntmps170
   go_wp2
   go_ret
   exact ⟨congrArg Ending.returned ht.out, HB0.out⟩
end Go.Proofs.YtdelihhbmagphaaGreatDoor
namespace Go.Proofs.YtdelihhbmagphaaGreatDoor
open Go.RowKit
def ShowAPost (l : List AM) (w : World) (e : Ending) (w' : World) : Prop :=
 e = .returned (.tuple #[bstr (showA l).1, .int .i64 (showA l).2]) ∧ Below w.heap.size w w'
structure ShI (l : List AM) (w wr : World) (k : Nat) (lv : Value) : Prop where
 le : k ≤ l.length
 row : wr.ownsRow w.heap.size 9 1 lv k ((l.take k).map fun a => bstr (textA a))
 below : Below w.heap.size w wr
theorem ShI.moved {l : List AM} {w wr w' : World} {k : Nat} {lv : Value} (h : ShI l w wr k lv) (hb : Below wr.heap.size wr w') : ShI l w w' k lv :=
 ⟨h.le, own_below h.row hb, h.below.trans (hb.mono h.below.size)⟩
theorem ShI.push {l : List AM} {w wr w' : World} {k : Nat} {lv lv' : Value} {a : AM} (h : ShI l w wr k lv) (hk : l[k]? = some a)
  (hr : w'.ownsRow w.heap.size 9 1 lv' (k + 1) (((l.take k).map fun a => bstr (textA a)) ++ [bstr (textA a)])) (hg : wr.grownBy w' lv.ownBlock) : ShI l w w' (k + 1) lv' := by
 obtain ⟨hk', rfl⟩ := List.getElem?_eq_some_iff.1 hk
 refine ⟨hk', ?_, h.below.grown hg h.below.size (fun g hg' => (h.row.lt g hg').1)⟩
 rw [List.take_succ_eq_append_getElem hk', List.map_append]
 exact hr
theorem row_cap {w : World} {base : Nat} {e : TypeId} {size n : Nat} {v : Value} {xs : List Value} (h : w.ownsRow base e size v n xs) (hn : 0 < n) :
  ∃ g cap, v = .slice (some ⟨g, 0, none⟩) n cap ∧ n ≤ cap ∧ g < w.heap.size ∧ ∀ j u, xs[j]? = some u → w.cell? ⟨g, 0 + j, none⟩ = some u := by
 have h0 := h
 rcases h.2 with ⟨_, rfl⟩ | ⟨g, cap, cur, rfl, _, _, hc, _⟩
 ·omega
 ·obtain ⟨b, o, hA, hlt, hc'⟩ := Inn.at_ (Inn.of_own h0) hn
  simp only [Option.some.injEq, Addr.mk.injEq, and_true] at hA
  obtain ⟨rfl, rfl⟩ := hA
  exact ⟨g, cap, rfl, hc, hlt, fun j u hu => by have := hc' j u (by simpa using hu); simpa using this⟩
set_option maxRecDepth 100000 in
set_option maxHeartbeats 4000000 in
theorem aShow_any (v : Value) (ps : List AP) (w : World) (hR : RdA w v ps) (hl : ps.length ≤ 4611686018427387904) (hO : Ops w) (hL : Laid w) :
  Calls Tryz.prog 135 #[v] w (ShowAPost (ps.map Prod.fst) w) := by
 have HR := Lib.hid (aRight_any v ps w hR hl)
 have HRD := Lib.hid hR
 obtain ⟨A, c, rfl⟩ := hR.form
 cases hr : rightA (ps.map Prod.fst) with
 | false =>
  have hs : showA (ps.map Prod.fst) = ([], 1) := if_neg (by rw [hr]; decide)
  rw [hr] at HR
  have HS := Lib.hid hs
  clear hs hr hR hO hL HRD
  go_enter Tryz.func135, Tryz.ntmps135
  go_wp2_with fail
  refine HR.out.mono ?_
  rintro e w1 ⟨rfl, hb⟩
  have HB := Lib.hid hb
  clear hb
  go_wp2
  go_ret2
  refine ⟨?_, HB.out⟩
  rw [HS.out]; rfl
 | true =>
  have hs : showA (ps.map Prod.fst) = (Lib.join ((ps.map Prod.fst).map textA) [59], 0) := if_pos hr
  rw [hr] at HR
  have hr' := hr
  unfold rightA at hr'
  simp only [Bool.and_eq_true, decide_eq_true_eq, List.length_map] at hr'
  obtain ⟨⟨hn1, hn8⟩, hall⟩ := hr'
  have HALL : Hid (∀ p ∈ ps, oneB p.1 = true) := fun p hp => List.all_eq_true.1 hall _ (List.mem_map.2 ⟨p, hp, rfl⟩)
  have HS := Lib.hid hs
  have HO : Hid (Ops w) := hO
  have HL : Hid (Laid w) := hL
  obtain ⟨n, hn⟩ : ∃ n, ps.length = n := ⟨_, rfl⟩
  have HN := Lib.hid hn
  rw [hn] at hn1 hn8 HR HRD ⊢
  obtain ⟨is, hs0, hs1, hs2, hs3⟩ := info_of infoStrS
  have HS0 := Lib.hid hs0; have HS1 := Lib.hid hs1; have HS2 := Lib.hid hs2; have HS3 := Lib.hid hs3
  clear hs hr hR hO hL hall hn hl hs0 hs1 hs2 hs3
  go_enter Tryz.func135, Tryz.ntmps135
  go_wp2_with fail
  refine HR.out.mono ?_
  rintro e w0 ⟨rfl, hb0⟩
  have HB0 := Lib.hid hb0
  have HRD0 := Lib.hid (HRD.out.below hb0)
  have HO0 := Lib.hid (HO.out.below hb0)
  have HL0 := Lib.hid (HL.out.below hb0)
  have HI0 : Hid (ShI (ps.map Prod.fst) w0 w0 0 (.slice none 0 0)) := ⟨Nat.zero_le _, World.ownsRow_nil _ _ _ _, Below.refl _ _⟩
  clear hb0 HRD HO HL HR
  go_wp2
  go_loopw [4, 12] (fun x4 x12 wr => ∃ (k : Nat) (lv : Value), ShI (ps.map Prod.fst) w0 wr k lv ∧ x4 = lv ∧ x12 = .int .i64 (k : Int)) (fun _ i _ => n - (intOf i).toNat)
  case atStart => exact ⟨0, _, HI0.out, rfl, rfl⟩
  case round =>
   obtain ⟨k, lv, hI, hx4, rfl⟩ := hrel
   replace hx4 := hx4.symm
   subst hx4
   obtain ⟨wl, hwl⟩ : ∃ W, W = wr := ⟨_, rfl⟩
   subst hwl
   have hk := hI.le
   rw [List.length_map, HN.out] at hk
   have HI := Lib.hid hI
   have HBW := Lib.hid (HB0.out.trans (hI.below.mono HB0.out.size))
   by_cases hkn : k < n
   ·have hkp : k < ps.length := by rw [HN.out]; exact hkn
    have hR' := HRD0.out.below hI.below
    have hOW := HO0.out.below hI.below
    have hLW := HL0.out.below hI.below
    have hone := HALL.out _ (List.getElem_mem hkp)
    have hat : (ps.map Prod.fst)[k]? = some ps[k].1 := by rw [List.getElem?_map, List.getElem?_eq_getElem hkp]; rfl
    obtain ⟨b, o, rfl, _, hc0, hc1, hc2, hA⟩ := hR'.at_ hkp
    clear hI hR'
    generalize ps[k] = x at *
    obtain ⟨⟨xk, xn, xe⟩, xv⟩ := x
    obtain ⟨X, hX, hXl⟩ := bstr_some xn
    simp only at hc0 hc1 hc2 hone hat
    rw [hX] at hc1
    have hA1 := hA.rd
    simp only at hA1
    clear hA
    obtain ⟨Ax, cx, rfl⟩ := hA1.slice
    have HB3 : Hid (Below wl.heap.size wl (wl.alloc (.cells #[.int .i64 xk, .string X, .slice Ax xe.length cx] 94))) := (Below.refl _ _).alloc (Nat.le_refl _) _
    have HSH := Lib.hid (shown_any ⟨xk, xn, xe⟩ X _ _ hXl (hA1.below HB3.out) hone (hOW.below HB3.out) (hLW.below HB3.out))
    have HPU := Lib.hid (fun (w5 w6 : World) (lv' : Value) (h : ShI (ps.map Prod.fst) w0 w5 k lv) => h.push (w' := w6) (lv' := lv') hat)
    clear hA1 hOW hLW hone hat hX hXl
    simp only at HSH
    obtain ⟨Y, hY, hYl⟩ := bstr_some (textA ⟨xk, xn, xe⟩)
    rw [hY] at HSH HPU
    clear hY hYl
    go_wp2_with fail
    refine HSH.out.mono ?_
    rintro e w4 ⟨rfl, hb4⟩
    have HB4 : Hid (Below wl.heap.size wl w4) := HB3.out.trans (hb4.mono HB3.out.size)
    have HB5 : Hid (Below wl.heap.size wl (w4.alloc (.cells #[.string Y] 9))) := HB4.out.alloc HB4.out.size _
    have HI5 := Lib.hid (HI.out.moved HB5.out)
    clear hb4
    go_wp2_with (at_builtin; refine Ow.wpList_append rfl (.tmp 16) (.tmp 19) 22 rfl w0.heap.size 9 is _ 1 16 Tryz.underlying22 HS0.out HS1.out HS2.out HS3.out rfl (by decide) _ k _ rfl HI5.out.row _ 1 [.string Y] rfl (inn_one _ _ _ (by simp)) (one_str _) (by unfold maxLen; omega) (by omega) HI5.out.below.size ?_)
    intro lv' w5 ho5 hg5 _
    have HI6 := Lib.hid (HPU.out _ w5 lv' HI5.out (by simpa using ho5) hg5)
    clear ho5 hg5
    go_wp2
    go_roundw
    case rel => exact ⟨k + 1, _, HI6.out, rfl, by go_num⟩
    case measure => simp [intOf]; omega
   ·obtain rfl : k = n := by omega
    have hrow := hI.row
    rw [show (ps.map Prod.fst).take k = ps.map Prod.fst from List.take_of_length_le (by rw [List.length_map, HN.out]; exact Nat.le_refl _)] at hrow
    obtain ⟨g, cap, rfl, hcap, hlt, hcells⟩ := row_cap hrow hn1
    have hlen : ((ps.map Prod.fst).map fun a => (⟨(textA a).toArray⟩ : ByteArray)).length = k := by rw [List.length_map, List.length_map, HN.out]
    have hmap : ((ps.map Prod.fst).map fun a => (⟨(textA a).toArray⟩ : ByteArray)).map (·.data.toList) = (ps.map Prod.fst).map textA := by
     rw [List.map_map]; exact List.map_congr_left (fun a _ => rfl)
    have hj := join_len ((ps.map Prod.fst).map textA) (by
     intro t ht
     obtain ⟨a, ha, rfl⟩ := List.mem_map.1 ht
     obtain ⟨p, hp, rfl⟩ := List.mem_map.1 ha
     exact textA_len (HALL.out p hp))
    rw [List.length_map, List.length_map, HN.out] at hj
    have hJ := Tryz.strings_Join g 0 cap ((ps.map Prod.fst).map fun a => (⟨(textA a).toArray⟩ : ByteArray)) ⟨#[59]⟩ wl (by
     intro j x hx
     refine hcells j _ ?_
     rw [List.getElem?_map] at hx ⊢
     cases hq : (ps.map Prod.fst)[j]? with
     | none => rw [hq] at hx; cases hx
     | some a => rw [hq] at hx; injection hx with hx; subst hx; rfl) hlt (by omega) (by omega) (by rw [hmap]; show (Lib.join _ [59]).length ≤ _; omega)
    rw [hlen, hmap] at hJ
    have HJ := Lib.hid hJ
    clear hI hrow hcells hlen hmap hj hJ
    generalize Lib.join ((ps.map Prod.fst).map textA) [59] = J at *
    go_wp2_with fail
    refine HJ.out.mono ?_
    rintro e w4 ⟨rfl, hb4⟩
    have HB4 := Lib.hid (HBW.out.trans (hb4.mono HBW.out.size))
    clear hb4
    go_wp2
    go_ret2
    refine ⟨?_, HB4.out⟩
    rw [HS.out]; rfl
end Go.Proofs.YtdelihhbmagphaaGreatDoor
namespace Go.Proofs.YtdelihhbmagphaaGreatDoor
open Go.RowKit
instance : DecidableEq VA := fun x y => decidable_of_iff (x.kd = y.kd ∧ x.a = y.a ∧ x.b = y.b) (by cases x; cases y; simp)
theorem str_rowW {w : World} {v : Value} {xs : List (List UInt8)} (h : RdW w v xs) {A : Option Addr} {m c : Nat} (hv : v = .slice A m c) {k : Nat} (hk : k < xs.length) : ∃ b o, A = some ⟨b, o, none⟩ ∧ w.cell? ⟨b, o + k, none⟩ = some (bstr xs[k]) := by
 subst hv
 obtain ⟨b, o, hA, _, hc⟩ := Inn.at_ h hk
 refine ⟨b, o, hA, ?_⟩
 have := hc 0 (bstr xs[k]) (by simp [hk])
 simpa using this
set_option maxRecDepth 100000 in
set_option maxHeartbeats 4000000 in
theorem same2_any (va vb : Value) (xs ys : List (List UInt8)) (w : World) (ha : RdW w va xs) (hb : RdW w vb ys) (hx : xs.length ≤ 140737488355328) :
  Calls Tryz.prog 22 #[va, vb] w fun e w' => e = .returned (.bool (decide (xs = ys))) ∧ ∃ n, w' = w.drewN n := by
 obtain ⟨A, c, rfl⟩ := Inn.form ha
 obtain ⟨B, d, rfl⟩ := Inn.form hb
 have HA := Lib.hid ha; have HB := Lib.hid hb; clear ha hb
 by_cases hlen : xs.length = ys.length
 ·obtain ⟨n, hxl⟩ : ∃ n, xs.length = n := ⟨_, rfl⟩
  have hyl : ys.length = n := by omega
  rw [hxl] at hx
  have HXL := Lib.hid hxl; have HYL := Lib.hid hyl
  rw [hxl] at HA
  rw [hyl] at HB
  rw [hxl, hyl]
  clear hlen hxl hyl
  have hr : ∀ k, xs.take k = ys.take k → ¬ k < n → (decide (xs = ys)) = true := by
   intro k h hk
   rw [List.take_of_length_le (by rw [HXL.out]; omega), List.take_of_length_le (by rw [HYL.out]; omega)] at h
   exact decide_eq_true h
  have HR := Lib.hid hr; clear hr
  go_enter Tryz.func22, Tryz.ntmps22
  go_wp2
  go_loopw [4, 5] (fun x i wr => x = .bool false ∧ ∃ k m : Nat, k ≤ n ∧ xs.take k = ys.take k ∧ wr = w.drewN m ∧ i = .int .i64 k) (fun _ i _ => n - (intOf i).toNat)
  case atStart => exact ⟨rfl, 0, 0, by omega, rfl, rfl, rfl⟩
  case round =>
   obtain ⟨rfl, k, m, hk, ht, rfl, rfl⟩ := hrel
   have HT := Lib.hid ht; clear ht
   by_cases hkn : k < n
   ·obtain ⟨bA, oA, rfl, ca⟩ := str_rowW HA.out rfl (k := k) (by rw [HXL.out]; exact hkn)
    obtain ⟨bB, oB, rfl, cb⟩ := str_rowW HB.out rfl (k := k) (by rw [HYL.out]; exact hkn)
    obtain ⟨X, hX, hXl⟩ := bstr_some (xs[k]'(by rw [HXL.out]; exact hkn))
    obtain ⟨Y, hY, hYl⟩ := bstr_some (ys[k]'(by rw [HYL.out]; exact hkn))
    rw [hX] at ca
    rw [hY] at cb
    by_cases he : xs[k]'(by rw [HXL.out]; exact hkn) = ys[k]'(by rw [HYL.out]; exact hkn)
    ·have hs : xs.take (k + 1) = ys.take (k + 1) := by
      rw [List.take_succ_eq_append_getElem (by rw [HXL.out]; exact hkn), List.take_succ_eq_append_getElem (by rw [HYL.out]; exact hkn), HT.out, he]
     have HS := Lib.hid hs
     obtain rfl : X = Y := str_eq (by rw [hXl, hYl, he])
     clear he hs hX hXl hY hYl
     go_wp2
     go_quiet (fail)
     go_wp2
     go_roundw
     case rel => exact ⟨rfl, k + 1, m + nq, by omega, HS.out, rfl, by go_num⟩
     case measure => simp [intOf]; omega
    ·have hdd : (decide (xs = ys)) = false := decide_eq_false (fun e => he (by subst e; rfl))
     have HD := Lib.hid hdd
     have hn0 : X.data.toList ≠ Y.data.toList := by rw [hXl, hYl]; exact he
     have hne := str_ne hn0
     have hne' := str_ne (Ne.symm hn0)
     clear he hX hY hXl hYl hn0 hdd
     go_wp2
     go_quiet (fail)
     go_wp2
     go_ret
     exact ⟨ret_bool HD.out.symm, m + nq, World.drewN_drewN _ _ _⟩
   ·have hd := HR.out k HT.out hkn
    have HD := Lib.hid hd; clear hd
    go_wp2
    go_ret
    exact ⟨ret_bool HD.out.symm, m, rfl⟩
 ·have hr : (decide (xs = ys)) = false := decide_eq_false (fun e => hlen (by rw [e]))
  have hl' : ((xs.length : Int) == (ys.length : Int)) = false := beq_eq_false_iff_ne.2 (by omega)
  rw [hr]; clear hr hlen
  go_enter Tryz.func22, Tryz.ntmps22
  go_wp2
  go_ret
  exact ⟨rfl, 0, rfl⟩
end Go.Proofs.YtdelihhbmagphaaGreatDoor
namespace Go.Proofs.YtdelihhbmagphaaGreatDoor
open Go.RowKit
theorem take_next {l m : List AM} {k : Nat} {a : AM} (h : l.take k = m.take k) (h1 : l[k]? = some a) (h2 : m[k]? = some a) : l.take (k + 1) = m.take (k + 1) := by
 obtain ⟨k1, e1⟩ := List.getElem?_eq_some_iff.1 h1
 obtain ⟨k2, e2⟩ := List.getElem?_eq_some_iff.1 h2
 rw [List.take_succ_eq_append_getElem k1, List.take_succ_eq_append_getElem k2, h, e1, e2]
theorem take_not {l m : List AM} {k : Nat} {a b : AM} (hne : a ≠ b) (h1 : l[k]? = some a) (h2 : m[k]? = some b) : decide (l = m) = false :=
 decide_eq_false (fun e => hne (by subst e; rw [h1] at h2; injection h2))
theorem quiet_ons {P : Program} {f : FuncId} {args : Array Value} {w : World} {a n : Nat} {v : Value} (h : Calls P f args (w.drewN (a + n)) fun e w' => e = .returned v ∧ ∃ r, w' = (w.drewN (a + n)).drewN r) :
  Calls P f args (w.drewN (a + n)) fun e w'' => e = .returned v ∧ ∃ m, w'' = w.drewN (a + m) := h.mono fun _ _ ⟨he, r, hr⟩ => ⟨he, n + r, by rw [hr, World.drewN_drewN, Nat.add_assoc]⟩
theorem fst_at {ps : List AP} {k : Nat} (h : k < ps.length) : (ps.map Prod.fst)[k]? = some ps[k].1 := by
 rw [List.getElem?_map, List.getElem?_eq_getElem h]; rfl
set_option maxRecDepth 100000 in
set_option maxHeartbeats 8000000 in
theorem aSame_any (va vb : Value) (ps qs : List AP) (w : World) (ha : RdA w va ps) (hb : RdA w vb qs) (hx : ps.length ≤ 140737488355328) :
  Calls Tryz.prog 23 #[va, vb] w fun e w' => e = .returned (.bool (decide (ps.map Prod.fst = qs.map Prod.fst))) ∧ ∃ n, w' = w.drewN n := by
 obtain ⟨A, c, rfl⟩ := ha.form
 obtain ⟨B, d, rfl⟩ := hb.form
 have HA := Lib.hid ha; have HB := Lib.hid hb; clear ha hb
 by_cases hlen : ps.length = qs.length
 ·obtain ⟨n, hxl⟩ : ∃ n, ps.length = n := ⟨_, rfl⟩
  have hyl : qs.length = n := by omega
  rw [hxl] at hx
  have HXL := Lib.hid hxl; have HYL := Lib.hid hyl
  rw [hxl] at HA
  rw [hyl] at HB
  rw [hxl, hyl]
  clear hlen hxl hyl
  have hr : ∀ k, (ps.map Prod.fst).take k = (qs.map Prod.fst).take k → ¬ k < n → decide (ps.map Prod.fst = qs.map Prod.fst) = true := by
   intro k h hk
   rw [List.take_of_length_le (by rw [List.length_map, HXL.out]; omega), List.take_of_length_le (by rw [List.length_map, HYL.out]; omega)] at h
   exact decide_eq_true h
  have HR := Lib.hid hr; clear hr
  go_enter Tryz.func23, Tryz.ntmps23
  go_wp2
  go_loopw [4, 5] (fun x i wr => x = .bool false ∧ ∃ k m : Nat, k ≤ n ∧ Hid ((ps.map Prod.fst).take k = (qs.map Prod.fst).take k) ∧ wr = w.drewN m ∧ i = .int .i64 k) (fun _ i _ => n - (intOf i).toNat)
  case atStart => exact ⟨rfl, 0, 0, by omega, rfl, rfl, rfl⟩
  case round =>
   obtain ⟨rfl, k, m, hk, HT, rfl, rfl⟩ := hrel
   by_cases hkn : k < n
   ·have hkx : k < ps.length := by rw [HXL.out]; exact hkn
    have hky : k < qs.length := by rw [HYL.out]; exact hkn
    obtain ⟨bA, oA, rfl, _, a0, a1, a2, hA⟩ := HA.out.at_ hkx
    obtain ⟨bB, oB, rfl, _, b0, b1, b2, hB⟩ := HB.out.at_ hky
    have hpx := fst_at hkx
    have hpy := fst_at hky
    generalize ps[k] = x at *
    generalize qs[k] = y at *
    obtain ⟨⟨xk, xn, xe⟩, xv⟩ := x
    obtain ⟨⟨yk, yn, ye⟩, yv⟩ := y
    simp only at a0 a1 a2 b0 b1 b2 hpx hpy
    obtain ⟨X, hX, hXl⟩ := bstr_some xn
    obtain ⟨Y, hY, hYl⟩ := bstr_some yn
    rw [hX] at a1
    rw [hY] at b1
    have hA1 := hA.rd
    have hA2 := hA.len
    have hB1 := hB.rd
    simp only at hA1 hA2 hB1
    clear hA hB
    obtain ⟨Ax, cx, rfl⟩ := hA1.slice
    obtain ⟨Ay, cy, rfl⟩ := hB1.slice
    have HCC : Hid (∀ q, Calls Tryz.prog 24 #[.slice Ax xe.length cx, .slice Ay ye.length cy] (w.drewN q) fun e w' => e = .returned (.bool (decide (xe = ye))) ∧ ∃ r, w' = (w.drewN q).drewN r) := fun q =>
     have hb := below_drewN (Below.refl w.heap.size w) q
     same_any _ _ xe ye _ (hA1.below hb).rd (hB1.below hb).rd (by omega)
    clear hA1 hB1
    by_cases h1 : xk = yk
    ·subst h1
     by_cases h2 : xn = yn
     ·subst h2
      obtain rfl : X = Y := str_eq (by rw [hXl, hYl])
      by_cases h3 : xe = ye
      ·subst h3
       have HS := Lib.hid (take_next HT.out hpx hpy)
       rw [decide_eq_true rfl] at HCC
       clear hpx hpy hX hY hXl hYl
       go_wp2
       go_quiet ((go_at_call 24; exact quiet_ons (HCC.out _)))
       go_wp2
       go_roundw
       case rel => exact ⟨rfl, k + 1, m + nq, by omega, HS.out, rfl, by go_num⟩
       case measure => simp [intOf]; omega
      ·have HD := Lib.hid (take_not (fun e => h3 (by injection e)) hpx hpy)
       rw [decide_eq_false h3] at HCC
       clear hpx hpy hX hY hXl hYl h3
       go_wp2
       go_quiet ((go_at_call 24; exact quiet_ons (HCC.out _)))
       go_wp2
       go_ret
       exact ⟨ret_bool HD.out.symm, m + nq, World.drewN_drewN _ _ _⟩
     ·have HD := Lib.hid (take_not (fun e => h2 (by injection e)) hpx hpy)
      have hn0 : X.data.toList ≠ Y.data.toList := by rw [hXl, hYl]; exact h2
      have hne := str_ne hn0
      have hne' := str_ne (Ne.symm hn0)
      clear hpx hpy hX hY hXl hYl h2 HCC hn0
      go_wp2
      go_quiet (fail)
      go_wp2
      go_ret
      exact ⟨ret_bool HD.out.symm, m + nq, World.drewN_drewN _ _ _⟩
    ·have HD := Lib.hid (take_not (fun e => h1 (by injection e)) hpx hpy)
     have h2 := int_ne h1
     have h3 := int_ne (Ne.symm h1)
     have h4 : (xk != yk) = true := bne_iff_ne.2 h1
     clear hpx hpy hX hY hXl hYl h1 HCC
     go_wp2
     go_quiet (fail)
     go_wp2
     go_ret
     exact ⟨ret_bool HD.out.symm, m + nq, World.drewN_drewN _ _ _⟩
   ·have HD := Lib.hid (HR.out k HT.out hkn)
    go_wp2
    go_ret
    exact ⟨ret_bool HD.out.symm, m, rfl⟩
 ·have hr : decide (ps.map Prod.fst = qs.map Prod.fst) = false := decide_eq_false (fun e => hlen (by have := congrArg List.length e; simpa using this))
  have hl' : ((ps.length : Int) == (qs.length : Int)) = false := beq_eq_false_iff_ne.2 (by omega)
  rw [hr]; clear hr hlen
  go_enter Tryz.func23, Tryz.ntmps23
  go_wp2
  go_ret
  exact ⟨rfl, 0, rfl⟩
end Go.Proofs.YtdelihhbmagphaaGreatDoor
namespace Go.Proofs.YtdelihhbmagphaaGreatDoor.Ch
open Go.RowKit
theorem take_nextG {α : Type} {l m : List α} {k : Nat} {a : α} (h : l.take k = m.take k) (h1 : l[k]? = some a) (h2 : m[k]? = some a) : l.take (k + 1) = m.take (k + 1) := by
 obtain ⟨k1, e1⟩ := List.getElem?_eq_some_iff.1 h1
 obtain ⟨k2, e2⟩ := List.getElem?_eq_some_iff.1 h2
 rw [List.take_succ_eq_append_getElem k1, List.take_succ_eq_append_getElem k2, h, e1, e2]
theorem take_notG {α : Type} [DecidableEq α] {l m : List α} {k : Nat} {a b : α} (hne : a ≠ b) (h1 : l[k]? = some a) (h2 : m[k]? = some b) : decide (l = m) = false :=
 decide_eq_false (fun e => hne (by subst e; rw [h1] at h2; injection h2))
theorem neq_cell (x y : CM) (w : World) : (binOp .neq 96 (.agg #[.int .i64 x.op, .int .i64 x.a, bstr x.nm]) (.agg #[.int .i64 y.op, .int .i64 y.a, bstr y.nm])).run Tryz.prog w = .ok (.bool (!decide (x = y))) w := by
 have u3 := Tryz.underlying3; have a3 := Tryz.isAgg3; have z3 := Tryz.sizeOf3
 have u9 := Tryz.underlying9; have a9 := Tryz.isAgg9; have z9 := Tryz.sizeOf9
 have u8 := Tryz.underlying62; have a8 := Tryz.isAgg62; have z8 := Tryz.sizeOf62
 have hS : Tryz.prog.underlying 96 = some (.struct (Tryz.prog.fieldsOf 96)) := by kernel_rfl
 have hp : Tryz.prog.stoodInHeld 96 = false := by kernel_rfl
 rw [run_neq_struct, show (10000 : Nat) = 9999 + 1 from rfl, run_equalIn_agg w 9999 96 _ _ hS hp]
 simp only [Program.fieldsOf, Tryz.underlying96]
 unfold bstr
 go_simp
 cases x; cases y
 simp only []
 (repeat' split) <;> simp_all
theorem neq_var (x y : VM) (w : World) : (binOp .neq 64 (.agg #[bstr x.nm, .int .i64 x.kd, .int .i64 x.lo, .int .i64 x.hi, .int .i64 x.ik, .int .i64 x.ia, .int .i64 x.ib]) (.agg #[bstr y.nm, .int .i64 y.kd, .int .i64 y.lo, .int .i64 y.hi, .int .i64 y.ik, .int .i64 y.ia, .int .i64 y.ib])).run Tryz.prog w = .ok (.bool (!decide (x = y))) w := by
 have u3 := Tryz.underlying3; have a3 := Tryz.isAgg3; have z3 := Tryz.sizeOf3
 have u9 := Tryz.underlying9; have a9 := Tryz.isAgg9; have z9 := Tryz.sizeOf9
 have u8 := Tryz.underlying62; have a8 := Tryz.isAgg62; have z8 := Tryz.sizeOf62
 have hS : Tryz.prog.underlying 64 = some (.struct (Tryz.prog.fieldsOf 64)) := by kernel_rfl
 have hp : Tryz.prog.stoodInHeld 64 = false := by kernel_rfl
 rw [run_neq_struct, show (10000 : Nat) = 9999 + 1 from rfl, run_equalIn_agg w 9999 64 _ _ hS hp]
 simp only [Program.fieldsOf, Tryz.underlying64]
 unfold bstr
 go_simp
 cases x; cases y
 simp only []
 (repeat' split) <;> simp_all
set_option maxRecDepth 100000 in
set_option maxHeartbeats 2000000 in
theorem equal_str (va vb : Value) (xs ys : List (List UInt8)) (w : World) (ha : Inn w 1 va xs.length (strsV xs)) (hb : Inn w 1 vb ys.length (strsV ys)) (hx : xs.length ≤ 9223372036854775807) :
  Calls Tryz.prog 58 #[va, vb] w fun e w' => e = .returned (.bool (decide (xs = ys))) ∧ ∃ n, w' = w.drewN n := by
 obtain ⟨A, c, rfl⟩ := Inn.form ha
 obtain ⟨B, d, rfl⟩ := Inn.form hb
 have HA := Lib.hid ha; have HB := Lib.hid hb; clear ha hb
 by_cases hlen : xs.length = ys.length
 ·obtain ⟨n, hxl⟩ : ∃ n, xs.length = n := ⟨_, rfl⟩
  have hyl : ys.length = n := by omega
  rw [hxl] at hx
  have HXL := Lib.hid hxl; have HYL := Lib.hid hyl
  rw [hxl] at HA
  rw [hyl] at HB
  rw [hxl, hyl]
  clear hlen hxl hyl
  have hr : ∀ k, xs.take k = ys.take k → ¬ k < n → decide (xs = ys) = true := by
   intro k h hk
   rw [List.take_of_length_le (by rw [HXL.out]; omega), List.take_of_length_le (by rw [HYL.out]; omega)] at h
   exact decide_eq_true h
  have HR := Lib.hid hr; clear hr
  go_enter Tryz.func58, Tryz.ntmps58
  go_wp2
  go_loopw [5, 13] (fun x i wr => x = x ∧ ∃ k m : Nat, k ≤ n ∧ Hid (xs.take k = ys.take k) ∧ wr = w.drewN m ∧ i = .int .i64 k) (fun _ i _ => n - (intOf i).toNat)
  case atStart => exact ⟨rfl, 0, 0, by omega, rfl, rfl, rfl⟩
  case round =>
   obtain ⟨_, k, m, hk, HT, rfl, rfl⟩ := hrel
   by_cases hkn : k < n
   ·have hkx : k < xs.length := by rw [HXL.out]; exact hkn
    have hky : k < ys.length := by rw [HYL.out]; exact hkn
    obtain ⟨bA, oA, rfl, _, ha⟩ := Inn.at_ HA.out hkn
    obtain ⟨bB, oB, rfl, _, hb⟩ := Inn.at_ HB.out hkn
    have a0 : w.cell? ⟨bA, oA + k, none⟩ = some (bstr xs[k]) := by have := ha 0 (bstr xs[k]) (by simp [strsV, hkx]); simpa using this
    have b0 : w.cell? ⟨bB, oB + k, none⟩ = some (bstr ys[k]) := by have := hb 0 (bstr ys[k]) (by simp [strsV, hky]); simpa using this
    have hpx := List.getElem?_eq_getElem hkx
    have hpy := List.getElem?_eq_getElem hky
    clear ha hb
    generalize xs[k] = x at *
    generalize ys[k] = y at *
    obtain ⟨X, hX, hXl⟩ := bstr_some (x)
    obtain ⟨Y, hY, hYl⟩ := bstr_some (y)
    rw [hX] at a0
    rw [hY] at b0
    by_cases he : x = y
    ·have HS := Lib.hid (take_nextG HT.out hpx (he ▸ hpy))
     obtain rfl : X = Y := str_eq (by rw [hXl, hYl]; exact he)
     clear hpx hpy hX hY hXl hYl he
     go_wp2
     go_quiet (fail)
     go_wp2
     go_roundw
     case rel => exact ⟨trivial, k + 1, m + nq, by omega, HS.out, rfl, by go_num⟩
     case measure => simp [intOf]; omega
    ·have HD := Lib.hid (take_notG he hpx hpy)
     have hn0 : X.data.toList ≠ Y.data.toList := by rw [hXl, hYl]; exact he
     have hne := str_ne hn0; have hne2 := str_ne (Ne.symm hn0); clear hn0
     clear hpx hpy hX hY hXl hYl he
     go_wp2
     go_quiet (fail)
     go_wp2
     go_ret
     exact ⟨ret_bool HD.out.symm, m + nq, World.drewN_drewN _ _ _⟩
   ·have HD := Lib.hid (HR.out k HT.out hkn)
    go_wp2
    go_ret
    exact ⟨ret_bool HD.out.symm, m, rfl⟩
 ·have hr : decide (xs = ys) = false := decide_eq_false (fun e => hlen (by rw [e]))
  have hl' : ((xs.length : Int) == (ys.length : Int)) = false := beq_eq_false_iff_ne.2 (by omega)
  have hl'' : ((xs.length : Int) != (ys.length : Int)) = true := bne_iff_ne.2 (by omega)
  rw [hr]; clear hr hlen
  go_enter Tryz.func58, Tryz.ntmps58
  go_wp2
  go_ret
  exact ⟨rfl, 0, rfl⟩
set_option maxRecDepth 100000 in
set_option maxHeartbeats 2000000 in
theorem equal_cell (va vb : Value) (xs ys : List (CM)) (w : World) (ha : RdC w va xs) (hb : RdC w vb ys) (hx : xs.length ≤ 9223372036854775807) :
  Calls Tryz.prog 103 #[va, vb] w fun e w' => e = .returned (.bool (decide (xs = ys))) ∧ ∃ n, w' = w.drewN n := by
 obtain ⟨A, c, rfl⟩ := RdC.form ha
 obtain ⟨B, d, rfl⟩ := RdC.form hb
 have HA := Lib.hid ha; have HB := Lib.hid hb; clear ha hb
 by_cases hlen : xs.length = ys.length
 ·obtain ⟨n, hxl⟩ : ∃ n, xs.length = n := ⟨_, rfl⟩
  have hyl : ys.length = n := by omega
  rw [hxl] at hx
  have HXL := Lib.hid hxl; have HYL := Lib.hid hyl
  rw [hxl] at HA
  rw [hyl] at HB
  rw [hxl, hyl]
  clear hlen hxl hyl
  have hr : ∀ k, xs.take k = ys.take k → ¬ k < n → decide (xs = ys) = true := by
   intro k h hk
   rw [List.take_of_length_le (by rw [HXL.out]; omega), List.take_of_length_le (by rw [HYL.out]; omega)] at h
   exact decide_eq_true h
  have HR := Lib.hid hr; clear hr
  go_enter Tryz.func103, Tryz.ntmps103
  go_wp2
  go_loopw [5, 13] (fun x i wr => x = x ∧ ∃ k m : Nat, k ≤ n ∧ Hid (xs.take k = ys.take k) ∧ wr = w.drewN m ∧ i = .int .i64 k) (fun _ i _ => n - (intOf i).toNat)
  case atStart => exact ⟨rfl, 0, 0, by omega, rfl, rfl, rfl⟩
  case round =>
   obtain ⟨_, k, m, hk, HT, rfl, rfl⟩ := hrel
   by_cases hkn : k < n
   ·have hkx : k < xs.length := by rw [HXL.out]; exact hkn
    have hky : k < ys.length := by rw [HYL.out]; exact hkn
    obtain ⟨bA, oA, rfl, a0, a1, a2⟩ := RdC.at_ HA.out hkx
    obtain ⟨bB, oB, rfl, b0, b1, b2⟩ := RdC.at_ HB.out hky
    have hpx := List.getElem?_eq_getElem hkx
    have hpy := List.getElem?_eq_getElem hky
    generalize xs[k] = x at *
    generalize ys[k] = y at *
    obtain ⟨X, hX, hXl⟩ := bstr_some (x.nm)
    obtain ⟨Y, hY, hYl⟩ := bstr_some (y.nm)
    rw [hX] at a2
    rw [hY] at b2
    have hq := neq_cell x y
    rw [hX, hY] at hq
    by_cases he : x = y
    ·have HS := Lib.hid (take_nextG HT.out hpx (he ▸ hpy))
     rw [decide_eq_true he, Bool.not_true] at hq
     clear hpx hpy hX hY hXl hYl he
     go_wp2
     go_quiet (fail)
     go_wp2
     go_roundw
     case rel => exact ⟨trivial, k + 1, m + nq, by omega, HS.out, rfl, by go_num⟩
     case measure => simp [intOf]; omega
    ·have HD := Lib.hid (take_notG he hpx hpy)
     rw [decide_eq_false he, Bool.not_false] at hq
     clear hpx hpy hX hY hXl hYl he
     go_wp2
     go_quiet (fail)
     go_wp2
     go_ret
     exact ⟨ret_bool HD.out.symm, m + nq, World.drewN_drewN _ _ _⟩
   ·have HD := Lib.hid (HR.out k HT.out hkn)
    go_wp2
    go_ret
    exact ⟨ret_bool HD.out.symm, m, rfl⟩
 ·have hr : decide (xs = ys) = false := decide_eq_false (fun e => hlen (by rw [e]))
  have hl' : ((xs.length : Int) == (ys.length : Int)) = false := beq_eq_false_iff_ne.2 (by omega)
  have hl'' : ((xs.length : Int) != (ys.length : Int)) = true := bne_iff_ne.2 (by omega)
  rw [hr]; clear hr hlen
  go_enter Tryz.func103, Tryz.ntmps103
  go_wp2
  go_ret
  exact ⟨rfl, 0, rfl⟩
set_option maxRecDepth 100000 in
set_option maxHeartbeats 2000000 in
theorem equal_var (va vb : Value) (xs ys : List (VM)) (w : World) (ha : Inn w 7 va xs.length (flatV xs)) (hb : Inn w 7 vb ys.length (flatV ys)) (hx : xs.length ≤ 9223372036854775807) :
  Calls Tryz.prog 59 #[va, vb] w fun e w' => e = .returned (.bool (decide (xs = ys))) ∧ ∃ n, w' = w.drewN n := by
 obtain ⟨A, c, rfl⟩ := Inn.form ha
 obtain ⟨B, d, rfl⟩ := Inn.form hb
 have HA := Lib.hid ha; have HB := Lib.hid hb; clear ha hb
 by_cases hlen : xs.length = ys.length
 ·obtain ⟨n, hxl⟩ : ∃ n, xs.length = n := ⟨_, rfl⟩
  have hyl : ys.length = n := by omega
  rw [hxl] at hx
  have HXL := Lib.hid hxl; have HYL := Lib.hid hyl
  rw [hxl] at HA
  rw [hyl] at HB
  rw [hxl, hyl]
  clear hlen hxl hyl
  have hr : ∀ k, xs.take k = ys.take k → ¬ k < n → decide (xs = ys) = true := by
   intro k h hk
   rw [List.take_of_length_le (by rw [HXL.out]; omega), List.take_of_length_le (by rw [HYL.out]; omega)] at h
   exact decide_eq_true h
  have HR := Lib.hid hr; clear hr
  go_enter Tryz.func59, Tryz.ntmps59
  go_wp2
  go_loopw [5, 13] (fun x i wr => x = x ∧ ∃ k m : Nat, k ≤ n ∧ Hid (xs.take k = ys.take k) ∧ wr = w.drewN m ∧ i = .int .i64 k) (fun _ i _ => n - (intOf i).toNat)
  case atStart => exact ⟨rfl, 0, 0, by omega, rfl, rfl, rfl⟩
  case round =>
   obtain ⟨_, k, m, hk, HT, rfl, rfl⟩ := hrel
   by_cases hkn : k < n
   ·have hkx : k < xs.length := by rw [HXL.out]; exact hkn
    have hky : k < ys.length := by rw [HYL.out]; exact hkn
    obtain ⟨bA, oA, rfl, _, ha⟩ := Inn.at_ HA.out hkn
    obtain ⟨bB, oB, rfl, _, hb⟩ := Inn.at_ HB.out hkn
    have a0 : w.cell? ⟨bA, oA + k * 7, none⟩ = some (bstr xs[k].nm) := ha 0 _ ((flatM_at vaV 7 (fun _ => rfl) hkx (by omega)).trans rfl)
    have a1 : w.cell? ⟨bA, oA + k * 7 + 1, none⟩ = some (.int .i64 xs[k].kd) := ha 1 _ ((flatM_at vaV 7 (fun _ => rfl) hkx (by omega)).trans rfl)
    have a2 : w.cell? ⟨bA, oA + k * 7 + 2, none⟩ = some (.int .i64 xs[k].lo) := ha 2 _ ((flatM_at vaV 7 (fun _ => rfl) hkx (by omega)).trans rfl)
    have a3 : w.cell? ⟨bA, oA + k * 7 + 3, none⟩ = some (.int .i64 xs[k].hi) := ha 3 _ ((flatM_at vaV 7 (fun _ => rfl) hkx (by omega)).trans rfl)
    have a4 : w.cell? ⟨bA, oA + k * 7 + 4, none⟩ = some (.int .i64 xs[k].ik) := ha 4 _ ((flatM_at vaV 7 (fun _ => rfl) hkx (by omega)).trans rfl)
    have a5 : w.cell? ⟨bA, oA + k * 7 + 5, none⟩ = some (.int .i64 xs[k].ia) := ha 5 _ ((flatM_at vaV 7 (fun _ => rfl) hkx (by omega)).trans rfl)
    have a6 : w.cell? ⟨bA, oA + k * 7 + 6, none⟩ = some (.int .i64 xs[k].ib) := ha 6 _ ((flatM_at vaV 7 (fun _ => rfl) hkx (by omega)).trans rfl)
    have b0 : w.cell? ⟨bB, oB + k * 7, none⟩ = some (bstr ys[k].nm) := hb 0 _ ((flatM_at vaV 7 (fun _ => rfl) hky (by omega)).trans rfl)
    have b1 : w.cell? ⟨bB, oB + k * 7 + 1, none⟩ = some (.int .i64 ys[k].kd) := hb 1 _ ((flatM_at vaV 7 (fun _ => rfl) hky (by omega)).trans rfl)
    have b2 : w.cell? ⟨bB, oB + k * 7 + 2, none⟩ = some (.int .i64 ys[k].lo) := hb 2 _ ((flatM_at vaV 7 (fun _ => rfl) hky (by omega)).trans rfl)
    have b3 : w.cell? ⟨bB, oB + k * 7 + 3, none⟩ = some (.int .i64 ys[k].hi) := hb 3 _ ((flatM_at vaV 7 (fun _ => rfl) hky (by omega)).trans rfl)
    have b4 : w.cell? ⟨bB, oB + k * 7 + 4, none⟩ = some (.int .i64 ys[k].ik) := hb 4 _ ((flatM_at vaV 7 (fun _ => rfl) hky (by omega)).trans rfl)
    have b5 : w.cell? ⟨bB, oB + k * 7 + 5, none⟩ = some (.int .i64 ys[k].ia) := hb 5 _ ((flatM_at vaV 7 (fun _ => rfl) hky (by omega)).trans rfl)
    have b6 : w.cell? ⟨bB, oB + k * 7 + 6, none⟩ = some (.int .i64 ys[k].ib) := hb 6 _ ((flatM_at vaV 7 (fun _ => rfl) hky (by omega)).trans rfl)
    have hpx := List.getElem?_eq_getElem hkx
    have hpy := List.getElem?_eq_getElem hky
    clear ha hb
    generalize xs[k] = x at *
    generalize ys[k] = y at *
    obtain ⟨X, hX, hXl⟩ := bstr_some (x.nm)
    obtain ⟨Y, hY, hYl⟩ := bstr_some (y.nm)
    rw [hX] at a0
    rw [hY] at b0
    have hq := neq_var x y
    rw [hX, hY] at hq
    by_cases he : x = y
    ·have HS := Lib.hid (take_nextG HT.out hpx (he ▸ hpy))
     rw [decide_eq_true he, Bool.not_true] at hq
     clear hpx hpy hX hY hXl hYl he
     go_wp2
     go_quiet (fail)
     go_wp2
     go_roundw
     case rel => exact ⟨trivial, k + 1, m + nq, by omega, HS.out, rfl, by go_num⟩
     case measure => simp [intOf]; omega
    ·have HD := Lib.hid (take_notG he hpx hpy)
     rw [decide_eq_false he, Bool.not_false] at hq
     clear hpx hpy hX hY hXl hYl he
     go_wp2
     go_quiet (fail)
     go_wp2
     go_ret
     exact ⟨ret_bool HD.out.symm, m + nq, World.drewN_drewN _ _ _⟩
   ·have HD := Lib.hid (HR.out k HT.out hkn)
    go_wp2
    go_ret
    exact ⟨ret_bool HD.out.symm, m, rfl⟩
 ·have hr : decide (xs = ys) = false := decide_eq_false (fun e => hlen (by rw [e]))
  have hl' : ((xs.length : Int) == (ys.length : Int)) = false := beq_eq_false_iff_ne.2 (by omega)
  have hl'' : ((xs.length : Int) != (ys.length : Int)) = true := bne_iff_ne.2 (by omega)
  rw [hr]; clear hr hlen
  go_enter Tryz.func59, Tryz.ntmps59
  go_wp2
  go_ret
  exact ⟨rfl, 0, rfl⟩
end Go.Proofs.YtdelihhbmagphaaGreatDoor.Ch
