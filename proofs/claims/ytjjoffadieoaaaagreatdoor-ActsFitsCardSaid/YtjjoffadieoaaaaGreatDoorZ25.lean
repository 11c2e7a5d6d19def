/- Own texts, joined: A8, A9, A10. -/
import Derived.Test.YtjjoffadieoaaaaGreatDoorZ24
import Derived.Laws.StructEq
import Derived.Deep.QuietTactic
import Derived.BigQuiet
import Derived.Deep.Draws
namespace Go.Proofs.YtjjoffadieoaaaaGreatDoor
open Go.RowKit

theorem semis_le : ∀ (s : List UInt8), ∀ p ∈ semis s, p.length ≤ s.length
  | [], p, h => by simp [semis] at h; subst h; simp
  | c :: r, p, h => by
    have ih := semis_le r
    unfold semis at h
    split at h
    · rcases List.mem_cons.1 h with rfl | h
      · simp
      · have := ih p h; simp; omega
    · split at h
      · rename_i he; exact absurd he (semis_ne r)
      · rename_i q qs he
        rcases List.mem_cons.1 h with rfl | h
        · have := ih q (by rw [he]; simp); simp; omega
        · have := ih p (by rw [he]; simp [h]); simp; omega

/-- what Parse comes to -/
def ParsedPost (l : List AM) (er : Int) (w : World) (e : Ending) (w' : World) : Prop :=
  ∃ v ps, e = .returned (.tuple #[v, .int .i64 er]) ∧ ps.map Prod.fst = l ∧ w'.ownsRow w.heap.size 59 3 v ps.length (flatA ps) ∧ (∀ p ∈ ps, ActR w' p) ∧ Below w.heap.size w w'
theorem ParsedPost.no {er : Int} {w w' : World} (hb : Below w.heap.size w w') : ParsedPost [] er w (.returned (.tuple #[.slice none 0 0, .int .i64 er])) w' :=
  ⟨_, [], rfl, rfl, World.ownsRow_nil _ _ _ _, (fun p hp => by cases hp), hb⟩
/-- where the loop stands -/
structure PaI (l : List (List UInt8)) (w wr : World) (k : Nat) (lv : Value) (ps : List AP) : Prop where
  le : k ≤ l.length
  eq : ps.map Prod.fst = (l.take k).map readA
  one : ((l.take k).map readA).all oneB = true
  row : wr.ownsRow w.heap.size 59 3 lv ps.length (flatA ps)
  act : ∀ p ∈ ps, ActO w.heap.size wr p
  far : ∀ p ∈ ps, ∀ g, lv.ownBlock = some g → p.2.ownBlock ≠ some g
  below : Below w.heap.size w wr
theorem ActO.below {B : Nat} {w w' : World} {p : AP} (h : ActO B w p) (hb : Below w.heap.size w w') : ActO B w' p := ⟨own_below h.own hb, h.len, h.names, h.name⟩
theorem PaI.moved {l : List (List UInt8)} {w wr w' : World} {k : Nat} {lv : Value} {ps : List AP} (h : PaI l w wr k lv ps) (hb : Below wr.heap.size wr w') : PaI l w w' k lv ps :=
  ⟨h.le, h.eq, h.one, own_below h.row hb, fun p hp => (h.act p hp).below hb, h.far, h.below.trans (hb.mono h.below.size)⟩
theorem PaI.len {l : List (List UInt8)} {w wr : World} {k : Nat} {lv : Value} {ps : List AP} (h : PaI l w wr k lv ps) : ps.length = k := by
  have := congrArg List.length h.eq
  rw [List.length_map, List.length_map, List.length_take] at this
  have := h.le
  omega
theorem PaI.push {l : List (List UInt8)} {w wr w' : World} {k : Nat} {lv lv' v : Value} {ps : List AP} (h : PaI l w wr k lv ps) (hk : k < l.length) (ho : oneB (readA l[k]) = true) (hA : ActO wr.heap.size wr (readA l[k], v) ∨ ActO w.heap.size wr (readA l[k], v) ∧ ∀ g, lv.ownBlock = some g → v.ownBlock ≠ some g)
    (hr : w'.ownsRow w.heap.size 59 3 lv' (ps.length + 1) (flatA ps ++ actV (readA l[k], v))) (hg : wr.grownBy w' lv.ownBlock)
    (hob : (lv'.ownBlock = lv.ownBlock ∧ ∀ g, lv'.ownBlock = some g → g < w'.heap.size) ∨ ∀ g, lv'.ownBlock = some g → wr.heap.size ≤ g ∧ g < w'.heap.size) : PaI l w w' (k + 1) lv' (ps ++ [(readA l[k], v)]) := by
  have hs := h.below.size
  have hA1 : ActO w.heap.size wr (readA l[k], v) := by
    rcases hA with hA | ⟨hA, _⟩
    · exact ⟨own_lower hA.own hs, hA.len, hA.names, hA.name⟩
    · exact hA
  have hA2 : ∀ g, lv.ownBlock = some g → v.ownBlock ≠ some g := by
    rcases hA with hA | ⟨_, hA⟩
    · intro g h1 h2
      have := (hA.own.lt g h2).1
      have := (h.row.lt g h1).2
      omega
    · exact hA
  have hall : ∀ p ∈ ps ++ [(readA l[k], v)], ActO w.heap.size wr p ∧ ∀ g, lv.ownBlock = some g → p.2.ownBlock ≠ some g := by
    intro p hp
    rcases List.mem_append.1 hp with hp | hp
    · exact ⟨h.act p hp, h.far p hp⟩
    · simp at hp; subst hp; exact ⟨hA1, hA2⟩
  have ht : l.take (k + 1) = l.take k ++ [l[k]] := List.take_succ_eq_append_getElem hk
  refine ⟨hk, ?_, ?_, ?_, fun p hp => ?_, fun p hp => ?_, h.below.grown hg hs (fun g hg' => (h.row.lt g hg').1)⟩
  · rw [ht, List.map_append, List.map_append, h.eq]; rfl
  · rw [ht, List.map_append, List.all_append, h.one]; simp [ho]
  · rw [flatA_append, List.length_append]
    simpa [flatA] using hr
  · obtain ⟨h1, h2⟩ := hall p hp
    exact ⟨own_grown h1.own hg h2, h1.len, h1.names, h1.name⟩
  · obtain ⟨h1, h2⟩ := hall p hp
    exact ne_symm (new_ne h1.own (ne_symm h2) hob)
theorem all_wrong {l : List (List UInt8)} {k : Nat} (hk : k < l.length) (h : oneB (readA l[k]) = false) : (l.map readA).all oneB = false := by
  rw [List.all_eq_false]
  exact ⟨readA l[k], List.mem_map.2 ⟨_, List.getElem_mem hk, rfl⟩, by simp [h]⟩
theorem infoAct : (Tryz.prog.info? 59).map (fun i => (i.zero, i.size, i.bytes)) = some (some (.agg #[.int .i64 0, .string ByteArray.empty, .slice none 0 0]), 3, 48) := by kernel_rfl

set_option maxRecDepth 100000 in
set_option maxHeartbeats 8000000 in
theorem parseA_any (s : ByteArray) (w : World) (hO : Ops w) (hM : ML w) (hs : s.size ≤ 9223372036854775807) :
    Calls Tryz.prog 15 #[.string s] w (ParsedPost (parseA s.data.toList).1 (parseA s.data.toList).2 w) := by
  have hsl : s.data.toList.length = s.size := (Lib.size_eq s).symm
  by_cases h6 : 6000 < s.size
  · have hp : parseA s.data.toList = ([], 4) := if_pos (Or.inl (by omega))
    have h6' : (6000 : Int) < s.size := by omega
    rw [hp]; clear hp hsl
    go_enter Tryz.func15, Tryz.ntmps15
    go_wp2
    go_ret2
    exact ParsedPost.no (Below.refl _ _)
  have h6' : ¬ (6000 : Int) < s.size := by omega
  have HCN := Lib.hid (Tryz.strings_Count_one s 59 w)
  by_cases h8 : 8 ≤ Lib.countByte s.data.toList 59
  · have hp : parseA s.data.toList = ([], 4) := if_pos (Or.inr h8)
    have h8' : (8 : Int) ≤ (Lib.countByte s.data.toList 59 : Nat) := by omega
    rw [hp]; clear hp hsl hO hM
    generalize Lib.countByte s.data.toList 59 = c at *
    go_enter Tryz.func15, Tryz.ntmps15
    go_wp2_with fail
    refine HCN.out.mono ?_
    rintro e w1 ⟨rfl, rfl⟩
    go_wp2
    go_ret2
    exact ParsedPost.no (Below.refl _ _)
  have h8' : ¬ (8 : Int) ≤ (Lib.countByte s.data.toList 59 : Nat) := by omega
  have hpc : (semis s.data.toList).length = Lib.countByte s.data.toList 59 + 1 := semis_len s.data.toList
  have hpa : parseA s.data.toList = if ((semis s.data.toList).map readA).all oneB = true then ((semis s.data.toList).map readA, 0) else ([], 1) := if_neg (by omega)
  obtain ⟨m, hm⟩ := hM
  have hspl := Tryz.strings_Split s ⟨#[59]⟩ m w (by omega) hm (by decide)
  have hsi := split_is s
  have hcb : Lib.countB s ⟨#[59]⟩ = Lib.countByte s.data.toList 59 := Lib.count_one 59 s.data.toList
  rw [hcb] at hspl hsi
  generalize hts : Lib.splitB ⟨#[59]⟩ 0 (Lib.countByte s.data.toList 59) s = ts at *
  have hle := semis_le s.data.toList
  generalize semis s.data.toList = l at *
  have htl : ts.length = l.length := by rw [← hsi, List.length_map]
  obtain ⟨n, hn⟩ : ∃ n, l.length = n := ⟨_, rfl⟩
  have hn8 : n ≤ 8 := by omega
  rw [show Lib.countByte s.data.toList 59 + 1 = n by omega] at hspl
  have HSP := Lib.hid hspl
  have HB0 : Hid (Below w.heap.size w (w.alloc (.cells (ts.map Value.string).toArray 9))) := (Below.refl _ _).alloc (Nat.le_refl _) _
  have hat : ∀ (k : Nat), k < n → ∃ X : ByteArray, (∃ h : k < l.length, X.data.toList = l[k]) ∧ X.size ≤ 6000 ∧ (w.alloc (.cells (ts.map Value.string).toArray 9)).cell? ⟨w.heap.size, k, none⟩ = some (.string X) := by
    intro k hk
    have hkt : k < ts.length := by omega
    have hkl : k < l.length := by omega
    refine ⟨ts[k], ⟨hkl, ?_⟩, ?_, ?_⟩
    · have : (ts.map (·.data.toList))[k]'(by simpa using hkt) = l[k] := by simp only [hsi]
      rw [← this, List.getElem_map]
    · have h1 := hle l[k] (List.getElem_mem hkl)
      have : (ts.map (·.data.toList))[k]'(by simpa using hkt) = l[k] := by simp only [hsi]
      rw [List.getElem_map] at this
      rw [Lib.size_eq, this]; omega
    · have := cell_of_row (w.alloc (.cells (ts.map Value.string).toArray 9)) w.heap.size k _ _ _ (heap_alloc_new w _)
      rw [this]; simp [hkt]
  have HAT := Lib.hid hat
  have HN := Lib.hid hn
  have HPA := Lib.hid hpa
  have HI0 : Hid (PaI l (w.alloc (.cells (ts.map Value.string).toArray 9)) (w.alloc (.cells (ts.map Value.string).toArray 9)) 0 (.slice none 0 0) []) := ⟨Nat.zero_le _, rfl, rfl, World.ownsRow_nil _ _ _ _, (fun p hp => by cases hp), (fun p hp => by cases hp), Below.refl _ _⟩
  have hlt0 : Hid (w.heap.size < (w.alloc (.cells (ts.map Value.string).toArray 9)).heap.size) := by show _ < _; simp
  have HRA : Hid (∀ (X : ByteArray) (W : World), X.size ≤ 6000 → Below w.heap.size w W → Calls Tryz.prog 32 #[.string X] W (ReadPost (readA X.data.toList) W)) := fun X W hX hb => aread_any X W hX (hO.below hb) (ML.below ⟨m, hm⟩ hb)
  obtain ⟨ia, hi0, hi1, hi2, hi3⟩ := info_of infoAct
  have HX0 := Lib.hid hi0; have HX1 := Lib.hid hi1; have HX2 := Lib.hid hi2; have HX3 := Lib.hid hi3
  generalize hw0 : w.alloc (.cells (ts.map Value.string).toArray 9) = w0 at *
  have HSP' : Hid (Calls Tryz.prog 31 #[.string s, .string ⟨#[59]⟩] w fun e w' => e = .returned (.slice (some ⟨w.heap.size, 0, none⟩) n n) ∧ w' = w0) := HSP.out
  clear HSP hspl hsi hcb hts hle htl hat hpa hpc hm hn hO hsl hi0 hi1 hi2 hi3 hw0
  generalize Lib.countByte s.data.toList 59 = cb at *
  go_enter Tryz.func15, Tryz.ntmps15
  go_wp2_with fail
  refine HCN.out.mono ?_
  rintro e w1 ⟨rfl, hw1⟩
  obtain rfl := hw1.symm
  go_wp2_with fail
  refine HSP'.out.mono ?_
  rintro e w1 ⟨rfl, hw1⟩
  obtain rfl := hw1.symm
  go_wp2
  go_loopw [2, 3, 4, 19] (fun x2 x3 x4 x19 wr => x2 = .slice none 0 0 ∧ x3 = .int .i64 0 ∧ ∃ (k : Nat) (ps : List AP) (lv : Value), PaI l w0 wr k lv ps ∧ x4 = lv ∧ x19 = .int .i64 (k : Int)) (fun _ _ _ i _ => n - (intOf i).toNat)
  case atStart => exact ⟨rfl, rfl, 0, [], _, HI0.out, rfl, rfl⟩
  case round =>
    obtain ⟨rfl, rfl, k, ps, lv, hI, hx4, rfl⟩ := hrel
    replace hx4 := hx4.symm
    subst hx4
    obtain ⟨wl, hwl⟩ : ∃ W, W = wr := ⟨_, rfl⟩
    subst hwl
    have hk := hI.le
    rw [HN.out] at hk
    have hpl : ps.length ≤ 8 := by have := hI.len; omega
    have HI := Lib.hid hI
    have HBW := Lib.hid (HB0.out.trans (hI.below.mono HB0.out.size))
    by_cases hkn : k < n
    · obtain ⟨X, ⟨hkl, hXl⟩, hXs, hXc⟩ := HAT.out k hkn
      have hc := (hI.below.cell hlt0.out).trans hXc
      have HR := Lib.hid (HRA.out X wl hXs HBW.out)
      rw [hXl] at HR
      clear hI hXc hXl
      go_wp2_with fail
      refine HR.out.mono ?_
      rintro e w2 ⟨v, rfl, hA, hb2⟩
      obtain ⟨N, hN, hNl⟩ := bstr_some (readA l[k]).nm
      rw [hN]
      have hI2 := HI.out.moved hb2
      have hAw := aWrong_any (readA l[k]).kd N v (readA l[k]).ex
      have he : (⟨(readA l[k]).kd, N.data.toList, (readA l[k]).ex⟩ : AM) = readA l[k] := by rw [hNl]
      rw [he] at hAw
      have hAL := hA.len
      have hAR := hA.rd.rd
      have hown := hA.own
      simp only at hown
      obtain ⟨Av, cv, rfl⟩ := own_slice hown
      clear hown
      have hfl : [Value.int .i64 (readA l[k]).kd, .string N, .slice Av (readA l[k]).ex.length cv] = actV (readA l[k], .slice Av (readA l[k]).ex.length cv) := by unfold actV; simp only; rw [hN]
      have HFL := Lib.hid hfl
      have hpush := fun w3 w4 lv' (hb3 : Below w2.heap.size w2 w3) => (hI2.moved hb3).push (w' := w4) (lv' := lv') (v := .slice Av (readA l[k]).ex.length cv) hkl
      have hA3 := fun w3 (hb3 : Below w2.heap.size w2 w3) => (ActO.below hA hb3)
      have hfar : ∀ g, Value.ownBlock lv = some g → Value.ownBlock (.slice Av (readA l[k]).ex.length cv) ≠ some g := fun g h1 h2 => by
        have := (hA.own.lt g h2).1
        have := (HI.out.row.lt g h1).2
        omega
      have hwr := fun (h : oneB (readA l[k]) = false) => all_wrong hkl h
      have HPU : Hid (∀ w3 w4 lv', Below w2.heap.size w2 w3 → oneB (readA l[k]) = true → w4.ownsRow w0.heap.size 59 3 lv' (ps.length + 1) (flatA ps ++ actV (readA l[k], .slice Av (readA l[k]).ex.length cv)) → w3.grownBy w4 lv.ownBlock → ((lv'.ownBlock = lv.ownBlock ∧ ∀ g, lv'.ownBlock = some g → g < w4.heap.size) ∨ ∀ g, lv'.ownBlock = some g → w3.heap.size ≤ g ∧ g < w4.heap.size) → PaI l w0 w4 (k + 1) lv' (ps ++ [(readA l[k], .slice Av (readA l[k]).ex.length cv)])) := fun w3 w4 lv' hb3 h1 h2 h3 h4 => hpush w3 w4 lv' hb3 h1 (Or.inr ⟨⟨own_lower (hA3 w3 hb3).own (by have := HI.out.below.size; omega), hA.len, hA.names, hA.name⟩, hfar⟩) h2 h3 h4
      have HI2 := Lib.hid hI2
      have HWR := Lib.hid hwr
      clear hb2 hA hI2 hN hNl he hpush hA3 hfar hfl hwr
      generalize readA l[k] = a at *
      obtain ⟨ak, an, ae⟩ := a
      simp only at hAw hAL hAR
      have HB3 : Hid (Below w2.heap.size w2 (w2.alloc (.cells #[.int .i64 ak, .string N, .slice Av ae.length cv] 59))) := (Below.refl _ _).alloc (Nat.le_refl _) _
      have HAW := Lib.hid (hAw (w2.alloc (.cells #[.int .i64 ak, .string N, .slice Av ae.length cv] 59)) (hAR.below HB3.out) hAL)
      clear hAw hAR
      cases hone : oneB ⟨ak, an, ae⟩ with
      | false =>
        have hp := HPA.out
        rw [HWR.out hone, if_neg (by decide)] at hp
        have HP := Lib.hid hp
        rw [hone] at HAW
        clear hone hp
        go_wp2_with fail
        refine HAW.out.mono ?_
        rintro e w4 ⟨rfl, hb4⟩
        have HB4 := Lib.hid (HB0.out.trans ((HI2.out.below.trans ((HB3.out.trans (hb4.mono HB3.out.size)).mono HI2.out.below.size)).mono HB0.out.size))
        clear hb4
        go_wp2
        go_ret2
        rw [HP.out]
        exact ParsedPost.no HB4.out
      | true =>
        rw [hone] at HAW
        have HON := Lib.hid hone
        clear hone
        go_wp2_with fail
        refine HAW.out.mono ?_
        rintro e w4 ⟨rfl, hb4⟩
        have HB4 : Hid (Below w2.heap.size w2 w4) := HB3.out.trans (hb4.mono HB3.out.size)
        have c0 : w4.cell? ⟨w2.heap.size, 0, none⟩ = some (.int .i64 ak) := (hb4.cell (by simp)).trans (by simp)
        have c1 : w4.cell? ⟨w2.heap.size, 1, none⟩ = some (.string N) := (hb4.cell (by simp)).trans (by simp)
        have c2 : w4.cell? ⟨w2.heap.size, 2, none⟩ = some (.slice Av ae.length cv) := (hb4.cell (by simp)).trans (by simp)
        have HB5 : Hid (Below w2.heap.size w2 (w4.alloc (.cells #[.int .i64 ak, .string N, .slice Av ae.length cv] 59))) := HB4.out.alloc HB4.out.size _
        have HI5 := Lib.hid (HI2.out.moved HB5.out)
        have HIN : Hid (Inn (w4.alloc (.cells #[.int .i64 ak, .string N, .slice Av ae.length cv] 59)) 3 (.slice (some ⟨w4.heap.size, 0, none⟩) 1 1) 1 [.int .i64 ak, .string N, .slice Av ae.length cv]) := Inn.of_own (Oz.own_laid (B := 0) (size := 3) w4 #[.int .i64 ak, .string N, .slice Av ae.length cv] (Nat.zero_le _) (by decide) rfl)
        clear hb4
        go_wp2_with (at_builtin; refine Ow.wpList_append rfl (.tmp 27) (.tmp 29) 22 rfl w0.heap.size 59 ia _ 3 48 Tryz.underlying22 HX0.out HX1.out HX2.out HX3.out rfl (by decide) _ ps.length (flatA ps) rfl HI5.out.row _ 1 [.int .i64 ak, .string N, .slice Av ae.length cv] rfl HIN.out (by intro u hu; simp only [List.mem_cons, List.not_mem_nil, or_false] at hu; rcases hu with rfl | rfl | rfl <;> rfl) (by unfold maxLen; omega) (by omega) HI5.out.below.size ?_)
        intro lv' w5 ho5 hg5 hob5
        have HI6 := Lib.hid (HPU.out _ w5 lv' HB5.out HON.out (by rw [← HFL.out]; exact ho5) hg5 (by simpa using hob5))
        clear ho5 hg5 hob5
        go_wp2
        go_roundw
        case rel => exact ⟨rfl, rfl, k + 1, _, _, HI6.out, rfl, by go_num⟩
        case measure => simp [intOf]; omega
    · obtain rfl : k = n := by omega
      have hp := HPA.out
      have h1 := hI.one
      have h2 := hI.eq
      rw [← HN.out, List.take_length] at h1 h2
      rw [h1, if_pos rfl] at hp
      have HP := Lib.hid hp
      have H2 := Lib.hid h2
      clear hI h1 h2 hp
      go_wp2
      go_ret2
      rw [HP.out]
      exact ⟨_, ps, rfl, H2.out, own_lower HI.out.row HB0.out.size, fun p hp => (HI.out.act p hp).rd, HBW.out⟩
end Go.Proofs.YtjjoffadieoaaaaGreatDoor
namespace Go.Proofs.YtjjoffadieoaaaaGreatDoor
open Go.RowKit

instance : DecidableEq VA := fun x y => decidable_of_iff (x.kd = y.kd ∧ x.a = y.a ∧ x.b = y.b) (by cases x; cases y; simp)
theorem str_rowW {w : World} {v : Value} {xs : List (List UInt8)} (h : RdW w v xs) {A : Option Addr} {m c : Nat} (hv : v = .slice A m c) {k : Nat} (hk : k < xs.length) : ∃ b o, A = some ⟨b, o, none⟩ ∧ w.cell? ⟨b, o + k, none⟩ = some (bstr xs[k]) := by
  subst hv
  obtain ⟨b, o, hA, _, hc⟩ := Inn.at_ h hk
  refine ⟨b, o, hA, ?_⟩
  have := hc 0 (bstr xs[k]) (by simp [hk])
  simpa using this

set_option maxRecDepth 100000 in
set_option maxHeartbeats 4000000 in
theorem same2_any (va vb : Value) (xs ys : List (List UInt8)) (w : World) (ha : RdW w va xs) (hb : RdW w vb ys) (hx : xs.length ≤ 140737488355328) :
    Calls Tryz.prog 22 #[va, vb] w fun e w' => e = .returned (.bool (decide (xs = ys))) ∧ ∃ n, w' = w.drewN n := by
  obtain ⟨A, c, rfl⟩ := Inn.form ha
  obtain ⟨B, d, rfl⟩ := Inn.form hb
  have HA := Lib.hid ha; have HB := Lib.hid hb; clear ha hb
  by_cases hlen : xs.length = ys.length
  · obtain ⟨n, hxl⟩ : ∃ n, xs.length = n := ⟨_, rfl⟩
    have hyl : ys.length = n := by omega
    rw [hxl] at hx
    have HXL := Lib.hid hxl; have HYL := Lib.hid hyl
    rw [hxl] at HA
    rw [hyl] at HB
    rw [hxl, hyl]
    clear hlen hxl hyl
    have hr : ∀ k, xs.take k = ys.take k → ¬ k < n → (decide (xs = ys)) = true := by
      intro k h hk
      rw [List.take_of_length_le (by rw [HXL.out]; omega), List.take_of_length_le (by rw [HYL.out]; omega)] at h
      exact decide_eq_true h
    have HR := Lib.hid hr; clear hr
    go_enter Tryz.func22, Tryz.ntmps22
    go_wp2
    go_loopw [4, 5] (fun x i wr => x = .bool false ∧ ∃ k m : Nat, k ≤ n ∧ xs.take k = ys.take k ∧ wr = w.drewN m ∧ i = .int .i64 k) (fun _ i _ => n - (intOf i).toNat)
    case atStart => exact ⟨rfl, 0, 0, by omega, rfl, rfl, rfl⟩
    case round =>
      obtain ⟨rfl, k, m, hk, ht, rfl, rfl⟩ := hrel
      have HT := Lib.hid ht; clear ht
      by_cases hkn : k < n
      · obtain ⟨bA, oA, rfl, ca⟩ := str_rowW HA.out rfl (k := k) (by rw [HXL.out]; exact hkn)
        obtain ⟨bB, oB, rfl, cb⟩ := str_rowW HB.out rfl (k := k) (by rw [HYL.out]; exact hkn)
        obtain ⟨X, hX, hXl⟩ := bstr_some (xs[k]'(by rw [HXL.out]; exact hkn))
        obtain ⟨Y, hY, hYl⟩ := bstr_some (ys[k]'(by rw [HYL.out]; exact hkn))
        rw [hX] at ca
        rw [hY] at cb
        by_cases he : xs[k]'(by rw [HXL.out]; exact hkn) = ys[k]'(by rw [HYL.out]; exact hkn)
        · have hs : xs.take (k + 1) = ys.take (k + 1) := by
            rw [List.take_succ_eq_append_getElem (by rw [HXL.out]; exact hkn), List.take_succ_eq_append_getElem (by rw [HYL.out]; exact hkn), HT.out, he]
          have HS := Lib.hid hs
          obtain rfl : X = Y := str_eq (by rw [hXl, hYl, he])
          clear he hs hX hXl hY hYl
          go_wp2
          go_quiet (fail)
          go_wp2
          go_roundw
          case rel => exact ⟨rfl, k + 1, m + nq, by omega, HS.out, rfl, by go_num⟩
          case measure => simp [intOf]; omega
        · have hdd : (decide (xs = ys)) = false := decide_eq_false (fun e => he (by subst e; rfl))
          have HD := Lib.hid hdd
          have hn0 : X.data.toList ≠ Y.data.toList := by rw [hXl, hYl]; exact he
          have hne := str_ne hn0
          have hne' := str_ne (Ne.symm hn0)
          clear he hX hY hXl hYl hn0 hdd
          go_wp2
          go_quiet (fail)
          go_wp2
          go_ret
          exact ⟨ret_bool HD.out.symm, m + nq, World.drewN_drewN _ _ _⟩
      · have hd := HR.out k HT.out hkn
        have HD := Lib.hid hd; clear hd
        go_wp2
        go_ret
        exact ⟨ret_bool HD.out.symm, m, rfl⟩
  · have hr : (decide (xs = ys)) = false := decide_eq_false (fun e => hlen (by rw [e]))
    have hl' : ((xs.length : Int) == (ys.length : Int)) = false := beq_eq_false_iff_ne.2 (by omega)
    rw [hr]; clear hr hlen
    go_enter Tryz.func22, Tryz.ntmps22
    go_wp2
    go_ret
    exact ⟨rfl, 0, rfl⟩

set_option maxRecDepth 100000 in
set_option maxHeartbeats 4000000 in
theorem sameX_any (va vb : Value) (xs ys : List VA) (w : World) (ha : RdX w va xs) (hb : RdX w vb ys) (hx : xs.length ≤ 140737488355328) :
    Calls Tryz.prog 21 #[va, vb] w fun e w' => e = .returned (.bool (decide (xs = ys))) ∧ ∃ n, w' = w.drewN n := by
  obtain ⟨A, c, rfl⟩ := Inn.form ha
  obtain ⟨B, d, rfl⟩ := Inn.form hb
  have HA := Lib.hid ha; have HB := Lib.hid hb; clear ha hb
  by_cases hlen : xs.length = ys.length
  · obtain ⟨n, hxl⟩ : ∃ n, xs.length = n := ⟨_, rfl⟩
    have hyl : ys.length = n := by omega
    rw [hxl] at hx
    have HXL := Lib.hid hxl; have HYL := Lib.hid hyl
    rw [hxl] at HA
    rw [hyl] at HB
    rw [hxl, hyl]
    clear hlen hxl hyl
    have hr : ∀ k, xs.take k = ys.take k → ¬ k < n → (decide (xs = ys)) = true := by
      intro k h hk
      rw [List.take_of_length_le (by rw [HXL.out]; omega), List.take_of_length_le (by rw [HYL.out]; omega)] at h
      exact decide_eq_true h
    have HR := Lib.hid hr; clear hr
    go_enter Tryz.func21, Tryz.ntmps21
    go_wp2
    go_loopw [4, 5] (fun x i wr => x = .bool false ∧ ∃ k m : Nat, k ≤ n ∧ xs.take k = ys.take k ∧ wr = w.drewN m ∧ i = .int .i64 k) (fun _ i _ => n - (intOf i).toNat)
    case atStart => exact ⟨rfl, 0, 0, by omega, rfl, rfl, rfl⟩
    case round =>
      obtain ⟨rfl, k, m, hk, ht, rfl, rfl⟩ := hrel
      have HT := Lib.hid ht; clear ht
      by_cases hkn : k < n
      · obtain ⟨bA, oA, rfl, _, a0, a1, a2⟩ := RdX.at_ HA.out (k := k) (by rw [HXL.out]; exact hkn)
        obtain ⟨bB, oB, rfl, _, b0, b1, b2⟩ := RdX.at_ HB.out (k := k) (by rw [HYL.out]; exact hkn)
        by_cases he : xs[k]'(by rw [HXL.out]; exact hkn) = ys[k]'(by rw [HYL.out]; exact hkn)
        · have hs : xs.take (k + 1) = ys.take (k + 1) := by
            rw [List.take_succ_eq_append_getElem (by rw [HXL.out]; exact hkn), List.take_succ_eq_append_getElem (by rw [HYL.out]; exact hkn), HT.out, he]
          have HS := Lib.hid hs
          rw [← he] at b0 b1 b2
          clear he hs
          generalize xs[k]'(by rw [HXL.out]; exact hkn) = x at *
          go_wp2
          go_quiet (fail)
          go_wp2
          go_roundw
          case rel => exact ⟨rfl, k + 1, m + nq, by omega, HS.out, rfl, by go_num⟩
          case measure => simp [intOf]; omega
        · have hdd : (decide (xs = ys)) = false := decide_eq_false (fun e => he (by subst e; rfl))
          have HD := Lib.hid hdd
          clear hdd
          generalize xs[k]'(by rw [HXL.out]; exact hkn) = x at *
          generalize ys[k]'(by rw [HYL.out]; exact hkn) = y at *
          obtain ⟨xk, xa, xb⟩ := x
          obtain ⟨yk, ya, yb⟩ := y
          simp only [VA.mk.injEq] at a0 a1 a2 b0 b1 b2 he
          rcases (show xk ≠ yk ∨ (xk = yk ∧ xa ≠ ya) ∨ (xk = yk ∧ xa = ya ∧ xb ≠ yb) by
            by_cases h1 : xk = yk
            · by_cases h2 : xa = ya
              · exact Or.inr (Or.inr ⟨h1, h2, fun h3 => he ⟨h1, h2, h3⟩⟩)
              · exact Or.inr (Or.inl ⟨h1, h2⟩)
            · exact Or.inl h1) with h1 | ⟨rfl, h1⟩ | ⟨rfl, rfl, h1⟩
          all_goals
            have h2 := int_ne h1
            have h3 := int_ne (Ne.symm h1)
            clear he h1
          all_goals
            go_wp2
            go_quiet (fail)
            go_wp2
            go_ret
            exact ⟨ret_bool HD.out.symm, m + nq, World.drewN_drewN _ _ _⟩
      · have hd := HR.out k HT.out hkn
        have HD := Lib.hid hd; clear hd
        go_wp2
        go_ret
        exact ⟨ret_bool HD.out.symm, m, rfl⟩
  · have hr : (decide (xs = ys)) = false := decide_eq_false (fun e => hlen (by rw [e]))
    have hl' : ((xs.length : Int) == (ys.length : Int)) = false := beq_eq_false_iff_ne.2 (by omega)
    rw [hr]; clear hr hlen
    go_enter Tryz.func21, Tryz.ntmps21
    go_wp2
    go_ret
    exact ⟨rfl, 0, rfl⟩

set_option maxRecDepth 100000 in
set_option maxHeartbeats 2000000 in
theorem refFits_any (x : VM) (X : ByteArray) (y : VA) (w : World) :
    Calls Tryz.prog 23 #[.agg #[.string X, .int .i64 x.kd, .int .i64 x.lo, .int .i64 x.hi, .int .i64 x.ik, .int .i64 x.ia, .int .i64 x.ib], .agg #[.int .i64 y.kd, .int .i64 y.a, .int .i64 y.b]] w fun e w' => e = .returned (.bool (mayB x y)) ∧ Below w.heap.size w w' := by
  obtain ⟨yk, ya, yb⟩ := y
  obtain ⟨xnm, xkd, xlo, xhi, xik, xia, xib⟩ := x
  dsimp only
  have HB0 : Hid (∀ o1 o2 : Obj, Below w.heap.size w ((w.alloc o1).alloc o2)) := fun o1 o2 => ((Below.refl _ _).alloc (Nat.le_refl _) _).alloc (by simp) _
  by_cases h1 : yk = xkd
  · obtain rfl : xkd = yk := h1.symm
    by_cases h2 : xlo ≤ ya
    · by_cases h2' : ya ≤ xhi
      · by_cases h3 : xkd = 3
        · by_cases h4 : xlo ≤ yb
          · by_cases h5 : yb ≤ xhi
            · have HL : Hid (mayB ⟨xnm, xkd, xlo, xhi, xik, xia, xib⟩ ⟨xkd, ya, yb⟩ = true) := by show mayB _ _ = _; simp [mayB, h2, h2', h4, h5]
              rw [HL.out]
              subst h3
              go_enter Tryz.func23, Tryz.ntmps23
              go_wp2
              go_ret
              exact ⟨rfl, HB0.out _ _⟩
            · have HL : Hid (mayB ⟨xnm, xkd, xlo, xhi, xik, xia, xib⟩ ⟨xkd, ya, yb⟩ = false) := by show mayB _ _ = _; simp [mayB, h3, h5]
              rw [HL.out]
              subst h3
              go_enter Tryz.func23, Tryz.ntmps23
              go_wp2
              go_ret
              exact ⟨rfl, HB0.out _ _⟩
          · have HL : Hid (mayB ⟨xnm, xkd, xlo, xhi, xik, xia, xib⟩ ⟨xkd, ya, yb⟩ = false) := by show mayB _ _ = _; simp [mayB, h3, h4]
            rw [HL.out]
            subst h3
            go_enter Tryz.func23, Tryz.ntmps23
            go_wp2
            go_ret
            exact ⟨rfl, HB0.out _ _⟩
        · have HL : Hid (mayB ⟨xnm, xkd, xlo, xhi, xik, xia, xib⟩ ⟨xkd, ya, yb⟩ = true) := by show mayB _ _ = _; simp [mayB, h2, h2', h3]
          rw [HL.out]
          have h3' := int_ne h3
          have h3'' : (xkd != 3) = true := bne_iff_ne.2 h3
          go_enter Tryz.func23, Tryz.ntmps23
          go_wp2
          go_ret
          exact ⟨rfl, HB0.out _ _⟩
      · have HL : Hid (mayB ⟨xnm, xkd, xlo, xhi, xik, xia, xib⟩ ⟨xkd, ya, yb⟩ = false) := by show mayB _ _ = _; simp [mayB, h2']
        rw [HL.out]
        go_enter Tryz.func23, Tryz.ntmps23
        go_wp2
        go_ret
        exact ⟨rfl, HB0.out _ _⟩
    · have HL : Hid (mayB ⟨xnm, xkd, xlo, xhi, xik, xia, xib⟩ ⟨xkd, ya, yb⟩ = false) := by show mayB _ _ = _; simp [mayB, h2]
      rw [HL.out]
      go_enter Tryz.func23, Tryz.ntmps23
      go_wp2
      go_ret
      exact ⟨rfl, HB0.out _ _⟩
  · have h1' := int_ne h1
    have h1'' := int_ne (fun h => h1 (Eq.symm h))
    have HL : Hid (mayB ⟨xnm, xkd, xlo, xhi, xik, xia, xib⟩ ⟨yk, ya, yb⟩ = false) := by show mayB _ _ = _; simp only [mayB, decide_eq_false h1]; simp
    rw [HL.out]
    go_enter Tryz.func23, Tryz.ntmps23
    go_wp2
    go_ret
    exact ⟨rfl, HB0.out _ _⟩

theorem long_any (A : Option Addr) (n c : Nat) (w : World) (hn : n ≤ 4611686018427387904) :
    Calls Tryz.prog 18 #[.slice A n c] w fun e w' => e = .returned (.bool (decide (100 < n))) ∧ w' = w := by
  by_cases h : 100 < n
  · rw [decide_eq_true h]
    have h' : (100 : Int) < (n : Int) := by omega
    clear h
    go_enter Tryz.func18, Tryz.ntmps18
    go_wp2
    go_ret
    exact ⟨rfl, rfl⟩
  · rw [decide_eq_false h]
    have h' : ¬ (100 : Int) < (n : Int) := by omega
    clear h
    go_enter Tryz.func18, Tryz.ntmps18
    go_wp2
    go_ret
    exact ⟨rfl, rfl⟩
end Go.Proofs.YtjjoffadieoaaaaGreatDoor
namespace Go.Proofs.YtjjoffadieoaaaaGreatDoor
open Go.RowKit

def wakeL : List AM := [⟨1, [120], [⟨5, 0, [120]⟩, ⟨1, 1, []⟩, ⟨11, 0, []⟩]⟩, ⟨3, [100, 111, 110, 101], []⟩]
def wakeV : List VM := [⟨[120], 1, 0, 9, 0, 0, 0⟩]
def wakeX : List VA := [⟨1, 3, 0⟩]
theorem parse_wake : parseA [120, 61, 120, 43, 49, 59, 115, 101, 110, 100, 58, 100, 111, 110, 101] = (wakeL, 0) := by kernel_rfl
theorem do_wake : doP wakeV wakeL wakeX [] [] = ⟨[⟨1, 4, 0⟩], [], [[100, 111, 110, 101]], true⟩ := by kernel_rfl

set_option maxRecDepth 100000 in
set_option maxHeartbeats 4000000 in
theorem wakes6_any (w : World) (hO : Ops w) (hM : ML w) :
    Calls Tryz.prog 12 #[] w fun e w' => e = .returned (.bool true) ∧ Below w.heap.size w w' := by
  have HP := Lib.hid (parseA_any ⟨#[120, 61, 120, 43, 49, 59, 115, 101, 110, 100, 58, 100, 111, 110, 101]⟩ w hO hM (by decide))
  clear hO hM
  go_enter Tryz.func12, Tryz.ntmps12
  go_wp2_with fail
  refine HP.out.mono ?_
  rintro e w1 ⟨v, ps, rfl, hps, hrow, hact, hb1⟩
  rw [show parseA (ByteArray.mk #[120, 61, 120, 43, 49, 59, 115, 101, 110, 100, 58, 100, 111, 110, 101]).data.toList = (wakeL, 0) from parse_wake] at hps ⊢
  simp only at hps ⊢
  have hl : ps.length = 2 := by have := congrArg List.length hps; rw [List.length_map] at this; exact this
  have hA : RdA w1 v ps := ⟨Inn.of_own hrow, hact⟩
  obtain ⟨A, c, rfl⟩ := hA.form
  rw [hl] at hA ⊢
  have HB2 : Hid (Below w.heap.size w ((w1.alloc (.cells #[.string ⟨#[120]⟩, .int .i64 1, .int .i64 0, .int .i64 9, .int .i64 0, .int .i64 0, .int .i64 0] 56)).alloc (.cells #[.int .i64 1, .int .i64 3, .int .i64 0] 54))) := (hb1.alloc hb1.size _).alloc (hb1.alloc hb1.size _).size _
  have HB2' : Hid (Below w1.heap.size w1 ((w1.alloc (.cells #[.string ⟨#[120]⟩, .int .i64 1, .int .i64 0, .int .i64 9, .int .i64 0, .int .i64 0, .int .i64 0] 56)).alloc (.cells #[.int .i64 1, .int .i64 3, .int .i64 0] 54))) := ((Below.refl _ _).alloc (Nat.le_refl _) _).alloc (by simp) _
  have hv : RdV (w1.alloc (.cells #[.string ⟨#[120]⟩, .int .i64 1, .int .i64 0, .int .i64 9, .int .i64 0, .int .i64 0, .int .i64 0] 56)) (.slice (some ⟨w1.heap.size, 0, none⟩) 1 1) wakeV := Inn.of_own (Oz.own_laid (B := 0) (size := 7) w1 #[.string ⟨#[120]⟩, .int .i64 1, .int .i64 0, .int .i64 9, .int .i64 0, .int .i64 0, .int .i64 0] (Nat.zero_le _) (by decide) rfl)
  have hv2 : RdV ((w1.alloc (.cells #[.string ⟨#[120]⟩, .int .i64 1, .int .i64 0, .int .i64 9, .int .i64 0, .int .i64 0, .int .i64 0] 56)).alloc (.cells #[.int .i64 1, .int .i64 3, .int .i64 0] 54)) (.slice (some ⟨w1.heap.size, 0, none⟩) 1 1) wakeV := hv.below ((Below.refl _ _).alloc (Nat.le_refl _) _)
  have hx2 : RdX ((w1.alloc (.cells #[.string ⟨#[120]⟩, .int .i64 1, .int .i64 0, .int .i64 9, .int .i64 0, .int .i64 0, .int .i64 0] 56)).alloc (.cells #[.int .i64 1, .int .i64 3, .int .i64 0] 54)) (.slice (some ⟨w1.heap.size + 1, 0, none⟩) 1 1) wakeX := by
    have := Inn.of_own (Oz.own_laid (B := 0) (e := 54) (n := 1) (size := 3) (w1.alloc (.cells #[.string ⟨#[120]⟩, .int .i64 1, .int .i64 0, .int .i64 9, .int .i64 0, .int .i64 0, .int .i64 0] 56)) #[.int .i64 1, .int .i64 3, .int .i64 0] (Nat.zero_le _) (by decide) rfl)
    rw [show (w1.alloc (.cells #[.string ⟨#[120]⟩, .int .i64 1, .int .i64 0, .int .i64 9, .int .i64 0, .int .i64 0, .int .i64 0] 56)).heap.size = w1.heap.size + 1 by simp] at this
    exact this
  have hdo := do_any (.slice A 2 c) _ _ ps wakeV wakeX _ (hA.below HB2'.out) (by omega) hv2 (by decide) hx2 (by decide) (by decide)
  rw [hps, do_wake] at hdo
  have HDO := Lib.hid hdo
  clear hA hrow hact hv hv2 hx2 hdo hps hl hb1
  go_wp2_with fail
  refine HDO.out.mono ?_
  rintro e w2 ⟨v1, v2, v3, rfl, hR, hb2⟩
  have HB3 := Lib.hid (HB2.out.trans (hb2.mono HB2.out.size))
  clear hb2
  have HX := hR.x; have HR := hR.r; have HS := hR.s
  clear hR
  obtain ⟨R1, rc, rfl⟩ := own_slice HR
  obtain ⟨S1, sc, rfl⟩ := own_slice HS
  obtain ⟨g, xc, rfl⟩ : ∃ g cap, v1 = .slice (some ⟨g, 0, none⟩) 1 cap := by
    rcases HX.2 with ⟨_, h0⟩ | ⟨g, cap, cur, h1, _⟩
    · cases h0
    · exact ⟨g, cap, h1⟩
  have hc1 : w2.cell? ⟨g, 1, none⟩ = some (.int .i64 4) := (HX.cellAt 1 (by decide)).trans rfl
  have HB4 : Hid (Below w.heap.size w (w2.alloc (.cells #[.string ⟨#[100, 111, 110, 101]⟩] 9))) := HB3.out.alloc HB3.out.size _
  have hc1' : (w2.alloc (.cells #[.string ⟨#[100, 111, 110, 101]⟩] 9)).cell? ⟨g, 1, none⟩ = some (.int .i64 4) := old_cell hc1
  have hsame := same2_any (.slice S1 1 sc) (.slice (some ⟨w2.heap.size, 0, none⟩) 1 1) [[100, 111, 110, 101]] [[100, 111, 110, 101]] (w2.alloc (.cells #[.string ⟨#[100, 111, 110, 101]⟩] 9)) (Inn.below (Inn.of_own HS) ((Below.refl _ _).alloc (Nat.le_refl _) _)) (inn_one _ _ _ rfl) (by decide)
  rw [decide_eq_true rfl] at hsame
  have HSA := Lib.hid hsame
  clear HX HR HS hsame hc1
  go_wp2_with fail
  refine HSA.out.mono ?_
  rintro e w3 ⟨rfl, q, rfl⟩
  have hc2 : ((w2.alloc (.cells #[.string ⟨#[100, 111, 110, 101]⟩] 9)).drewN q).cell? ⟨g, 1, none⟩ = some (.int .i64 4) := hc1'
  have HB5 := Lib.hid (below_drewN HB4.out q)
  clear hc1'
  go_wp2
  go_ret
  exact ⟨rfl, HB5.out⟩
end Go.Proofs.YtjjoffadieoaaaaGreatDoor
