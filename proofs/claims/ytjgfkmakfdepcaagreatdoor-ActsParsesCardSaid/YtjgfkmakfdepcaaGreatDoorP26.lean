/- Own texts, joined: H6. -/
import Derived.Test.YtjgfkmakfdepcaaGreatDoorP24
import Derived.Deep.Cut
import Derived.Deep.CutRange
namespace Go.Proofs.YtjgfkmakfdepcaaGreatDoor

section
open Go.RowKit

/-- what a step of the machine leaves of the reader, behind an operand -/
def BPost (w0 : World) (g : Nat) (s : ByteArray) (r : Sp) (e : Ending) (w' : World) : Prop :=
  match r with
  | .go c => e = .returned (.tuple #[.int .i64 (-1), .int .i64 (if c.beh = true then 1 else 0)]) ∧ MS w0 g s c.p c.out c.w w'
  | .bad q => e = .returned (.tuple #[.int .i64 q, .int .i64 0]) ∧ Below w0.heap.size w0 w'
  | .fin o => e = .returned (.tuple #[.int .i64 (-1), .int .i64 2]) ∧ ∃ p, MS w0 g s p o [] w'

set_option maxRecDepth 100000 in
set_option maxHeartbeats 4000000 in
theorem behind_end {w0 w : World} {g : Nat} {s : ByteArray} {cs : List CM} {ws : List Wt} (h : MS w0 g s s.size cs ws w) (hb : cs.length + ws.length ≤ 600) :
    Calls Tryz.prog 91 #[rp g] w (BPost w0 g s (if flushW 1 ws = [] then .fin (flushO 1 cs ws) else .bad s.size)) := by
  have HF := Lib.hid (fun W (hm : MS w0 g s s.size cs ws W) => flush_any hm (by omega) 1)
  have HM := Lib.hid h
  obtain ⟨vo, vw, ⟨c0, c1, c2, c3, f1, f2, f3⟩, hbox, ho, hw⟩ := h.at_
  clear hbox ho hw h
  unfold rp at HF ⊢
  by_cases hv : flushW 1 ws = []
  · rw [if_pos hv]
    have HV := Lib.hid hv; clear hv
    go_enter Tryz.func91, Tryz.ntmps91
    go_wp2
    go_quiet (fail)
    go_wp2_with fail
    refine (HF.out _ (HM.out.drewN _)).mono ?_
    rintro e w2 ⟨rfl, h2⟩
    rw [HV.out] at h2
    have H2 := Lib.hid h2; clear h2 c0 c1 c2 c3 f1 f2 f3
    obtain ⟨vo, vw, ⟨c0, c1, c2, c3, f1, f2, f3⟩, hbox, ho, hw⟩ := H2.out.at_
    rcases waits_form hw with ⟨_, A, c, rfl⟩ | ⟨b, cap, n, x, r', hws, _⟩
    · clear hbox ho hw
      go_wp2
      go_ret2
      exact ⟨rfl, _, H2.out⟩
    · cases hws
  · rw [if_neg hv]
    have HV := Lib.hid hv; clear hv
    go_enter Tryz.func91, Tryz.ntmps91
    go_wp2
    go_quiet (fail)
    go_wp2_with fail
    refine (HF.out _ (HM.out.drewN _)).mono ?_
    rintro e w2 ⟨rfl, h2⟩
    have H2 := Lib.hid h2; clear h2 c0 c1 c2 c3 f1 f2 f3
    obtain ⟨vo, vw, ⟨c0, c1, c2, c3, f1, f2, f3⟩, hbox, ho, hw⟩ := H2.out.at_
    rcases waits_form hw with ⟨h0, _⟩ | ⟨b, cap, n, x, r', hws, hn, rfl, hcap, hb', hcells⟩
    · exact absurd h0 HV.out
    · clear hbox ho hw hcells
      go_wp2
      go_ret2
      exact ⟨rfl, H2.out.below⟩

set_option maxRecDepth 100000 in
set_option maxHeartbeats 4000000 in
theorem behind_shut {w0 w : World} {g : Nat} {s : ByteArray} {p : Nat} {cs : List CM} {ws : List Wt} (h : MS w0 g s p cs ws w) (hp : p < s.size) (h41 : s[p] = 41) (hs : s.size ≤ 600) (hb : cs.length + ws.length ≤ 600) :
    Calls Tryz.prog 91 #[rp g] w (BPost w0 g s (shutM p (flushO 1 cs ws) (flushW 1 ws))) := by
  have HF := Lib.hid (fun W (hm : MS w0 g s p cs ws W) => flush_any hm (by omega) 1)
  have hsum := flush_sum 1 cs ws
  have HM := Lib.hid h
  obtain ⟨vo, vw, ⟨c0, c1, c2, c3, f1, f2, f3⟩, hbox, ho, hw⟩ := h.at_
  clear hbox ho hw h
  have t41 : ((s[p].toNat : Int) == 41) = true := byte_is (k := 41) (by decide) h41
  have hne : ((p : Int) == (s.size : Int)) = false := beq_eq_false_iff_ne.2 (by omega)
  clear h41
  unfold rp at HF ⊢
  generalize flushO 1 cs ws = C at *
  generalize flushW 1 ws = V at *
  go_enter Tryz.func91, Tryz.ntmps91
  go_wp2
  go_quiet (fail)
  go_wp2
  go_quiet (fail)
  go_wp2_with fail
  refine (HF.out _ (by first | exact HM.out.drewN _ | exact (HM.out.drewN _).drewN _)).mono ?_
  rintro e w2 ⟨rfl, h2⟩
  have H2 := Lib.hid h2; clear h2 c0 c1 c2 c3 f1 f2 f3 HM HF
  obtain ⟨vo, vw, ⟨c0, c1, c2, c3, f1, f2, f3⟩, hbox, ho, hw⟩ := H2.out.at_
  rcases waits_form hw with ⟨rfl, A, c, rfl⟩ | ⟨b, cap, n, x, r', rfl, hn, rfl, hcap, hb', hcells⟩
  · clear hbox ho hw
    go_wp2
    go_ret2
    exact ⟨rfl, H2.out.below⟩
  · obtain ⟨q0, q1⟩ := hcells n (by omega)
    rw [← hn, wAt_top] at q0 q1
    rw [hn] at q0 q1
    obtain ⟨x1, x2⟩ := x
    simp only at q0 q1
    have hlen : C.length + (n + 1) ≤ 600 := by simp at hsum; omega
    have hwr : IntKind.i64.wrap (n : Int) = (n : Int) := IntWalk.i64_in _ (by omega)
    have hi0 : (0 : Int) ≤ (n : Int) := by omega
    have hi1 : (n : Int) < (n : Int) + 1 := by omega
    have hs0 : n ≤ cap := by omega
    have hs1 : (n : Int) ≤ (cap : Int) := by omega
    have hs2 : (0 : Int) ≤ (cap : Int) := by omega
    by_cases hx : x1 = 0
    · subst hx
      have hsh : shutM p C ((0, x2) :: r') = .go ⟨true, p + 1, C, r'⟩ := by show Sp.go ⟨true, p + 1, if (0 : Int) = 0 then C else C ++ [opC 0], r'⟩ = _; rw [if_pos rfl]
      have HSH := Lib.hid hsh
      have HP := Lib.hid (H2.out.popW hn hbox ho (by simp only [List.length_cons, hn] at hw; exact hw))
      clear hbox ho hw hcells hsum hsh
      go_wp2
      generalize w2.setCell ⟨g, 3, none⟩ (.slice (some ⟨b, 0, none⟩) n cap) = W at HP ⊢
      go_ret2
      rw [HSH.out]
      exact ⟨rfl, HP.out.setAt (p' := p + 1) ((p : Int) + 1) (by omega)⟩
    · have hx' : (x1 != 0) = true := bne_iff_ne.2 hx
      have hsh : shutM p C ((x1, x2) :: r') = .go ⟨true, p + 1, C ++ [opC x1], r'⟩ := by show Sp.go ⟨true, p + 1, if x1 = 0 then C else C ++ [opC x1], r'⟩ = _; rw [if_neg hx]
      have HSH := Lib.hid hsh
      have HBX := Lib.hid hbox; have HOO := Lib.hid ho; have HWW := Lib.hid hw
      have HNE := Lib.hid (own_ne2 ho hbox reader_cell)
      have hgl := H2.out.lt
      have hWs := H2.out.size
      obtain ⟨i0, hi0', hz0, hz1, hz2⟩ := info_parts Tryz.infoCell
      have HI := Lib.hid hi0'; have HZ0 := Lib.hid hz0; have HZ1 := Lib.hid hz1; have HZ2 := Lib.hid hz2
      clear hbox ho hw hcells hsum hx hsh hi0' hz0 hz1 hz2
      go_wp2
      go_cut [] from 64 (fun wx => Hid (MS w0 g s p (C ++ [opC x1]) ((x1, x2) :: r') wx))
      case first =>
        go_region_law ((refine step_append_lies _ (by rfl) _ _ _ (by rfl) w0.heap.size 93 i0 _ 3 32 Tryz.underlying57 HI.out HZ0.out HZ1.out HZ2.out rfl (by omega) vo C.length (flat C) (by rfl) ((HOO.out.alloc _).drew) ⟨w2.heap.size, 0, none⟩ 1 1 (cellV (opC x1)) (by rfl) (by rfl) (World.news_of_block (cs := #[.int .i64 x1, .int .i64 0, .string ⟨#[]⟩]) (t := 93) (fr := (0, 0)) (heap_alloc_new w2 _)) (one_vals _) (by omega) (by unfold maxLen; omega) (by omega) (by simp; omega) (w2.heap.size + 1) (by simp) ?_
                        intro gg cap2 w3 hown2 hgrow2 hat2 hlt2
                        obtain ⟨r2, kf2⟩ := push_far_drew hgrow2 hgl HNE.out c2 f2))
        all_goals
          have HM6 := Lib.hid (H2.out.outNew HBX.out HOO.out HWW.out (opC x1) ((Below.refl w2.heap.size w2).alloc (Nat.le_refl _) _).drew hown2 hgrow2)
          clear hown2 hgrow2 hat2 hlt2 HBX HOO HWW H2 HNE hgl hWs c0 c1 c2 c3 f1 f2 f3
          go_wp2
          go_meet
          case rel => exact HM6.out
      case rest =>
        have HM6 := Lib.hid hcut.out
        clear hcut HBX HOO HWW H2 HNE hgl hWs c0 c1 c2 c3 f1 f2 f3 q0 q1
        obtain ⟨vo5, vw5, ⟨c0, c1, c2, c3, f1, f2, f3⟩, hbox, ho, hw⟩ := HM6.out.at_
        rcases waits_form hw with ⟨h0, _⟩ | ⟨b5, cap5, n5, x5, r5, hws5, hn5, rfl, hcap5, hb5, hcells⟩
        · cases h0
        obtain ⟨h5a, h5b⟩ := List.cons.inj hws5
        subst h5b
        obtain rfl : n = n5 := by omega
        have HM7 := Lib.hid (HM6.out.popW hn5 hbox ho (by simp only [List.length_cons, hn5] at hw; exact hw))
        clear HM6 hbox ho hw hcells hws5 h5a
        have hs3 : n ≤ cap5 := by omega
        have hs4 : (n : Int) ≤ (cap5 : Int) := by omega
        have hs5 : (0 : Int) ≤ (cap5 : Int) := by omega
        go_wp2
        generalize wc.setCell ⟨g, 3, none⟩ (.slice (some ⟨b5, 0, none⟩) n cap5) = W at HM7 ⊢
        go_ret2
        rw [HSH.out]
        exact ⟨rfl, HM7.out.setAt (p' := p + 1) ((p : Int) + 1) (by omega)⟩
end

section
open Go.RowKit

theorem two_hit (k : Nat) (hk : k < 13) (c d : UInt8) (h : (tabAt k).2.1 = [c, d]) : opOf c d = ((k : Int) + 11, 2, (tabAt k).2.2.toNat) := by
  have hc : k = 0 ∨ k = 1 ∨ k = 2 ∨ k = 3 ∨ k = 4 ∨ k = 5 ∨ k = 6 ∨ k = 7 ∨ k = 8 ∨ k = 9 ∨ k = 10 ∨ k = 11 ∨ k = 12 := by omega
  rcases hc with rfl | rfl | rfl | rfl | rfl | rfl | rfl | rfl | rfl | rfl | rfl | rfl | rfl
  all_goals first
    | (exfalso; revert h; simp [tabAt, tabOps]; done)
    | (obtain ⟨h1, h2⟩ := List.cons.inj h
       obtain ⟨h3, _⟩ := List.cons.inj h2
       subst h1 h3; rfl)
theorem one_hit (k : Nat) (hk : k < 13) (c d : UInt8) (h : (tabAt k).2.1 = [c]) (hn : ∀ j, j < 13 → (tabAt j).2.1 ≠ [c, d]) : opOf c d = ((k : Int) + 11, 1, (tabAt k).2.2.toNat) := by
  have h8 := hn 8 (by omega)
  have h10 := hn 10 (by omega)
  have hc : k = 0 ∨ k = 1 ∨ k = 2 ∨ k = 3 ∨ k = 4 ∨ k = 5 ∨ k = 6 ∨ k = 7 ∨ k = 8 ∨ k = 9 ∨ k = 10 ∨ k = 11 ∨ k = 12 := by omega
  rcases hc with rfl | rfl | rfl | rfl | rfl | rfl | rfl | rfl | rfl | rfl | rfl | rfl | rfl
  all_goals first
    | (exfalso; revert h; simp [tabAt, tabOps]; done)
    | (obtain ⟨h1, _⟩ := List.cons.inj h
       subst h1
       first
         | rfl
         | (have hd : d ≠ 61 := by rintro rfl; first | exact h8 rfl | exact h10 rfl
            show (if d = 61 then _ else _) = _
            rw [if_neg hd]; rfl))
theorem no_hit (c d : UInt8) (h2 : ∀ j, j < 13 → (tabAt j).2.1 ≠ [c, d]) (h1 : ∀ j, j < 13 → (tabAt j).2.1 ≠ [c]) : (opOf c d).2.2 = 0 := by
  unfold opOf
  rw [if_neg (by rintro rfl; exact h1 0 (by omega) rfl), if_neg (by rintro rfl; exact h1 1 (by omega) rfl), if_neg (by rintro rfl; exact h1 2 (by omega) rfl), if_neg (by rintro rfl; exact h1 3 (by omega) rfl),
    if_neg (by rintro rfl; exact h1 4 (by omega) rfl), if_neg (by rintro rfl; exact h1 5 (by omega) rfl)]
  by_cases h33 : c = 33
  · subst h33
    rw [if_pos rfl, if_neg (by rintro rfl; exact h2 6 (by omega) rfl)]
  · rw [if_neg h33, if_neg (by rintro rfl; exact h1 7 (by omega) rfl), if_neg (by rintro rfl; exact h1 9 (by omega) rfl), if_neg (by rintro rfl; exact h1 11 (by omega) rfl), if_neg (by rintro rfl; exact h1 12 (by omega) rfl)]
theorem tab_zero (c : UInt8) (j : Nat) (hj : j < 13) : (tabAt j).2.1 ≠ [c, 0] := by
  intro h
  have hc : j = 0 ∨ j = 1 ∨ j = 2 ∨ j = 3 ∨ j = 4 ∨ j = 5 ∨ j = 6 ∨ j = 7 ∨ j = 8 ∨ j = 9 ∨ j = 10 ∨ j = 11 ∨ j = 12 := by omega
  rcases hc with rfl | rfl | rfl | rfl | rfl | rfl | rfl | rfl | rfl | rfl | rfl | rfl | rfl
  all_goals (revert h; simp [tabAt, tabOps])

/-- the bytes of a length that stand at a place -/
def cutB (s : ByteArray) (p L : Nat) : List UInt8 := (s.data.toList.drop p).take L
theorem cut_ext (s : ByteArray) (p L : Nat) : s.extract p (p + L) = ⟨(cutB s p L).toArray⟩ := by
  apply ByteArray.ext
  apply Array.toList_inj.1
  rw [Lib.extract_data, Nat.add_sub_cancel_left]; rfl
theorem cut_one {s : ByteArray} {p : Nat} (h : p < s.size) : cutB s p 1 = [nx s.data.toList p] := by
  have hl : p < s.data.toList.length := by rw [← Lib.size_eq]; exact h
  unfold cutB
  rw [List.drop_eq_getElem_cons hl, nx_at hl]; rfl
theorem cut_two {s : ByteArray} {p : Nat} (h : p + 1 < s.size) : cutB s p 2 = [nx s.data.toList p, nx s.data.toList (p + 1)] := by
  have hl : p + 1 < s.data.toList.length := by rw [← Lib.size_eq]; exact h
  unfold cutB
  rw [List.drop_eq_getElem_cons (by omega), List.drop_eq_getElem_cons hl, nx_at (by omega), nx_at hl]; rfl
/-- no operator of a length stands at a place -/
def NoHit (s : ByteArray) (p L : Nat) : Prop := p + L ≤ s.size → ∀ j, j < 13 → (tabAt j).2.1 ≠ cutB s p L
theorem NoHit.two {s : ByteArray} {p : Nat} (h : NoHit s p 2) (hp : p < s.size) : ∀ j, j < 13 → (tabAt j).2.1 ≠ [nx s.data.toList p, nx s.data.toList (p + 1)] := by
  by_cases h2 : p + 1 < s.size
  · rw [← cut_two h2]; exact h h2
  · rw [nx_end (s := s.data.toList) (p := p + 1) (by rw [← Lib.size_eq]; omega)]
    exact tab_zero _
theorem hit_op {s : ByteArray} {p L k : Nat} (hL : L = 2 ∨ L = 1 ∧ NoHit s p 2) (hp : p + L ≤ s.size) (hk : k < 13) (h : (tabAt k).2.1 = cutB s p L) : opAt s.data.toList p = ((k : Int) + 11, L, (tabAt k).2.2.toNat) := by
  rcases hL with rfl | ⟨rfl, hn⟩
  · rw [cut_two hp] at h; exact two_hit k hk _ _ h
  · rw [cut_one hp] at h; exact one_hit k hk _ _ h (hn.two hp)
theorem hit_none {s : ByteArray} {p : Nat} (hp : p < s.size) (h2 : NoHit s p 2) (h1 : NoHit s p 1) : (opAt s.data.toList p).2.2 = 0 := by
  refine no_hit _ _ (h2.two hp) ?_
  rw [← cut_one hp]; exact h1 hp

/-- what an operator at a place leaves -/
def opM (s : List UInt8) (p : Nat) (out : List CM) (w : List Wt) : Sp :=
  if (opAt s p).2.2 = 0 then .bad p
  else if (opAt s p).2.2 = 3 ∧ cmpW w = true then .bad p
  else .go ⟨false, p + (opAt s p).2.1, flushO ((opAt s p).2.2 : Nat) out w, ((opAt s p).1, ((opAt s p).2.2 : Nat)) :: flushW ((opAt s p).2.2 : Nat) w⟩
end

section
open Go.RowKit

/-- the world behind one more that waits -/
theorem MS.waitNew {w0 w : World} {g : Nat} {s : ByteArray} {p : Nat} {cs : List CM} {ws : List Wt} {vo vw : Value} (h : MS w0 g s p cs ws w) (hbox : w.heap[g]? = some (.cells #[.string s, .int .i64 p, vo, vw] 133 (0, 0)))
    (ho : w.ownsRow w0.heap.size 93 3 vo cs.length (flat cs)) (hw : w.ownsRow w0.heap.size 170 2 vw ws.length (flatW ws.reverse)) (x : Wt)
    {w1 w2 : World} {gg cap : Nat} (hb : Below w.heap.size w w1) (hown : w2.ownsRow w0.heap.size 170 2 (.slice (some ⟨gg, 0, none⟩) (ws.length + 1) cap) (ws.length + 1) (flatW ws.reverse ++ waitV x)) (hg : w1.grownBy w2 vw.ownBlock) :
    MS w0 g s p cs (x :: ws) (w2.setCell ⟨g, 3, none⟩ (.slice (some ⟨gg, 0, none⟩) (ws.length + 1) cap)) := by
  refine h.pushW hbox ho hw hb ?_ hg
  rw [List.reverse_cons, flatW_append, flatW_one, List.length_cons]
  exact hown
theorem Tryz.unOpen : Tryz.prog.underlying 131 = some (.slice 170) := by kernel_rfl

set_option maxRecDepth 100000 in
set_option maxHeartbeats 8000000 in
theorem behind_op {w0 w : World} {g : Nat} {s : ByteArray} {p : Nat} {cs : List CM} {ws : List Wt} (h : MS w0 g s p cs ws w) (hp : p < s.size) (h41 : s[p] ≠ 41) (hs : s.size ≤ 600) (hb : cs.length + ws.length ≤ 600) :
    Calls Tryz.prog 91 #[rp g] w (BPost w0 g s (opM s.data.toList p cs ws)) := by
  have HM := Lib.hid h
  have hHIT : ∀ (L k : Nat), (L = 2 ∨ L = 1 ∧ NoHit s p 2) → p + L ≤ s.size → k < 13 → (tabAt k).2.1 = cutB s p L → opM s.data.toList p cs ws = if (tabAt k).2.2 = 3 ∧ cmpW ws = true then .bad p else .go ⟨false, p + L, flushO (tabAt k).2.2 cs ws, ((k : Int) + 11, (tabAt k).2.2) :: flushW (tabAt k).2.2 ws⟩ := by
    intro L k hL hp2 hk hh
    have ho := hit_op hL hp2 hk hh
    obtain ⟨_, ht1, ht5⟩ := tab_first k hk
    unfold opM
    rw [ho]
    simp only
    rw [if_neg (by omega)]
    have e1 : (((tabAt k).2.2.toNat : Nat) : Int) = (tabAt k).2.2 := by omega
    rw [e1]
    by_cases h3 : (tabAt k).2.2 = 3 ∧ cmpW ws = true
    · rw [if_pos h3, if_pos ⟨by omega, h3.2⟩]
    · rw [if_neg h3, if_neg (fun e => h3 ⟨by omega, e.2⟩)]
  have hNONE : NoHit s p 2 → NoHit s p 1 → opM s.data.toList p cs ws = .bad p := by
    intro h2 h1
    unfold opM; rw [if_pos (hit_none hp h2 h1)]
  have HHIT := Lib.hid hHIT; have HNONE := Lib.hid hNONE
  clear hHIT hNONE
  have t41 : ((s[p].toNat : Int) == 41) = false := byte_not (k := 41) (by decide) h41
  have hne : ((p : Int) == (s.size : Int)) = false := beq_eq_false_iff_ne.2 (by omega)
  have hp0 : (0 : Int) ≤ (p : Int) := by omega
  obtain ⟨vo, vw, ⟨c0, c1, c2, c3, f1, f2, f3⟩, hbox, ho, hw⟩ := h.at_
  clear hbox ho hw h h41
  unfold rp
  go_enter Tryz.func91, Tryz.ntmps91
  go_wp2
  go_quiet (fail)
  go_wp2
  go_quiet (fail)
  go_wp2
  go_loopw [2, 3, 5] (fun x2 x3 l wr => x2 = .int .i64 0 ∧ x3 = .int .i64 0 ∧ ∃ L : Nat, L ≤ 2 ∧ l = .int .i64 L ∧ Hid ((L < 2 → NoHit s p 2) ∧ (L < 1 → NoHit s p 1) ∧ MS w0 g s p cs ws wr)) (fun _ _ l _ => (intOf l).toNat)
  case atStart => exact ⟨rfl, rfl, 2, by omega, rfl, fun h => by omega, fun h => by omega, by first | exact HM.out.drewN _ | exact (HM.out.drewN _).drewN _⟩
  case round =>
    obtain ⟨rfl, rfl, L, hL2, rfl, HR⟩ := hrel
    by_cases hL0 : L = 0
    · subst hL0
      have HN := Lib.hid (HNONE.out (HR.out.1 (by omega)) (HR.out.2.1 (by omega)))
      clear c0 c1 c2 c3 f1 f2 f3
      obtain ⟨vo, vw, ⟨c0, c1, c2, c3, f1, f2, f3⟩, hbox, ho, hw⟩ := HR.out.2.2.at_
      clear hbox ho hw
      go_wp2
      go_ret2
      rw [HN.out]
      exact ⟨rfl, HR.out.2.2.below⟩
    · have hL1 : 1 ≤ L := by omega
      have hL1' : (1 : Int) ≤ (L : Int) := by omega
      have HLL : Hid (L = 2 ∨ L = 1 ∧ NoHit s p 2) := by
        by_cases h2 : L = 2
        · exact Or.inl h2
        · exact Or.inr ⟨by omega, HR.out.1 (by omega)⟩
      clear c0 c1 c2 c3 f1 f2 f3 hL0
      go_wp2
      go_loopw [2, 3, 6, 7, 8] (fun x2 x3 op _ _ wi => x2 = .int .i64 0 ∧ x3 = .int .i64 0 ∧ ∃ j : Nat, j ≤ 13 ∧ op = .int .i64 ((j : Int) + 11) ∧ Hid ((p + L ≤ s.size → ∀ i, i < j → (tabAt i).2.1 ≠ cutB s p L) ∧ MS w0 g s p cs ws wi)) (fun _ _ op _ _ _ => (24 - intOf op).toNat)
      case atStart => exact ⟨rfl, rfl, 0, by omega, rfl, fun _ i hi => by omega, HR.out.2.2⟩
      case round =>
        obtain ⟨rfl, rfl, j, hj, rfl, HJ⟩ := hrel
        obtain ⟨vo, vw, ⟨c0, c1, c2, c3, f1, f2, f3⟩, hbox, ho, hw⟩ := HJ.out.2.at_
        clear hbox ho hw
        have hways : (decide ((j : Int) + 11 ≤ 23) = false ∨ ((j : Int) + 11 ≤ 23 ∧ decide ((p : Int) + (L : Int) ≤ s.size) = false)) ∨ (j < 13 ∧ p + L ≤ s.size) := by
          by_cases h13 : j < 13
          · by_cases hpl : p + L ≤ s.size
            · exact Or.inr ⟨h13, hpl⟩
            · exact Or.inl (Or.inr ⟨by omega, decide_eq_false (by omega)⟩)
          · exact Or.inl (Or.inl (decide_eq_false (by omega)))
        rcases hways with hw | ⟨h13, hpl⟩
        · have HNH : Hid (NoHit s p L) := by
            intro hpl i hi
            refine HJ.out.1 hpl i ?_
            rcases hw with h | ⟨_, h⟩
            · have := of_decide_eq_false h; omega
            · have := of_decide_eq_false h; omega
          rcases hw with hg | ⟨hg1, hg2⟩
          all_goals
            go_wp2
            go_quiet (fail)
            go_wp2
            go_roundw
            case rel => exact ⟨rfl, rfl, L - 1, by omega, by congr 1; omega, fun h => by
                by_cases h2 : L = 2
                · subst h2; exact HNH.out
                · exact HR.out.1 (by omega), fun h => by
                have : L = 1 := by omega
                subst this; exact HNH.out, HJ.out.2.drewN _⟩
            case measure => simp [intOf]; omega
        · have hg1 : (j : Int) + 11 ≤ 23 := by omega
          have hg2 : (p : Int) + (L : Int) ≤ s.size := by omega
          have HSG := Lib.hid (sg_bin h13)
          obtain ⟨OT, hOT⟩ : ∃ OT : ByteArray, (⟨(tabAt j).2.1.toArray⟩ : ByteArray) = OT := ⟨_, rfl⟩
          obtain ⟨os, hos⟩ : ∃ os, (tabAt j).2.2 = os := ⟨_, rfl⟩
          rw [hOT, hos] at HSG
          by_cases heq : OT = s.extract p (p + L)
          · go_wp2
            go_quiet (fail)
            go_wp2_with fail
            refine (HSG.out _).mono ?_
            rintro e w2 ⟨rfl, hb2⟩
            have H2 := Lib.hid ((HJ.out.2.drewN nq).to_below hb2); clear hb2 c0 c1 c2 c3 f1 f2 f3
            obtain ⟨vo, vw, ⟨c0, c1, c2, c3, f1, f2, f3⟩, hbox, ho, hw⟩ := H2.out.at_
            clear hbox ho hw
            have hop := HHIT.out L j HLL.out hpl h13 (by
              have e := hOT.trans (heq.trans (cut_ext s p L))
              have e2 := congrArg (fun b : ByteArray => b.data.toList) e
              exact e2)
            rw [hos] at hop
            have HOP := Lib.hid hop; clear hop
            go_wp2
            go_quiet (fail)
            by_cases h3 : os = 3
            · subst h3
              go_wp2_with fail
              refine (compared_any (by first | exact H2.out.drewN _ | exact (H2.out.drewN _).drewN _) (by omega)).mono ?_
              rintro e w3 ⟨rfl, m, rfl⟩
              cases hcm : cmpW ws
              · have HP : Hid (opM s.data.toList p cs ws = .go ⟨false, p + L, flushO 3 cs ws, ((j : Int) + 11, 3) :: flushW 3 ws⟩) := by
                  have := HOP.out
                  rw [if_neg (by rw [hcm]; simp)] at this
                  exact this
                clear hcm HOP
                go_wp2_with fail
                refine (flush_any (by first | exact H2.out.drewN _ | exact (H2.out.drewN _).drewN _) (by omega) 3).mono ?_
                rintro e w4 ⟨rfl, h4⟩
                have hsum := flush_sum 3 cs ws
                generalize flushO 3 cs ws = C at *
                generalize flushW 3 ws = V at *
                have H4 := Lib.hid h4
                obtain ⟨vo, vw, ⟨c0, c1, c2, c3, f1, f2, f3⟩, hbox, ho, hw⟩ := h4.at_
                obtain ⟨i1, hi1, hz0, hz1, hz2⟩ := info_parts Tryz.infoOpen
                have HI := Lib.hid hi1; have HZ0 := Lib.hid hz0; have HZ1 := Lib.hid hz1; have HZ2 := Lib.hid hz2
                have HON := Lib.hid (hw.alloc (.cells #[.int .i64 ((j : Int) + 11), .int .i64 3] 170))
                have HSZ : Hid (w0.heap.size ≤ (w4.alloc (.cells #[.int .i64 ((j : Int) + 11), .int .i64 3] 170)).heap.size) := by
                  have := h4.size
                  show _ ≤ _; simp; omega
                have HBX := Lib.hid hbox; have HOO := Lib.hid ho; have HWW := Lib.hid hw
                clear h4 hbox ho hw hi1 hz0 hz1 hz2
                go_wp2_with (at_builtin; refine wpList_append_lies _ rfl _ _ 131 rfl w0.heap.size 170 i1 _ 2 16 Tryz.unOpen HI.out HZ0.out HZ1.out HZ2.out rfl (by decide) vw V.length (flatW V.reverse) rfl HON.out ⟨w4.heap.size, 0, none⟩ 1 1 (waitV ((j : Int) + 11, 3)) rfl rfl (World.news_of_block (cs := #[.int .i64 ((j : Int) + 11), .int .i64 3]) (t := 170) (fr := (0, 0)) (heap_alloc_new w4 _)) (flatW_vals _) (by decide) (by unfold maxLen; omega) (by omega) HSZ.out (w4.heap.size + 1) (by simp) ?_)
                intro gg cap2 w5 hown2 hgrow2 hat2 hlt2
                have k1 := far_cell (j := 3) (u := vw) HBX.out rfl (own_ne2 HWW.out HBX.out reader_open) hgrow2
                have k2 := far_out (j := 3) HBX.out (own_ne2 HWW.out HBX.out reader_open) hgrow2
                have HM6 := Lib.hid (H4.out.waitNew HBX.out HOO.out HWW.out ((j : Int) + 11, 3) ((Below.refl _ _).alloc (Nat.le_refl _) _) hown2 hgrow2)
                have d1 := far_cell (j := 1) (u := .int .i64 p) HBX.out rfl (own_ne2 HWW.out HBX.out reader_open) hgrow2
                have d2 := far_out (j := 1) HBX.out (own_ne2 HWW.out HBX.out reader_open) hgrow2
                clear hown2 hgrow2 hat2 hlt2 HBX HOO HWW HON HSZ H4 c0 c1 c2 c3 f1 f2 f3
                go_wp2
                generalize w5.setCell ⟨g, 3, none⟩ (.slice (some ⟨gg, 0, none⟩) (V.length + 1) cap2) = W at HM6 ⊢
                go_ret2
                rw [HP.out]
                exact ⟨rfl, HM6.out.setAt (p' := p + L) ((p : Int) + (L : Int)) (by omega)⟩
              · have HP : Hid (opM s.data.toList p cs ws = .bad p) := by
                  have := HOP.out
                  rw [if_pos (show True ∧ cmpW ws = true from ⟨trivial, hcm⟩)] at this
                  exact this
                clear hcm HOP
                go_wp2
                go_ret2
                rw [HP.out]
                exact ⟨rfl, by first | exact (H2.out.drewN _).below | exact ((H2.out.drewN _).drewN _).below⟩
            · have h3' : (os == 3) = false := beq_eq_false_iff_ne.2 h3
              have HP : Hid (opM s.data.toList p cs ws = .go ⟨false, p + L, flushO os cs ws, ((j : Int) + 11, os) :: flushW os ws⟩) := by
                have := HOP.out
                rw [if_neg (fun e => h3 e.1)] at this
                exact this
              clear h3 HOP
              go_wp2_with fail
              refine (flush_any (by first | exact H2.out.drewN _ | exact (H2.out.drewN _).drewN _) (by omega) os).mono ?_
              rintro e w4 ⟨rfl, h4⟩
              have hsum := flush_sum os cs ws
              generalize flushO os cs ws = C at *
              generalize flushW os ws = V at *
              have H4 := Lib.hid h4
              obtain ⟨vo, vw, ⟨c0, c1, c2, c3, f1, f2, f3⟩, hbox, ho, hw⟩ := h4.at_
              obtain ⟨i1, hi1, hz0, hz1, hz2⟩ := info_parts Tryz.infoOpen
              have HI := Lib.hid hi1; have HZ0 := Lib.hid hz0; have HZ1 := Lib.hid hz1; have HZ2 := Lib.hid hz2
              have HON := Lib.hid (hw.alloc (.cells #[.int .i64 ((j : Int) + 11), .int .i64 os] 170))
              have HSZ : Hid (w0.heap.size ≤ (w4.alloc (.cells #[.int .i64 ((j : Int) + 11), .int .i64 os] 170)).heap.size) := by
                have := h4.size
                show _ ≤ _; simp; omega
              have HBX := Lib.hid hbox; have HOO := Lib.hid ho; have HWW := Lib.hid hw
              clear h4 hbox ho hw hi1 hz0 hz1 hz2
              go_wp2_with (at_builtin; refine wpList_append_lies _ rfl _ _ 131 rfl w0.heap.size 170 i1 _ 2 16 Tryz.unOpen HI.out HZ0.out HZ1.out HZ2.out rfl (by decide) vw V.length (flatW V.reverse) rfl HON.out ⟨w4.heap.size, 0, none⟩ 1 1 (waitV ((j : Int) + 11, os)) rfl rfl (World.news_of_block (cs := #[.int .i64 ((j : Int) + 11), .int .i64 os]) (t := 170) (fr := (0, 0)) (heap_alloc_new w4 _)) (flatW_vals _) (by decide) (by unfold maxLen; omega) (by omega) HSZ.out (w4.heap.size + 1) (by simp) ?_)
              intro gg cap2 w5 hown2 hgrow2 hat2 hlt2
              have k1 := far_cell (j := 3) (u := vw) HBX.out rfl (own_ne2 HWW.out HBX.out reader_open) hgrow2
              have k2 := far_out (j := 3) HBX.out (own_ne2 HWW.out HBX.out reader_open) hgrow2
              have HM6 := Lib.hid (H4.out.waitNew HBX.out HOO.out HWW.out ((j : Int) + 11, os) ((Below.refl _ _).alloc (Nat.le_refl _) _) hown2 hgrow2)
              have d1 := far_cell (j := 1) (u := .int .i64 p) HBX.out rfl (own_ne2 HWW.out HBX.out reader_open) hgrow2
              have d2 := far_out (j := 1) HBX.out (own_ne2 HWW.out HBX.out reader_open) hgrow2
              clear hown2 hgrow2 hat2 hlt2 HBX HOO HWW HON HSZ H4 c0 c1 c2 c3 f1 f2 f3
              go_wp2
              generalize w5.setCell ⟨g, 3, none⟩ (.slice (some ⟨gg, 0, none⟩) (V.length + 1) cap2) = W at HM6 ⊢
              go_ret2
              rw [HP.out]
              exact ⟨rfl, HM6.out.setAt (p' := p + L) ((p : Int) + (L : Int)) (by omega)⟩
          · have HNEW : Hid (p + L ≤ s.size → ∀ i, i < j + 1 → (tabAt i).2.1 ≠ cutB s p L) := by
              intro _ i hi
              by_cases hij : i = j
              · subst hij
                intro e
                exact heq (by rw [← hOT, e, cut_ext])
              · exact HJ.out.1 hpl i (by omega)
            have hT : (OT.toList == (s.extract p (p + L)).toList) = false := by
              refine beq_eq_false_iff_ne.2 (fun e => heq ?_)
              rw [Lib.toList_data, Lib.toList_data] at e
              exact ByteArray.ext (Array.toList_inj.1 e)
            go_wp2
            go_quiet (fail)
            go_wp2_with fail
            refine (HSG.out _).mono ?_
            rintro e w2 ⟨rfl, hb2⟩
            have H2 := Lib.hid ((HJ.out.2.drewN nq).to_below hb2); clear hb2 c0 c1 c2 c3 f1 f2 f3
            obtain ⟨vo, vw, ⟨c0, c1, c2, c3, f1, f2, f3⟩, hbox, ho, hw⟩ := H2.out.at_
            clear hbox ho hw
            go_wp2
            go_quiet (fail)
            go_wp2
            go_roundw
            case rel => exact ⟨rfl, rfl, j + 1, by omega, by congr 1, HNEW.out, by first | exact H2.out.drewN _ | exact (H2.out.drewN _).drewN _⟩
            case measure => simp [intOf]; omega
end
end Go.Proofs.YtjgfkmakfdepcaaGreatDoor
