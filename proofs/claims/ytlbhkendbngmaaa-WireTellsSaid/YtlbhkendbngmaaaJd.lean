/- Layer 16: the writer: a number of eight bytes, a place, an event. -/
import Derived.Test.YtlbhkendbngmaaaJc
import Derived.Deep.RegionLaw
import Derived.RegionTactic
namespace Go.Proofs.Ytlbhkendbngmaaa.Wi
open Go.RowKit
set_option maxRecDepth 100000

theorem leN_snoc : ∀ q n : Nat, leN (q + 1) n = leN q n ++ [UInt8.ofNat (n / 256 ^ q % 256)]
  | 0, n => by show [UInt8.ofNat (n % 256)] = [UInt8.ofNat (n / 1 % 256)]; rw [Nat.div_one]
  | q + 1, n => by
    show UInt8.ofNat (n % 256) :: leN (q + 1) (n / 256) = UInt8.ofNat (n % 256) :: (leN q (n / 256) ++ _)
    rw [leN_snoc q (n / 256), Nat.div_div_eq_div_mul, Nat.pow_succ, Nat.mul_comm]
set_option maxHeartbeats 4000000 in
theorem eight_any {w0 w : World} {g : Nat} {L : Bytes} {b : Bool} (h : WW w0 g L b w) (n : Nat) (hL : L.length ≤ 1000000) :
    Calls Try.prog 34 #[wp_ g, .int .u64 n] w fun e w' => e = .returned (.tuple #[]) ∧ WW w0 g (L ++ leN 8 n) b w' ∧ KeptU g w w' := by
  obtain ⟨i0, hi0, hz0, hz1, hz2⟩ := info_parts Try.infoByte
  have HI := Lib.hid hi0; have HZ0 := Lib.hid hz0; have HZ1 := Lib.hid hz1; have HZ2 := Lib.hid hz2
  clear hi0 hz0 hz1 hz2
  have H0 : Hid (WW w0 g (L ++ leN 0 n) b w ∧ KeptU g w w) := ⟨by rw [show leN 0 n = [] from rfl, List.append_nil]; exact h, KeptU.refl _ _⟩
  unfold wp_
  clear h
  go_enter Try.func34, Try.ntmps34
  go_wp2
  go_loopw [4, 5] (fun _ x5 wr => ∃ q : Nat, q ≤ 8 ∧ x5 = .int .i64 q ∧ Hid (WW w0 g (L ++ leN q n) b wr ∧ KeptU g w wr)) (fun _ x _ => 8 - (intOf x).toNat)
  case atStart => exact ⟨0, by omega, rfl, H0⟩
  case round =>
    clear H0
    obtain ⟨q, hq, rfl, HH⟩ := hrel
    obtain ⟨W, hW⟩ : ∃ W, W = wr := ⟨_, rfl⟩
    subst hW
    by_cases hq8 : q < 8
    · have hq9 : (q : Int) < 8 := by omega
      have hm : IntKind.i64.wrap (8 * (q : Int)) = ((8 * q : Nat) : Int) := by rw [IntWalk.i64_in _ (by omega)]; omega
      obtain ⟨B, hB⟩ : ∃ B, B = UInt8.ofNat (n / 256 ^ q % 256) := ⟨_, rfl⟩
      have hsh : (n : Int) / 2 ^ (8 * q) % 256 = (B.toNat : Int) := by
        rw [hB, UInt8.toNat_ofNat', Int.pow_mul]
        have : ((n / 256 ^ q % 256 % 2 ^ 8 : Nat) : Int) = ((n / 256 ^ q % 256 : Nat) : Int) := by omega
        rw [this]
        push_cast
        rfl
      have hsh2 : IntKind.u8.wrap ((n : Int) / 2 ^ (8 * (q : Int)).toNat) = (B.toNat : Int) := by
        rw [show (8 * (q : Int)).toNat = 8 * q by omega, ← hsh]; simp [IntKind.wrap, IntKind.bits, IntKind.signed]
      have hle := leN_snoc q n
      rw [← hB] at hle
      have HLE := Lib.hid hle
      have hll : (L ++ leN q n).length ≤ 1000008 := by rw [List.length_append, leN_len]; omega
      obtain ⟨Z, hZ⟩ : ∃ Z, Z = L ++ leN q n := ⟨_, rfl⟩
      rw [← hZ] at hll HH
      have HZ := Lib.hid hZ
      clear hB hle hZ
      obtain ⟨h, hk⟩ := HH.out
      obtain ⟨v, ⟨c0, c1, f0, f1⟩, hbox, hown⟩ := h.at_
      have hgl := h.lt
      have hWs := h.size
      have HNE := Lib.hid (own_off hown hbox (by decide))
      have H := Lib.hid h; have HK := Lib.hid hk; have HBX := Lib.hid hbox; have HOWN := Lib.hid hown
      have kf : (W.alloc (Obj.cells #[.int .u8 (B.toNat : Int)] 5)).drew.frozen? ⟨g, 0, none⟩ = false := (World.frozen?_alloc_past _ g 0 hgl).trans f0
      have kc : (W.alloc (Obj.cells #[.int .u8 (B.toNat : Int)] 5)).drew.cell? ⟨g, 0, none⟩ = some v := (World.cell?_alloc_lt W _ _ hgl).trans c0
      have KC := Lib.hid kc; have KF := Lib.hid kf
      clear kc kf h hk hbox hown HH c1 f1
      go_wp2
      go_region_law ((refine step_append_lies _ (by rfl) _ _ _ (by rfl) w0.heap.size 5 i0 _ 1 1 Try.underlying53 HI.out HZ0.out HZ1.out HZ2.out rfl (by omega) v Z.length (byteV Z) (by rfl) ((HOWN.out.alloc _).drew) ⟨W.heap.size, 0, none⟩ 1 1 (byteV [B]) (by rfl) (by rfl) (World.news_of_block (cs := #[.int .u8 (B.toNat : Int)]) (t := 5) (fr := (0, 0)) (heap_alloc_new W _)) (by intro u hu; simp [byteV] at hu; subst hu; rfl) (by omega) (by unfold maxLen; omega) (by omega) (by simp; omega) (W.heap.size + 1) (by simp) ?_
                      intro gg cap w1 hown1 hgrow hat hlt
                      have k2 := (hgrow.cell_far ⟨g, 0, none⟩ (by simp; omega) (Ne.symm HNE.out)).trans KC.out
                      have kf2 := (hgrow.frozen_far ⟨g, 0, none⟩ (by simp; omega) (Ne.symm HNE.out)).trans KF.out))
      all_goals
        have HN : Hid (WW w0 g (L ++ leN (q + 1) n) b (w1.setCell ⟨g, 0, none⟩ (.slice (some ⟨gg, 0, none⟩) (Z.length + 1) cap)) ∧ KeptU g w (w1.setCell ⟨g, 0, none⟩ (.slice (some ⟨gg, 0, none⟩) (Z.length + 1) cap))) := by
          obtain ⟨_, _, h5, h6⟩ := H.out.more (M := [B]) HBX.out HOWN.out (w1 := (W.alloc (Obj.cells #[.int .u8 (B.toNat : Int)] 5)).drew) ((Below.refl _ _).alloc (Nat.le_refl _) _).drew (by simpa [byteV_append] using hown1) hgrow
          refine ⟨?_, HK.out.trans h6⟩
          rw [HLE.out, ← List.append_assoc, ← HZ.out]
          exact h5
        clear hown1 hgrow hat hlt k2 kf2
        go_wp2
        go_roundw
        case rel => exact ⟨q + 1, by omega, by go_num, HN⟩
        case measure => simp [intOf]; omega
    · obtain rfl : 8 = q := by omega
      go_wp2
      go_end0
      exact ⟨rfl, HH.out⟩
theorem place_any {w0 w : World} {g : Nat} {L : Bytes} {b : Bool} (h : WW w0 g L b w) (n : Int) (hL : L.length ≤ 1000000) :
    Calls Try.prog 61 #[wp_ g, .int .i64 n] w fun e w' => e = .returned (.tuple #[]) ∧ WW w0 g (L ++ [lowB n]) (b || (decide (n < 0) || decide (63 < n))) w' ∧ KeptU g w w' := by
  have HS := Lib.hid (small_any h n 0 63 hL)
  unfold wp_ at *
  clear h
  go_enter Try.func61, Try.ntmps61
  go_wp2_with fail
  refine HS.out.mono ?_
  rintro e w1 ⟨rfl, h1⟩
  have H1 := Lib.hid h1
  clear h1
  go_wp2
  go_end0
  exact ⟨rfl, H1.out⟩
set_option maxHeartbeats 2000000 in
theorem event_any {w0 w : World} {g : Nat} {L : Bytes} {b : Bool} (h : WW w0 g L b w) (s : ByteArray) (hs : s.size ≤ 4611686018427387904) (hL : L.length ≤ 900000) :
    Calls Try.prog 41 #[wp_ g, .string s] w fun e w' => e = .returned (.tuple #[]) ∧ KeptU g w w' ∧ ((b || decide (20 < s.size)) = true → WW w0 g (L ++ [lowB s.size]) true w') ∧ ((b || decide (20 < s.size)) = false → WW w0 g (L ++ lowB s.size :: s.data.toList) false w') := by
  obtain ⟨i0, hi0, hz0, hz1, hz2⟩ := info_parts Try.infoByte
  have HI := Lib.hid hi0; have HZ0 := Lib.hid hz0; have HZ1 := Lib.hid hz1; have HZ2 := Lib.hid hz2
  clear hi0 hz0 hz1 hz2
  have hx := small_any h (s.size : Int) 0 20 (by omega)
  rw [show (b || (decide ((s.size : Int) < 0) || decide ((20 : Int) < s.size))) = (b || decide (20 < s.size)) by
    rw [decide_eq_false (show ¬ (s.size : Int) < 0 by omega), Bool.false_or]
    by_cases h : 20 < s.size
    · rw [decide_eq_true h, decide_eq_true (show (20 : Int) < s.size by omega)]
    · rw [decide_eq_false h, decide_eq_false (show ¬ (20 : Int) < s.size by omega)]] at hx
  have HX := Lib.hid hx
  have hle := h.size
  obtain ⟨d, hd⟩ : ∃ d, (b || decide (20 < s.size)) = d := ⟨_, rfl⟩
  have h20 : d = false → s.size ≤ 20 := fun e => by
    rw [e] at hd
    simp at hd
    omega
  have H20 := Lib.hid h20
  rw [hd] at HX ⊢
  clear hx hd h h20
  unfold wp_ at *
  cases d
  · have h20 := H20.out rfl
    clear H20
    go_enter Try.func41, Try.ntmps41
    go_wp2_with fail
    refine HX.out.mono ?_
    rintro e w1 ⟨rfl, h1, hk1⟩
    obtain ⟨v, ⟨d0, d1, e0, e1⟩, hbox, ho⟩ := h1.at_
    obtain ⟨A, c, rfl⟩ := own_form ho
    have hsz := h1.size
    have hll : (L ++ [lowB s.size]).length ≤ 900001 := by rw [List.length_append]; simp; omega
    have H1 := Lib.hid h1; have HB := Lib.hid hbox; have HO := Lib.hid ho; have HK1 := Lib.hid hk1
    have HA : Hid ((L ++ [lowB s.size]) ++ s.data.toList = L ++ lowB s.size :: s.data.toList) := by show _ = _; rw [List.append_assoc]; rfl
    generalize L ++ [lowB s.size] = Z at *
    clear h1 hbox ho hk1 HX
    go_wp2_with (at_builtin; refine Lib.wpList_append_own_string _ rfl _ _ 53 9 rfl w0.heap.size 5 i0 Try.underlying53 Try.underlying9 HI.out HZ0.out HZ1.out HZ2.out _ _ _ rfl HO.out s rfl (by unfold maxLen; omega) (by omega) (by omega) ?_)
    intro v' w2 hown hg _
    obtain ⟨A', c', rfl⟩ := own_form hown
    have hss : s.data.toList.length = s.size := (Lib.size_eq s).symm
    obtain ⟨k0, k1, hh⟩ := H1.out.more (M := s.data.toList) HB.out HO.out (Below.refl _ _) (by rw [byteV_append, List.length_append, hss]; exact hown) hg
    rw [HA.out] at hh
    have HH := Lib.hid hh
    clear hown hg hh hss
    go_wp2
    go_end0
    exact ⟨rfl, HK1.out.trans HH.out.2, (fun e => by cases e), fun _ => HH.out.1⟩
  · go_enter Try.func41, Try.ntmps41
    go_wp2_with fail
    refine HX.out.mono ?_
    rintro e w1 ⟨rfl, h1, hk1⟩
    obtain ⟨v, ⟨d0, d1, e0, e1⟩, hbox, ho⟩ := h1.at_
    have H1 := Lib.hid h1; have HK1 := Lib.hid hk1
    clear h1 hbox ho hk1 HX
    go_wp2
    go_end0
    exact ⟨rfl, HK1.out, fun _ => H1.out, fun e => by cases e⟩
end Go.Proofs.Ytlbhkendbngmaaa.Wi
