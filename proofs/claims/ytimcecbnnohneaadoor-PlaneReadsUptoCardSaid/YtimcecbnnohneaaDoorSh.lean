/- strconv.FormatInt, strconv.ParseInt in worlds whose library variables hold what they held at start-up; plane.Show at points. -/
import Derived.Test.YtimcecbnnohneaaDoorIx
import Derived.Test.YtimcecbnnohneaaDoorPl
import Derived.Lib.AppendIntMem
namespace Go.Proofs.YtimcecbnnohneaaDoor
open Go.RowKit

/-- the library's table and its two errors lie where start-up laid them -/
structure Laid (w : World) : Prop where
  tab : Lib.TabIs Tryd.prog w "internal/strconv.uint64pow10" .u64 Lib.pow10Tab
  syn : ∃ tp p, w.var? Tryd.prog "strconv.ErrSyntax" = some #[.iface tp p]
  rng : ∃ tp p, w.var? Tryd.prog "strconv.ErrRange" = some #[.iface tp p]

theorem var_lt {w : World} {n : String} {g : Nat} {cs : Array Value} (hg : Tryd.prog.globalNamed n = some g) (h : w.var? Tryd.prog n = some cs) : g < w.heap.size := by
  unfold World.var? at h
  simp only [hg, Option.bind_some] at h
  rcases Nat.lt_or_ge g w.heap.size with h' | h'
  · exact h'
  · rw [Array.getElem?_eq_none h'] at h; cases h

theorem gTab : Tryd.prog.globalNamed "internal/strconv.uint64pow10" = some 3 := by kernel_rfl
theorem gSyn : Tryd.prog.globalNamed "strconv.ErrSyntax" = some 1 := by kernel_rfl
theorem gRng : Tryd.prog.globalNamed "strconv.ErrRange" = some 2 := by kernel_rfl

theorem Laid.below {w w' : World} (h : Laid w) (hb : Below w.heap.size w w') : Laid w' := by
  obtain ⟨h1, ⟨t2, p2, h2⟩, ⟨t3, p3, h3⟩⟩ := h
  exact ⟨var?_below hb gTab (var_lt gTab h1) h1, ⟨t2, p2, var?_below hb gSyn (var_lt gSyn h2) h2⟩, ⟨t3, p3, var?_below hb gRng (var_lt gRng h3) h3⟩⟩

theorem fmt_any (n : Int) (w : World) (h0 : -9223372036854775808 ≤ n) (h1 : n ≤ 9223372036854775807) (hL : Laid w) :
    Calls Tryd.prog 20 #[.int .i64 n, .int .i64 10] w fun e w' => e = .returned (.string ⟨(Lib.itoa n).toArray⟩) ∧ Below w.heap.size w w' := by
  refine (Tryd.strconv_FormatInt_10 n h0 h1 w hL.tab).mono ?_
  rintro e w' ⟨rfl, k, os, rfl⟩
  exact ⟨rfl, Lib.below_grow _ _ (Nat.le_refl _) _ _⟩

theorem bytes_join (l m : List UInt8) : (⟨l.toArray⟩ : ByteArray) ++ (⟨m.toArray⟩ : ByteArray) = ⟨(l ++ m).toArray⟩ := by
  apply ByteArray.ext
  simp

theorem show_ok (a b : Int) (w : World) (ha : inB a = true) (hb : inB b = true) (hL : Laid w) :
    Calls Tryd.prog 9 #[.complex .f64 (floatOfInt .f64 a) (floatOfInt .f64 b)] w fun e w' => e = .returned (.tuple #[.string ⟨(shw a b).toArray⟩, .int .i64 0]) ∧ Below w.heap.size w w' := by
  have ha' := inB_iff.1 ha
  have hb' := inB_iff.1 hb
  have hla := itoa_len a (by omega)
  have hlb := itoa_len b (by omega)
  have HA := Lib.hid ha; have HB := Lib.hid hb; clear ha hb
  have HL := Lib.hid hL; clear hL
  by_cases hb0 : 0 ≤ b
  · go_enter Tryd.func9, Tryd.ntmps9
    go_wp2_with (go_at_call 19; refine (parts_ok _ _ _ HA.out HB.out).mono ?_; rintro e w' ⟨rfl, rfl⟩)
    refine (fmt_any _ _ (by omega) (by omega) HL.out).mono ?_
    rintro e w1 ⟨rfl, hb1⟩
    have HB1 := Lib.hid hb1; clear hb1
    go_wp2_with fail
    refine (fmt_any _ _ (by omega) (by omega) (HL.out.below HB1.out)).mono ?_
    rintro e w2 ⟨rfl, hb2⟩
    have HB2 := Lib.hid hb2; clear hb2
    go_wp2
    go_ret2
    refine ⟨?_, HB1.out.trans (HB2.out.mono HB1.out.size)⟩
    have e1 : shw a b = (Lib.itoa a ++ [43] ++ Lib.itoa b) ++ [105] := by
      unfold shw sgn; rw [if_neg (by omega)]; simp
    rw [e1, ← bytes_join, ← bytes_join, ← bytes_join]; rfl
  · go_enter Tryd.func9, Tryd.ntmps9
    go_wp2_with (go_at_call 19; refine (parts_ok _ _ _ HA.out HB.out).mono ?_; rintro e w' ⟨rfl, rfl⟩)
    refine (fmt_any _ _ (by omega) (by omega) HL.out).mono ?_
    rintro e w1 ⟨rfl, hb1⟩
    have HB1 := Lib.hid hb1; clear hb1
    go_wp2_with fail
    refine (fmt_any _ _ (by omega) (by omega) (HL.out.below HB1.out)).mono ?_
    rintro e w2 ⟨rfl, hb2⟩
    have HB2 := Lib.hid hb2; clear hb2
    go_wp2
    go_ret2
    refine ⟨?_, HB1.out.trans (HB2.out.mono HB1.out.size)⟩
    have e1 : shw a b = (Lib.itoa a ++ Lib.itoa b) ++ [105] := by
      unfold shw sgn; rw [if_pos (by omega)]; simp
    rw [e1, ← bytes_join, ← bytes_join]; rfl

/-! ### strconv.ParseInt -/

theorem parse_ok (s : ByteArray) (v : Int) (w : World) (hs : s.size ≤ 281474976710656) (h : Lib.parseIntB 64 s.data.toList = .ok v) :
    Calls Tryd.prog 17 #[.string s, .int .i64 10, .int .i64 64] w fun e w' => e = .returned (.tuple #[.int .i64 v, .nilIface]) ∧ Below w.heap.size w w' := by
  refine (Tryd.strconv_ParseInt_10_at64_ok s (by omega) v h w).mono ?_
  rintro e w' ⟨rfl, rfl | ⟨t, rfl⟩⟩
  · exact ⟨rfl, Below.refl _ _⟩
  · exact ⟨rfl, Lib.bytesWorld_below _ _ _⟩

theorem parse_bad (s : ByteArray) (w : World) (hs : s.size ≤ 281474976710656) (hL : Laid w) (h : ∀ v, Lib.parseIntB 64 s.data.toList ≠ .ok v) :
    Calls Tryd.prog 17 #[.string s, .int .i64 10, .int .i64 64] w fun e w' => ∃ v T N, e = .returned (.tuple #[.int .i64 v, .iface T (.pointer (some ⟨N, 0, none⟩))]) ∧ Below w.heap.size w w' := by
  obtain ⟨_, ⟨t2, p2, h2⟩, ⟨t3, p3, h3⟩⟩ := hL
  rcases hp : Lib.parseIntB 64 s.data.toList with v | _ | _
  · exact absurd hp (h v)
  · refine (Any.strconv_ParseInt_10_at64_syntax_var Tryd.laysC174 s hs hp t2 p2 w h2).mono ?_
    rintro e w' ⟨N, rfl, _, _, hb⟩
    exact ⟨_, _, N, rfl, hb⟩
  · refine (Any.strconv_ParseInt_10_at64_range_var Tryd.laysC174 s hs hp t3 p3 w h3).mono ?_
    rintro e w' ⟨N, rfl, _, _, hb⟩
    exact ⟨_, _, N, rfl, hb⟩
end Go.Proofs.YtimcecbnnohneaaDoor
