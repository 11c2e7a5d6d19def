/- strings.IndexRune at runes beyond ASCII, strings.IndexAny at every short string: for the two signs + and -. -/
import Derived.Test.YtimcecbnnohneaaDoorProg
import Derived.Test.YtimcecbnnohneaaDoorShelf
import Derived.WalkKit
import Derived.WalkSpells
import Derived.WalkLawsBesides
import Derived.Lib.Hide
import Derived.Lib.OthersKept
import Derived.Lib.RuneCount
import Derived.Deep.LoopGhost
import Derived.Deep.QuietTactic
import Derived.BigQuiet
namespace Go.Proofs.YtimcecbnnohneaaDoor
open Go.RowKit

/-- a callee that leaves the world, met in a region behind which other draws lie already -/
theorem quietBehind {P : Program} {g : FuncId} {xs : Array Value} {W : World} {i j : Nat} {v : Value}
    (c : Calls P g xs (W.drewN (i + j)) fun e w' => e = .returned v ∧ w' = W.drewN (i + j)) :
    Calls P g xs (W.drewN (i + j)) fun e w' => e = .returned v ∧ ∃ m, w' = W.drewN (i + m) := by
  refine c.mono ?_
  rintro e w' ⟨h1, h2⟩
  exact ⟨h1, j, h2⟩

theorem enc_cases (r : Int) (h : 128 ≤ r) :
    (∃ x y : UInt8, Utf8.encode r = ⟨#[x, y]⟩ ∧ 128 ≤ y.toNat) ∨ (∃ x y z : UInt8, Utf8.encode r = ⟨#[x, y, z]⟩) ∨ (∃ x y z u : UInt8, Utf8.encode r = ⟨#[x, y, z, u]⟩) := by
  unfold Utf8.encode
  obtain ⟨c, hc, hce⟩ : ∃ c, 128 ≤ c ∧ c = (if Utf8.valid r then r.toNat else Utf8.runeError) := by
    refine ⟨_, ?_, rfl⟩
    split
    · omega
    · decide
  simp only [← hce]
  rw [if_neg (by omega)]
  split
  · refine Or.inl ⟨_, _, rfl, ?_⟩
    rw [UInt8.toNat_ofNat', Nat.mod_eq_of_lt (show 128 + c % 64 < 256 by omega)]
    omega
  · split
    · exact Or.inr (Or.inl ⟨_, _, _, rfl⟩)
    · exact Or.inr (Or.inr ⟨_, _, _, _, rfl⟩)

theorem indexByte_nil (t : ByteArray) (c : Int) (w : World) (h : t.data.toList = []) :
    Calls Tryd.prog 35 #[.string t, .int .u8 c] w fun e w' => e = .returned (.int .i64 (-1)) ∧ w' = w := by
  refine (Tryd.strings_IndexByte t c w).mono ?_
  rintro e w' ⟨rfl, hw⟩
  rw [h]
  exact ⟨rfl, hw⟩

set_option maxRecDepth 100000 in
theorem indexRune_far (r : Int) (w : World) (h0 : 128 ≤ r) :
    Calls Tryd.prog 25 #[.string ⟨#[43, 45]⟩, .int .i32 r] w fun e w' => e = .returned (.int .i64 (-1)) ∧ Below w.heap.size w w' := by
  have hlt : ¬ r < 128 := by omega
  by_cases he : r = 65533
  · subst he
    have n0 : ∀ ty, (Instr.next (.pointer (some ⟨w.heap.size, 0, none⟩)) true ty).run Tryd.prog (w.iter ⟨#[43, 45]⟩ 0) = .ok (.tuple #[.bool true, .int .i64 0, .int .i32 43]) (w.iter ⟨#[43, 45]⟩ 1) := fun ty => run_next_ascii w ⟨#[43, 45]⟩ 0 ty (by decide) (by decide)
    have n1 : ∀ ty, (Instr.next (.pointer (some ⟨w.heap.size, 0, none⟩)) true ty).run Tryd.prog (w.iter ⟨#[43, 45]⟩ 1) = .ok (.tuple #[.bool true, .int .i64 1, .int .i32 45]) (w.iter ⟨#[43, 45]⟩ 2) := fun ty => run_next_ascii w ⟨#[43, 45]⟩ 1 ty (by decide) (by decide)
    have n2 : ∀ ty, (Instr.next (.pointer (some ⟨w.heap.size, 0, none⟩)) true ty).run Tryd.prog (w.iter ⟨#[43, 45]⟩ 2) = .ok (.tuple #[.bool false]) (w.iter ⟨#[43, 45]⟩ 2) := fun ty => run_next_end w ⟨#[43, 45]⟩ 2 ty (by decide)
    go_enter Tryd.func25, Tryd.ntmps25
    go_wp2
    refine wp_loop_rounds 3 ?_
    rw [rounds_succ]
    go_wp2
    rw [rounds_succ]
    go_wp2
    rw [rounds_succ]
    go_wp2
    go_ret
    exact ⟨rfl, (Below.refl _ _).alloc (Nat.le_refl _) _⟩
  · have he' : (r == 65533) = false := beq_eq_false_iff_ne.2 he
    cases hv : Lib.validRune r
    · go_enter Tryd.func25, Tryd.ntmps25
      go_wp2_with (go_at_call 36; refine (Tryd.utf8_ValidRune _ _).mono ?_; rintro e w' ⟨rfl, rfl⟩)
      go_ret
      exact ⟨rfl, Below.refl _ _⟩
    · rcases enc_cases r h0 with ⟨x, y, hen, hy⟩ | ⟨x, y, z, hen⟩ | ⟨x, y, z, u, hen⟩
      · have hyn : (((((⟨#[43, 45]⟩ : ByteArray)[1]'(by decide)).toNat : Nat) : Int) != ((((⟨#[x, y]⟩ : ByteArray)[1]'(Nat.lt_succ_self 1)).toNat : Nat) : Int)) = true := by
          show ((45 : Int) != (y.toNat : Int)) = true
          rw [bne_iff_ne]; omega
        go_enter Tryd.func25, Tryd.ntmps25
        go_wp2_with (go_at_call 36; refine (Tryd.utf8_ValidRune _ _).mono ?_; rintro e w' ⟨rfl, rfl⟩)
        go_step3
        go_wp2
        refine wp_loop_rounds 1 ?_
        rw [rounds_succ]
        go_wp2
        go_step3
        go_wp2
        go_quiet (fail)
        go_wp2
        go_quiet ((go_at_call 35; exact quietBehind (indexByte_nil _ _ _ (by decide))))
        go_wp2
        rw [Exit.noGoto_ret]
        go_wp2
        rw [Exit.noGoto_ret]
        go_ret
        exact ⟨rfl, below_drewN (Below.refl _ _) _⟩
      all_goals
        go_enter Tryd.func25, Tryd.ntmps25
        go_wp2_with (go_at_call 36; refine (Tryd.utf8_ValidRune _ _).mono ?_; rintro e w' ⟨rfl, rfl⟩)
        go_step3
        go_wp2
        refine wp_loop_rounds 1 ?_
        rw [rounds_succ]
        go_wp2
        rw [Exit.noGoto_ret]
        go_ret
        exact ⟨rfl, Below.refl _ _⟩

/-- what an index comes to, whichever it is -/
def SomeIx (n : Nat) (w : World) (e : Ending) (w' : World) : Prop := ∃ k : Int, -1 ≤ k ∧ k < n ∧ e = .returned (.int .i64 k) ∧ Below w.heap.size w w'

set_option maxRecDepth 100000 in
set_option maxHeartbeats 400000 in
theorem indexAny_any (s : ByteArray) (w : World) (h8 : s.size ≤ 8) :
    Calls Tryd.prog 16 #[.string s, .string ⟨#[43, 45]⟩] w (SomeIx s.size w) := by
  have h8z : decide ((8 : Int) < (s.size : Int)) = false := decide_eq_false (by omega)
  go_enter Tryd.func16, Tryd.ntmps16
  go_wp2_with (go_at_call 26; refine (Tryd.strings_shouldUseASCIISet _ _).mono ?_; rintro e w' ⟨rfl, hw⟩; rw [hw, h8z])
  go_loopg [9, 10] s.size (fun g _ _ wr => ∃ pos : Nat, s.size ≤ pos + g ∧ wr.heap[w.heap.size]? = some (.stringIter s pos) ∧ Below w.heap.size w wr)
  case atStart => exact ⟨0, by omega, World.iter_heap w s 0, (Below.refl _ _).alloc (Nat.le_refl _) _⟩
  case round =>
    obtain ⟨pos, hpg, hk, hb⟩ := hrel
    have HK := Lib.hid hk; clear hk
    have HB := Lib.hid hb; clear hb
    by_cases hlt : pos < s.size
    · have hwp := Lib.decode_width_pos s pos hlt
      have hnx := fun ty => Lib.run_next_any_at (P := Tryd.prog) wr w.heap.size s pos ty HK.out hlt
      generalize Utf8.decode s pos = d at *
      have hk2 : (wr.iterAt w.heap.size s (pos + d.2)).heap[w.heap.size]? = some (.stringIter s (pos + d.2)) := Lib.iterAt_heap wr _ s pos _ HK.out
      have hb2 : Below w.heap.size w (wr.iterAt w.heap.size s (pos + d.2)) := Lib.below_iterAt HB.out (Nat.le_refl _) _ _
      have HK2 := Lib.hid hk2; clear hk2
      have HB2 := Lib.hid hb2; clear hb2
      generalize wr.iterAt w.heap.size s (pos + d.2) = w2 at *
      obtain ⟨r, wd⟩ := d
      simp only at *
      by_cases h128 : (r : Int) < 128
      · by_cases hin : (0 : Int) ≤ Lib.indexByte [43, 45] (UInt8.ofNat r)
        · go_wp2_with (go_at_call 25; refine (Tryd.strings_IndexRune_ascii _ _ _ (by omega) h128).mono ?_; rintro e w' ⟨rfl, rfl⟩)
          go_ret
          exact ⟨pos, by omega, by omega, rfl, HB2.out⟩
        · go_wp2_with (go_at_call 25; refine (Tryd.strings_IndexRune_ascii _ _ _ (by omega) h128).mono ?_; rintro e w' ⟨rfl, rfl⟩)
          go_roundg (gk - 1)
          case measure => omega
          case rel => exact ⟨pos + wd, by omega, HK2.out, HB2.out⟩
      · have hsz : w.heap.size < w2.heap.size := (Array.getElem?_eq_some_iff.1 HK2.out).1
        go_wp2_with (go_at_call 25; refine (indexRune_far _ _ (by omega)).mono ?_; rintro e w' ⟨rfl, hb3⟩)
        go_roundg (gk - 1)
        case measure => omega
        case rel => exact ⟨pos + wd, by omega, (hb3.block _ hsz).trans HK2.out, HB2.out.trans (hb3.mono (by omega))⟩
    · have hnx := fun ty => Lib.run_next_end_at (P := Tryd.prog) wr w.heap.size s pos ty HK.out hlt
      go_wp2
      go_ret
      exact ⟨-1, by omega, by omega, rfl, HB.out⟩
end Go.Proofs.YtimcecbnnohneaaDoor
