/- Layer 17: All. -/
import Derived.Test.YtlblkakjbjmciaaIc
namespace Go.Proofs.Ytlblkakjbjmciaa.Bg
open Go.RowKit Go.Proofs.Ytlblkakjbjmciaa.Wi
set_option maxRecDepth 100000

def txtV (L : Bag) : List Value := L.map fun p => bS p.1
theorem txtV_take (L : Bag) {j : Nat} (h : j < L.length) : txtV (L.take (j + 1)) = txtV (L.take j) ++ [bS (L[j]).1] := by
  unfold txtV
  rw [List.take_succ_eq_append_getElem h, List.map_append]
  rfl
theorem Try.infoStr : (Try.prog.info? 9).map (fun i => (i.zero, i.size, i.bytes)) = some (some (.string ⟨#[]⟩), 1, 16) := by kernel_rfl
theorem one_val (w : World) (v : Value) (t : TypeId) : ∀ j u, [v][j]? = some u → (w.alloc (.cells #[v] t)).cell? ((⟨w.heap.size, 0, none⟩ : Addr).add j) = some u := by
  intro j u h
  obtain rfl : j = 0 := by
    rcases j with _ | j
    · rfl
    · simp at h
  simp at h
  subst h
  simp [Addr.add]
set_option maxHeartbeats 2000000 in
theorem all_any {K : Nat} {L : Bag} {w : World} (h : BagAt K L w) (hs : ∀ p ∈ L, p.1.length ≤ 281474976710656) :
    Calls Try.prog 11 #[bp K] w fun e w' => ∃ v, e = .returned v ∧ w'.ownsRow w.heap.size 9 1 v L.length (txtV L) ∧ Below w.heap.size w w' := by
  obtain ⟨i0, hi0, hz0, hz1, hz2⟩ := info_parts Try.infoStr
  have HI := Lib.hid hi0; have HZ0 := Lib.hid hz0; have HZ1 := Lib.hid hz1; have HZ2 := Lib.hid hz2
  clear hi0 hz0 hz1 hz2
  have HLen := Lib.hid (len_any h)
  have H := Lib.hid h
  have HS := Lib.hid hs
  obtain ⟨n, hn⟩ : ∃ n, n = L.length := ⟨_, rfl⟩
  have hn16 : n ≤ 16 := by rw [hn]; exact h.le
  have HN := Lib.hid hn
  rw [← hn] at HLen
  rw [← hn]
  clear hn h hs
  unfold bp at *
  go_enter Try.func11, Try.ntmps11
  go_wp2_with fail
  refine HLen.out.mono ?_
  rintro e w1 ⟨rfl, rfl⟩
  clear HLen
  go_wp2
  go_loopw [3, 7] (fun x3 x7 wr => ∃ j : Nat, j ≤ n ∧ x7 = .int .i64 j ∧ Hid (wr.ownsRow w.heap.size 9 1 x3 j (txtV (L.take j)) ∧ Below w.heap.size w wr)) (fun _ x _ => n - (intOf x).toNat)
  case atStart => exact ⟨0, by omega, rfl, Lib.hid ⟨World.ownsRow_nil _ _ _ _, Below.refl _ _⟩⟩
  case round =>
    obtain ⟨j, hj, rfl, HH⟩ := hrel
    obtain ⟨W, hW⟩ : ∃ W, W = wr := ⟨_, rfl⟩
    subst hW
    by_cases hlt : j < n
    · have hjl : j < L.length := by rw [← HN.out]; exact hlt
      obtain ⟨ho, hb⟩ := HH.out
      obtain ⟨S, hS, hSl, hSz⟩ := bS_eq (L[j]).1
      have hsz := HS.out L[j] (List.getElem_mem hjl)
      have hbx : Box K (fn L) L.length W := H.out.box.below hb
      have c0 : W.cell? ⟨K, j * 2, none⟩ = some (.string S) := by rw [hbx.txt j (by omega), fn_at hjl, hS]
      have hT := txtV_take L hjl
      rw [hS] at hT
      obtain ⟨A, c, rfl⟩ := own_shape ho
      have HC := Lib.hid (clone_any S W (by omega))
      have HO := Lib.hid ho; have HB := Lib.hid hb; have HT := Lib.hid hT
      have hjw : IntKind.i64.wrap (j : Int) = (j : Int) := IntWalk.i64_in _ (by omega)
      clear ho hb hbx hT hS hSl hSz hsz HH hjl
      go_wp2_with fail
      refine HC.out.mono ?_
      rintro e w1 ⟨rfl, hb1⟩
      have HO1 := Lib.hid (own_later HO.out hb1)
      have HB1 := Lib.hid (HB.out.trans (hb1.mono HB.out.size))
      have hz1 : w.heap.size ≤ w1.heap.size := HB1.out.size
      clear hb1 HO HB HC
      go_wp2_with (at_builtin; refine wpList_append_own _ rfl _ _ 27 rfl w.heap.size 9 i0 _ 1 16 Try.underlying27 HI.out HZ0.out HZ1.out HZ2.out rfl (by decide) _ j (txtV (L.take j)) rfl (HO1.out.alloc _) ⟨w1.heap.size, 0, none⟩ 1 1 [.string S] rfl rfl (one_val w1 (.string S) _) (by intro u hu; simp at hu; subst hu; rfl) (by unfold maxLen; omega) (by omega) (by simp; omega) ?_)
      intro v' w2 hown hg _
      have HO2 := Lib.hid hown
      have HB2 : Hid (Below w.heap.size w w2) := (HB1.out.alloc HB1.out.size _).grown hg (by have := HB1.out.size; simp; omega) (row_block HO1.out)
      clear hown hg HO1 HB1
      go_wp2
      go_roundw
      case rel => exact ⟨j + 1, by omega, by go_num, Lib.hid ⟨by rw [HT.out]; exact HO2.out, HB2.out⟩⟩
      case measure => simp [intOf]; omega
    · obtain rfl : n = j := by omega
      have hT : txtV (L.take n) = txtV L := by rw [List.take_of_length_le (by rw [HN.out]; exact Nat.le_refl _)]
      have HT := Lib.hid hT
      clear hT
      go_wp2
      go_ret
      have := HH.out
      rw [HT.out] at this
      exact ⟨_, rfl, this⟩
end Go.Proofs.Ytlblkakjbjmciaa.Bg
