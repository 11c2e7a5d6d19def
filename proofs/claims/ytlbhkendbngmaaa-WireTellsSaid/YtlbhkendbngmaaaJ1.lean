/- Layer 16: Unpack. -/
import Derived.Test.YtlbhkendbngmaaaJy
namespace Go.Proofs.Ytlbhkendbngmaaa.Wi
open Go.RowKit
set_option maxRecDepth 100000

theorem open_len (s : Bytes) : (openC s).1.length ≤ s.length := by
  unfold openC
  split
  · simp
  · split
    · simp
    · simp
set_option maxHeartbeats 1600000 in
theorem unpack_any (s : ByteArray) (w : World) (hs : s.size ≤ 140737488355328) :
    Calls Try.prog 18 #[.string s] w fun e w' => e = .returned (.tuple #[.int .i64 (unpackC s.data.toList).1.1, .int .u64 ((unpackC s.data.toList).1.2.1 : Nat), bstr (unpackC s.data.toList).1.2.2, .int .i64 (unpackC s.data.toList).2]) ∧ Below w.heap.size w w' := by
  have hmf : ∀ (fn : Fn) (first cap : Array Value) (w : World), (Instr.makeFunc fn first cap).run Try.prog w = .ok (.func fn first cap) w := fun _ _ _ _ => rfl
  have hue := unpack_eq s.data.toList
  have hol := open_len s.data.toList
  rw [← Lib.size_eq] at hol
  obtain ⟨K, hK⟩ : ∃ K, K = w.heap.size := ⟨_, rfl⟩
  obtain ⟨w1, hw1⟩ : ∃ W, W = (((w.alloc (.cells #[.int .i64 0] 3)).alloc (.cells #[.int .u64 0] 22)).alloc (.cells #[.string ⟨#[]⟩] 9)).alloc (.cells #[.int .i64 0] 28) := ⟨_, rfl⟩
  have hb1 := Box4.start w (.int .i64 0) (.int .u64 0) (.string ⟨#[]⟩) (.int .i64 0)
  rw [← hw1, ← hK] at hb1
  have hlow1 : Below w.heap.size w w1 := by
    rw [hw1]
    exact ((((Below.refl _ _).alloc (Nat.le_refl _) _).alloc (by simp) _).alloc (by simp; omega) _).alloc (by simp; omega) _
  have hs1 : w1.heap.size = K + 4 := by rw [hw1, hK]; simp
  have HO := Lib.hid (open_any s w1 hs)
  have HW1 := Lib.hid hw1; have HK := Lib.hid hK; have HB1 := Lib.hid hb1; have HLO1 := Lib.hid hlow1; have HS1 := Lib.hid hs1; have HUE := Lib.hid hue
  clear hw1 hK hb1 hlow1 hs1 hue
  obtain ⟨t, ht⟩ : ∃ t, (openC s.data.toList).1 = t := ⟨_, rfl⟩
  obtain ⟨er, her⟩ : ∃ er, (openC s.data.toList).2 = er := ⟨_, rfl⟩
  rw [ht, her] at HO HUE
  rw [ht] at hol
  clear ht her
  go_enter_defers Try.func18, Try.ntmps18
  go_upto_region 1 with fail
  rw [← HW1.out, ← HK.out]
  go_wp2_with fail
  refine HO.out.mono ?_
  rintro e w2 ⟨rfl, hb2⟩
  have hbx : Box4 K (.int .i64 0) (.int .u64 0) (.string ⟨#[]⟩) (.int .i64 0) w2 := HB1.out.keep (fun q hq => hb2.block q (by rw [HS1.out]; exact hq))
  have hlow2 : Below K w w2 := (show Below K w w1 by rw [HK.out]; exact HLO1.out).trans (hb2.mono (by rw [HS1.out]; omega))
  have hz2 : K + 4 ≤ w2.heap.size := by have := hb2.size; rw [HS1.out] at this; exact this
  have c3 := hbx.ce
  have f3 := hbx.fe
  obtain ⟨w3, hw3⟩ : ∃ W, W = w2.setCell ⟨K + 3, 0, none⟩ (.int .i64 er) := ⟨_, rfl⟩
  have hb3 := hbx.sete (.int .i64 er)
  have hlow3 : Below K w (w2.setCell ⟨K + 3, 0, none⟩ (.int .i64 er)) := low_set hlow2 (by omega) _
  rw [← hw3] at hb3 hlow3
  have hz3 : K + 4 ≤ w3.heap.size := by rw [hw3]; simpa using hz2
  have HW3 := Lib.hid hw3; have HB3 := Lib.hid hb3; have HLO3 := Lib.hid hlow3
  clear hbx hlow2 hz2 hw3 hb3 hlow3 hb2 HO
  go_upto_region 2 with fail
  rw [← HW3.out]
  clear c3 f3
  have c0 := HB3.out.ck
  have c1 := HB3.out.cn
  have c2 := HB3.out.cl
  have c3 := HB3.out.ce
  have f0 := HB3.out.fk
  have f1 := HB3.out.fn
  have f2 := HB3.out.fl
  have f3 := HB3.out.fe
  by_cases he : er = 0
  · subst he
    have hu := HUE.out.trans (if_neg (fun h => h rfl))
    have heb : ((0 : Int) == 0) = true := rfl
    obtain ⟨R, hR⟩ : ∃ R, R = w3.heap.size := ⟨_, rfl⟩
    obtain ⟨w4, hw4⟩ : ∃ W, W = w3.alloc (.cells #[bstr t] 70) := ⟨_, rfl⟩
    have hb4 : Below w3.heap.size w3 w4 := by rw [hw4]; exact (Below.refl _ _).alloc (Nat.le_refl _) _
    have hbx4 : Box4 K (.int .i64 0) (.int .u64 0) (.string ⟨#[]⟩) (.int .i64 0) w4 := HB3.out.keep (fun q hq => hb4.block q (by omega))
    have hlow4 : Below K w w4 := HLO3.out.trans (hb4.mono (by omega))
    have hrb : RB R t w4 := by
      have := heap_alloc_new w3 (.cells #[bstr t] 70)
      rw [← hw4, ← hR] at this
      exact this
    have hz4 : R < w4.heap.size := hrb.lt
    have hKR : K + 4 ≤ R := by rw [hR]; exact hz3
    have HDG := Lib.hid (datagram_r hrb (by omega))
    unfold bstr at hw4
    unfold wp_ at HDG
    have HW4 := Lib.hid hw4; have HR := Lib.hid hR; have HB4 := Lib.hid hbx4; have HLO4 := Lib.hid hlow4; have HU := Lib.hid hu
    clear hu HUE hR hw4 hb4 hbx4 hlow4 hrb HB3 HLO3
    go_upto_region 6 with fail
    rw [← HW4.out, ← HR.out]
    clear c0 c1 c2 c3 f0 f1 f2 f3
    go_wp2_with fail
    refine HDG.out.mono ?_
    intro e w5 h5
    rcases h5.split with ⟨z, r, v, hp, rfl, ⟨rfl, hn⟩, hr, hg⟩ | ⟨hp, rfl, hg⟩
    · obtain ⟨k, n, l⟩ := z
      have hbx := HB4.out.keep (fun q hq => hg.block q (by omega) (fun e => by have := Option.some.inj e; omega))
      have hlow5 := low_grown HLO4.out hg (by omega) (by omega)
      have c0 := hbx.ck
      have c1 := hbx.cn
      have c2 := hbx.cl
      have c3 := hbx.ce
      have f0 := hbx.fk
      have f1 := hbx.fn
      have f2 := hbx.fl
      have hb6 := ((hbx.setk (.int .i64 k)).setn (.int .u64 (n : Nat))).setl (.string ⟨l.toArray⟩)
      have hlow6 := low_set (low_set (low_set hlow5 (Nat.le_refl K) (j := 0) (.int .i64 k)) (Nat.le_succ K) (j := 0) (.int .u64 (n : Nat))) (show K ≤ K + 2 by omega) (j := 0) (.string ⟨l.toArray⟩)
      obtain ⟨w6, hw6⟩ : ∃ W, W = ((w5.setCell ⟨K, 0, none⟩ (.int .i64 k)).setCell ⟨K + 1, 0, none⟩ (.int .u64 (n : Nat))).setCell ⟨K + 2, 0, none⟩ (.string ⟨l.toArray⟩) := ⟨_, rfl⟩
      rw [← hw6] at hb6 hlow6
      have HW6 := Lib.hid hw6; have HB6 := Lib.hid hb6; have HLO6 := Lib.hid hlow6; have HP := Lib.hid hp
      clear hbx hlow5 hb6 hlow6 hw6 hp hr hg h5 HDG HB4 HLO4
      unfold bstr
      go_upto_region 7 with fail
      rw [← HW6.out]
      clear c0 c1 c2 c3 f0 f1 f2
      have c0 := HB6.out.ck
      have c1 := HB6.out.cn
      have c2 := HB6.out.cl
      have c3 := HB6.out.ce
      have f0 := HB6.out.fk
      have f1 := HB6.out.fn
      have f2 := HB6.out.fl
      have f3 := HB6.out.fe
      have hsz := bsz l
      by_cases h8 : 800 < l.length
      · have h9 : (800 : Int) < l.length := by omega
        have HD : Hid (unpackC s.data.toList = (noData, 4)) := Lib.hid (by rw [HU.out, HP.out]; exact if_pos h8)
        have hb7 := (((HB6.out.setk (.int .i64 0)).setn (.int .u64 0)).setl (.string ⟨#[]⟩)).sete (.int .i64 4)
        have hlow7 := low_set (low_set (low_set (low_set HLO6.out (Nat.le_refl K) (j := 0) (.int .i64 0)) (Nat.le_succ K) (j := 0) (.int .u64 0)) (show K ≤ K + 2 by omega) (j := 0) (.string ⟨#[]⟩)) (show K ≤ K + 3 by omega) (j := 0) (.int .i64 4)
        obtain ⟨w7, hw7⟩ : ∃ W, W = (((w6.setCell ⟨K, 0, none⟩ (.int .i64 0)).setCell ⟨K + 1, 0, none⟩ (.int .u64 0)).setCell ⟨K + 2, 0, none⟩ (.string ⟨#[]⟩)).setCell ⟨K + 3, 0, none⟩ (.int .i64 4) := ⟨_, rfl⟩
        rw [← hw7] at hb7 hlow7
        have HW7 := Lib.hid hw7; have HB7 := Lib.hid hb7; have HLO7 := Lib.hid hlow7
        clear hb7 hlow7 hw7
        go_wp2
        rw [← HW7.out]
        refine leaves_cons (f := 38) (args := #[.pointer (some ⟨K, 0, none⟩), .pointer (some ⟨K + 1, 0, none⟩), .pointer (some ⟨K + 2, 0, none⟩), .pointer (some ⟨K + 3, 0, none⟩)]) (by simp) (by simp [go_sem]) ?_
        refine (idle_u ⟨K, 0, none⟩ ⟨K + 1, 0, none⟩ ⟨K + 2, 0, none⟩ ⟨K + 3, 0, none⟩ _).mono ?_
        rintro e u' w8 ⟨rfl, rfl, rfl⟩
        have q0 : w8.cell? ⟨K, 0, none⟩ = some (.int .i64 0) := HB7.out.ck
        have q1 : w8.cell? ⟨K + 1, 0, none⟩ = some (.int .u64 0) := HB7.out.cn
        have q2 : w8.cell? ⟨K + 2, 0, none⟩ = some (.string ⟨#[]⟩) := HB7.out.cl
        have q3 : w8.cell? ⟨K + 3, 0, none⟩ = some (.int .i64 4) := HB7.out.ce
        simp [Leaves, settle, results, Try.results18, go_sem, q0, q1, q2, q3]
        rw [HD.out]
        refine ⟨⟨rfl, rfl, rfl, rfl⟩, ?_⟩
        rw [← HK.out]
        exact HLO7.out
      · have h9 : ¬ (800 : Int) < l.length := by omega
        have HD : Hid (unpackC s.data.toList = ((k, n, l), 0)) := Lib.hid (by rw [HU.out, HP.out]; exact if_neg h8)
        have hb7 := (((HB6.out.setk (.int .i64 k)).setn (.int .u64 (n : Nat))).setl (.string ⟨l.toArray⟩)).sete (.int .i64 0)
        have hlow7 := low_set (low_set (low_set (low_set HLO6.out (Nat.le_refl K) (j := 0) (.int .i64 k)) (Nat.le_succ K) (j := 0) (.int .u64 (n : Nat))) (show K ≤ K + 2 by omega) (j := 0) (.string ⟨l.toArray⟩)) (show K ≤ K + 3 by omega) (j := 0) (.int .i64 0)
        obtain ⟨w7, hw7⟩ : ∃ W, W = (((w6.setCell ⟨K, 0, none⟩ (.int .i64 k)).setCell ⟨K + 1, 0, none⟩ (.int .u64 (n : Nat))).setCell ⟨K + 2, 0, none⟩ (.string ⟨l.toArray⟩)).setCell ⟨K + 3, 0, none⟩ (.int .i64 0) := ⟨_, rfl⟩
        rw [← hw7] at hb7 hlow7
        have HW7 := Lib.hid hw7; have HB7 := Lib.hid hb7; have HLO7 := Lib.hid hlow7.drew
        clear hb7 hlow7 hw7
        go_upto_region 9 with fail
        go_region
        go_wp2
        rw [← HW7.out]
        refine leaves_cons (f := 38) (args := #[.pointer (some ⟨K, 0, none⟩), .pointer (some ⟨K + 1, 0, none⟩), .pointer (some ⟨K + 2, 0, none⟩), .pointer (some ⟨K + 3, 0, none⟩)]) (by simp) (by simp [go_sem]) ?_
        refine (idle_u ⟨K, 0, none⟩ ⟨K + 1, 0, none⟩ ⟨K + 2, 0, none⟩ ⟨K + 3, 0, none⟩ _).mono ?_
        rintro e u' w8 ⟨rfl, rfl, rfl⟩
        have q0 : w7.cell? ⟨K, 0, none⟩ = some (.int .i64 k) := HB7.out.ck
        have q1 : w7.cell? ⟨K + 1, 0, none⟩ = some (.int .u64 (n : Nat)) := HB7.out.cn
        have q2 : w7.cell? ⟨K + 2, 0, none⟩ = some (.string ⟨l.toArray⟩) := HB7.out.cl
        have q3 : w7.cell? ⟨K + 3, 0, none⟩ = some (.int .i64 0) := HB7.out.ce
        simp [Leaves, settle, results, Try.results18, go_sem, q0, q1, q2, q3]
        rw [HD.out]
        refine ⟨⟨rfl, rfl, rfl, rfl⟩, ?_⟩
        rw [← HK.out]
        exact HLO7.out
    · have hbx := HB4.out.keep (fun q hq => hg.block q (by omega) (fun e => by have := Option.some.inj e; omega))
      have HD : Hid (unpackC s.data.toList = (noData, 1)) := Lib.hid (by rw [HU.out, hp])
      have HLO5 := Lib.hid (low_grown HLO4.out hg (by omega) (by omega))
      clear h5 hg hp
      change bodyPostD Try.prog _ _ (Exit.panic [{ v := giveV, recovered := false }]) _ _
      refine leaves_cons (f := 38) (args := #[.pointer (some ⟨K, 0, none⟩), .pointer (some ⟨K + 1, 0, none⟩), .pointer (some ⟨K + 2, 0, none⟩), .pointer (some ⟨K + 3, 0, none⟩)]) (by simp) (by simp [go_sem]) ?_
      refine (caught_u K _ _ _ _ [] _ hbx).mono ?_
      rintro e u' w6 ⟨rfl, rfl, hB6, hlo6⟩
      have q0 : w6.cell? ⟨K, 0, none⟩ = some (.int .i64 0) := hB6.ck
      have q1 : w6.cell? ⟨K + 1, 0, none⟩ = some (.int .u64 0) := hB6.cn
      have q2 : w6.cell? ⟨K + 2, 0, none⟩ = some (.string ⟨#[]⟩) := hB6.cl
      have q3 : w6.cell? ⟨K + 3, 0, none⟩ = some (.int .i64 1) := hB6.ce
      simp [Leaves, settle, results, Try.results18, go_sem, q0, q1, q2, q3]
      rw [HD.out]
      refine ⟨⟨rfl, rfl, rfl, rfl⟩, ?_⟩
      rw [← HK.out]
      exact hlo6 _ _ (Nat.le_refl _) HLO5.out
  · have heb : (er == 0) = false := beq_eq_false_iff_ne.2 he
    have heb2 : (er != 0) = true := by rw [bne, heb]; rfl
    have hu := HUE.out.trans (if_pos he)
    have HU := Lib.hid hu
    clear hu HUE
    go_upto_region 3 with fail
    go_region
    have hb7 := (((HB3.out.setk (.int .i64 0)).setn (.int .u64 0)).setl (.string ⟨#[]⟩)).sete (.int .i64 er)
    have hlow7 := low_set (low_set (low_set (low_set HLO3.out (Nat.le_refl K) (j := 0) (.int .i64 0)) (Nat.le_succ K) (j := 0) (.int .u64 0)) (show K ≤ K + 2 by omega) (j := 0) (.string ⟨#[]⟩)) (show K ≤ K + 3 by omega) (j := 0) (.int .i64 er)
    obtain ⟨w7, hw7⟩ : ∃ W, W = (((w3.setCell ⟨K, 0, none⟩ (.int .i64 0)).setCell ⟨K + 1, 0, none⟩ (.int .u64 0)).setCell ⟨K + 2, 0, none⟩ (.string ⟨#[]⟩)).setCell ⟨K + 3, 0, none⟩ (.int .i64 er) := ⟨_, rfl⟩
    rw [← hw7] at hb7 hlow7
    have HW7 := Lib.hid hw7; have HB7 := Lib.hid hb7; have HLO7 := Lib.hid hlow7.drew
    clear hb7 hlow7 hw7
    go_wp2
    rw [← HW7.out]
    have q0 : w7.cell? ⟨K, 0, none⟩ = some (.int .i64 0) := HB7.out.ck
    have q1 : w7.cell? ⟨K + 1, 0, none⟩ = some (.int .u64 0) := HB7.out.cn
    have q2 : w7.cell? ⟨K + 2, 0, none⟩ = some (.string ⟨#[]⟩) := HB7.out.cl
    have q3 : w7.cell? ⟨K + 3, 0, none⟩ = some (.int .i64 er) := HB7.out.ce
    simp [bodyPostD, Leaves, results, Try.results18, go_sem, q0, q1, q2, q3]
    rw [HU.out]
    refine ⟨⟨rfl, rfl, rfl, rfl⟩, ?_⟩
    rw [← HK.out]
    exact HLO7.out
end Go.Proofs.Ytlbhkendbngmaaa.Wi
