/- Layer 16: datagrams: what may be one, its parts read. -/
import Derived.Test.YtlbhkendbngmaaaJw
namespace Go.Proofs.Ytlbhkendbngmaaa.Wi
open Go.RowKit
set_option maxRecDepth 100000

def isD (k : Int) (l : Bytes) : Bool := decide (k = 1 ∨ k = 2 ∧ l = [])
theorem isDatagram_any (k : Int) (l : ByteArray) (w : World) :
    Calls Try.prog 32 #[.int .i64 k, .string l] w fun e w' => e = .returned (.bool (isD k l.data.toList)) ∧ w = w' := by
  by_cases h1 : k = 1
  · have hd : isD k l.data.toList = true := decide_eq_true (Or.inl h1)
    rw [hd]
    clear hd
    subst h1
    go_enter Try.func32, Try.ntmps32
    go_wp2
    go_ret
    exact ⟨rfl, rfl⟩
  · have h1b : (k == 1) = false := beq_eq_false_iff_ne.2 h1
    by_cases h2 : k = 2
    · subst h2
      by_cases hl : l.data.toList = []
      · have hd : isD 2 l.data.toList = true := decide_eq_true (Or.inr ⟨rfl, hl⟩)
        have hl2 : l.toList.isEmpty = true := by rw [Lib.toList_data, hl]; rfl
        have hl3 : l.toList = [] := by rw [Lib.toList_data, hl]
        rw [hd]
        clear hd hl
        go_enter Try.func32, Try.ntmps32
        go_wp2
        go_ret
        exact ⟨rfl, rfl⟩
      · have hd : isD 2 l.data.toList = false := decide_eq_false (fun h => by rcases h with h | ⟨_, h⟩; cases h; exact hl h)
        have hl2 : l.toList.isEmpty = false := by
          rw [Lib.toList_data]
          cases h : l.data.toList with
          | nil => exact absurd h hl
          | cons _ _ => rfl
        have hl3 : l.toList ≠ [] := by rw [Lib.toList_data]; exact hl
        rw [hd]
        clear hd hl
        go_enter Try.func32, Try.ntmps32
        go_wp2
        go_ret
        exact ⟨rfl, rfl⟩
    · have h2b : (k == 2) = false := beq_eq_false_iff_ne.2 h2
      have hd : isD k l.data.toList = false := decide_eq_false (fun h => by rcases h with h | ⟨h, _⟩; exact h1 h; exact h2 h)
      rw [hd]
      clear hd
      go_enter Try.func32, Try.ntmps32
      go_wp2
      go_ret
      exact ⟨rfl, rfl⟩
/-- a datagram's parts, read -/
def dataP : P (Int × Nat × Bytes) := fun s => match smallR 1 2 s with
  | none => none
  | some (k, r) => match numP r with
    | none => none
    | some (n, r2) => if isD k r2 = true then some ((k, n, r2), []) else none
theorem take_all (r : Bytes) : takeP r.length r = some (r, []) := by unfold takeP; rw [if_pos (Nat.le_refl _), List.take_length, List.drop_length]
set_option maxHeartbeats 1600000 in
theorem datagram_r {g : Nat} {s : Bytes} {w : World} (h : RB g s w) (hs : s.length ≤ 140737488355328) :
    Calls Try.prog 39 #[wp_ g] w fun e w' => Got g s dataP (fun x v _ => v = .tuple #[.int .i64 x.1, .int .u64 (x.2.1 : Nat), bstr x.2.2] ∧ x.2.1 < 18446744073709551616) w e w' := by
  have HC1 := Lib.hid (small_r h 1 2 (by omega))
  have HGU := Lib.hid (fun w => giveUp_any w (.pointer (some ⟨g, 0, none⟩)))
  unfold wp_ at *
  clear h
  go_enter Try.func39, Try.ntmps39
  go_wp2_with fail
  refine HC1.out.mono ?_
  intro e w1 h1
  rcases h1.split with ⟨k, r1, v, hp1, rfl, rfl, hr, hg⟩ | ⟨hp, rfl, hg⟩
  rotate_left
  · exact ⟨rfl, Got.none (by unfold dataP; rw [hp]) hg⟩
  have hl1 : r1.length ≤ s.length := by
    have := left_le (guard_reads (fun k : Int => decide (((1 : Nat) : Int) ≤ k)) (int_reads 2 (by decide))) hp1
    exact this
  have HC2 := Lib.hid (eight_r hr (by omega)); have HG1 := Lib.hid hg; have HP1 := Lib.hid hp1
  unfold wp_ at HC2
  clear h1 hr hg hp1 HC1
  go_wp2_with fail
  refine HC2.out.mono ?_
  intro e w2 h2
  rcases h2.split with ⟨n, r2, v, hp2, rfl, ⟨rfl, hn⟩, hr, hg⟩ | ⟨hp, rfl, hg⟩
  rotate_left
  · exact ⟨rfl, Got.none (by unfold dataP; rw [HP1.out]; simp only [hp]) (grown_trans HG1.out hg)⟩
  have hl2 : r2.length ≤ r1.length := left_le num_reads hp2
  have ht := take_any hr r2.length (by omega) (by omega)
  have c0 := hr.cell
  have HT := Lib.hid ht; have HG2 := Lib.hid (grown_trans HG1.out hg); have HP2 := Lib.hid hp2; have HN := Lib.hid hn
  unfold wp_ at HT
  unfold bstr at c0
  clear h2 hr hg hp2 HC2 ht hn
  have hsz := bsz r2
  go_wp2_with fail
  refine HT.out.mono ?_
  intro e w3 h3
  rcases h3.split with ⟨l, r3, v, hp3, rfl, rfl, hr, hg⟩ | ⟨hp, rfl, hg⟩
  rotate_left
  · rw [take_all] at hp; cases hp
  rw [take_all] at hp3
  injection hp3 with hp3
  injection hp3 with e1 e2
  subst e1 e2
  have HD := Lib.hid (isDatagram_any k ⟨r2.toArray⟩ w3)
  have HR3 := Lib.hid hr; have HG3 := Lib.hid (grown_trans HG2.out hg)
  clear h3 hr hg HT c0
  unfold bstr
  go_wp2_with fail
  refine HD.out.mono ?_
  rintro e w4 ⟨rfl, rfl⟩
  have hpd : dataP s = if isD k r2 = true then some ((k, n, r2), []) else none := by unfold dataP; rw [HP1.out]; simp only [HP2.out]
  have HPD := Lib.hid hpd
  clear hpd HD
  obtain ⟨d, hd⟩ : ∃ d, isD k r2 = d := ⟨_, rfl⟩
  have hd2 : isD k (⟨r2.toArray⟩ : ByteArray).data.toList = d := hd
  rw [hd2]
  rw [hd] at HPD
  clear hd hd2
  cases d
  · go_wp2_with fail
    refine (HGU.out _).mono ?_
    rintro e w5 ⟨rfl, rfl⟩
    exact ⟨rfl, Got.none HPD.out HG3.out⟩
  · go_wp2
    go_ret3
    exact Got.some (HPD.out.trans (if_pos trivial)) HG3.out ⟨rfl, HN.out⟩ HR3.out
/-- Unpack, by what the reader reads -/
theorem unpack_eq (s : Bytes) : unpackC s = if (openC s).2 ≠ 0 then (noData, (openC s).2) else match dataP (openC s).1 with
    | none => (noData, 1)
    | some (z, _) => if 800 < z.2.2.length then (noData, 4) else (z, 0) := by
  unfold unpackC
  by_cases h0 : (openC s).2 ≠ 0
  · rw [if_pos h0, if_pos h0]
  rw [if_neg h0, if_neg h0]
  generalize (openC s).1 = t
  unfold dataP
  cases t with
  | nil => rw [if_pos (by simp), smallR_nil]
  | cons b r =>
    have hh : headC (b :: r) = b.toNat := rfl
    rw [smallR_cons, hh]
    by_cases hb : 1 ≤ b.toNat ∧ b.toNat ≤ 2
    · rw [if_pos hb]
      simp only
      unfold numP mapP takeP
      by_cases h8 : 8 ≤ r.length
      · rw [if_pos h8]
        simp only
        have hd : (b :: r).drop 9 = r.drop 8 := rfl
        have ht : ((b :: r).drop 1).take 8 = r.take 8 := rfl
        have hl : (b :: r).length = r.length + 1 := rfl
        rw [hd, ht, hl]
        have hdl : (r.drop 8).length = r.length - 8 := List.length_drop
        by_cases hk : isD (b.toNat : Int) (r.drop 8) = true
        · rw [if_pos hk, if_neg]
          · simp only
            rw [hdl, show r.length + 1 - 9 = r.length - 8 by omega]
          · unfold isD at hk
            have hk := of_decide_eq_true hk
            rintro (h | ⟨h, h'⟩ | ⟨h, h'⟩)
            · omega
            · rcases hk with k | ⟨k, _⟩ <;> omega
            · rcases hk with k | ⟨_, k⟩
              · omega
              · rw [k] at hdl; simp at hdl; omega
        · rw [if_neg hk, if_pos]
          unfold isD at hk
          have hk := fun h => hk (decide_eq_true h)
          by_cases h1 : b.toNat = 1
          · exact absurd (Or.inl (by omega)) hk
          · refine Or.inr (Or.inr ⟨by omega, fun h => hk (Or.inr ⟨by omega, List.eq_nil_of_length_eq_zero (by omega)⟩)⟩)
      · rw [if_neg h8, if_pos (Or.inl (by simp; omega))]
    · rw [if_neg hb, if_pos (Or.inr (Or.inl (by omega)))]
end Go.Proofs.Ytlbhkendbngmaaa.Wi
