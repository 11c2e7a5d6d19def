/- The reader's calls state and number. -/
import Derived.Test.YtfgocdeaanalgaaDoorEd
import Derived.Test.YtfgocdeaanalgaaDoorN5
import Derived.Test.YtfgocdeaanalgaaDoorShelf
namespace Go.Proofs.YtfgocdeaanalgaaDoor
open Go.RowKit

theorem clone_any (s : ByteArray) (w : World) (hs : s.size ≤ 281474976710656) :
    Calls Tryd.prog 29 #[.string s] w fun e w' => e = .returned (.string s) ∧ Below w.heap.size w w' := by
  go_enter Tryd.func29, Tryd.ntmps29
  go_wp2_with fail
  refine (Tryd.stringslite_Clone s w hs).mono ?_
  rintro e w' ⟨rfl, hb⟩
  have HB := Lib.hid hb; clear hb
  go_wp2
  go_ret
  exact ⟨rfl, HB.out⟩
theorem clone_list (l : List UInt8) (w : World) (hs : l.length ≤ 281474976710656) :
    Calls Tryd.prog 29 #[bstr l] w fun e w' => e = .returned (.string ⟨l.toArray⟩) ∧ Below w.heap.size w w' := clone_any ⟨l.toArray⟩ w (by show l.toArray.size ≤ _; simpa using hs)

theorem name_list (l : List UInt8) (w : World) :
    Calls Tryd.prog 26 #[bstr l] w fun e w' => e = .returned (.bool (nameB l)) ∧ w = w' := name_any ⟨l.toArray⟩ w

theorem word_len (s : ByteArray) (p : Nat) (h : p ≤ s.size) : p + (wordP s.data.toList p).length ≤ s.size := by
  have hl : s.data.toList.length = s.size := (Lib.size_eq s).symm
  have := word_le s.data.toList p (by omega)
  omega
theorem size_list (l : List UInt8) : (⟨l.toArray⟩ : ByteArray).size = l.length := by show l.toArray.size = _; simp

theorem take_list {w0 wa w : World} {g : Nat} {s : ByteArray} {p : Nat} {cs : List CM} (h : St w0 wa g s p cs w) (l : List UInt8) (o a : Int) (nm : List UInt8) (hp : p + l.length ≤ s.size) (hs : s.size ≤ 600) (hc : cs.length ≤ 600) :
    Calls Tryd.prog 58 #[rp g, bstr l, .agg #[.int .i64 o, .int .i64 a, bstr nm]] w fun e w' => e = .returned (.bool true) ∧ St w0 wa g s (p + l.length) (cs ++ [⟨o, a, nm⟩]) w' := by
  have := take_any h ⟨l.toArray⟩ ⟨o, a, nm⟩ (by rw [size_list]; exact hp) hs hc
  rw [size_list] at this
  exact this

set_option maxHeartbeats 1000000 in
theorem state_any {w0 wa w : World} {g : Nat} {s : ByteArray} {p : Nat} {cs : List CM} (h : St w0 wa g s p cs w) (hp : p + 3 ≤ s.size) (hs : s.size ≤ 600) (hc : cs.length ≤ 600) :
    Calls Tryd.prog 59 #[rp g] w (RPost w0 wa g s (stateD s.data.toList p cs)) := by
  have HS := Lib.hid (h.setAt ((p : Int) + 3) (p' := p + 3) (by omega))
  have hwl := word_len s (p + 3) hp
  obtain ⟨v, ⟨c0, c1, c2, f1, f2⟩, hbox, hown⟩ := h.at_
  clear hbox hown h
  obtain ⟨W, hW⟩ : ∃ W, wordP s.data.toList (p + 3) = W := ⟨_, rfl⟩
  have hR : stateD s.data.toList p cs = if nameB W = true then closeD s.data.toList (true, p + 3 + W.length, cs ++ [⟨6, 0, W⟩]) else (false, p + 3, cs) := by rw [← hW]; rfl
  have HW := Lib.hid hW
  rw [hW] at hwl
  cases hn : nameB W
  · rw [hR, hn, if_neg (by decide)]
    clear hR hW
    have HN : Hid (nameB W = false) := hn
    clear hn
    unfold rp
    go_enter Tryd.func59, Tryd.ntmps59
    go_wp2_with fail
    refine (word_any HS.out hp hs).mono ?_
    rintro e w' ⟨rfl, n, rfl⟩
    rw [HW.out]
    go_wp2_with fail
    refine (name_list W _).mono ?_
    rintro e w' ⟨rfl, rfl⟩
    rw [HN.out]
    go_wp2
    go_ret
    exact ⟨rfl, HS.out.drewN _⟩
  · rw [hR, hn, if_pos rfl]
    clear hR hW
    have HN : Hid (nameB W = true) := hn
    clear hn
    unfold rp
    go_enter Tryd.func59, Tryd.ntmps59
    go_wp2_with fail
    refine (word_any HS.out hp hs).mono ?_
    rintro e w' ⟨rfl, n, rfl⟩
    rw [HW.out]
    go_wp2_with fail
    refine (name_list W _).mono ?_
    rintro e w' ⟨rfl, rfl⟩
    rw [HN.out]
    go_wp2_with fail
    refine (clone_list W _ (by omega)).mono ?_
    rintro e w1 ⟨rfl, hb⟩
    have H1 := Lib.hid ((HS.out.drewN n).to_below hb)
    clear hb
    go_wp2_with fail
    refine (take_list H1.out W 6 0 W (by omega) hs hc).mono ?_
    rintro e w2 ⟨rfl, h2⟩
    have H2 := Lib.hid h2; clear h2
    go_wp2_with fail
    refine (closed_any H2.out (by omega) hs).mono ?_
    rintro e w3 ⟨rfl, h3⟩
    have H3 := Lib.hid h3; clear h3
    go_wp2
    go_ret
    exact ⟨rfl, H3.out⟩
end Go.Proofs.YtfgocdeaanalgaaDoor
