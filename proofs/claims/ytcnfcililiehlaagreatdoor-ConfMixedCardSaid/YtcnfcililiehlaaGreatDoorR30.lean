/- Own texts, joined: Is, Ln, Bl, Bm. -/
import Derived.Test.YtcnfcililiehlaaGreatDoorR2
import Derived.Test.YtcnfcililiehlaaGreatDoorR7
import Derived.Test.YtcnfcililiehlaaGreatDoorR29
import Derived.Laws.OwnMore
import Derived.Deep.Onto
import Derived.RangeFuncNested
import Derived.RangeFuncBound
import Derived.RangeFuncCalls
import Derived.RangeFuncLeaves
import Derived.RangeFuncBox
import Derived.RangeFuncWrites
import Derived.WalkKit
import Derived.Lib.Hide
namespace Go.Proofs.YtcnfcililiehlaaGreatDoor
open Go.RowKit
theorem isSign_any (c : UInt8) (w : World) :
 Calls Tryz.prog 117 #[.int .u8 c.toNat] w fun e w' => e = .returned (.bool (isSB c)) /\ w = w' := by
 by_cases h1 : (33 : Int) <= c.toNat
 ·by_cases h2 : (c.toNat : Int) <= 126
  ·have hL : isSB c = true := decide_eq_true ⟨by omega, by omega⟩;rw [hL]; clear hL
   go_enter Tryz.func117, Tryz.ntmps117
   go_wp2;go_ret;exact ⟨rfl, rfl⟩
  ·have hL : isSB c = false := decide_eq_false (fun h => h2 (by omega));rw [hL]; clear hL
   go_enter Tryz.func117, Tryz.ntmps117
   go_wp2;go_ret;exact ⟨rfl, rfl⟩
 ·have hL : isSB c = false := decide_eq_false (fun h => h1 (by omega));rw [hL]; clear hL
  go_enter Tryz.func117, Tryz.ntmps117
  go_wp2;go_ret;exact ⟨rfl, rfl⟩
end Go.Proofs.YtcnfcililiehlaaGreatDoor
namespace Go.Proofs.YtcnfcililiehlaaGreatDoor.Wn
open Go.RowKit
def strV (w : List UInt8) : Value := .string ⟨w.toArray⟩
theorem clone_any (s : ByteArray) (w : World) (hs : s.size <= 281474976710656) :
 Calls Tryz.prog 118 #[.string s] w fun e w' => e = .returned (.string s) /\ Below w.heap.size w w' := by
 go_enter Tryz.func118, Tryz.ntmps118
 go_wp2_with fail
 refine (Tryz.stringslite_Clone s w hs).mono ?_;rintro e w' ⟨rfl, hb⟩;have HB := Lib.hid hb; clear hb;go_wp2;go_ret;exact ⟨rfl, HB.out⟩
theorem grown_of_below {w w' : World} (h : Below w.heap.size w w') : w.grownBy w' none := ⟨h.os, h.tape, h.output, h.size, fun k hk _ => h.block k hk⟩
theorem own_below {w w' : World} {base : Nat} {e : TypeId} {size n : Nat} {v : Value} {xs : List Value} (h : w.ownsRow base e size v n xs) (hb : Below w.heap.size w w') : w'.ownsRow base e size v n xs :=
 h.kept (grown_of_below hb) (by
  cases hv : v.ownBlock with
  | none => exact Or.inl rfl
  | some k => exact Or.inr (by simp))
theorem ext_word (s : ByteArray) (b k : Nat) : s.extract b (k + 1) = ⟨(wordAt s.data.toList b k).toArray⟩ := by
 apply ByteArray.ext;apply Array.toList_inj.1;rw [Lib.extract_data]; rfl
structure Mem (w : World) (xs : List (List UInt8)) (v : Value) (w' : World) : Prop where
 own : w'.ownsRow w.heap.size 9 1 v xs.length (xs.map strV)
 below : Below w.heap.size w w'
theorem Mem.start (w : World) : Mem w [] (.slice none 0 0) w := ⟨World.ownsRow_nil _ _ _ _, Below.refl _ _⟩
theorem Mem.push {w w1 w2 w3 : World} {xs : List (List UInt8)} {v v' : Value} {x : List UInt8} (h : Mem w xs v w1) (hb : Below w1.heap.size w1 w2) {o : Obj}
 (hown : w3.ownsRow w.heap.size 9 1 v' (xs.length + 1) (xs.map strV ++ [strV x])) (hg : (w2.alloc o).grownBy w3 v.ownBlock) : Mem w (xs ++ [x]) v' w3 := by
 refine ⟨by simpa using hown, ?_⟩;have h1 : Below w.heap.size w w2 := h.below.trans (hb.mono h.below.size);have h2 : Below w.heap.size w (w2.alloc o) := h1.alloc h1.size o;exact h2.grown hg h2.size (fun k hk => (h.own.lt k hk).1)
def LnJ (s : ByteArray) (w : World) (l : Nat) (a : Act) (w' : World) : Prop :=
 (l = 0 /\ w = w' /\ ∃ k : Nat, Blanks s.data.toList k /\ ∃ u1 u2 u3 u4 u7 u8 u9 u10 u11 u12 u13 u14 u15 u16 u17 u18 u19 u20 u21 u22 u23 u24 u25 u26 u27 u28 u29 u30 u31 u32 u33 u34 u35 u36 u37 u38 u39 u40 u41 u42 u43 u44 u45 u46 u47 u48 u49 u50 u51 u52 u53 u54 u55 u56 u57 u58 u59 u60 u61 u62 u63 u64 u65 : Value,  a = { tmps := #[.string s, u1, u2, u3, u4, .slice none 0 0, .int .i64 k, u7, u8, u9, u10, u11, u12, u13, u14, u15, u16, u17, u18, u19, u20, u21, u22, u23, u24, u25, u26, u27, u28, u29, u30, u31, u32, u33, u34, u35, u36, u37, u38, u39, u40, u41, u42, u43, u44, u45, u46, u47, u48, u49, u50, u51, u52, u53, u54, u55, u56, u57, u58, u59, u60, u61, u62, u63, u64, u65], defers := [] }) \/
 (l = 1 /\ ∃ (k d : Nat) (v : Value) (xs : List (List UInt8)), First s.data.toList xs k /\ depthL s.data.toList = d /\ Mem w xs v w' /\ ∃ u1 u2 u3 u4 u8 u9 u10 u11 u12 u13 u14 u15 u16 u17 u18 u19 u20 u21 u22 u23 u24 u25 u26 u27 u28 u29 u30 u31 u32 u33 u34 u35 u36 u37 u38 u39 u40 u41 u42 u43 u44 u45 u46 u47 u48 u49 u50 u51 u52 u53 u54 u55 u56 u57 u58 u59 u60 u61 u62 u63 u64 u65 : Value,  a = { tmps := #[.string s, u1, u2, u3, u4, v, .int .i64 k, .int .i64 d, u8, u9, u10, u11, u12, u13, u14, u15, u16, u17, u18, u19, u20, u21, u22, u23, u24, u25, u26, u27, u28, u29, u30, u31, u32, u33, u34, u35, u36, u37, u38, u39, u40, u41, u42, u43, u44, u45, u46, u47, u48, u49, u50, u51, u52, u53, u54, u55, u56, u57, u58, u59, u60, u61, u62, u63, u64, u65], defers := [] }) \/
 (l = 2 /\ ∃ (k b d : Nat) (v : Value) (xs : List (List UInt8)), Word s.data.toList xs b k /\ depthL s.data.toList = d /\ Mem w xs v w' /\ ∃ u1 u2 u3 u4 u9 u10 u11 u12 u13 u14 u15 u16 u17 u18 u19 u20 u21 u22 u23 u24 u25 u26 u27 u28 u29 u30 u31 u32 u33 u34 u35 u36 u37 u38 u39 u40 u41 u42 u43 u44 u45 u46 u47 u48 u49 u50 u51 u52 u53 u54 u55 u56 u57 u58 u59 u60 u61 u62 u63 u64 u65 : Value,  a = { tmps := #[.string s, u1, u2, u3, u4, v, .int .i64 k, .int .i64 d, .int .i64 b, u9, u10, u11, u12, u13, u14, u15, u16, u17, u18, u19, u20, u21, u22, u23, u24, u25, u26, u27, u28, u29, u30, u31, u32, u33, u34, u35, u36, u37, u38, u39, u40, u41, u42, u43, u44, u45, u46, u47, u48, u49, u50, u51, u52, u53, u54, u55, u56, u57, u58, u59, u60, u61, u62, u63, u64, u65], defers := [] })
def LnM (s : ByteArray) (l : Nat) (a : Act) (_ : World) : Nat := 3 * (s.size - kOf a 6) + (if l = 0 then 2 else if l = 1 then 1 else 0)
def LinePost (l : List UInt8) (w : World) (e : Ending) (w' : World) : Prop :=
 (lineB l = true /\ ∃ v, e = .returned (.tuple #[.int .i64 (depthL l), v, .int .i64 0]) /\ Mem w (lineW l) v w') \/
 (lineB l = false /\ e = .returned (.tuple #[.int .i64 0, .slice none 0 0, .int .i64 1]) /\ Below w.heap.size w w')
theorem Tryz.infoStr : (Tryz.prog.info? 9).map (fun i => (i.zero, i.size, i.bytes)) = some (some (.string ByteArray.empty), 1, 16) := by kernel_rfl
theorem lnM_low {s : ByteArray} {l l' : Nat} {a a' : Act} {w w' : World} (h : kOf a 6 = kOf a' 6) (hl : (l' = 0 /\ l = 1) \/ (l' = 1 /\ l = 2)) : LnM s l a w < LnM s l' a' w' := by
 unfold LnM; rw [h];rcases hl with ⟨rfl, rfl⟩ | ⟨rfl, rfl⟩ <;> simp
theorem lnM_go {s : ByteArray} {l l' : Nat} {a a' : Act} {w w' : World} {k k' : Nat} (h : kOf a 6 = k) (h' : kOf a' 6 = k') (hk : k' < k) (hs : k <= s.size) : LnM s l a w < LnM s l' a' w' := by
 unfold LnM; rw [h, h'];have h1 : (if l = 0 then 2 else if l = 1 then 1 else 0) <= 2 := by split <;> (try split) <;> omega
 omega
theorem one_cell (w1 : World) (x : Value) (t : TypeId) : ∀ (j : Nat) (u : Value), [x][j]? = some u -> (w1.alloc (.cells #[x] t)).cell? ((⟨w1.heap.size, 0, none⟩ : Addr).add j) = some u := by
 intro j u hj
 match j, hj with
 | 0, hj => simp at hj; subst hj; simp [Addr.add]
 | j + 1, hj => simp at hj
theorem one_val (x : List UInt8) : ∀ u ∈ [strV x], u.oneCell' = true := by
 intro u hu; simp at hu; subst hu; rfl
set_option maxRecDepth 100000 in
set_option maxHeartbeats 4000000 in
theorem line_any (s : ByteArray) (w : World) (hs : s.size <= 4294967296) :
 Calls Tryz.prog 85 #[.string s] w (LinePost s.data.toList w) := by
 have hl : s.data.toList.length = s.size := (Lib.size_eq s).symm;obtain ⟨i0, hi, hz0, hz1, hz2⟩ := info_parts Tryz.infoStr;have HI := Lib.hid hi; have HZ0 := Lib.hid hz0; have HZ1 := Lib.hid hz1; have HZ2 := Lib.hid hz2;clear hi hz0 hz1 hz2
 go_enter Tryz.func85, Tryz.ntmps85
 go_wp2;refine wp_scope_labels (LnJ s w) (LnM s) ?_ ?_
 ·rintro l a w' (⟨rfl, rfl, k, hB, u1, u2, u3, u4, u7, u8, u9, u10, u11, u12, u13, u14, u15, u16, u17, u18, u19, u20, u21, u22, u23, u24, u25, u26, u27, u28, u29, u30, u31, u32, u33, u34, u35, u36, u37, u38, u39, u40, u41, u42, u43, u44, u45, u46, u47, u48, u49, u50, u51, u52, u53, u54, u55, u56, u57, u58, u59, u60, u61, u62, u63, u64, u65, rfl⟩ | ⟨rfl, k, d, v, xs, hF, hd, hM, u1, u2, u3, u4, u8, u9, u10, u11, u12, u13, u14, u15, u16, u17, u18, u19, u20, u21, u22, u23, u24, u25, u26, u27, u28, u29, u30, u31, u32, u33, u34, u35, u36, u37, u38, u39, u40, u41, u42, u43, u44, u45, u46, u47, u48, u49, u50, u51, u52, u53, u54, u55, u56, u57, u58, u59, u60, u61, u62, u63, u64, u65, rfl⟩ | ⟨rfl, k, b, d, v, xs, hW, hd, hM, u1, u2, u3, u4, u9, u10, u11, u12, u13, u14, u15, u16, u17, u18, u19, u20, u21, u22, u23, u24, u25, u26, u27, u28, u29, u30, u31, u32, u33, u34, u35, u36, u37, u38, u39, u40, u41, u42, u43, u44, u45, u46, u47, u48, u49, u50, u51, u52, u53, u54, u55, u56, u57, u58, u59, u60, u61, u62, u63, u64, u65, rfl⟩)
  ·refine ⟨_, rfl, ?_⟩;intro H;have HH := Lib.hid H; clear H;have hkl := hB.1;rw [hl] at hkl;by_cases hc : ∃ hk : k < s.size, s[k] = 32
   ·obtain ⟨hlt, hc⟩ := hc;have t32 : ((s[k].toNat : Int) == 32) = true := byte_is (k := 32) (by decide) hc;have hn := hB.step (by omega) (by rw [at_list s k hlt]; exact hc);clear hc hB HH;go_wp2
    go_step3
    exact ⟨Or.inl ⟨rfl, rfl, k + 1, hn, _, _, _, _, _, _, _, _, _, _, _, _, _, _, _, _, _, _, _, _, _, _, _, _, _, _, _, _, _, _, _, _, _, _, _, _, _, _, _, _, _, _, _, _, _, _, _, _, _, _, _, _, _, _, _, _, _, _, _, _, _, _, _, rfl⟩, lnM_go (k := k + 1) (k' := k) rfl rfl (by omega) (by omega)⟩
   ·have hd : depthL s.data.toList = k := hB.stop (by
     by_cases hk : k < s.size
     ·exact Or.inr ⟨by omega, fun e => hc ⟨hk, by rw [<- at_list s k hk (by omega)]; exact e⟩⟩
     ·exact Or.inl (by omega))
    have hf : First s.data.toList [] k := First.start hd (by omega);have HD := Lib.hid hd; clear hd;by_cases hk : k < s.size
    ·have t32 : ((s[k].toNat : Int) == 32) = false := byte_not (k := 32) (by decide) (fun e => hc ⟨hk, e⟩);clear hc hB;go_wp2
     go_step3
     exact walk_on (by assumption) (HH.out 1 _ _ _ rfl (Or.inr (Or.inl ⟨rfl, k, k, _, [], hf, HD.out, Mem.start w, _, _, _, _, _, _, _, _, _, _, _, _, _, _, _, _, _, _, _, _, _, _, _, _, _, _, _, _, _, _, _, _, _, _, _, _, _, _, _, _, _, _, _, _, _, _, _, _, _, _, _, _, _, _, _, _, _, _, _, _, _, _, rfl⟩)) (lnM_low rfl (Or.inl ⟨rfl, rfl⟩)))
    ·obtain rfl : k = s.size := by omega
     clear hc hB hk;go_wp2
     go_step3
     exact walk_on (by assumption) (HH.out 1 _ _ _ rfl (Or.inr (Or.inl ⟨rfl, s.size, s.size, _, [], hf, HD.out, Mem.start w, _, _, _, _, _, _, _, _, _, _, _, _, _, _, _, _, _, _, _, _, _, _, _, _, _, _, _, _, _, _, _, _, _, _, _, _, _, _, _, _, _, _, _, _, _, _, _, _, _, _, _, _, _, _, _, _, _, _, _, _, _, _, rfl⟩)) (lnM_low rfl (Or.inl ⟨rfl, rfl⟩)))
  ·refine ⟨_, rfl, ?_⟩;intro H;have HH := Lib.hid H; clear H;have hkl := hF.len;rw [hl] at hkl;have HD := Lib.hid hd; clear hd;by_cases hk : k < s.size
   ·have hk' : ((k : Int) == (s.size : Int)) = false := beq_eq_false_iff_ne.2 (by omega);cases hc : isSB s[k]
    ·have hb := hF.stop (Or.inr ⟨by omega, by rw [at_list s k hk]; exact hc⟩);have HB := Lib.hid hb; clear hb hF HH;have hbel := Lib.hid hM.below;clear hM
     go_wp2_with (go_at_call 117; refine (isSign_any _ _).mono ?_; rintro e w' ⟨rfl, rfl⟩)
     go_ret3
     exact Or.inr ⟨HB.out, rfl, hbel.out⟩
    ·have hw := hF.word (by omega) (by rw [at_list s k hk]; exact hc);clear hF
     go_wp2_with (go_at_call 117; refine (isSign_any _ _).mono ?_; rintro e w' ⟨rfl, rfl⟩)
     go_step3
     exact walk_on (by assumption) (HH.out 2 _ _ _ rfl (Or.inr (Or.inr ⟨rfl, k, k, d, v, xs, hw, HD.out, hM, _, _, _, _, _, _, _, _, _, _, _, _, _, _, _, _, _, _, _, _, _, _, _, _, _, _, _, _, _, _, _, _, _, _, _, _, _, _, _, _, _, _, _, _, _, _, _, _, _, _, _, _, _, _, _, _, _, _, _, _, _, rfl⟩)) (lnM_low rfl (Or.inr ⟨rfl, rfl⟩)))
   ·have hk' : (k : Int) = s.size := by omega
    have hb := hF.stop (Or.inl (by omega));have HB := Lib.hid hb; clear hb hF HH hk;have hbel := Lib.hid hM.below;clear hM;go_wp2
    go_ret3
    exact Or.inr ⟨HB.out, rfl, hbel.out⟩
  ·refine ⟨_, rfl, ?_⟩;intro H;clear H;have hlt := hW.lt; have hle := hW.le;rw [hl] at hlt;have HD := Lib.hid hd; clear hd;have hfew := hW.few;have hxs : (wordAt s.data.toList b k).toArray.size <= 281474976710656 := by
    unfold wordAt; simp; omega
   have HXs : Hid ((⟨(wordAt s.data.toList b k).toArray⟩ : ByteArray).size <= 281474976710656) := hxs;clear hxs;have hbs := hM.below.size;by_cases hend : k + 1 = s.size
   ·have hend' : (k : Int) + 1 = s.size := by omega
    have hx : s.extract b s.size = ⟨(wordAt s.data.toList b k).toArray⟩ := by rw [<- hend]; exact ext_word s b k
    have HX := Lib.hid hx; clear hx;have HE := Lib.hid (hW.end_ (by omega)); clear hend
    go_wp2_with (go_at_call 117; refine (isSign_any _ _).mono ?_; rintro e w' ⟨rfl, rfl⟩)
    refine (clone_any _ _ (by rw [HX.out]; exact HXs.out)).mono ?_;rintro e w1 ⟨rfl, hb1⟩;rw [HX.out];have hown := (own_below hM.own hb1).alloc (.cells #[strV (wordAt s.data.toList b k)] 9);have HOWN := Lib.hid hown; have HB1 := Lib.hid hb1; clear hown hb1
    go_wp2_with (at_builtin; refine wpList_append_own _ rfl _ _ 22 rfl w.heap.size 9 i0 (.string ByteArray.empty) 1 16 Tryz.underlying22 HI.out HZ0.out HZ1.out HZ2.out rfl (by decide) _ _ _ rfl HOWN.out ⟨w1.heap.size, 0, none⟩ 1 1 [strV (wordAt s.data.toList b k)] rfl rfl (one_cell _ _ _) (one_val _) (by unfold maxLen; omega) (by omega) (by have := HB1.out.size; simp; omega) ?_)
    intro v' w2 hown' hgrow _;have hm := hM.push HB1.out hown' hgrow;clear hown' hgrow;go_wp2
    go_ret3
    exact Or.inl ⟨HE.out.1, v', by rw [HD.out]; rfl, by rw [HE.out.2]; exact hm⟩
   ·have hlt1 : k + 1 < s.size := by omega
    have hend' : (((k : Int) + 1) == (s.size : Int)) = false := beq_eq_false_iff_ne.2 (by omega);clear hend;cases hc : isSB s[k + 1]
    ·have HX := Lib.hid (ext_word s b k);by_cases h32 : s[k + 1] = 32
     ·have t32 : ((s[k + 1].toNat : Int) == 32) = true := byte_is (k := 32) (by decide) h32;have hn := hW.next (by omega) (by rw [at_list s _ hlt1]; exact h32);have HN := Lib.hid hn;clear hn hW h32
      go_wp2_with (go_at_call 117; refine (isSign_any _ _).mono ?_; rintro e w' ⟨rfl, rfl⟩)
      refine (clone_any _ _ (by rw [HX.out]; exact HXs.out)).mono ?_;rintro e w1 ⟨rfl, hb1⟩;rw [HX.out];have hown := (own_below hM.own hb1).alloc (.cells #[strV (wordAt s.data.toList b k)] 9);have HOWN := Lib.hid hown; have HB1 := Lib.hid hb1; clear hown hb1
      go_wp2_with (at_builtin; refine wpList_append_own _ rfl _ _ 22 rfl w.heap.size 9 i0 (.string ByteArray.empty) 1 16 Tryz.underlying22 HI.out HZ0.out HZ1.out HZ2.out rfl (by decide) _ _ _ rfl HOWN.out ⟨w1.heap.size, 0, none⟩ 1 1 [strV (wordAt s.data.toList b k)] rfl rfl (one_cell _ _ _) (one_val _) (by unfold maxLen; omega) (by omega) (by have := HB1.out.size; simp; omega) ?_)
      intro v' w2 hown' hgrow _;have hm := hM.push HB1.out hown' hgrow;clear hown' hgrow;go_wp2
      go_step3
      exact ⟨Or.inr (Or.inl ⟨rfl, k + 1 + 1, d, v', _, HN.out, HD.out, hm, _, _, _, _, _, _, _, _, _, _, _, _, _, _, _, _, _, _, _, _, _, _, _, _, _, _, _, _, _, _, _, _, _, _, _, _, _, _, _, _, _, _, _, _, _, _, _, _, _, _, _, _, _, _, _, _, _, _, _, _, _, _, rfl⟩), lnM_go (k := k + 1 + 1) (k' := k) rfl rfl (by omega) (by omega)⟩
     ·have t32 : ((s[k + 1].toNat : Int) == 32) = false := byte_not (k := 32) (by decide) h32;have hn := hW.bad (by omega) (by rw [at_list s _ hlt1]; exact h32) (by rw [at_list s _ hlt1]; exact hc);have HN := Lib.hid hn;clear hn hW h32
      go_wp2_with (go_at_call 117; refine (isSign_any _ _).mono ?_; rintro e w' ⟨rfl, rfl⟩)
      refine (clone_any _ _ (by rw [HX.out]; exact HXs.out)).mono ?_;rintro e w1 ⟨rfl, hb1⟩;rw [HX.out];have hown := (own_below hM.own hb1).alloc (.cells #[strV (wordAt s.data.toList b k)] 9);have HOWN := Lib.hid hown; have HB1 := Lib.hid hb1; clear hown hb1
      go_wp2_with (at_builtin; refine wpList_append_own _ rfl _ _ 22 rfl w.heap.size 9 i0 (.string ByteArray.empty) 1 16 Tryz.underlying22 HI.out HZ0.out HZ1.out HZ2.out rfl (by decide) _ _ _ rfl HOWN.out ⟨w1.heap.size, 0, none⟩ 1 1 [strV (wordAt s.data.toList b k)] rfl rfl (one_cell _ _ _) (one_val _) (by unfold maxLen; omega) (by omega) (by have := HB1.out.size; simp; omega) ?_)
      intro v' w2 hown' hgrow _;have hm := hM.push HB1.out hown' hgrow;clear hown' hgrow;have hbel := Lib.hid hm.below;clear hm;go_wp2
      go_ret3
      exact Or.inr ⟨HN.out, rfl, hbel.out⟩
    ·have hn := hW.step (by omega) (by rw [at_list s _ hlt1]; exact hc);clear hW
     go_wp2_with (go_at_call 117; refine (isSign_any _ _).mono ?_; rintro e w' ⟨rfl, rfl⟩)
     go_step3
     exact ⟨Or.inr (Or.inr ⟨rfl, k + 1, b, d, v, xs, hn, HD.out, hM, _, _, _, _, _, _, _, _, _, _, _, _, _, _, _, _, _, _, _, _, _, _, _, _, _, _, _, _, _, _, _, _, _, _, _, _, _, _, _, _, _, _, _, _, _, _, _, _, _, _, _, _, _, _, _, _, _, _, _, _, _, rfl⟩), lnM_go (k := k + 1) (k' := k) rfl rfl (by omega) (by omega)⟩
 ·intro H;have HH := Lib.hid H; clear H;go_wp2
  go_step3
  refine walk_on (by assumption) (HH.out 0 _ _ _ rfl (Or.inl ⟨rfl, rfl, 0, Blanks.zero _, _, _, _, _, _, _, _, _, _, _, _, _, _, _, _, _, _, _, _, _, _, _, _, _, _, _, _, _, _, _, _, _, _, _, _, _, _, _, _, _, _, _, _, _, _, _, _, _, _, _, _, _, _, _, _, _, _, _, _, _, _, _, _, rfl⟩))
end Go.Proofs.YtcnfcililiehlaaGreatDoor.Wn
namespace Go.Proofs.YtcnfcililiehlaaGreatDoor.Ch
open Go.RowKit
def LineOfPost (l : List UInt8) (w : World) (e : Ending) (w' : World) : Prop := Below w.heap.size w w' /\
 ((lineB l = false /\ e = .returned (.tuple #[.agg #[.int .i64 0, .string ByteArray.empty, .slice none 0 0], .bool false])) \/
  (lineB l = true /\ ∃ (F : ByteArray) (r : List (List UInt8)) (A : Option Addr) (cp : Nat), lineW l = F.data.toList :: r /\ e = .returned (.tuple #[.agg #[.int .i64 (depthL l : Nat), .string F, .slice A r.length cp], .bool true]) /\ RestR w w' A cp r))
theorem lineW_ne (l : List UInt8) : lineW l ≠ [] := pieces_ne _
theorem lineW_len : ∀ (l : List UInt8), (lineW l).length <= l.length + 1 := by
 have h : ∀ l : List UInt8, (pieces l).length <= l.length + 1 := by
  intro l
  induction l with
  | nil => simp [pieces_nil]
  | cons c r ih =>
   by_cases hc : c = 32
   ·subst hc; rw [pieces_blank]; simp; omega
   ·rw [pieces_cons hc];have : (glue [c] (pieces r)).length = (pieces r).length := by
     cases hp : pieces r with
     | nil => exact absurd hp (pieces_ne r)
     | cons x y => simp [glue]
    rw [this]; simp; omega
 intro l;have := h (l.drop (depthL l));simp at this;unfold lineW;omega
theorem rest_of {w wf : World} {B g cap : Nat} {F0 : List UInt8} {r : List (List UInt8)} (h : wf.ownsRow B 9 1 (.slice (some ⟨g, 0, none⟩) (r.length + 1) cap) (r.length + 1) ((F0 :: r).map bstr)) (hB : w.heap.size <= B) :
 RestR w wf (some ⟨g, 1, none⟩) (cap - 1) r /\ (r.length = 0 -> RestR w wf (some ⟨g, 0, none⟩) 0 r) := by
 obtain ⟨h1, h2⟩ := h.lt g rfl;refine ⟨⟨Or.inr ⟨⟨g, 1, none⟩, cap - 1, rfl, by simp [strsV], fun hn => ⟨g, 1, rfl, h2, fun j u hu => ?_⟩⟩, fun g' e => ?_⟩, fun h0 => ⟨Or.inr ⟨⟨g, 0, none⟩, 0, rfl, by simp [strsV], fun hn => absurd hn (by omega)⟩, fun g' e => ?_⟩⟩
 ·have := h.cells (g := g) rfl (1 + j) u (by rw [Nat.add_comm 1 j]; simpa [strsV] using hu);rw [add_lit'] at this
  simpa using this
 ·have : g = g' := by simpa [Value.ownBlock] using e
  omega
 ·have : g = g' := by simpa [Value.ownBlock] using e
  omega
set_option maxRecDepth 100000 in
set_option maxHeartbeats 8000000 in
theorem lineOf_any (s : ByteArray) (w : World) (hs : s.size <= 1000000) : Calls Tryz.prog 47 #[.string s] w (LineOfPost (Lib.trimSuffix s.data.toList [10]) w) := by
 obtain ⟨l, hl⟩ : ∃ l, Lib.trimSuffix s.data.toList [10] = l := ⟨_, rfl⟩
 obtain ⟨X, hX, hXl⟩ : ∃ X : ByteArray, X = ⟨l.toArray⟩ /\ X.data.toList = l := ⟨⟨l.toArray⟩, rfl, rfl⟩
 have hll : l.length <= s.size := by
  rw [<- hl, Lib.size_eq];unfold Lib.trimSuffix;split
  ·rw [List.length_take]; omega
  ·exact Nat.le_refl _
 have hXs : X.size <= 4294967296 := by rw [Lib.size_eq, hXl]; omega
 have HT : Hid (∀ W, Calls Tryz.prog 86 #[.string s, .string ⟨#[10]⟩] W fun e w' => e = .returned (.string X) /\ w' = W) := fun W => by
  have := Tryz.strings_TrimSuffix s ⟨#[10]⟩ W (by omega);rw [show (⟨#[10]⟩ : ByteArray).data.toList = [10] from rfl, hl, <- hX] at this;exact this
 obtain ⟨w1, hw1⟩ : ∃ W, W = w.alloc (.cells #[.int .i64 0, .string ⟨#[]⟩, .slice none 0 0] 74) := ⟨_, rfl⟩
 have hb1 : Below w.heap.size w w1 := hw1 ▸ (Below.refl w.heap.size w).alloc (Nat.le_refl _) _;have hx1 : w1.heap[w.heap.size]? = some (.cells #[.int .i64 0, .string ⟨#[]⟩, .slice none 0 0] 74 (0, 0)) := by rw [hw1]; exact heap_alloc_new w _
 have HW := Lib.hid hw1;have HLN := Lib.hid (Wn.line_any X w1 hXs);rw [hXl] at HLN;have hlt := lt_of_heap hx1;have HX1 := Lib.hid hx1; have HB1 := Lib.hid hb1;have hlw := lineW_len l;have HL := Lib.hid hl;clear hl hX hXl hXs hw1 hb1 hx1
 go_enter Tryz.func47, Tryz.ntmps47
 go_wp2_with fail
 rw [<- HW.out];refine (HT.out _).mono ?_;rintro e w2 ⟨rfl, h2⟩;obtain rfl := h2
 go_wp2_with fail
 refine HLN.out.mono ?_;rintro e w3 (⟨hlb, v, rfl, hm⟩ | ⟨hlb, rfl, hb⟩)
 ·have hx3 := (hm.below.block _ hlt).trans HX1.out;obtain ⟨y0, y1, y2, g0, g1, g2⟩ : w3.cell? ⟨w.heap.size, 0, none⟩ = some (.int .i64 0) /\ w3.cell? ⟨w.heap.size, 1, none⟩ = some (.string ⟨#[]⟩) /\ w3.cell? ⟨w.heap.size, 2, none⟩ = some (.slice none 0 0) /\ w3.frozen? ⟨w.heap.size, 0, none⟩ = false /\ w3.frozen? ⟨w.heap.size, 1, none⟩ = false /\ w3.frozen? ⟨w.heap.size, 2, none⟩ = false := by simp [World.cell?, World.frozen?, hx3]
  have HB3 : Hid (Below w.heap.size w w3) := HB1.out.trans (hm.below.mono HB1.out.size);obtain ⟨F0, r, hfr⟩ : ∃ F r, lineW l = F :: r := by
   cases hw : lineW l with
   | nil => exact absurd hw (lineW_ne l)
   | cons F r => exact ⟨F, r, rfl⟩
  obtain ⟨F, hF, hFl⟩ := bstr_some F0;have hown := hm.own;rw [hfr] at hown;obtain ⟨g, cap, rfl⟩ := ownsRow_succ (k := r.length) (by simpa using hown);obtain ⟨cur, hg1, hg2, hcap, _⟩ := own_cells (n := r.length + 1) (by simpa using hown);obtain ⟨q, o, e0, hq, hc⟩ := (Inn.of_own hown).at_ (k := 0) (by simp);simp only [Option.some.injEq, Addr.mk.injEq, and_true] at e0;obtain ⟨rfl, rfl⟩ := e0;have f0 : w3.cell? ⟨g, 0, none⟩ = some (.string F) := by have := hc 0 (.string F) (by simp [<- hF]; rfl); simpa using this
  have HFR := Lib.hid hfr; have HOW := Lib.hid hown; have HLB := Lib.hid hlb; have HFL := Lib.hid hFl;have hgw : w.heap.size <= g := by omega
  have hrl : r.length <= 1000001 := by rw [hfr] at hlw; simp at hlw; omega
  have hc1 : 1 <= cap := by omega
  have HX3 := Lib.hid hx3;clear hm hx3 hfr hown hlb hc hF hFl hlw hg2
  go_wp2_with fail
  have p0 : (0 : Int) < (r.length : Int) + 1 := by omega
  have p1 : (1 : Int) <= (r.length : Int) + 1 := by omega
  have p2 : (r.length : Int) + 1 <= (cap : Int) := by omega
  refine wp_region_tail 7 (by kernel_rfl) (by kernel_rfl) ?_;simp only [List.take_succ_cons, List.take_zero, List.drop_succ_cons, List.drop_zero]
  repeat still_step
  refine wpStill_nil ?_;obtain ⟨wf, hwf⟩ : ∃ W : Value -> World, W = fun V => (((w3.setCell ⟨w.heap.size, 0, none⟩ (.int .i64 (depthL l : Nat))).setCell ⟨w.heap.size, 1, none⟩ (.string F)).setCell ⟨w.heap.size, 2, none⟩ V).drew := ⟨_, rfl⟩
  have hhf : ∀ V, (wf V).heap[w.heap.size]? = some (.cells #[.int .i64 (depthL l : Nat), .string F, V] 74 (0, 0)) := fun V => by
   rw [hwf]; exact heap_setCell_same _ _ 2 _ _ _ (heap_setCell_same _ _ 1 _ _ _ (heap_setCell_same _ _ 0 _ _ _ HX3.out))
  have hof : ∀ V, (wf V).ownsRow w2.heap.size 9 1 (.slice (some ⟨g, 0, none⟩) (r.length + 1) cap) (r.length + 1) ((F0 :: r).map bstr) := fun V => by
   rw [hwf]; exact own_past (own_past (own_past HOW.out hlt _ _) hlt _ _) hlt _ _
  have hbf : ∀ V, Below w.heap.size w (wf V) := fun V => by
   rw [hwf]; exact (((HB3.out.setCell (p := ⟨w.heap.size, 0, none⟩) (Nat.le_refl _) _).setCell (p := ⟨w.heap.size, 1, none⟩) (Nat.le_refl _) _).setCell (p := ⟨w.heap.size, 2, none⟩) (Nat.le_refl _) _).drew
  have hcf : ∀ V, (wf V).cell? ⟨w.heap.size, 0, none⟩ = some (.int .i64 (depthL l : Nat)) /\ (wf V).cell? ⟨w.heap.size, 1, none⟩ = some (.string F) /\ (wf V).cell? ⟨w.heap.size, 2, none⟩ = some V := fun V => by simp [World.cell?, hhf V]
  have HWF := Lib.hid hwf; have HOF := Lib.hid hof; have HBF := Lib.hid hbf; have HCF := Lib.hid hcf;have hwl : w.heap.size <= w2.heap.size := Nat.le_of_lt hlt;have hFin : ∀ V, (∃ A cp, V = .slice A r.length cp /\ RestR w (wf V) A cp r) -> LineOfPost l w (.returned (.tuple #[.agg #[.int .i64 (depthL l : Nat), .string F, V], .bool true])) (wf V) := by
   rintro V ⟨A, cp, rfl, hV⟩;exact ⟨HBF.out _, Or.inr ⟨HLB.out, F, r, A, cp, by rw [HFL.out]; exact HFR.out, rfl, hV⟩⟩
  have HFin := Lib.hid hFin;clear hwf hhf hof hbf hcf hFin;go_wp2
  ·obtain ⟨W, hW⟩ : ∃ W, W = wf (.slice (some ⟨g, 0, none⟩) r.length 0) := ⟨_, rfl⟩
   have hr := HCF.out (.slice (some ⟨g, 0, none⟩) r.length 0);have hp := HFin.out (.slice (some ⟨g, 0, none⟩) r.length 0) ⟨_, _, rfl, (rest_of (HOF.out _) hwl).2 (by omega)⟩;rw [<- hW] at hr hp;rw [HWF.out] at hW
   dsimp only at hW
   rw [HL.out, <- hW];obtain ⟨r0, r1, r2⟩ := hr;exact bodyPost_ret (by simp [results, Tryz.results47, go_sem, r0, r1, r2]) rfl hp
  ·obtain ⟨W, hW⟩ : ∃ W, W = wf (.slice (some ⟨g, 1, none⟩) r.length (cap - 1)) := ⟨_, rfl⟩
   have hr := HCF.out (.slice (some ⟨g, 1, none⟩) r.length (cap - 1));have hp := HFin.out (.slice (some ⟨g, 1, none⟩) r.length (cap - 1)) ⟨_, _, rfl, (rest_of (HOF.out _) hwl).1⟩;rw [<- hW] at hr hp;rw [HWF.out] at hW
   dsimp only at hW
   rw [HL.out, <- hW];obtain ⟨r0, r1, r2⟩ := hr;exact bodyPost_ret (by simp [results, Tryz.results47, go_sem, r0, r1, r2]) rfl hp
 ·have hx3 := (hb.block _ hlt).trans HX1.out;obtain ⟨y0, y1, y2, g0, g1, g2⟩ : w3.cell? ⟨w.heap.size, 0, none⟩ = some (.int .i64 0) /\ w3.cell? ⟨w.heap.size, 1, none⟩ = some (.string ⟨#[]⟩) /\ w3.cell? ⟨w.heap.size, 2, none⟩ = some (.slice none 0 0) /\ w3.frozen? ⟨w.heap.size, 0, none⟩ = false /\ w3.frozen? ⟨w.heap.size, 1, none⟩ = false /\ w3.frozen? ⟨w.heap.size, 2, none⟩ = false := by simp [World.cell?, World.frozen?, hx3]
  have HB3 : Hid (Below w.heap.size w w3) := HB1.out.trans (hb.mono HB1.out.size);have HLB := Lib.hid hlb;obtain ⟨W, hW⟩ : ∃ W, W = ((w3.setCell ⟨w.heap.size, 0, none⟩ (.int .i64 0)).setCell ⟨w.heap.size, 1, none⟩ (.string ⟨#[]⟩)).setCell ⟨w.heap.size, 2, none⟩ (.slice none 0 0) := ⟨_, rfl⟩
  have hhf : W.heap[w.heap.size]? = some (.cells #[.int .i64 0, .string ⟨#[]⟩, .slice none 0 0] 74 (0, 0)) := by
   rw [hW]; exact heap_setCell_same _ _ 2 _ _ _ (heap_setCell_same _ _ 1 _ _ _ (heap_setCell_same _ _ 0 _ _ _ hx3))
  have hbW : Below w.heap.size w W := by
   rw [hW]; exact ((HB3.out.setCell (p := ⟨w.heap.size, 0, none⟩) (Nat.le_refl _) _).setCell (p := ⟨w.heap.size, 1, none⟩) (Nat.le_refl _) _).setCell (p := ⟨w.heap.size, 2, none⟩) (Nat.le_refl _) _
  obtain ⟨r0, r1, r2⟩ : W.cell? ⟨w.heap.size, 0, none⟩ = some (.int .i64 0) /\ W.cell? ⟨w.heap.size, 1, none⟩ = some (.string ⟨#[]⟩) /\ W.cell? ⟨w.heap.size, 2, none⟩ = some (.slice none 0 0) := by simp [World.cell?, hhf]
  have HWW := Lib.hid hW; have HBW := Lib.hid hbW;clear hx3 hb hlb hW hhf hbW;go_wp2;rw [HL.out, <- HWW.out];exact bodyPost_ret (v := .tuple #[.agg #[.int .i64 0, .string ⟨#[]⟩, .slice none 0 0], .bool false]) (by simp [results, Tryz.results47, go_sem, r0, r1, r2]) rfl ⟨HBW.out, Or.inl ⟨HLB.out, rfl⟩⟩
end Go.Proofs.YtcnfcililiehlaaGreatDoor.Ch
namespace Go.Proofs.YtcnfcililiehlaaGreatDoor.Ch
open Go.RowKit
def GivesS {α : Type} (F : Fence) (n : Nat) (P : Program) (gf : Nat) (lb : Array Value) (encs : α -> Array Value) (BS : Nat) (S Sp : List α -> Prop) (N : Nat) (W0 : World) : Prop :=
 ∀ (l : Nat) (J Jx : List α -> World -> Prop) (W : World), Below W0.heap.size W0 W ->
  (∀ pre A B, J pre A -> A.grownBy B (some BS) -> J pre B) -> (∀ pre A B, Jx pre A -> A.grownBy B (some BS) -> Jx pre B) ->
  (∀ pre x A, J pre A -> pre.length < N -> Sp (pre ++ [x]) -> YieldAt F (n - 1) P l (encs x) A fun e B =>
   (e = .returned (.bool true) /\ J (pre ++ [x]) B /\ A.heap.size <= B.heap.size /\ B.heap[BS]? = A.heap[BS]?) \/ (e = .returned (.bool false) /\ Jx (pre ++ [x]) B)) ->
  J [] W -> CallsIn F n P gf (#[.func (.yield l) #[] #[]] ++ lb) W fun e W' => (∃ v, e = .returned v) /\ ((∃ ys, S ys /\ J ys W') \/ ∃ pre, Sp pre /\ Jx pre W')
def LeftS {α : Type} (B BS : Nat) (I Ix : List α -> World -> Prop) (xs : List α) (W : World) : Exit -> Act -> World -> Prop
 | .normal, _, W' => KeepsFrom B W W' /\ W'.heap[BS]? = W.heap[BS]? /\ I xs W'
 | .ret, _, W' => KeepsFrom B W W' /\ Ix xs W'
 | _, _, _ => False
def BearS {α : Type} (B BS : Nat) (I : List α -> World -> Prop) : Prop :=
 ∀ pre X Y r, I pre X -> X.grownBy Y r -> (∀ k, r = some k -> k = BS \/ (B <= k /\ ∃ o : Obj, X.heap[k]? = some o /\ o.isCells = false)) -> I pre Y
section
variable {α : Type} {F : Fence} {n : Nat} {P : Program}
theorem BearS.put {B BS : Nat} {I : List α -> World -> Prop} (h : BearS B BS I) {pre : List α} {W : World} {l : Nat} {o : Obj} (o' : Obj) (hI : I pre W) (hB : B <= l) (hl : W.heap[l]? = some o) (ho : o.isCells = false) : I pre (W.putObj l o') :=
 h pre W _ (some l) hI (grownBy_putObj' W l o') (fun k hk => Or.inr (by cases hk; exact ⟨hB, o, hl, ho⟩))
theorem wpIn_range_own {g : Operand} {ps : Array Tmp} {assign body : Code} {Q : Exit -> Act -> World -> Prop} {a : Act} {w : World}
 (hro : F.round = none) (h1 : 1 <= n) {gf : Nat} {lb : Array Value} (hg : a.eval g = .func (.func gf) #[] lb) (hFg : F.fn gf) (eg : ∀ args w, (callFunc gf args).run P w = .ok (.enter gf args) w)
 {encs : α -> Array Value} {BS : Nat} {S Sp : List α -> Prop} {N : Nat} (hgs : GivesS F (n - 1) P gf lb encs BS S Sp N w) (hBS : BS < w.heap.size) (hps : ∀ x, (encs x).size = ps.size)
 (I Ix : List α -> World -> Prop) (hI : BearS w.heap.size BS I) (hIx : BearS w.heap.size BS Ix) (h0 : I [] w) (a₁ : α -> Act)
 (hassign : ∀ (l : Nat) (x : α) (W : World) (K : Act -> World -> Prop), K (a₁ x) W ->
  assign.wpIn (F.inRound l) (n - 1 - 1) P (Exit.then K (fun _ _ _ => False)) { tmps := (ps.zip (encs x)).foldl (fun t (p, v) => t.setIfInBounds p v) a.tmps, defers := [] } W)
 (hbody : ∀ (l : Nat) (pre : List α) (x : α) (W : World), I pre W -> pre.length < N -> Sp (pre ++ [x]) -> body.wpIn (F.inRound l) (n - 1 - 1) P (LeftS w.heap.size BS I Ix (pre ++ [x]) W) (a₁ x) W)
 (hdone : ∀ (D : Nat) (xs : List α) (W : World), w.heap.size <= D -> S xs -> I xs W -> W.heap[D]? = some (.deferred (some [])) -> Q .normal { a with defers := { target := .collected D, args := #[] } :: a.defers } W)
 (hstop : ∀ (D : Nat) (pre : List α) (W : World), w.heap.size <= D -> Sp pre -> Ix pre W -> W.heap[D]? = some (.deferred (some [])) -> Code.ret.wpIn F n P Q { a with defers := { target := .collected D, args := #[] } :: a.defers } W) :
 (Code.rangeFunc g ps assign body).wpIn F n P Q a w := by
 refine wpIn_rangeFunc fun fn hfn => ?_
 obtain ⟨s, hs⟩ : ∃ s, w.heap.size = s := ⟨_, rfl⟩
 let mk : LoopState -> Option Code -> Loop := fun st pe => { state := st, pending := pe, fn, tmps := a.tmps, params := ps, assign, body, defers := s }
 let W1 := (w.alloc (.deferred (some []))).alloc (.loop (mk .ready none))
 have hD1 : W1.heap[s]? = some (.deferred (some [])) := by
  show ((w.alloc _).alloc _).heap[s]? = _;rw [Below.heap_alloc _ _ _ (by simp; omega), <- hs]; exact World.alloc_heap_new w _
 have hL1 : W1.heap[s + 1]? = some (.loop (mk .ready none)) := by
  have := World.alloc_heap_new (w.alloc (.deferred (some []))) (.loop (mk .ready none));rw [World.size_alloc, hs] at this; exact this
 have hI1 : I [] W1 := hI _ _ _ none (hI _ _ _ none h0 (World.grownBy_alloc w (.deferred (some [])) none) (fun k hk => by cases hk)) (World.grownBy_alloc _ (.loop (mk .ready none)) none) (fun k hk => by cases hk);have kp : ∀ {A B : World}, A.grownBy B (some BS) -> ∀ {k : Nat} {o : Obj}, s <= k -> A.heap[k]? = some o -> B.heap[k]? = some o := fun {A B} hg' {k o} hk ho =>
  (hg'.block k (Array.getElem?_eq_some_iff.1 ho).1 (fun e => by have := Option.some.inj e; omega)).trans ho
 refine ⟨s + 1, [{ target := .collected s, args := #[] }], W1, { target := .fn (.func gf) lb, args := #[.func (.yield (s + 1)) #[] #[]] }, W1, gf, #[.func (.yield (s + 1)) #[] #[]] ++ lb, W1, ?_, ?_, ?_, ?_, fun _ => h1, ?_⟩
 ·rw [hro, run_enterLoop_outer]; simp only [hs]; rfl
 ·simp only [resolve, hg]; simp [go_sem]
 ·intro f' hf'; simp [Target.leads] at hf'; subst hf'; exact hFg
 ·simp [invoke, go_sem, eg]
 ·refine (hgs (s + 1) (fun pre W => I pre W /\ W.heap[s + 1]? = some (.loop (mk .ready none)) /\ W.heap[s]? = some (.deferred (some [])))
   (fun pre W => Ix pre W /\ W.heap[s + 1]? = some (.loop (mk .done (some .ret))) /\ W.heap[s]? = some (.deferred (some []))) W1 (by
    have hb := ((Below.refl w.heap.size w).alloc (Nat.le_refl _) (.deferred (some []))).alloc (by simp) (.loop (mk .ready none));exact hb)
   (fun pre A B h hg' => ⟨hI _ _ _ _ h.1 hg' (fun k hk => Or.inl (by cases hk; rfl)), kp hg' (by omega) h.2.1, kp hg' (Nat.le_refl _) h.2.2⟩)
   (fun pre A B h hg' => ⟨hIx _ _ _ _ h.1 hg' (fun k hk => Or.inl (by cases hk; rfl)), kp hg' (by omega) h.2.1, kp hg' (Nat.le_refl _) h.2.2⟩)
   ?_ ⟨hI1, hL1, hD1⟩).mono ?_
  ·rintro pre x A ⟨hi, hl, hd⟩ hlen hsp;have hlt : s + 1 < A.heap.size := (Array.getElem?_eq_some_iff.1 hl).1;obtain ⟨A2, hA2⟩ : ∃ A2, A2 = A.putObj (s + 1) (.loop { mk .ready none with state := .busy }) := ⟨_, rfl⟩
   have hl2 : A2.heap[s + 1]? = some (.loop { mk .ready none with state := .busy }) := by rw [hA2]; exact World.putObj_heap_same hlt
   have hd2 : A2.heap[s]? = some (.deferred (some [])) := by rw [hA2]; exact (World.putObj_heap_other (by omega)).trans hd
   have hs2 : A2.heap.size = A.heap.size := by rw [hA2]; simp
   have hB2 : A2.heap[BS]? = A.heap[BS]? := by rw [hA2]; exact World.putObj_heap_other (by omega)
   have hi2 : I pre A2 := by rw [hA2]; exact hI.put _ hi (by omega) hl rfl
   refine ⟨fn, _, assign, body, run_yield hl (hps x), roundIn_of_wpIn hfn (hassign _ x A _ ⟨A2, by rw [hA2]; exact run_beginRound hl rfl, wpIn_mono (hbody _ pre x A2 hi2 hlen hsp) ?_⟩)⟩;intro e a3 W3 hp
   match e, hp with
   | .normal, ⟨hk3, hb3, hi3⟩ =>
    have hl3 := hk3.same _ _ (by omega) hl2 rfl;refine ⟨_, _, run_endRound none hl3, Or.inl ⟨rfl, ⟨hI.put _ hi3 (by omega) hl3 rfl, World.putObj_heap_same (Array.getElem?_eq_some_iff.1 hl3).1, (World.putObj_heap_other (by omega)).trans (hk3.same _ _ (by omega) hd2 rfl)⟩, ?_, ?_⟩⟩
    ·have := hk3.size; simp; omega
    ·exact ((World.putObj_heap_other (by omega)).trans hb3).trans hB2
   | .ret, ⟨hk3, hi3⟩ =>
    have hl3 := hk3.same _ _ (by omega) hl2 rfl;exact ⟨_, _, run_endRound (some .ret) hl3, Or.inr ⟨rfl, hIx.put _ hi3 (by omega) hl3 rfl, World.putObj_heap_same (Array.getElem?_eq_some_iff.1 hl3).1, (World.putObj_heap_other (by omega)).trans (hk3.same _ _ (by omega) hd2 rfl)⟩⟩
  ·rintro e W2 ⟨⟨v, rfl⟩, ⟨xs, hS, hi, hl, hd⟩ | ⟨pre, hSp, hi, hl, hd⟩⟩
   ·exact ⟨none, _, run_endLoop hl (by simp [mk]), hdone _ xs _ (by omega) hS (hI.put _ hi (by omega) hl rfl) ((World.putObj_heap_other (by omega)).trans hd)⟩
   ·exact ⟨some .ret, _, run_endLoop hl (by simp [mk]), hstop _ pre _ (by omega) hSp (hIx.put _ hi (by omega) hl rfl) ((World.putObj_heap_other (by omega)).trans hd)⟩
end
end Go.Proofs.YtcnfcililiehlaaGreatDoor.Ch
