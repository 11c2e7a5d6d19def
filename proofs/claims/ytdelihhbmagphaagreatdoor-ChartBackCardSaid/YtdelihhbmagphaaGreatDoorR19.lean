/- Own texts, joined: Bd, Shel3, Ix, Pl, Sh. -/
import Derived.Test.YtdelihhbmagphaaGreatDoorR12
import Derived.Test.YtdelihhbmagphaaGreatDoorR15
import Derived.Test.YtdelihhbmagphaaGreatDoorR16
import Derived.Test.YtdelihhbmagphaaGreatDoorR18
import Derived.Shelf.Strings.Builder1
import Derived.Shelf.Strings.Builder2
import Derived.Shelf.Strings.OnBuilder
import Derived.Shelf.Small.Utf8
import Derived.Shelf.Small.Strs
import Derived.Shelf.Small.Wraps
import Derived.Shelf.Strings.BuilderF
import Derived.Shelf.Strings.BuilderK
import Derived.Shelf.Utf8.RuneCount
import Derived.Shelf.Strings.Builder2Cap
import Derived.Shelf.Strconv.Itoa0
import Derived.Shelf.Strconv.Itoa1
import Derived.Shelf.LaysM
import Derived.Shelf.Strconv.Itoa2
import Derived.Shelf.Strconv.Itoa3
import Derived.Shelf.Strconv.Itoa4
import Derived.Shelf.Strconv.ParseIntEmpty
import Derived.Shelf.Strconv.Clone
import Derived.Shelf.Strconv.SyntaxError
import Derived.Shelf.LaysC
import Derived.Shelf.Strconv.ToError
import Derived.Shelf.Strconv.Lower
import Derived.Shelf.Strconv.ParseUint10
import Derived.Shelf.Strconv.ParseUint10Empty
import Derived.Shelf.Strconv.ParseUint10Any
import Derived.Shelf.Strconv.ParseInt10
import Derived.Shelf.Strconv.RangeError
import Derived.Shelf.Strconv.ToErrorRange
import Derived.Shelf.Strconv.ParseUintEmpty
import Derived.Shelf.Strconv.ParseUint10b64
import Derived.Shelf.Strconv.ParseUint10b32
import Derived.Shelf.Strconv.ParseUint10b16
import Derived.Shelf.Strconv.ParseUint10b8
import Derived.Shelf.Strconv.ParseUint10At
import Derived.Shelf.Strconv.ParseInt10At64
import Derived.Shelf.Strconv.ParseInt10At32
import Derived.Shelf.Strconv.ParseInt10At16
import Derived.Shelf.Strconv.ParseInt10At8
import Derived.Shelf.Strconv.ParseInt10All
import Derived.Shelf.Strconv.ParseIntPublic10
import Derived.Shelf.Strconv.ErrVarParseInt
import Derived.Shelf.Strings.Search1
import Derived.Shelf.Strings.Search2
import Derived.Shelf.Strings.Search3
import Derived.Shelf.Strings.Cut
import Derived.Shelf.Strings.Count
import Derived.Shelf.Strings.Shaped
import Derived.Shelf.Strings.Prefix
import Derived.Shelf.Strings.Split
import Derived.Shelf.Strings.SplitShaped
import Derived.Shelf.Unicode.Decode
import Derived.Shelf.Strings.Runes
import Derived.Shelf.Strings.RuneCount
import Derived.Shelf.Strings.IndexAny
import Derived.Shelf.Strings.AsciiSet
import Derived.Shelf.Strings.IndexAnyAll
import Derived.Shelf.Strings.Explode
import Derived.Shelf.Bits.Mul64
import Derived.Shelf.Strings.Repeat
import Derived.Shelf.Strings.BuilderCap
import Derived.Shelf.Slices.Equal
import Derived.Shelf.Slices.Empties2
import Derived.Test.YtdelihhbmagphaaGreatDoorProg
import Derived.WalkKit
import Derived.WalkSpells
import Derived.WalkLawsBesides
import Derived.Lib.Hide
import Derived.Lib.OthersKept
import Derived.Lib.RuneCount
import Derived.Deep.LoopGhost
import Derived.Deep.QuietTactic
import Derived.BigQuiet
import Derived.Lib.AppendIntMem
namespace Go.Proofs.YtdelihhbmagphaaGreatDoor.Ch
open Go.RowKit
theorem quiet_at {P : Program} {f : FuncId} {args : Array Value} {w : World} {n : Nat} {v : Value} (h : Calls P f args (w.drewN n) fun e w' => e = .returned v ∧ w' = w.drewN n) :
  Calls P f args (w.drewN n) fun e w'' => e = .returned v ∧ ∃ m, w'' = w.drewN m := h.mono fun _ _ ⟨he, hr⟩ => ⟨he, n, hr⟩
section
variable {b B : Nat} {w : World} {c : CH} {eV vV sV tV : Value} {sp : List SP} {tp : List TP}
theorem isNoName_any (X : ByteArray) (w : World) : Calls Tryz.prog 70 #[.string X] w fun e w' => e = .returned (.bool (!nameB X.data.toList)) ∧ w' = w := by
 go_enter Tryz.func70, Tryz.ntmps70
 go_wp2_with fail
 refine (name_any X _).mono ?_
 rintro e w1 ⟨rfl, h⟩
 obtain rfl := h
 go_wp2
 go_ret
 exact ⟨rfl, rfl⟩
structure RestR (w0 w : World) (A : Option Addr) (cp : Nat) (r : List (List UInt8)) : Prop where
 inn : Inn w 1 (.slice A r.length cp) r.length (strsV r)
 new : ∀ g, (Value.slice A r.length cp).ownBlock = some g → w0.heap.size ≤ g
theorem RestR.below {w0 w w' : World} {A : Option Addr} {cp : Nat} {r : List (List UInt8)} (h : RestR w0 w A cp r) (hb : Below w.heap.size w w') : RestR w0 w' A cp r := ⟨h.inn.below hb, h.new⟩
theorem RestR.at_ {w0 w : World} {A : Option Addr} {cp : Nat} {r : List (List UInt8)} (h : RestR w0 w A cp r) {k : Nat} (hk : k < r.length) : ∃ q o, A = some ⟨q, o, none⟩ ∧ w0.heap.size ≤ q ∧ q < w.heap.size ∧ w.cell? ⟨q, o + k, none⟩ = some (bstr (wd r k)) := by
 obtain ⟨q, o, rfl, hq, hc⟩ := h.inn.at_ hk
 refine ⟨q, o, rfl, h.new q rfl, hq, ?_⟩
 have := hc 0 (bstr (wd r k)) (by simp [strsV, wd_at hk, hk])
 simpa using this
theorem isHead_any (h : OwnCh b B 44 w c eV vV sV tV sp tp) (hB : Bdd 1000000 c) (d n : Nat) (F : ByteArray) (A : Option Addr) (cp : Nat) (r : List (List UInt8)) (_ : r.length ≤ 1000000) (_ : d ≤ 1000000) (_ : n ≤ 4) :
  Calls Tryz.prog 71 #[.pointer (some ⟨b, 0, none⟩), .agg #[.int .i64 d, .string F, .slice A r.length cp], .int .i64 n] w fun e w' => e = .returned (.bool (headB c d n r)) ∧ Below w.heap.size w w' := by
 obtain ⟨w1, hw1⟩ : ∃ W, W = w.alloc (.cells #[.int .i64 d, .string F, .slice A r.length cp] 51) := ⟨_, rfl⟩
 have hb : Below w.heap.size w w1 := hw1 ▸ (Below.refl w.heap.size w).alloc (Nat.le_refl _) _
 have d0 : w1.cell? ⟨w.heap.size, 0, none⟩ = some (.int .i64 d) := by rw [hw1]; simp
 have d2 : w1.cell? ⟨w.heap.size, 2, none⟩ = some (.slice A r.length cp) := by rw [hw1]; simp
 have HN := Lib.hid (isNew_any (h.below hb))
 obtain ⟨_, _, _, b3, _⟩ := (h.below hb).cells
 obtain ⟨As, cs, rfl⟩ := own_slice h.ss
 have hsl := SP.len h.ssE
 have hss := hB.ss
 have hb0 : (headB c d n r) = (!c.nm.isEmpty && decide ((sp.length : Int) = 0) && decide ((d : Int) = 0) && decide ((r.length : Int) = (n : Int))) := by
  unfold headB
  have e1 : c.ss.isEmpty = decide ((sp.length : Int) = 0) := by rw [hsl]; cases c.ss <;> simp; omega
  rw [e1, decide_eq_decide.2 (show ((d : Int) = 0 ↔ d = 0) by omega), decide_eq_decide.2 (show ((r.length : Int) = (n : Int) ↔ r.length = n) by omega)]
 have HB := Lib.hid hb; have HH := Lib.hid hb0; have HW := Lib.hid hw1
 clear h hB hb hb0 hw1 hsl hss
 generalize c.nm.isEmpty = nw at *
 generalize sp.length = sl at *
 generalize r.length = rl at *
 go_enter Tryz.func71, Tryz.ntmps71
 go_wp2_with fail
 rw [← HW.out]
 refine HN.out.mono ?_
 rintro e w2 ⟨rfl, h⟩
 obtain rfl := h
 cases nw with
 | true =>
  go_wp2
  go_ret
  exact ⟨ret_bool (by rw [HH.out]; rfl), HB.out⟩
 | false =>
  by_cases h1 : (sl : Int) = 0
  ·by_cases h2 : (d : Int) = 0
   ·by_cases h3 : (rl : Int) = (n : Int)
    ·go_wp2
     go_ret
     exact ⟨ret_bool (by rw [HH.out, decide_eq_true h1, decide_eq_true h2, decide_eq_true h3]; rfl), HB.out⟩
    ·go_wp2
     go_ret
     exact ⟨ret_bool (by rw [HH.out, decide_eq_true h1, decide_eq_true h2, decide_eq_false h3]; exact int_ne h3), HB.out⟩
   ·go_wp2
    go_ret
    exact ⟨ret_bool (by rw [HH.out, decide_eq_true h1, decide_eq_false h2]; rfl), HB.out⟩
  ·go_wp2
   go_ret
   exact ⟨ret_bool (by rw [HH.out, decide_eq_false h1]; rfl), HB.out⟩
theorem isPart_any (h : OwnCh b B 44 w c eV vV sV tV sp tp) (hB : Bdd 1000000 c) (d n : Nat) (F : ByteArray) (A : Option Addr) (cp : Nat) (r : List (List UInt8)) (_ : r.length ≤ 1000000) (_ : d ≤ 1000000) (_ : n ≤ 4) :
  Calls Tryz.prog 78 #[.pointer (some ⟨b, 0, none⟩), .agg #[.int .i64 d, .string F, .slice A r.length cp], .int .i64 n] w fun e w' => e = .returned (.bool (partB c d n r)) ∧ Below w.heap.size w w' := by
 obtain ⟨w1, hw1⟩ : ∃ W, W = w.alloc (.cells #[.int .i64 d, .string F, .slice A r.length cp] 51) := ⟨_, rfl⟩
 have hb : Below w.heap.size w w1 := hw1 ▸ (Below.refl w.heap.size w).alloc (Nat.le_refl _) _
 have d0 : w1.cell? ⟨w.heap.size, 0, none⟩ = some (.int .i64 d) := by rw [hw1]; simp
 have d2 : w1.cell? ⟨w.heap.size, 2, none⟩ = some (.slice A r.length cp) := by rw [hw1]; simp
 have HN : Hid (∀ m, Calls Tryz.prog 111 #[.pointer (some ⟨b, 0, none⟩)] (w1.drewN m) fun e w' => e = .returned (.int .i64 (roomC c.ss)) ∧ w' = w1.drewN m) := fun m => deepest_any ((h.below hb).below (below_drewN (Below.refl _ _) m)) hB
 obtain ⟨_, _, _, b3, _⟩ := (h.below hb).cells
 obtain ⟨As, cs, rfl⟩ := own_slice h.ss
 have hsl := SP.len h.ssE
 have hss := hB.ss
 have hpb : (partB c d n r) = (decide (0 < (sp.length : Int)) && decide ((d : Int) = roomC c.ss) && decide ((r.length : Int) = (n : Int))) := by
  unfold partB
  have e1 : (!c.ss.isEmpty) = decide (0 < (sp.length : Int)) := by rw [hsl]; cases c.ss <;> simp
  rw [e1, decide_eq_decide.2 (show ((r.length : Int) = (n : Int) ↔ r.length = n) by omega)]
 have hs3 : sp.length ≤ 1000000 := by omega
 have HB : Hid (∀ m, Below w.heap.size w (w1.drewN m)) := fun m => below_drewN hb m
 have HH := Lib.hid hpb; have HW := Lib.hid hw1
 clear h hB hb hpb hw1 hsl hss
 generalize roomC c.ss = rm at *
 generalize sp.length = sl at *
 generalize r.length = rl at *
 go_enter Tryz.func78, Tryz.ntmps78
 go_wp2_with fail
 rw [← HW.out]
 by_cases h1 : (0 : Int) < (sl : Int)
 ·have q1 : decide (0 < sl) = true := decide_eq_true (by omega)
  by_cases h2 : (d : Int) = rm
  ·have q2 : ((d : Int) == rm) = true := beq_iff_eq.2 h2
   by_cases h3 : (rl : Int) = (n : Int)
   ·have q3 : ((rl : Int) == (n : Int)) = true := beq_iff_eq.2 h3
    have HV := Lib.hid (show partB c d n r = true by rw [HH.out, decide_eq_true h1, decide_eq_true h2, decide_eq_true h3]; rfl)
    clear h1 h2 h3
    go_big_quiet ((go_at_call 111; exact quiet_at (HN.out _)))
    go_wp2
    go_ret
    exact ⟨ret_bool HV.out.symm, HB.out _⟩
   ·have q3 : ((rl : Int) == (n : Int)) = false := int_ne h3
    have HV := Lib.hid (show partB c d n r = false by rw [HH.out, decide_eq_true h1, decide_eq_true h2, decide_eq_false h3]; rfl)
    clear h1 h2 h3
    go_big_quiet ((go_at_call 111; exact quiet_at (HN.out _)))
    go_wp2
    go_ret
    exact ⟨ret_bool HV.out.symm, HB.out _⟩
  ·have q2 : ((d : Int) == rm) = false := int_ne h2
   have HV := Lib.hid (show partB c d n r = false by rw [HH.out, decide_eq_true h1, decide_eq_false h2]; rfl)
   clear h1 h2
   go_big_quiet ((go_at_call 111; exact quiet_at (HN.out _)))
   go_wp2
   go_ret
   exact ⟨ret_bool HV.out.symm, HB.out _⟩
 ·have q1 : decide (0 < sl) = false := decide_eq_false (by omega)
  have HV := Lib.hid (show partB c d n r = false by rw [HH.out, decide_eq_false h1]; rfl)
  clear h1
  go_big_quiet ((go_at_call 111; exact quiet_at (HN.out _)))
  go_wp2
  go_ret
  exact ⟨ret_bool HV.out.symm, HB.out _⟩
end
end Go.Proofs.YtdelihhbmagphaaGreatDoor.Ch
namespace Go.Proofs
open Go.Shelf
def Tryz.lays119_ren : Go.Shelf.Ren := ⟨fun | 119 => 199 | n => n, fun | 21 => 21 | 4 => 4 | n => n, fun | n => n⟩
theorem Tryz.lays119 : Go.Proofs.Lays.n119 Tryz.prog Tryz.lays119_ren := {
 mixed := by kernel_rfl
 f119 := Tryz.func199.trans (congrArg some (by kernel_rfl))
 t4 := Tryz.underlying4
 a4 := Tryz.isAgg4
 z4 := Tryz.sizeOf4
 v4 := Tryz.zeroValue4
 t21 := Tryz.underlying21
 a21 := Tryz.isAgg21
 z21 := Tryz.sizeOf21
 v21 := Tryz.zeroValue21 }
theorem Tryz.utf8_ValidRune (r : Int) (w : World) :
  Calls Tryz.prog 199 #[.int .i32 r] w fun e w' => e = .returned (.bool (Lib.validRune r)) ∧ w' = w := Any.utf8_ValidRune Tryz.lays119 r w
def Tryz.lays104_ren : Go.Shelf.Ren := ⟨fun | 104 => 144 | 211 => 175 | 207 => 123 | n => n, fun | 9 => 9 | 4 => 4 | 24 => 190 | 3 => 3 | n => n, fun | n => n⟩
theorem Tryz.lays104 : Go.Proofs.Lays.n104 Tryz.prog Tryz.lays104_ren := {
 mixed := by kernel_rfl
 f104 := Tryz.func144.trans (congrArg some (by kernel_rfl))
 f207 := Tryz.func123.trans (congrArg some (by kernel_rfl))
 f211 := Tryz.func175.trans (congrArg some (by kernel_rfl))
 t3 := Tryz.underlying3
 a3 := Tryz.isAgg3
 z3 := Tryz.sizeOf3
 v3 := Tryz.zeroValue3
 t4 := Tryz.underlying4
 a4 := Tryz.isAgg4
 z4 := Tryz.sizeOf4
 v4 := Tryz.zeroValue4
 t9 := Tryz.underlying9
 a9 := Tryz.isAgg9
 z9 := Tryz.sizeOf9
 v9 := Tryz.zeroValue9
 t24 := Tryz.underlying190
 a24 := Tryz.isAgg190
 z24 := Tryz.sizeOf190
 v24 := Tryz.zeroValue190 }
open Go.RowKit in
theorem Tryz.strings_CutSuffix (s p : ByteArray) (w : World) (hs : s.size ≤ 9223372036854775807) :
  Calls Tryz.prog 144 #[.string s, .string p] w fun e w' => e = .returned (.tuple #[.string ⟨(Lib.trimSuffix s.data.toList p.data.toList).toArray⟩, .bool (Lib.hasSuffix s.data.toList p.data.toList)]) ∧ w' = w := Any.strings_CutSuffix Tryz.lays104 s p w hs
def Tryz.laysC174_ren : Go.Shelf.Ren := ⟨fun | 174 => 146 | 247 => 180 | 245 => 181 | 287 => 202 | 279 => 203 | 280 => 204 | 281 => 205 | 282 => 206 | 321 => 223 | 322 => 224 | 316 => 122 | 171 => 226 | 205 => 225 | 243 => 233 | 246 => 168 | 283 => 194 | 284 => 195 | 285 => 196 | 286 => 197 | 129 => 218 | 317 => 217 | 318 => 219 | 319 => 220 | 320 => 221 | 337 => 231 | 338 => 232 | n => n, fun | 9 => 9 | 3 => 3 | 2 => 2 | 75 => 143 | 85 => 192 | 4 => 4 | 167 => 247 | 5 => 5 | 53 => 186 | 175 => 248 | 46 => 174 | 168 => 250 | 37 => 74 | 0 => 0 | 210 => 264 | 21 => 21 | 127 => 102 | 145 => 270 | 143 => 268 | 171 => 239 | 173 => 242 | 212 => 258 | 51 => 216 | 20 => 20 | 213 => 259 | 232 => 275 | 233 => 276 | 80 => 80 | n => n, fun | 15 => 3 | 16 => 4 | 17 => 2 | 18 => 7 | 19 => 8 | n => n⟩
theorem Tryz.laysC174 : Go.Proofs.LaysC.n174 Tryz.prog Tryz.laysC174_ren := {
 mixed := by kernel_rfl
 f129 := Tryz.func218.trans (congrArg some (by kernel_rfl))
 f171 := Tryz.func226.trans (congrArg some (by kernel_rfl))
 f174 := Tryz.func146.trans (congrArg some (by kernel_rfl))
 f205 := Tryz.func225.trans (congrArg some (by kernel_rfl))
 f243 := Tryz.func233.trans (congrArg some (by kernel_rfl))
 f245 := Tryz.func181.trans (congrArg some (by kernel_rfl))
 f246 := Tryz.func168.trans (congrArg some (by kernel_rfl))
 f247 := Tryz.func180.trans (congrArg some (by kernel_rfl))
 f279 := Tryz.func203.trans (congrArg some (by kernel_rfl))
 f280 := Tryz.func204.trans (congrArg some (by kernel_rfl))
 f281 := Tryz.func205.trans (congrArg some (by kernel_rfl))
 f282 := Tryz.func206.trans (congrArg some (by kernel_rfl))
 f283 := Tryz.func194.trans (congrArg some (by kernel_rfl))
 f284 := Tryz.func195.trans (congrArg some (by kernel_rfl))
 f285 := Tryz.func196.trans (congrArg some (by kernel_rfl))
 f286 := Tryz.func197.trans (congrArg some (by kernel_rfl))
 f287 := Tryz.func202.trans (congrArg some (by kernel_rfl))
 f316 := Tryz.func122.trans (congrArg some (by kernel_rfl))
 f317 := Tryz.func217.trans (congrArg some (by kernel_rfl))
 f318 := Tryz.func219.trans (congrArg some (by kernel_rfl))
 f319 := Tryz.func220.trans (congrArg some (by kernel_rfl))
 f320 := Tryz.func221.trans (congrArg some (by kernel_rfl))
 f321 := Tryz.func223.trans (congrArg some (by kernel_rfl))
 f322 := Tryz.func224.trans (congrArg some (by kernel_rfl))
 f337 := Tryz.func231.trans (congrArg some (by kernel_rfl))
 f338 := Tryz.func232.trans (congrArg some (by kernel_rfl))
 t0 := Tryz.underlying0
 a0 := Tryz.isAgg0
 z0 := Tryz.sizeOf0
 v0 := Tryz.zeroValue0
 t2 := Tryz.underlying2
 a2 := Tryz.isAgg2
 z2 := Tryz.sizeOf2
 v2 := Tryz.zeroValue2
 t3 := Tryz.underlying3
 a3 := Tryz.isAgg3
 z3 := Tryz.sizeOf3
 v3 := Tryz.zeroValue3
 t4 := Tryz.underlying4
 a4 := Tryz.isAgg4
 z4 := Tryz.sizeOf4
 v4 := Tryz.zeroValue4
 t5 := Tryz.underlying5
 a5 := Tryz.isAgg5
 z5 := Tryz.sizeOf5
 v5 := Tryz.zeroValue5
 t9 := Tryz.underlying9
 a9 := Tryz.isAgg9
 z9 := Tryz.sizeOf9
 v9 := Tryz.zeroValue9
 t20 := Tryz.underlying20
 a20 := Tryz.isAgg20
 z20 := Tryz.sizeOf20
 v20 := Tryz.zeroValue20
 t21 := Tryz.underlying21
 a21 := Tryz.isAgg21
 z21 := Tryz.sizeOf21
 v21 := Tryz.zeroValue21
 t37 := Tryz.underlying74
 a37 := Tryz.isAgg74
 z37 := Tryz.sizeOf74
 v37 := Tryz.zeroValue74
 t46 := Tryz.underlying174
 a46 := Tryz.isAgg174
 z46 := Tryz.sizeOf174
 v46 := Tryz.zeroValue174
 t51 := Tryz.underlying216
 a51 := Tryz.isAgg216
 z51 := Tryz.sizeOf216
 v51 := Tryz.zeroValue216
 t53 := Tryz.underlying186
 a53 := Tryz.isAgg186
 z53 := Tryz.sizeOf186
 v53 := Tryz.zeroValue186
 t75 := Tryz.underlying143
 a75 := Tryz.isAgg143
 z75 := Tryz.sizeOf143
 v75 := Tryz.zeroValue143
 t85 := Tryz.underlying192
 a85 := Tryz.isAgg192
 z85 := Tryz.sizeOf192
 v85 := Tryz.zeroValue192
 t127 := Tryz.underlying102
 a127 := Tryz.isAgg102
 z127 := Tryz.sizeOf102
 v127 := Tryz.zeroValue102
 t143 := Tryz.underlying268
 a143 := Tryz.isAgg268
 z143 := Tryz.sizeOf268
 v143 := Tryz.zeroValue268
 t145 := Tryz.underlying270
 a145 := Tryz.isAgg270
 z145 := Tryz.sizeOf270
 v145 := Tryz.zeroValue270
 t167 := Tryz.underlying247
 a167 := Tryz.isAgg247
 z167 := Tryz.sizeOf247
 v167 := Tryz.zeroValue247
 t168 := Tryz.underlying250
 a168 := Tryz.isAgg250
 z168 := Tryz.sizeOf250
 v168 := Tryz.zeroValue250
 t171 := Tryz.underlying239
 a171 := Tryz.isAgg239
 z171 := Tryz.sizeOf239
 v171 := Tryz.zeroValue239
 t173 := Tryz.underlying242
 a173 := Tryz.isAgg242
 z173 := Tryz.sizeOf242
 v173 := Tryz.zeroValue242
 t175 := Tryz.underlying248
 a175 := Tryz.isAgg248
 z175 := Tryz.sizeOf248
 v175 := Tryz.zeroValue248
 t210 := Tryz.underlying264
 a210 := Tryz.isAgg264
 z210 := Tryz.sizeOf264
 v210 := Tryz.zeroValue264
 t212 := Tryz.underlying258
 a212 := Tryz.isAgg258
 z212 := Tryz.sizeOf258
 v212 := Tryz.zeroValue258
 t213 := Tryz.underlying259
 a213 := Tryz.isAgg259
 z213 := Tryz.sizeOf259
 t232 := Tryz.underlying275
 a232 := Tryz.isAgg275
 z232 := Tryz.sizeOf275
 v232 := Tryz.zeroValue275
 t233 := Tryz.underlying276
 a233 := Tryz.isAgg276
 z233 := Tryz.sizeOf276
 v233 := Tryz.zeroValue276
 g15 := by kernel_rfl
 g16 := by kernel_rfl
 g17 := by kernel_rfl
 g18 := by kernel_rfl
 g19 := by kernel_rfl
 t80 := Tryz.underlying80
 a80 := Tryz.isAgg80
 z80 := Tryz.sizeOf80
 v80 := Tryz.zeroValue80
 i0 := by kernel_rfl
 i2 := by kernel_rfl
 i3 := by kernel_rfl
 i4 := by kernel_rfl
 i5 := by kernel_rfl
 i9 := by kernel_rfl
 i20 := by kernel_rfl
 i21 := by kernel_rfl
 i37 := by kernel_rfl
 i46 := by kernel_rfl
 i51 := by kernel_rfl
 i53 := by kernel_rfl
 i75 := by kernel_rfl
 i80 := by kernel_rfl
 i85 := by kernel_rfl
 i127 := by kernel_rfl
 i143 := by kernel_rfl
 i145 := by kernel_rfl
 i167 := by kernel_rfl
 i168 := by kernel_rfl
 i171 := by kernel_rfl
 i173 := by kernel_rfl
 i175 := by kernel_rfl
 i210 := by kernel_rfl
 i212 := by kernel_rfl
 i232 := by kernel_rfl
 i233 := by kernel_rfl
 m15 := by kernel_rfl
 m16 := by kernel_rfl
 m17 := by kernel_rfl
 m18 := by kernel_rfl
 m19 := by kernel_rfl
 c0 := by kernel_rfl
 c2 := by kernel_rfl
 c3 := by kernel_rfl
 c4 := by kernel_rfl
 c5 := by kernel_rfl
 c9 := by kernel_rfl
 c20 := by kernel_rfl
 c21 := by kernel_rfl
 c37 := by kernel_rfl
 c46 := by kernel_rfl
 c51 := by kernel_rfl
 c53 := by kernel_rfl
 c75 := by kernel_rfl
 c80 := by kernel_rfl
 c85 := by kernel_rfl
 c127 := by kernel_rfl
 c143 := by kernel_rfl
 c145 := by kernel_rfl
 c167 := by kernel_rfl
 c168 := by kernel_rfl
 c171 := by kernel_rfl
 c173 := by kernel_rfl
 c175 := by kernel_rfl
 c210 := by kernel_rfl
 c212 := by kernel_rfl
 c213 := by kernel_rfl
 c232 := by kernel_rfl
 c233 := by kernel_rfl }
open Go.RowKit in
theorem Tryz.strconv_ParseInt_10_at64_ok (s : ByteArray) (hmax : s.size ≤ 9223372036854775806) (v : Int) (h : Lib.parseIntB 64 s.data.toList = .ok v) (w : World) :
  Calls Tryz.prog 146 #[.string s, .int .i64 10, .int .i64 64] w fun e w' => e = .returned (.tuple #[.int .i64 v, .nilIface]) ∧ (w' = w ∨ ∃ t, w' = Lib.bytesWorld w 5 t) := Any.strconv_ParseInt_10_at64_ok Tryz.laysC174 s hmax v h w
def Tryz.lays152_ren : Go.Shelf.Ren := ⟨fun | 152 => 176 | 137 => 46 | 119 => 199 | 224 => 200 | 225 => 201 | 217 => 84 | 266 => 121 | n => n, fun | 9 => 9 | 21 => 21 | 3 => 3 | 4 => 4 | 5 => 5 | 0 => 0 | 46 => 174 | n => n, fun | n => n⟩
theorem Tryz.lays152 : Go.Proofs.Lays.n152 Tryz.prog Tryz.lays152_ren := {
 mixed := by kernel_rfl
 f119 := Tryz.func199.trans (congrArg some (by kernel_rfl))
 f137 := Tryz.func46.trans (congrArg some (by kernel_rfl))
 f152 := Tryz.func176.trans (congrArg some (by kernel_rfl))
 f217 := Tryz.func84.trans (congrArg some (by kernel_rfl))
 f224 := Tryz.func200.trans (congrArg some (by kernel_rfl))
 f225 := Tryz.func201.trans (congrArg some (by kernel_rfl))
 f266 := Tryz.func121.trans (congrArg some (by kernel_rfl))
 t0 := Tryz.underlying0
 a0 := Tryz.isAgg0
 z0 := Tryz.sizeOf0
 v0 := Tryz.zeroValue0
 t3 := Tryz.underlying3
 a3 := Tryz.isAgg3
 z3 := Tryz.sizeOf3
 v3 := Tryz.zeroValue3
 t4 := Tryz.underlying4
 a4 := Tryz.isAgg4
 z4 := Tryz.sizeOf4
 v4 := Tryz.zeroValue4
 t5 := Tryz.underlying5
 a5 := Tryz.isAgg5
 z5 := Tryz.sizeOf5
 v5 := Tryz.zeroValue5
 t9 := Tryz.underlying9
 a9 := Tryz.isAgg9
 z9 := Tryz.sizeOf9
 v9 := Tryz.zeroValue9
 t21 := Tryz.underlying21
 a21 := Tryz.isAgg21
 z21 := Tryz.sizeOf21
 v21 := Tryz.zeroValue21
 t46 := Tryz.underlying174
 a46 := Tryz.isAgg174
 z46 := Tryz.sizeOf174
 v46 := Tryz.zeroValue174 }
open Go.RowKit Go.Lib in
theorem Tryz.strings_IndexRune_ascii (s : ByteArray) (r : Int) (w : World) (h0 : 0 ≤ r) (h1 : r < 128) :
  Calls Tryz.prog 176 #[.string s, .int .i32 r] w fun e w' => e = .returned (.int .i64 (Lib.indexByte s.data.toList r.toNat.toUInt8)) ∧ w' = w := Any.strings_IndexRune_ascii Tryz.lays152 s r w h0 h1
def Tryz.lays226_ren : Go.Shelf.Ren := ⟨fun | 226 => 177 | n => n, fun | 3 => 3 | 4 => 4 | n => n, fun | n => n⟩
theorem Tryz.lays226 : Go.Proofs.Lays.n226 Tryz.prog Tryz.lays226_ren := {
 mixed := by kernel_rfl
 f226 := Tryz.func177.trans (congrArg some (by kernel_rfl))
 t3 := Tryz.underlying3
 a3 := Tryz.isAgg3
 z3 := Tryz.sizeOf3
 v3 := Tryz.zeroValue3
 t4 := Tryz.underlying4
 a4 := Tryz.isAgg4
 z4 := Tryz.sizeOf4
 v4 := Tryz.zeroValue4 }
open Go.RowKit Go.Lib in
theorem Tryz.strings_shouldUseASCIISet (n : Int) (w : World) :
  Calls Tryz.prog 177 #[.int .i64 n] w fun e w' => e = .returned (.bool (decide (8 < n))) ∧ w' = w := Any.strings_shouldUseASCIISet Tryz.lays226 n w
def Tryz.lays153_ren : Go.Shelf.Ren := ⟨fun | 153 => 145 | 152 => 176 | 226 => 177 | 227 => 178 | 228 => 179 | 137 => 46 | 119 => 199 | 224 => 200 | 225 => 201 | 217 => 84 | 266 => 121 | n => n, fun | 9 => 9 | 3 => 3 | 4 => 4 | 5 => 5 | 21 => 21 | 117 => 230 | 116 => 229 | 0 => 0 | 46 => 174 | 124 => 246 | n => n, fun | n => n⟩
theorem Tryz.lays153 : Go.Proofs.Lays.n153 Tryz.prog Tryz.lays153_ren := {
 mixed := by kernel_rfl
 f119 := Tryz.func199.trans (congrArg some (by kernel_rfl))
 f137 := Tryz.func46.trans (congrArg some (by kernel_rfl))
 f152 := Tryz.func176.trans (congrArg some (by kernel_rfl))
 f153 := Tryz.func145.trans (congrArg some (by kernel_rfl))
 f217 := Tryz.func84.trans (congrArg some (by kernel_rfl))
 f224 := Tryz.func200.trans (congrArg some (by kernel_rfl))
 f225 := Tryz.func201.trans (congrArg some (by kernel_rfl))
 f226 := Tryz.func177.trans (congrArg some (by kernel_rfl))
 f227 := Tryz.func178.trans (congrArg some (by kernel_rfl))
 f228 := Tryz.func179.trans (congrArg some (by kernel_rfl))
 f266 := Tryz.func121.trans (congrArg some (by kernel_rfl))
 t0 := Tryz.underlying0
 a0 := Tryz.isAgg0
 z0 := Tryz.sizeOf0
 v0 := Tryz.zeroValue0
 t3 := Tryz.underlying3
 a3 := Tryz.isAgg3
 z3 := Tryz.sizeOf3
 v3 := Tryz.zeroValue3
 t4 := Tryz.underlying4
 a4 := Tryz.isAgg4
 z4 := Tryz.sizeOf4
 v4 := Tryz.zeroValue4
 t5 := Tryz.underlying5
 a5 := Tryz.isAgg5
 z5 := Tryz.sizeOf5
 v5 := Tryz.zeroValue5
 t9 := Tryz.underlying9
 a9 := Tryz.isAgg9
 z9 := Tryz.sizeOf9
 v9 := Tryz.zeroValue9
 t21 := Tryz.underlying21
 a21 := Tryz.isAgg21
 z21 := Tryz.sizeOf21
 v21 := Tryz.zeroValue21
 t46 := Tryz.underlying174
 a46 := Tryz.isAgg174
 z46 := Tryz.sizeOf174
 v46 := Tryz.zeroValue174
 t116 := Tryz.underlying229
 a116 := Tryz.isAgg229
 z116 := Tryz.sizeOf229
 t117 := Tryz.underlying230
 a117 := Tryz.isAgg230
 z117 := Tryz.sizeOf230
 v117 := Tryz.zeroValue230
 t124 := Tryz.underlying246
 a124 := Tryz.isAgg246
 z124 := Tryz.sizeOf246
 v124 := Tryz.zeroValue246 }
open Go.RowKit Go.Lib in
theorem Tryz.strings_IndexAny_short (s chars : ByteArray) (w : World) (h2 : 2 ≤ chars.size) (h8 : s.size ≤ 8) (hascii : ∀ (j : Nat) b, s.data.toList[j]? = some b → b.toNat < 128) :
  Calls Tryz.prog 145 #[.string s, .string chars] w fun e w' => e = .returned (.int .i64 (Lib.indexAny s.data.toList chars.data.toList)) ∧ ∃ pos, w' = w.iter s pos := Any.strings_IndexAny_short Tryz.lays153 s chars w h2 h8 hascii
open Go.RowKit Go.Lib in
theorem Tryz.strings_IndexAny_long (hv116 : ∀ w, (zeroValue 229).run Tryz.prog w = .ok (.agg (Array.replicate 256 (.bool false))) w) (s chars : ByteArray) (w : World) (h2 : 2 ≤ chars.size) (h8 : 8 < s.size) (hs : s.size < 4294967281) (hcs : chars.size < 4294967281) (hascii : ∀ (j : Nat) b, chars.data.toList[j]? = some b → b.toNat < 128) :
  Calls Tryz.prog 145 #[.string s, .string chars] w fun e w' => e = .returned (.int .i64 (Lib.indexAny s.data.toList chars.data.toList)) ∧ w' = ((w.alloc (.cells (Lib.setCells chars.data.toList) 229)).alloc (.cells (Lib.setCells chars.data.toList) 229)) := Any.strings_IndexAny_long Tryz.lays153 hv116 (by kernel_rfl) s chars w h2 h8 hs hcs hascii
end Go.Proofs
namespace Go.Proofs.YtdelihhbmagphaaGreatDoor.Pl
open Go.RowKit
theorem quietBehind {P : Program} {g : FuncId} {xs : Array Value} {W : World} {i j : Nat} {v : Value}
  (c : Calls P g xs (W.drewN (i + j)) fun e w' => e = .returned v ∧ w' = W.drewN (i + j)) :
  Calls P g xs (W.drewN (i + j)) fun e w' => e = .returned v ∧ ∃ m, w' = W.drewN (i + m) := by
 refine c.mono ?_
 rintro e w' ⟨h1, h2⟩
 exact ⟨h1, j, h2⟩
theorem enc_cases (r : Int) (h : 128 ≤ r) :
  (∃ x y : UInt8, Utf8.encode r = ⟨#[x, y]⟩ ∧ 128 ≤ y.toNat) ∨ (∃ x y z : UInt8, Utf8.encode r = ⟨#[x, y, z]⟩) ∨ (∃ x y z u : UInt8, Utf8.encode r = ⟨#[x, y, z, u]⟩) := by
 unfold Utf8.encode
 obtain ⟨c, hc, hce⟩ : ∃ c, 128 ≤ c ∧ c = (if Utf8.valid r then r.toNat else Utf8.runeError) := by
  refine ⟨_, ?_, rfl⟩
  split
  ·omega
  ·decide
 simp only [← hce]
 rw [if_neg (by omega)]
 split
 ·refine Or.inl ⟨_, _, rfl, ?_⟩
  rw [UInt8.toNat_ofNat', Nat.mod_eq_of_lt (show 128 + c % 64 < 256 by omega)]
  omega
 ·split
  ·exact Or.inr (Or.inl ⟨_, _, _, rfl⟩)
  ·exact Or.inr (Or.inr ⟨_, _, _, _, rfl⟩)
theorem indexByte_nil (t : ByteArray) (c : Int) (w : World) (h : t.data.toList = []) :
  Calls Tryz.prog 46 #[.string t, .int .u8 c] w fun e w' => e = .returned (.int .i64 (-1)) ∧ w' = w := by
 refine (Tryz.strings_IndexByte t c w).mono ?_
 rintro e w' ⟨rfl, hw⟩
 rw [h]
 exact ⟨rfl, hw⟩
set_option maxRecDepth 100000 in
theorem indexRune_far (r : Int) (w : World) (h0 : 128 ≤ r) :
  Calls Tryz.prog 176 #[.string ⟨#[43, 45]⟩, .int .i32 r] w fun e w' => e = .returned (.int .i64 (-1)) ∧ Below w.heap.size w w' := by
 have hlt : ¬ r < 128 := by omega
 by_cases he : r = 65533
 ·subst he
  have n0 : ∀ ty, (Instr.next (.pointer (some ⟨w.heap.size, 0, none⟩)) true ty).run Tryz.prog (w.iter ⟨#[43, 45]⟩ 0) = .ok (.tuple #[.bool true, .int .i64 0, .int .i32 43]) (w.iter ⟨#[43, 45]⟩ 1) := fun ty => run_next_ascii w ⟨#[43, 45]⟩ 0 ty (by decide) (by decide)
  have n1 : ∀ ty, (Instr.next (.pointer (some ⟨w.heap.size, 0, none⟩)) true ty).run Tryz.prog (w.iter ⟨#[43, 45]⟩ 1) = .ok (.tuple #[.bool true, .int .i64 1, .int .i32 45]) (w.iter ⟨#[43, 45]⟩ 2) := fun ty => run_next_ascii w ⟨#[43, 45]⟩ 1 ty (by decide) (by decide)
  have n2 : ∀ ty, (Instr.next (.pointer (some ⟨w.heap.size, 0, none⟩)) true ty).run Tryz.prog (w.iter ⟨#[43, 45]⟩ 2) = .ok (.tuple #[.bool false]) (w.iter ⟨#[43, 45]⟩ 2) := fun ty => run_next_end w ⟨#[43, 45]⟩ 2 ty (by decide)
  go_enter Tryz.func176, Tryz.ntmps176
  go_wp2
  refine wp_loop_rounds 3 ?_
  rw [rounds_succ]
  go_wp2
  rw [rounds_succ]
  go_wp2
  rw [rounds_succ]
  go_wp2
  go_ret
  exact ⟨rfl, (Below.refl _ _).alloc (Nat.le_refl _) _⟩
 ·have he' : (r == 65533) = false := beq_eq_false_iff_ne.2 he
  cases hv : Lib.validRune r
  ·go_enter Tryz.func176, Tryz.ntmps176
   go_wp2_with (go_at_call 199; refine (Tryz.utf8_ValidRune _ _).mono ?_; rintro e w' ⟨rfl, rfl⟩)
   go_ret
   exact ⟨rfl, Below.refl _ _⟩
  ·rcases enc_cases r h0 with ⟨x, y, hen, hy⟩ | ⟨x, y, z, hen⟩ | ⟨x, y, z, u, hen⟩
   ·have hyn : (((((⟨#[43, 45]⟩ : ByteArray)[1]'(by decide)).toNat : Nat) : Int) != ((((⟨#[x, y]⟩ : ByteArray)[1]'(Nat.lt_succ_self 1)).toNat : Nat) : Int)) = true := by
     show ((45 : Int) != (y.toNat : Int)) = true
     rw [bne_iff_ne]; omega
    go_enter Tryz.func176, Tryz.ntmps176
    go_wp2_with (go_at_call 199; refine (Tryz.utf8_ValidRune _ _).mono ?_; rintro e w' ⟨rfl, rfl⟩)
    go_step3
    go_wp2
    refine wp_loop_rounds 1 ?_
    rw [rounds_succ]
    go_wp2
    go_step3
    go_wp2
    go_quiet (fail)
    go_wp2
    go_quiet ((go_at_call 46; exact quietBehind (indexByte_nil _ _ _ (by decide))))
    go_wp2
    rw [Exit.noGoto_ret]
    go_wp2
    rw [Exit.noGoto_ret]
    go_ret
    exact ⟨rfl, below_drewN (Below.refl _ _) _⟩
   all_goals
    go_enter Tryz.func176, Tryz.ntmps176
    go_wp2_with (go_at_call 199; refine (Tryz.utf8_ValidRune _ _).mono ?_; rintro e w' ⟨rfl, rfl⟩)
    go_step3
    go_wp2
    refine wp_loop_rounds 1 ?_
    rw [rounds_succ]
    go_wp2
    rw [Exit.noGoto_ret]
    go_ret
    exact ⟨rfl, Below.refl _ _⟩
def SomeIx (n : Nat) (w : World) (e : Ending) (w' : World) : Prop := ∃ k : Int, -1 ≤ k ∧ k < n ∧ e = .returned (.int .i64 k) ∧ Below w.heap.size w w'
set_option maxRecDepth 100000 in
set_option maxHeartbeats 400000 in
theorem indexAny_any (s : ByteArray) (w : World) (h8 : s.size ≤ 8) :
  Calls Tryz.prog 145 #[.string s, .string ⟨#[43, 45]⟩] w (SomeIx s.size w) := by
 have h8z : decide ((8 : Int) < (s.size : Int)) = false := decide_eq_false (by omega)
 go_enter Tryz.func145, Tryz.ntmps145
 go_wp2_with (go_at_call 177; refine (Tryz.strings_shouldUseASCIISet _ _).mono ?_; rintro e w' ⟨rfl, hw⟩; rw [hw, h8z])
 go_loopg [9, 10] s.size (fun g _ _ wr => ∃ pos : Nat, s.size ≤ pos + g ∧ wr.heap[w.heap.size]? = some (.stringIter s pos) ∧ Below w.heap.size w wr)
 case atStart => exact ⟨0, by omega, World.iter_heap w s 0, (Below.refl _ _).alloc (Nat.le_refl _) _⟩
 case round =>
  obtain ⟨pos, hpg, hk, hb⟩ := hrel
  have HK := Lib.hid hk; clear hk
  have HB := Lib.hid hb; clear hb
  by_cases hlt : pos < s.size
  ·have hwp := Lib.decode_width_pos s pos hlt
   have hnx := fun ty => Lib.run_next_any_at (P := Tryz.prog) wr w.heap.size s pos ty HK.out hlt
   generalize Utf8.decode s pos = d at *
   have hk2 : (wr.iterAt w.heap.size s (pos + d.2)).heap[w.heap.size]? = some (.stringIter s (pos + d.2)) := Lib.iterAt_heap wr _ s pos _ HK.out
   have hb2 : Below w.heap.size w (wr.iterAt w.heap.size s (pos + d.2)) := Lib.below_iterAt HB.out (Nat.le_refl _) _ _
   have HK2 := Lib.hid hk2; clear hk2
   have HB2 := Lib.hid hb2; clear hb2
   generalize wr.iterAt w.heap.size s (pos + d.2) = w2 at *
   obtain ⟨r, wd⟩ := d
   simp only at *
   by_cases h128 : (r : Int) < 128
   ·by_cases hin : (0 : Int) ≤ Lib.indexByte [43, 45] (UInt8.ofNat r)
    ·go_wp2_with (go_at_call 176; refine (Tryz.strings_IndexRune_ascii _ _ _ (by omega) h128).mono ?_; rintro e w' ⟨rfl, rfl⟩)
     go_ret
     exact ⟨pos, by omega, by omega, rfl, HB2.out⟩
    ·go_wp2_with (go_at_call 176; refine (Tryz.strings_IndexRune_ascii _ _ _ (by omega) h128).mono ?_; rintro e w' ⟨rfl, rfl⟩)
     go_roundg (gk - 1)
     case measure => omega
     case rel => exact ⟨pos + wd, by omega, HK2.out, HB2.out⟩
   ·have hsz : w.heap.size < w2.heap.size := (Array.getElem?_eq_some_iff.1 HK2.out).1
    go_wp2_with (go_at_call 176; refine (indexRune_far _ _ (by omega)).mono ?_; rintro e w' ⟨rfl, hb3⟩)
    go_roundg (gk - 1)
    case measure => omega
    case rel => exact ⟨pos + wd, by omega, (hb3.block _ hsz).trans HK2.out, HB2.out.trans (hb3.mono (by omega))⟩
  ·have hnx := fun ty => Lib.run_next_end_at (P := Tryz.prog) wr w.heap.size s pos ty HK.out hlt
   go_wp2
   go_ret
   exact ⟨-1, by omega, by omega, rfl, HB.out⟩
end Go.Proofs.YtdelihhbmagphaaGreatDoor.Pl
namespace Go.Proofs.YtdelihhbmagphaaGreatDoor.Pl
open Go.RowKit
theorem within_any (n : Int) (w : World) :
  Calls Tryz.prog 134 #[.int .i64 n] w fun e w' => e = .returned (.bool (inB n)) ∧ w = w' := by
 by_cases h1 : -1048576 ≤ n
 ·by_cases h2 : n ≤ 1048576
  ·have hL : inB n = true := decide_eq_true ⟨h1, h2⟩
   rw [hL]; clear hL
   go_enter Tryz.func134, Tryz.ntmps134
   go_wp2
   go_ret
   exact ⟨rfl, rfl⟩
  ·have hL : inB n = false := decide_eq_false (fun h => h2 h.2)
   rw [hL]; clear hL
   go_enter Tryz.func134, Tryz.ntmps134
   go_wp2
   go_ret
   exact ⟨rfl, rfl⟩
 ·have hL : inB n = false := decide_eq_false (fun h => h1 h.1)
  rw [hL]; clear hL
  go_enter Tryz.func134, Tryz.ntmps134
  go_wp2
  go_ret
  exact ⟨rfl, rfl⟩
theorem made_ok (a b : Int) (w : World) (ha : inB a = true) (hb : inB b = true) :
  Calls Tryz.prog 97 #[.int .i64 a, .int .i64 b] w fun e w' => e = .returned (.tuple #[.complex .f64 (floatOfInt .f64 a) (floatOfInt .f64 b), .int .i64 0]) ∧ w = w' := by
 go_enter Tryz.func97, Tryz.ntmps97
 go_wp2_with (go_at_call 134; refine (within_any _ _).mono ?_; rintro e w' ⟨rfl, rfl⟩)
 go_ret2
 exact ⟨rfl, rfl⟩
theorem made_no (a b : Int) (w : World) (h : (inB a && inB b) = false) :
  Calls Tryz.prog 97 #[.int .i64 a, .int .i64 b] w fun e w' => e = .returned (.tuple #[.complex .f64 0 0, .int .i64 5]) ∧ w = w' := by
 cases ha : inB a
 ·clear h
  go_enter Tryz.func97, Tryz.ntmps97
  go_wp2_with (go_at_call 134; refine (within_any _ _).mono ?_; rintro e w' ⟨rfl, rfl⟩)
  go_ret2
  exact ⟨rfl, rfl⟩
 ·rw [ha, Bool.true_and] at h
  go_enter Tryz.func97, Tryz.ntmps97
  go_wp2_with (go_at_call 134; refine (within_any _ _).mono ?_; rintro e w' ⟨rfl, rfl⟩)
  go_ret2
  exact ⟨rfl, rfl⟩
theorem le_hi (a : Int) (ha : inB a = true) : (FloatKind.f64.format.order (floatOfInt .f64 a) 4697254411347427328 == some .lt || FloatKind.f64.format.order (floatOfInt .f64 a) 4697254411347427328 == some .eq) = true := by
 have hb : -1048576 ≤ a ∧ a ≤ 1048576 := of_decide_eq_true ha
 have e : (4697254411347427328 : Nat) = floatOfInt .f64 1048576 := by kernel_rfl
 show (Ieee.double.order _ _ == _ || Ieee.double.order _ _ == _) = true
 rw [e, rep_order (rep_int a (by omega)) (rep_int 1048576 (by omega))]
 rcases Int.lt_or_eq_of_le hb.2 with h | h
 ·have : compare a 1048576 = .lt := by simp [compare, compareOfLessAndEq, h]
  rw [this]; rfl
 ·subst h; rfl
theorem le_lo (a : Int) (ha : inB a = true) : (FloatKind.f64.format.order 13920626448202203136 (floatOfInt .f64 a) == some .lt || FloatKind.f64.format.order 13920626448202203136 (floatOfInt .f64 a) == some .eq) = true := by
 have hb : -1048576 ≤ a ∧ a ≤ 1048576 := of_decide_eq_true ha
 have e : (13920626448202203136 : Nat) = floatOfInt .f64 (-1048576) := by kernel_rfl
 show (Ieee.double.order _ _ == _ || Ieee.double.order _ _ == _) = true
 rw [e, rep_order (rep_int (-1048576) (by omega)) (rep_int a (by omega))]
 rcases Int.lt_or_eq_of_le hb.1 with h | h
 ·have : compare (-1048576) a = .lt := by simp [compare, compareOfLessAndEq, h]
  rw [this]; rfl
 ·subst h; rfl
theorem eq_self (a : Int) (ha : a.natAbs < 2 ^ 53) : (FloatKind.f64.format.order (floatOfInt .f64 a) (floatOfInt .f64 a) == some .eq) = true := by
 show (Ieee.double.order _ _ == _) = true
 rw [rep_order (rep_int a ha) (rep_int a ha)]
 have : compare a a = .eq := by simp [compare, compareOfLessAndEq]
 rw [this]; rfl
theorem toInt_self (a : Int) (ha : inB a = true) : floatToIntVal .f64 (floatOfInt .f64 a) .i64 = some a := by
 have hb : -1048576 ≤ a ∧ a ≤ 1048576 := of_decide_eq_true ha
 unfold floatToIntVal
 have := rep_toInt (rep_int a (by omega))
 show (match (Ieee.double.read (floatOfInt .f64 a)).toInt .zero with | some n => _ | none => none) = _
 rw [this]
 have h1 : IntKind.i64.min = -9223372036854775808 := by kernel_rfl
 have h2 : IntKind.i64.max = 9223372036854775807 := by kernel_rfl
 simp only [h1, h2]
 rw [if_pos (by omega)]
theorem whole_ok (a : Int) (w : World) (ha : inB a = true) :
  Calls Tryz.prog 147 #[.float .f64 (floatOfInt .f64 a)] w fun e w' => e = .returned (.bool true) ∧ w = w' := by
 have hb : -1048576 ≤ a ∧ a ≤ 1048576 := of_decide_eq_true ha
 have h1 := le_lo a ha
 have h2 := le_hi a ha
 have h3 := eq_self a (by omega)
 have h4 := fun (w : World) => run_convert_float_int (P := Tryz.prog) w 160 2 .f64 .i64 (floatOfInt .f64 a) a (by kernel_rfl) Tryz.underlying2 (toInt_self a ha)
 clear hb ha
 go_enter Tryz.func147, Tryz.ntmps147
 go_wp2
 go_ret
 exact ⟨rfl, rfl⟩
theorem isPoint_ok (a b : Int) (w : World) (ha : inB a = true) (hb : inB b = true) :
  Calls Tryz.prog 110 #[.complex .f64 (floatOfInt .f64 a) (floatOfInt .f64 b)] w fun e w' => e = .returned (.bool true) ∧ w = w' := by
 go_enter Tryz.func110, Tryz.ntmps110
 go_wp2_with (go_at_call 147; refine (whole_ok _ _ (by assumption)).mono ?_; rintro e w' ⟨rfl, rfl⟩)
 go_ret
 exact ⟨rfl, rfl⟩
theorem parts_ok (a b : Int) (w : World) (ha : inB a = true) (hb : inB b = true) :
  Calls Tryz.prog 76 #[.complex .f64 (floatOfInt .f64 a) (floatOfInt .f64 b)] w fun e w' => e = .returned (.tuple #[.int .i64 a, .int .i64 b, .int .i64 0]) ∧ w = w' := by
 have h4 := fun (w : World) => run_convert_float_int (P := Tryz.prog) w 160 2 .f64 .i64 (floatOfInt .f64 a) a (by kernel_rfl) Tryz.underlying2 (toInt_self a ha)
 have h5 := fun (w : World) => run_convert_float_int (P := Tryz.prog) w 160 2 .f64 .i64 (floatOfInt .f64 b) b (by kernel_rfl) Tryz.underlying2 (toInt_self b hb)
 have hp := fun w => isPoint_ok a b w ha hb
 have HP := Lib.hid hp; clear hp ha hb
 go_enter Tryz.func76, Tryz.ntmps76
 go_wp2_with (go_at_call 110; refine (HP.out _).mono ?_; rintro e w' ⟨rfl, rfl⟩)
 go_ret3
 exact ⟨rfl, rfl⟩
end Go.Proofs.YtdelihhbmagphaaGreatDoor.Pl
namespace Go.Proofs.YtdelihhbmagphaaGreatDoor.Pl
open Go.RowKit
structure Laid (w : World) : Prop where
 tab : Lib.TabIs Tryz.prog w "internal/strconv.uint64pow10" .u64 Lib.pow10Tab
 syn : ∃ tp p, w.var? Tryz.prog "strconv.ErrSyntax" = some #[.iface tp p]
 rng : ∃ tp p, w.var? Tryz.prog "strconv.ErrRange" = some #[.iface tp p]
theorem var_lt {w : World} {n : String} {g : Nat} {cs : Array Value} (hg : Tryz.prog.globalNamed n = some g) (h : w.var? Tryz.prog n = some cs) : g < w.heap.size := by
 unfold World.var? at h
 simp only [hg, Option.bind_some] at h
 rcases Nat.lt_or_ge g w.heap.size with h' | h'
 ·exact h'
 ·rw [Array.getElem?_eq_none h'] at h; cases h
theorem gTab : Tryz.prog.globalNamed "internal/strconv.uint64pow10" = some 2 := by kernel_rfl
theorem gSyn : Tryz.prog.globalNamed "strconv.ErrSyntax" = some 3 := by kernel_rfl
theorem gRng : Tryz.prog.globalNamed "strconv.ErrRange" = some 4 := by kernel_rfl
theorem Laid.below {w w' : World} (h : Laid w) (hb : Below w.heap.size w w') : Laid w' := by
 obtain ⟨h1, ⟨t2, p2, h2⟩, ⟨t3, p3, h3⟩⟩ := h
 exact ⟨var?_below hb gTab (var_lt gTab h1) h1, ⟨t2, p2, var?_below hb gSyn (var_lt gSyn h2) h2⟩, ⟨t3, p3, var?_below hb gRng (var_lt gRng h3) h3⟩⟩
theorem fmt_any (n : Int) (w : World) (h0 : -9223372036854775808 ≤ n) (h1 : n ≤ 9223372036854775807) (hL : Laid w) :
  Calls Tryz.prog 133 #[.int .i64 n, .int .i64 10] w fun e w' => e = .returned (.string ⟨(Lib.itoa n).toArray⟩) ∧ Below w.heap.size w w' := by
 refine (Tryz.strconv_FormatInt_10 n h0 h1 w hL.tab).mono ?_
 rintro e w' ⟨rfl, k, os, rfl⟩
 exact ⟨rfl, Lib.below_grow _ _ (Nat.le_refl _) _ _⟩
theorem bytes_join (l m : List UInt8) : (⟨l.toArray⟩ : ByteArray) ++ (⟨m.toArray⟩ : ByteArray) = ⟨(l ++ m).toArray⟩ := by
 apply ByteArray.ext
 simp
theorem show_ok (a b : Int) (w : World) (ha : inB a = true) (hb : inB b = true) (hL : Laid w) :
  Calls Tryz.prog 98 #[.complex .f64 (floatOfInt .f64 a) (floatOfInt .f64 b)] w fun e w' => e = .returned (.tuple #[.string ⟨(shw a b).toArray⟩, .int .i64 0]) ∧ Below w.heap.size w w' := by
 have ha' := inB_iff.1 ha
 have hb' := inB_iff.1 hb
 have hla := itoa_len a (by omega)
 have hlb := itoa_len b (by omega)
 have HA := Lib.hid ha; have HB := Lib.hid hb; clear ha hb
 have HL := Lib.hid hL; clear hL
 by_cases hb0 : 0 ≤ b
 ·go_enter Tryz.func98, Tryz.ntmps98
  go_wp2_with (go_at_call 76; refine (parts_ok _ _ _ HA.out HB.out).mono ?_; rintro e w' ⟨rfl, rfl⟩)
  refine (fmt_any _ _ (by omega) (by omega) HL.out).mono ?_
  rintro e w1 ⟨rfl, hb1⟩
  have HB1 := Lib.hid hb1; clear hb1
  go_wp2_with fail
  refine (fmt_any _ _ (by omega) (by omega) (HL.out.below HB1.out)).mono ?_
  rintro e w2 ⟨rfl, hb2⟩
  have HB2 := Lib.hid hb2; clear hb2
  go_wp2
  go_ret2
  refine ⟨?_, HB1.out.trans (HB2.out.mono HB1.out.size)⟩
  have e1 : shw a b = (Lib.itoa a ++ [43] ++ Lib.itoa b) ++ [105] := by
   unfold shw sgn; rw [if_neg (by omega)]; simp
  rw [e1, ← bytes_join, ← bytes_join, ← bytes_join]; rfl
 ·go_enter Tryz.func98, Tryz.ntmps98
  go_wp2_with (go_at_call 76; refine (parts_ok _ _ _ HA.out HB.out).mono ?_; rintro e w' ⟨rfl, rfl⟩)
  refine (fmt_any _ _ (by omega) (by omega) HL.out).mono ?_
  rintro e w1 ⟨rfl, hb1⟩
  have HB1 := Lib.hid hb1; clear hb1
  go_wp2_with fail
  refine (fmt_any _ _ (by omega) (by omega) (HL.out.below HB1.out)).mono ?_
  rintro e w2 ⟨rfl, hb2⟩
  have HB2 := Lib.hid hb2; clear hb2
  go_wp2
  go_ret2
  refine ⟨?_, HB1.out.trans (HB2.out.mono HB1.out.size)⟩
  have e1 : shw a b = (Lib.itoa a ++ Lib.itoa b) ++ [105] := by
   unfold shw sgn; rw [if_pos (by omega)]; simp
  rw [e1, ← bytes_join, ← bytes_join]; rfl
/-! ### strconv.ParseInt -/
theorem parse_ok (s : ByteArray) (v : Int) (w : World) (hs : s.size ≤ 281474976710656) (h : Lib.parseIntB 64 s.data.toList = .ok v) :
  Calls Tryz.prog 146 #[.string s, .int .i64 10, .int .i64 64] w fun e w' => e = .returned (.tuple #[.int .i64 v, .nilIface]) ∧ Below w.heap.size w w' := by
 refine (Tryz.strconv_ParseInt_10_at64_ok s (by omega) v h w).mono ?_
 rintro e w' ⟨rfl, rfl | ⟨t, rfl⟩⟩
 ·exact ⟨rfl, Below.refl _ _⟩
 ·exact ⟨rfl, Lib.bytesWorld_below _ _ _⟩
theorem parse_bad (s : ByteArray) (w : World) (hs : s.size ≤ 281474976710656) (hL : Laid w) (h : ∀ v, Lib.parseIntB 64 s.data.toList ≠ .ok v) :
  Calls Tryz.prog 146 #[.string s, .int .i64 10, .int .i64 64] w fun e w' => ∃ v T N, e = .returned (.tuple #[.int .i64 v, .iface T (.pointer (some ⟨N, 0, none⟩))]) ∧ Below w.heap.size w w' := by
 obtain ⟨_, ⟨t2, p2, h2⟩, ⟨t3, p3, h3⟩⟩ := hL
 rcases hp : Lib.parseIntB 64 s.data.toList with v | _ | _
 ·exact absurd hp (h v)
 ·refine (Any.strconv_ParseInt_10_at64_syntax_var Tryz.laysC174 s hs hp t2 p2 w h2).mono ?_
  rintro e w' ⟨N, rfl, _, _, hb⟩
  exact ⟨_, _, N, rfl, hb⟩
 ·refine (Any.strconv_ParseInt_10_at64_range_var Tryz.laysC174 s hs hp t3 p3 w h3).mono ?_
  rintro e w' ⟨N, rfl, _, _, hb⟩
  exact ⟨_, _, N, rfl, hb⟩
end Go.Proofs.YtdelihhbmagphaaGreatDoor.Pl
