/-
  Texts joined: LayNum, DigF, Mem, NumI, Many, Recs, Mark, Grow, RecDeed, L1In.
-/
import Derived.Test.YtiijagmakkgnnaaDoorRows
import Derived.Shelf.Strconv.ParseIntPublic10
import Derived.Shelf.Strconv.Itoa4
import Derived.Lib.ItoaNum
import Derived.Lib.Hide
import Derived.WalkKit
import Derived.ProofKit
import Derived.OpenShut
import Derived.Outline
import Derived.WalkLawsBesides
import Derived.Below
import Derived.LoopN
import Derived.Deep.QuietTactic
import Derived.BigQuiet
import Derived.Deep.OwnRows
import Derived.Laws.Cover1
import Derived.Lib.ParseIntBTie
import Derived.Lib.LaidTab
import Derived.Laws.CopyRow
import Derived.Laws.CopyOwn
import Derived.OwnWalk
import Derived.Deep.AppendLies
import Derived.Laws.IdiomStrings
import Derived.Deep.Quiet
import Derived.StillTailTactics
import Derived.Deep.RegionHeld3
namespace Go.Proofs.YtiijagmakkgnnaaDoor
open Go.Shelf

def layParse_ren : Go.Shelf.Ren := ⟨fun | 174 => 56 | 247 => 64 | 245 => 65 | 287 => 75 | 279 => 76 | 280 => 77 | 281 => 78 | 282 => 79 | 321 => 87 | 322 => 88 | 316 => 89 | 171 => 91 | 205 => 90 | 243 => 94 | 246 => 57 | 283 => 66 | 284 => 67 | 285 => 68 | 286 => 69 | 129 => 81 | 317 => 80 | 318 => 82 | 319 => 83 | 320 => 84 | 337 => 92 | 338 => 93 | n => n, fun | 9 => 9 | 3 => 3 | 2 => 2 | 75 => 81 | 85 => 91 | 4 => 4 | 167 => 109 | 5 => 5 | 53 => 102 | 175 => 110 | 46 => 108 | 168 => 112 | 37 => 75 | 0 => 0 | 210 => 130 | 21 => 21 | 127 => 87 | 145 => 135 | 143 => 133 | 171 => 101 | 173 => 105 | 212 => 116 | 51 => 117 | 20 => 20 | 213 => 118 | 232 => 136 | 233 => 137 | 80 => 56 | n => n, fun | 15 => 4 | 16 => 5 | 17 => 1 | 18 => 6 | 19 => 7 | n => n⟩
theorem layParse : Go.Proofs.LaysC.n174 Tryd.prog layParse_ren where
  mixed := by kernel_rfl
  f129 := Tryd.func81.trans (congrArg some (by kernel_rfl))
  f171 := Tryd.func91.trans (congrArg some (by kernel_rfl))
  f174 := Tryd.func56.trans (congrArg some (by kernel_rfl))
  f205 := Tryd.func90.trans (congrArg some (by kernel_rfl))
  f243 := Tryd.func94.trans (congrArg some (by kernel_rfl))
  f245 := Tryd.func65.trans (congrArg some (by kernel_rfl))
  f246 := Tryd.func57.trans (congrArg some (by kernel_rfl))
  f247 := Tryd.func64.trans (congrArg some (by kernel_rfl))
  f279 := Tryd.func76.trans (congrArg some (by kernel_rfl))
  f280 := Tryd.func77.trans (congrArg some (by kernel_rfl))
  f281 := Tryd.func78.trans (congrArg some (by kernel_rfl))
  f282 := Tryd.func79.trans (congrArg some (by kernel_rfl))
  f283 := Tryd.func66.trans (congrArg some (by kernel_rfl))
  f284 := Tryd.func67.trans (congrArg some (by kernel_rfl))
  f285 := Tryd.func68.trans (congrArg some (by kernel_rfl))
  f286 := Tryd.func69.trans (congrArg some (by kernel_rfl))
  f287 := Tryd.func75.trans (congrArg some (by kernel_rfl))
  f316 := Tryd.func89.trans (congrArg some (by kernel_rfl))
  f317 := Tryd.func80.trans (congrArg some (by kernel_rfl))
  f318 := Tryd.func82.trans (congrArg some (by kernel_rfl))
  f319 := Tryd.func83.trans (congrArg some (by kernel_rfl))
  f320 := Tryd.func84.trans (congrArg some (by kernel_rfl))
  f321 := Tryd.func87.trans (congrArg some (by kernel_rfl))
  f322 := Tryd.func88.trans (congrArg some (by kernel_rfl))
  f337 := Tryd.func92.trans (congrArg some (by kernel_rfl))
  f338 := Tryd.func93.trans (congrArg some (by kernel_rfl))
  t0 := Tryd.underlying0
  a0 := Tryd.isAgg0
  z0 := Tryd.sizeOf0
  v0 := Tryd.zeroValue0
  t2 := Tryd.underlying2
  a2 := Tryd.isAgg2
  z2 := Tryd.sizeOf2
  v2 := Tryd.zeroValue2
  t3 := Tryd.underlying3
  a3 := Tryd.isAgg3
  z3 := Tryd.sizeOf3
  v3 := Tryd.zeroValue3
  t4 := Tryd.underlying4
  a4 := Tryd.isAgg4
  z4 := Tryd.sizeOf4
  v4 := Tryd.zeroValue4
  t5 := Tryd.underlying5
  a5 := Tryd.isAgg5
  z5 := Tryd.sizeOf5
  v5 := Tryd.zeroValue5
  t9 := Tryd.underlying9
  a9 := Tryd.isAgg9
  z9 := Tryd.sizeOf9
  v9 := Tryd.zeroValue9
  t20 := Tryd.underlying20
  a20 := Tryd.isAgg20
  z20 := Tryd.sizeOf20
  v20 := Tryd.zeroValue20
  t21 := Tryd.underlying21
  a21 := Tryd.isAgg21
  z21 := Tryd.sizeOf21
  v21 := Tryd.zeroValue21
  t37 := Tryd.underlying75
  a37 := Tryd.isAgg75
  z37 := Tryd.sizeOf75
  v37 := Tryd.zeroValue75
  t46 := Tryd.underlying108
  a46 := Tryd.isAgg108
  z46 := Tryd.sizeOf108
  v46 := Tryd.zeroValue108
  t51 := Tryd.underlying117
  a51 := Tryd.isAgg117
  z51 := Tryd.sizeOf117
  v51 := Tryd.zeroValue117
  t53 := Tryd.underlying102
  a53 := Tryd.isAgg102
  z53 := Tryd.sizeOf102
  v53 := Tryd.zeroValue102
  t75 := Tryd.underlying81
  a75 := Tryd.isAgg81
  z75 := Tryd.sizeOf81
  v75 := Tryd.zeroValue81
  t85 := Tryd.underlying91
  a85 := Tryd.isAgg91
  z85 := Tryd.sizeOf91
  v85 := Tryd.zeroValue91
  t127 := Tryd.underlying87
  a127 := Tryd.isAgg87
  z127 := Tryd.sizeOf87
  v127 := Tryd.zeroValue87
  t143 := Tryd.underlying133
  a143 := Tryd.isAgg133
  z143 := Tryd.sizeOf133
  v143 := Tryd.zeroValue133
  t145 := Tryd.underlying135
  a145 := Tryd.isAgg135
  z145 := Tryd.sizeOf135
  v145 := Tryd.zeroValue135
  t167 := Tryd.underlying109
  a167 := Tryd.isAgg109
  z167 := Tryd.sizeOf109
  v167 := Tryd.zeroValue109
  t168 := Tryd.underlying112
  a168 := Tryd.isAgg112
  z168 := Tryd.sizeOf112
  v168 := Tryd.zeroValue112
  t171 := Tryd.underlying101
  a171 := Tryd.isAgg101
  z171 := Tryd.sizeOf101
  v171 := Tryd.zeroValue101
  t173 := Tryd.underlying105
  a173 := Tryd.isAgg105
  z173 := Tryd.sizeOf105
  v173 := Tryd.zeroValue105
  t175 := Tryd.underlying110
  a175 := Tryd.isAgg110
  z175 := Tryd.sizeOf110
  v175 := Tryd.zeroValue110
  t210 := Tryd.underlying130
  a210 := Tryd.isAgg130
  z210 := Tryd.sizeOf130
  v210 := Tryd.zeroValue130
  t212 := Tryd.underlying116
  a212 := Tryd.isAgg116
  z212 := Tryd.sizeOf116
  v212 := Tryd.zeroValue116
  t213 := Tryd.underlying118
  a213 := Tryd.isAgg118
  z213 := Tryd.sizeOf118
  t232 := Tryd.underlying136
  a232 := Tryd.isAgg136
  z232 := Tryd.sizeOf136
  v232 := Tryd.zeroValue136
  t233 := Tryd.underlying137
  a233 := Tryd.isAgg137
  z233 := Tryd.sizeOf137
  v233 := Tryd.zeroValue137
  g15 := by kernel_rfl
  g16 := by kernel_rfl
  g17 := by kernel_rfl
  g18 := by kernel_rfl
  g19 := by kernel_rfl
  t80 := Tryd.underlying56
  a80 := Tryd.isAgg56
  z80 := Tryd.sizeOf56
  v80 := Tryd.zeroValue56
  i0 := by kernel_rfl
  i2 := by kernel_rfl
  i3 := by kernel_rfl
  i4 := by kernel_rfl
  i5 := by kernel_rfl
  i9 := by kernel_rfl
  i20 := by kernel_rfl
  i21 := by kernel_rfl
  i37 := by kernel_rfl
  i46 := by kernel_rfl
  i51 := by kernel_rfl
  i53 := by kernel_rfl
  i75 := by kernel_rfl
  i80 := by kernel_rfl
  i85 := by kernel_rfl
  i127 := by kernel_rfl
  i143 := by kernel_rfl
  i145 := by kernel_rfl
  i167 := by kernel_rfl
  i168 := by kernel_rfl
  i171 := by kernel_rfl
  i173 := by kernel_rfl
  i175 := by kernel_rfl
  i210 := by kernel_rfl
  i212 := by kernel_rfl
  i232 := by kernel_rfl
  i233 := by kernel_rfl
  m15 := by kernel_rfl
  m16 := by kernel_rfl
  m17 := by kernel_rfl
  m18 := by kernel_rfl
  m19 := by kernel_rfl
  c0 := by kernel_rfl
  c2 := by kernel_rfl
  c3 := by kernel_rfl
  c4 := by kernel_rfl
  c5 := by kernel_rfl
  c9 := by kernel_rfl
  c20 := by kernel_rfl
  c21 := by kernel_rfl
  c37 := by kernel_rfl
  c46 := by kernel_rfl
  c51 := by kernel_rfl
  c53 := by kernel_rfl
  c75 := by kernel_rfl
  c80 := by kernel_rfl
  c85 := by kernel_rfl
  c127 := by kernel_rfl
  c143 := by kernel_rfl
  c145 := by kernel_rfl
  c167 := by kernel_rfl
  c168 := by kernel_rfl
  c171 := by kernel_rfl
  c173 := by kernel_rfl
  c175 := by kernel_rfl
  c210 := by kernel_rfl
  c212 := by kernel_rfl
  c213 := by kernel_rfl
  c232 := by kernel_rfl
  c233 := by kernel_rfl

def layFormat_ren : Go.Shelf.Ren := ⟨fun | 173 => 49 | 246 => 57 | 283 => 66 | 284 => 67 | 285 => 68 | 286 => 69 | 129 => 81 | 317 => 80 | 318 => 82 | 319 => 83 | 320 => 84 | 337 => 92 | 338 => 93 | n => n, fun | 2 => 2 | 3 => 3 | 9 => 9 | 4 => 4 | 171 => 101 | 0 => 0 | 53 => 102 | 37 => 75 | 5 => 5 | 173 => 105 | 212 => 116 | 51 => 117 | 20 => 20 | 213 => 118 | 46 => 108 | 232 => 136 | 233 => 137 | n => n, fun | 17 => 1 | 18 => 6 | 19 => 7 | n => n⟩
theorem layFormat : Go.Proofs.LaysM.n173 Tryd.prog layFormat_ren where
  mixed := by kernel_rfl
  f129 := Tryd.func81.trans (congrArg some (by kernel_rfl))
  f173 := Tryd.func49.trans (congrArg some (by kernel_rfl))
  f246 := Tryd.func57.trans (congrArg some (by kernel_rfl))
  f283 := Tryd.func66.trans (congrArg some (by kernel_rfl))
  f284 := Tryd.func67.trans (congrArg some (by kernel_rfl))
  f285 := Tryd.func68.trans (congrArg some (by kernel_rfl))
  f286 := Tryd.func69.trans (congrArg some (by kernel_rfl))
  f317 := Tryd.func80.trans (congrArg some (by kernel_rfl))
  f318 := Tryd.func82.trans (congrArg some (by kernel_rfl))
  f319 := Tryd.func83.trans (congrArg some (by kernel_rfl))
  f320 := Tryd.func84.trans (congrArg some (by kernel_rfl))
  f337 := Tryd.func92.trans (congrArg some (by kernel_rfl))
  f338 := Tryd.func93.trans (congrArg some (by kernel_rfl))
  t0 := Tryd.underlying0
  a0 := Tryd.isAgg0
  z0 := Tryd.sizeOf0
  v0 := Tryd.zeroValue0
  t2 := Tryd.underlying2
  a2 := Tryd.isAgg2
  z2 := Tryd.sizeOf2
  v2 := Tryd.zeroValue2
  t3 := Tryd.underlying3
  a3 := Tryd.isAgg3
  z3 := Tryd.sizeOf3
  v3 := Tryd.zeroValue3
  t4 := Tryd.underlying4
  a4 := Tryd.isAgg4
  z4 := Tryd.sizeOf4
  v4 := Tryd.zeroValue4
  t5 := Tryd.underlying5
  a5 := Tryd.isAgg5
  z5 := Tryd.sizeOf5
  v5 := Tryd.zeroValue5
  t9 := Tryd.underlying9
  a9 := Tryd.isAgg9
  z9 := Tryd.sizeOf9
  v9 := Tryd.zeroValue9
  t20 := Tryd.underlying20
  a20 := Tryd.isAgg20
  z20 := Tryd.sizeOf20
  v20 := Tryd.zeroValue20
  t37 := Tryd.underlying75
  a37 := Tryd.isAgg75
  z37 := Tryd.sizeOf75
  v37 := Tryd.zeroValue75
  t46 := Tryd.underlying108
  a46 := Tryd.isAgg108
  z46 := Tryd.sizeOf108
  v46 := Tryd.zeroValue108
  t51 := Tryd.underlying117
  a51 := Tryd.isAgg117
  z51 := Tryd.sizeOf117
  v51 := Tryd.zeroValue117
  t53 := Tryd.underlying102
  a53 := Tryd.isAgg102
  z53 := Tryd.sizeOf102
  v53 := Tryd.zeroValue102
  t171 := Tryd.underlying101
  a171 := Tryd.isAgg101
  z171 := Tryd.sizeOf101
  v171 := Tryd.zeroValue101
  t173 := Tryd.underlying105
  a173 := Tryd.isAgg105
  z173 := Tryd.sizeOf105
  v173 := Tryd.zeroValue105
  t212 := Tryd.underlying116
  a212 := Tryd.isAgg116
  z212 := Tryd.sizeOf116
  v212 := Tryd.zeroValue116
  t213 := Tryd.underlying118
  a213 := Tryd.isAgg118
  z213 := Tryd.sizeOf118
  t232 := Tryd.underlying136
  a232 := Tryd.isAgg136
  z232 := Tryd.sizeOf136
  v232 := Tryd.zeroValue136
  t233 := Tryd.underlying137
  a233 := Tryd.isAgg137
  z233 := Tryd.sizeOf137
  v233 := Tryd.zeroValue137
  g17 := by kernel_rfl
  g18 := by kernel_rfl
  g19 := by kernel_rfl
  i0 := by kernel_rfl
  i2 := by kernel_rfl
  i3 := by kernel_rfl
  i4 := by kernel_rfl
  i5 := by kernel_rfl
  i9 := by kernel_rfl
  i20 := by kernel_rfl
  i37 := by kernel_rfl
  i46 := by kernel_rfl
  i51 := by kernel_rfl
  i53 := by kernel_rfl
  i171 := by kernel_rfl
  i173 := by kernel_rfl
  i212 := by kernel_rfl
  i232 := by kernel_rfl
  i233 := by kernel_rfl
  m17 := by kernel_rfl
  m18 := by kernel_rfl
  m19 := by kernel_rfl
end Go.Proofs.YtiijagmakkgnnaaDoor
namespace Go.Proofs.YtiijagmakkgnnaaDoor
open Go.Lib

/-- The digits of a number, none for 0. -/
def digL (u : Nat) : List UInt8 := if u = 0 then [] else decDigits u
theorem digs_zero : digL 0 = [] := rfl
theorem digs_pos {u : Nat} (h : u ≠ 0) : digL u = decDigits u := if_neg h
theorem dec_digs (u : Nat) : decDigits u = digL (u / 10) ++ [UInt8.ofNat (48 + u % 10)] := by
  rw [decDigits]
  by_cases h : u < 10
  · have h0 : u / 10 = 0 := by omega
    have h1 : u % 10 = u := by omega
    rw [dif_pos h, h0, h1]; rfl
  · rw [dif_neg h, digs_pos (by omega)]
theorem dec_zero : decDigits 0 = [48] := by rw [dec_digs]; rfl
theorem dec_ne (u : Nat) : decDigits u ≠ [] := by rw [dec_digs]; simp
/-- The text of a number. -/
def itoaB (n : Int) : ByteArray := ⟨(itoa n).toArray⟩
/-- What a list of digits is worth. -/
def valL (l : List UInt8) : Nat := l.foldl (fun n c => n * 10 + (c.toNat - 48)) 0
def isDig (c : UInt8) : Bool := decide (48 ≤ c.toNat ∧ c.toNat ≤ 57)
theorem digB_true {c : UInt8} (h : isDig c = true) : 48 ≤ c.toNat ∧ c.toNat ≤ 57 := by simpa [isDig] using h
theorem digB_false {c : UInt8} (h : isDig c = false) : c.toNat < 48 ∨ 57 < c.toNat := by
  simp only [isDig, decide_eq_false_iff_not] at h; omega
theorem valL_snoc (l : List UInt8) (c : UInt8) : valL (l ++ [c]) = valL l * 10 + (c.toNat - 48) := by simp [valL]
theorem valL_lt : ∀ (n : Nat) (l : List UInt8), l.length = n → l.all isDig = true → valL l < 10 ^ n := by
  intro n
  induction n with
  | zero => intro l hl _; rw [List.length_eq_zero_iff.mp hl]; decide
  | succ n ih =>
    intro l hl h
    obtain ⟨r, c, rfl⟩ : ∃ r c, l = r ++ [c] := ⟨l.dropLast, l.getLast (by intro e; subst e; simp at hl), (List.dropLast_concat_getLast _).symm⟩
    simp only [List.all_append, List.all_cons, List.all_nil, Bool.and_true, Bool.and_eq_true] at h
    have h1 := ih r (by simpa using hl) h.1
    have h2 := digB_true h.2
    rw [valL_snoc]; omega
theorem digOf (c : UInt8) (h : isDig c = true) : UInt8.ofNat (48 + (c.toNat - 48)) = c := by
  have h2 := digB_true h
  have : 48 + (c.toNat - 48) = c.toNat := by omega
  rw [this]; simp
theorem digs_valL : ∀ (n : Nat) (l : List UInt8), l.length = n → l.all isDig = true → l.head? ≠ some 48 → digL (valL l) = l ∧ (l ≠ [] → valL l ≠ 0) := by
  intro n
  induction n with
  | zero => intro l hl _ _; rw [List.length_eq_zero_iff.mp hl]; exact ⟨rfl, fun h => absurd rfl h⟩
  | succ n ih =>
    intro l hl h h0
    obtain ⟨r, c, rfl⟩ : ∃ r c, l = r ++ [c] := ⟨l.dropLast, l.getLast (by intro e; subst e; simp at hl), (List.dropLast_concat_getLast _).symm⟩
    simp only [List.all_append, List.all_cons, List.all_nil, Bool.and_true, Bool.and_eq_true] at h
    have hr : r.head? ≠ some 48 := by
      cases r with
      | nil => simp
      | cons a r => simpa using h0
    have ⟨h1, h3⟩ := ih r (by simpa using hl) h.1 hr
    have h2 := digB_true h.2
    have hne : valL (r ++ [c]) ≠ 0 := by
      rw [valL_snoc]
      cases r with
      | nil =>
        have : c ≠ 48 := by simpa using h0
        have : c.toNat ≠ 48 := fun e => this (by rw [← UInt8.toNat_inj]; simpa using e)
        simp [valL]; omega
      | cons a r => have := h3 (by simp); omega
    refine ⟨?_, fun _ => hne⟩
    rw [digs_pos hne, dec_digs, valL_snoc]
    have e1 : (valL r * 10 + (c.toNat - 48)) / 10 = valL r := by omega
    have e2 : (valL r * 10 + (c.toNat - 48)) % 10 = c.toNat - 48 := by omega
    rw [e1, e2, h1, digOf c h.2]
theorem digB_of (d : Nat) (h : d < 10) : isDig (UInt8.ofNat (48 + d)) = true ∧ (UInt8.ofNat (48 + d)).toNat = 48 + d := by
  have : (UInt8.ofNat (48 + d)).toNat = 48 + d := by rw [UInt8.toNat_ofNat']; omega
  refine ⟨?_, this⟩
  simp only [isDig, this]; simp; omega
theorem dec_val (u : Nat) : valL (decDigits u) = u ∧ (decDigits u).all isDig = true ∧ ((decDigits u).head? = some 48 → u = 0) := by
  induction u using Nat.strongRecOn with
  | _ u ih =>
    rw [dec_digs]
    have ⟨hd, hn⟩ := digB_of (u % 10) (by omega)
    by_cases h : u / 10 = 0
    · rw [h, digs_zero]
      simp only [List.nil_append, List.all_cons, hd, List.all_nil, Bool.and_self, List.head?_cons]
      refine ⟨?_, trivial, fun e => ?_⟩
      · show 0 * 10 + _ = _; rw [hn]; omega
      · have := congrArg UInt8.toNat (Option.some.inj e)
        rw [hn] at this
        have h48 : (48 : UInt8).toNat = 48 := rfl
        omega
    · rw [digs_pos h]
      have ⟨h1, h2, h3⟩ := ih (u / 10) (by omega)
      rw [valL_snoc, h1, hn]
      refine ⟨by omega, by rw [List.all_append, h2]; simpa using hd, fun e => ?_⟩
      rw [List.head?_append] at e
      cases hc : (decDigits (u / 10)).head? with
      | none => rw [List.head?_eq_none_iff] at hc; exact absurd hc (dec_ne _)
      | some a =>
        rw [hc] at e h3
        have : a = 48 := by simpa using e
        subst this
        exact absurd (h3 rfl) h
theorem dec_len {u k : Nat} (h : u < 10 ^ (k + 1)) : (decDigits u).length ≤ k + 1 := by
  induction k generalizing u with
  | zero => rw [dec_digs]; have : u / 10 = 0 := by omega
            rw [this, digs_zero]; simp
  | succ k ih =>
    rw [dec_digs]
    by_cases h0 : u / 10 = 0
    · rw [h0, digs_zero]; simp
    · rw [digs_pos h0]
      have := ih (u := u / 10) (by rw [Nat.pow_succ] at h; omega)
      simp; omega

/-- A number as it is read: of just its own form, at most 9 digits. -/
def readL (s : List UInt8) : Option Int :=
  let neg := s.head? == some 45
  let t := if neg then s.tail else s
  if t.length < 1 ∨ 9 < t.length then none else if t.all isDig = false then none
  else if t.head? = some 48 ∧ (neg = true ∨ 1 < s.length) then none else some (if neg then -(valL t : Int) else valL t)
theorem readL_itoa {n : Int} (h1 : -1000000000 < n) (h2 : n < 1000000000) : readL (itoa n) = some n := by
  unfold itoa readL
  by_cases hn : n < 0
  · rw [if_pos hn]
    have ⟨e1, e2, e3⟩ := dec_val n.natAbs
    have hl := dec_len (u := n.natAbs) (k := 8) (by omega)
    have hne := dec_ne n.natAbs
    have hl0 : 1 ≤ (decDigits n.natAbs).length := List.length_pos_iff.mpr hne
    have hz : (decDigits n.natAbs).head? ≠ some 48 := fun e => by have := e3 e; omega
    simp only [List.head?_cons, BEq.rfl, if_true, List.tail_cons]
    rw [if_neg (by omega), if_neg (by rw [e2]; simp), if_neg (fun h => hz h.1), e1]
    congr 1; omega
  · rw [if_neg hn]
    have ⟨e1, e2, e3⟩ := dec_val n.toNat
    have hl := dec_len (u := n.toNat) (k := 8) (by omega)
    have hne := dec_ne n.toNat
    have hl0 : 1 ≤ (decDigits n.toNat).length := List.length_pos_iff.mpr hne
    have hneg : ((decDigits n.toNat).head? == some 45) = false := by
      cases hc : decDigits n.toNat with
      | nil => rfl
      | cons a r =>
        rw [hc] at e2
        simp only [List.all_cons, Bool.and_eq_true] at e2
        have := digB_true e2.1
        have : a ≠ 45 := fun e => by subst e; simp at this
        simpa using this
    simp only [hneg, Bool.false_eq_true, if_false, false_or]
    rw [if_neg (by omega), if_neg (by rw [e2]; simp), if_neg (fun h => ?_), e1]
    · congr 1; omega
    · have := e3 h.1
      have hd : (decDigits n.toNat).length = 1 := by rw [this, dec_zero]; rfl
      omega
theorem readL_some {s : List UInt8} {n : Int} (h : readL s = some n) : s = itoa n ∧ -1000000000 < n ∧ n < 1000000000 := by
  unfold readL at h
  by_cases hneg : (s.head? == some 45) = true
  · simp only [hneg, if_true, true_or, and_true] at h
    split at h
    · cases h
    split at h
    · cases h
    split at h
    · cases h
    rename_i h1 h2 h3
    have hv := Option.some.inj h
    have h2' : s.tail.all isDig = true := by simpa using h2
    have hlt := valL_lt _ _ rfl h2'
    have hpow : (10 : Nat) ^ s.tail.length ≤ 10 ^ 9 := Nat.pow_le_pow_right (by omega) (by omega)
    have ⟨hd, hz⟩ := digs_valL _ _ rfl h2' h3
    have hz' := hz (by intro e; rw [e] at h1; simp at h1)
    have hs : s = 45 :: s.tail := by
      cases s with
      | nil => simp at hneg
      | cons a r => simp at hneg; subst hneg; rfl
    refine ⟨?_, by omega, by omega⟩
    rw [itoa, if_pos (by omega)]
    have : n.natAbs = valL s.tail := by omega
    rw [this, ← digs_pos hz', hd]; exact hs
  · have hneg' : (s.head? == some 45) = false := by simpa using hneg
    simp only [hneg', Bool.false_eq_true, if_false, false_or] at h
    split at h
    · cases h
    split at h
    · cases h
    split at h
    · cases h
    rename_i h1 h2 h3
    have hv := Option.some.inj h
    have h2' : s.all isDig = true := by simpa using h2
    have hlt := valL_lt _ _ rfl h2'
    have hpow : (10 : Nat) ^ s.length ≤ 10 ^ 9 := Nat.pow_le_pow_right (by omega) (by omega)
    refine ⟨?_, by omega, by omega⟩
    rw [itoa, if_neg (by omega)]
    have hn : n.toNat = valL s := by omega
    rw [hn]
    by_cases h0 : s.head? = some 48
    · have hl : s.length = 1 := by
        have : ¬ 1 < s.length := fun e => h3 ⟨h0, e⟩
        omega
      obtain ⟨a, rfl⟩ := List.length_eq_one_iff.mp hl
      have : a = 48 := by simpa using h0
      subst this; exact dec_zero.symm
    · have ⟨hd, hz⟩ := digs_valL _ _ rfl h2' h0
      have hz' := hz (by intro e; rw [e] at h1; simp at h1)
      rw [← digs_pos hz', hd]
end Go.Proofs.YtiijagmakkgnnaaDoor
namespace Go.Proofs.YtiijagmakkgnnaaDoor
open Go.ChangeShapes Go.WideShapes Go.ChangeAt Go.RowKit

theorem at_lt {w : World} {b o : Nat} {v : Value} (h : w.cell? ⟨b, o, none⟩ = some v) : b < w.heap.size := by
  by_cases hb : b < w.heap.size
  · exact hb
  · exfalso
    have : w.heap[b]? = none := by simp; omega
    simp [World.cell?, this] at h

/-- These values lie one behind the other from a on. -/
def Lies (w : World) (a : Option Addr) (xs : List Value) : Prop :=
  ∀ k v, xs[k]? = some v → ∃ b off, a = some ⟨b, off, none⟩ ∧ w.cell? ⟨b, off + k, none⟩ = some v

theorem Lies.nil (w : World) (a : Option Addr) : Lies w a [] := fun _ _ h => by simp at h
theorem Lies.below {w w' : World} {a : Option Addr} {xs : List Value} (h : Lies w a xs) (hb : Below w.heap.size w w') : Lies w' a xs := by
  intro k v hk
  obtain ⟨b, off, rfl, hc⟩ := h k v hk
  exact ⟨b, off, rfl, by rw [hb.cell (at_lt hc)]; exact hc⟩
theorem Lies.under {w w' : World} {B : Nat} {a : Option Addr} {xs : List Value} (h : Lies w a xs) (hb : Below B w w') (hB : ∀ b off, a = some ⟨b, off, none⟩ → 0 < xs.length → b < B) : Lies w' a xs := by
  intro k v hk
  obtain ⟨b, off, rfl, hc⟩ := h k v hk
  have hl : 0 < xs.length := by
    cases xs with
    | nil => simp at hk
    | cons x r => simp
  exact ⟨b, off, rfl, by rw [hb.cell (hB b off rfl hl)]; exact hc⟩
theorem Lies.old {w : World} {a : Option Addr} {xs : List Value} (h : Lies w a xs) : ∀ b off, a = some ⟨b, off, none⟩ → 0 < xs.length → b < w.heap.size := by
  intro b off e hl
  obtain ⟨b', off', e', hc⟩ := h 0 xs[0] (List.getElem?_eq_getElem hl)
  rw [e] at e'
  injection e' with e'
  injection e' with e1
  subst e1
  exact at_lt hc
theorem Lies.draws {w : World} {a : Option Addr} {xs : List Value} (h : Lies w a xs) (n : Nat) : Lies (w.drewN n) a xs := h

theorem below_draws {B : Nat} {a w : World} (h : Below B a w) (n : Nat) : Below B a (w.drewN n) := ⟨h.os, h.tape, h.output, h.size, h.block⟩
theorem below_trans {w w1 w2 : World} (h : Below w.heap.size w w1) (k : Below w1.heap.size w1 w2) : Below w.heap.size w w2 := h.trans (k.mono h.size)

/-- All that was there reads as before: two rules for the walk. -/
theorem kept_all {W w1 : World} (hb : Below W.heap.size W w1) : (∀ b o, b < W.heap.size → w1.cell? ⟨b, o, none⟩ = W.cell? ⟨b, o, none⟩) ∧ ∀ b o, b < W.heap.size → w1.frozen? ⟨b, o, none⟩ = W.frozen? ⟨b, o, none⟩ :=
  ⟨fun b o h => hb.cell (p := ⟨b, o, none⟩) h, fun b o h => hb.frozen (p := ⟨b, o, none⟩) h⟩

/-- Block B, the first one that is not w's: n cells of the call's own, of which the first k hold xs's. -/
structure Room (w : World) (n : Nat) (xs : List Value) (k : Nat) (w' : World) : Prop where
  low : Below w.heap.size w w'
  has : w.heap.size < w'.heap.size
  all : ∀ j, j < n → ∃ v, w'.cell? ⟨w.heap.size, j, none⟩ = some v
  free : ∀ o, w'.frozen? ⟨w.heap.size, o, none⟩ = false
  full : ∀ j v, j < k → xs[j]? = some v → w'.cell? ⟨w.heap.size, j, none⟩ = some v

theorem Room.new (w : World) (z : Value) (n : Nat) (t : TypeId) (xs : List Value) : Room w n xs 0 (w.alloc (.cells (madeCells #[z] n) t)) where
  low := (Below.refl _ _).alloc (Nat.le_refl _) _
  has := by simp
  all := fun j hj => ⟨z, by
    obtain ⟨c, hc, hs, hf⟩ := World.rowIs_made w z n t
    simp only [World.cell?, hc]
    simpa using hf j hj⟩
  free := fun o => by go_simp
  full := fun j v hj _ => by omega

theorem Room.set {w w' : World} {n k : Nat} {xs : List Value} {v : Value} (h : Room w n xs k w') (hk : k < n) (hv : xs[k]? = some v) : Room w n xs (k + 1) (w'.setCell ⟨w.heap.size, k, none⟩ v) where
  low := h.low.setCell (Nat.le_refl _) _
  has := by have := h.has; simpa [World.setCell] using this
  all := fun j hj => by
    by_cases e : j = k
    · subst e
      obtain ⟨u, hu⟩ := h.all j hj
      exact ⟨v, by rw [World.cell?_setCell_same _ _ _ hu]⟩
    · obtain ⟨u, hu⟩ := h.all j hj
      exact ⟨u, by rw [World.cell?_setCell_other _ _ _ _ (by intro q; injection q with _ q; exact e (by omega))]; exact hu⟩
  free := fun o => by have := h.free o; go_simp
  full := fun j u hj hu => by
    by_cases e : j = k
    · subst e
      obtain ⟨x, hx⟩ := h.all j hk
      rw [hv] at hu
      injection hu with hu
      subst hu
      rw [World.cell?_setCell_same _ _ _ hx]
    · rw [World.cell?_setCell_other _ _ _ _ (by intro q; injection q with _ q; exact e (by omega))]
      exact h.full j u (by omega) hu

theorem Room.draws {w w' : World} {n k : Nat} {xs : List Value} (h : Room w n xs k w') (m : Nat) : Room w n xs k (w'.drewN m) :=
  ⟨below_draws h.low m, h.has, h.all, h.free, h.full⟩

theorem Room.lies {w w' : World} {n : Nat} {xs : List Value} (h : Room w n xs n w') (hn : xs.length ≤ n) : Lies w' (some ⟨w.heap.size, 0, none⟩) xs := by
  intro k v hk
  have hlt : k < xs.length := (List.getElem?_eq_some_iff.1 hk).1
  exact ⟨_, _, rfl, by rw [Nat.zero_add]; exact h.full k v (by omega) hk⟩
end Go.Proofs.YtiijagmakkgnnaaDoor
namespace Go.Proofs.YtiijagmakkgnnaaDoor
open Go.ChangeShapes Go.WideShapes Go.ChangeAt Go.RowKit

/-! What the library parses -/
def stepU (n : Nat) (c : UInt8) : Nat := n * 10 + (c.toNat - 48)
theorem foldU_ge : ∀ (l : List UInt8) (acc : Nat), acc ≤ l.foldl stepU acc
  | [], _ => Nat.le_refl _
  | c :: r, acc => by have := foldU_ge r (stepU acc c); simp only [List.foldl_cons]; have h : acc ≤ stepU acc c := by unfold stepU; omega
                      omega
theorem parseU_digs (M : Nat) (hM : 10000000000 ≤ M) : ∀ (l : List UInt8) (acc : Nat), l.all isDig = true → l.foldl stepU acc < 10000000000 → Lib.parseUintM M acc l = .ok (l.foldl stepU acc)
  | [], _, _, _ => rfl
  | c :: r, acc, hd, hv => by
    simp only [List.all_cons, Bool.and_eq_true] at hd
    have h1 := digB_true hd.1
    simp only [List.foldl_cons] at hv ⊢
    have h2 := foldU_ge r (stepU acc c)
    have h3 : stepU acc c = acc * 10 + (c.toNat - 48) := rfl
    rw [Lib.parseUintM, if_pos h1, if_neg (by omega), if_neg (by omega)]
    exact parseU_digs M hM r _ hd.2 hv
theorem parseU_dec (u : Nat) (h : u < 10000000000) : Lib.parseUintB 64 (Lib.decDigits u) = .ok u := by
  have ⟨h1, h2, _⟩ := dec_val u
  have e : (Lib.decDigits u).foldl stepU 0 = u := h1
  rw [Lib.parseUintB, if_neg (dec_ne u), parseU_digs _ (by decide) _ _ h2 (by rw [e]; exact h), e]
theorem parse_itoa {n : Int} (h1 : -1000000000 < n) (h2 : n < 1000000000) : Lib.parseIntB 64 (Lib.itoa n) = .ok n := by
  unfold Lib.itoa
  by_cases hn : n < 0
  · rw [if_pos hn, Lib.parseIntB_minus, parseU_dec _ (by omega)]
    simp only [Lib.signedC]
    rw [if_neg (by have : (2 : Nat) ^ (64 - 1) = 9223372036854775808 := by decide
                   omega)]
    congr 1; omega
  · rw [if_neg hn]
    have ⟨_, e2, _⟩ := dec_val n.toNat
    have hp := parseU_dec n.toNat (by omega)
    cases hc : Lib.decDigits n.toNat with
    | nil => exact absurd hc (dec_ne _)
    | cons c r =>
      rw [hc] at e2 hp
      simp only [List.all_cons, Bool.and_eq_true] at e2
      have := digB_true e2.1
      rw [Lib.parseIntB_plain _ _ _ (by omega) (by omega), hp]
      simp only [Lib.signlessC]
      rw [if_neg (by have : (2 : Nat) ^ (64 - 1) = 9223372036854775808 := by decide
                     omega)]
      congr 1; omega
/-- What is read where the library parses a number. -/
theorem read_ok {s : ByteArray} {v : Int} (h : Lib.parseIntB 64 s.data.toList = .ok v) (e : itoaB v = s) (h1 : -1000000000 < v) (h2 : v < 1000000000) : readL s.data.toList = some v := by
  subst e; exact readL_itoa h1 h2
theorem read_of {s : ByteArray} {n : Int} (h : readL s.data.toList = some n) : Lib.parseIntB 64 s.data.toList = .ok n ∧ itoaB n = s ∧ -1000000000 < n ∧ n < 1000000000 := by
  have ⟨h1, h2, h3⟩ := readL_some h
  exact ⟨by rw [h1]; exact parse_itoa h2 h3, (WideShapes.bytes_inj (by rw [h1]; rfl)), h2, h3⟩
theorem read_no {s : ByteArray} (h : ∀ v, Lib.parseIntB 64 s.data.toList = .ok v → ¬ (itoaB v = s ∧ -1000000000 < v ∧ v < 1000000000)) : readL s.data.toList = none := by
  cases q : readL s.data.toList with
  | none => rfl
  | some n => have ⟨h1, h2⟩ := read_of q; exact absurd h2 (h n h1)

/-- What the library's own table holds, and its two errors. -/
structure Glob (w : World) : Prop where
  tab : Lib.TabIs Tryd.prog w "internal/strconv.uint64pow10" .u64 Lib.pow10Tab
  syn : ∃ t p, w.cell? ⟨4, 0, none⟩ = some (.iface t p)
  rng : ∃ t p, w.cell? ⟨5, 0, none⟩ = some (.iface t p)
theorem tab_below {w w' : World} {name : String} {k : IntKind} {zs : List Int} (h : Lib.TabIs Tryd.prog w name k zs) (hb : Below w.heap.size w w') : Lib.TabIs Tryd.prog w' name k zs := by
  unfold Lib.TabIs World.var? at h ⊢
  cases hg : Tryd.prog.globalNamed name with
  | none => simp [hg] at h
  | some g =>
    simp only [hg, Option.bind_some] at h ⊢
    have hlt : g < w.heap.size := by
      rcases Nat.lt_or_ge g w.heap.size with h' | h'
      · exact h'
      · simp [Array.getElem?_eq_none h'] at h
    rw [hb.block g hlt]; exact h
theorem Glob.below {w w' : World} (h : Glob w) (hb : Below w.heap.size w w') : Glob w' :=
  ⟨tab_below h.tab hb, let ⟨t, p, e⟩ := h.syn; ⟨t, p, (hb.cell (Lib.lt_of_cell e)).trans e⟩, let ⟨t, p, e⟩ := h.rng; ⟨t, p, (hb.cell (Lib.lt_of_cell e)).trans e⟩⟩
theorem below_grow (w : World) (k : Nat) (os : Array Obj) : Below w.heap.size w (Go.Sort.grow (w.drewN k) os) := by
  have h := below_draws (Below.refl w.heap.size w) k
  have hs : (w.drewN k).heap = w.heap := by
    have := h.size
    clear this; induction k with
    | zero => rfl
    | succ k ih => rfl
  refine ⟨h.os, h.tape, h.output, ?_, fun i hi => ?_⟩
  · show w.heap.size ≤ ((w.drewN k).heap ++ os).size
    rw [hs, Array.size_append]; omega
  · show ((w.drewN k).heap ++ os)[i]? = w.heap[i]?
    rw [hs, Array.getElem?_append_left hi]

theorem digits_any (n : Int) (h0 : -9223372036854775808 ≤ n) (h1 : n ≤ 9223372036854775807) (w : World) (hg : Glob w) :
    Calls Tryd.prog 42 #[.int .i64 n] w fun e w' => e = .returned (.string (itoaB n)) ∧ Below w.heap.size w w' := by
  have HG := Lib.hid hg
  clear hg
  go_enter Tryd.func42, Tryd.ntmps42
  go_wp2_with fail
  refine (Any.strconv_FormatInt_10 layFormat n h0 h1 _ HG.out.tab).mono ?_
  rintro e w' ⟨rfl, k, os, hw⟩
  have HB := Lib.hid (show Below w.heap.size w w' from hw ▸ below_grow w k os)
  clear hw
  go_wp2
  go_ret
  exact ⟨rfl, HB.out⟩
/-- A number as it is read. -/
def NumIn (s : ByteArray) (w : World) (e : Ending) (w' : World) : Prop :=
  e = .returned (.tuple #[.int .i64 ((readL s.data.toList).getD 0), .bool (readL s.data.toList).isSome]) ∧ Below w.heap.size w w'
theorem NumIn.no {s : ByteArray} {w w' : World} (h : readL s.data.toList = none) (hb : Below w.heap.size w w') : NumIn s w (.returned (.tuple #[.int .i64 0, .bool false])) w' := by
  refine ⟨?_, hb⟩; rw [h]; rfl
theorem NumIn.yes {s : ByteArray} {w w' : World} {n : Int} (h : readL s.data.toList = some n) (hb : Below w.heap.size w w') : NumIn s w (.returned (.tuple #[.int .i64 n, .bool true])) w' := by
  refine ⟨?_, hb⟩; rw [h]; rfl
theorem bytes_below {w w' : World} {T : TypeId} (h : w' = w ∨ ∃ t, w' = Lib.bytesWorld w T t) : Below w.heap.size w w' := by
  rcases h with rfl | ⟨t, rfl⟩
  · exact Below.refl _ _
  · exact Lib.bytesWorld_below _ _ _
set_option maxHeartbeats 2000000 in
set_option maxRecDepth 100000 in
theorem numberIn_any (s : ByteArray) (w : World) (hs : s.size ≤ 281474976710656) (hg : Glob w) :
    Calls Tryd.prog 48 #[.string s] w (NumIn s w) := by
  have HG := Lib.hid hg
  have HS := Lib.hid hs
  clear hg hs
  cases hp : Lib.parseIntB 64 s.data.toList
  · rename_i v
    have ⟨hv1, hv2⟩ := Lib.parseIntB_bounds hp
    have e63 : ((2 ^ (64 - 1) : Nat) : Int) = 9223372036854775808 := by decide
    rw [e63] at hv1 hv2
    clear e63
    have HV := Lib.hid (And.intro hv1 hv2)
    have HP := Lib.hid hp
    have HNO := Lib.hid (fun (q : ¬ (itoaB v = s ∧ -1000000000 < v ∧ v < 1000000000)) => read_no (s := s) fun u h => by rw [hp] at h; cases h; exact q)
    have HYES := Lib.hid (fun (q : itoaB v = s ∧ -1000000000 < v ∧ v < 1000000000) => read_ok hp q.1 q.2.1 q.2.2)
    clear hp hv1 hv2
    go_enter Tryd.func48, Tryd.ntmps48
    go_wp2_with fail
    refine (Any.strconv_ParseInt_10_at64_ok layParse s (by have := HS.out; omega) v HP.out _).mono ?_
    rintro e w1 ⟨rfl, hw⟩
    have HB := Lib.hid (bytes_below hw)
    clear hw
    by_cases hq : itoaB v = s
    case neg =>
      have HN := Lib.hid (HNO.out fun q => hq q.1)
      have hne : ¬ (itoaB v).toList = s.toList := fun q => hq (WideShapes.bytes_inj (by rw [ByteArray.toList_eq, ByteArray.toList_eq] at q; exact q))
      clear hq
      go_wp2_with fail
      refine (digits_any v HV.out.1 (by have := HV.out.2; omega) _ (HG.out.below HB.out)).mono ?_
      rintro e w2 ⟨rfl, hb2⟩
      have HB2 := Lib.hid (below_trans HB.out hb2)
      clear hb2
      go_wp2
      go_ret2
      exact NumIn.no HN.out HB2.out
    case pos =>
      have HQ := Lib.hid hq
      have heq : (itoaB v).toList = s.toList := by rw [hq]
      clear hq
      by_cases h1 : v < -999999999
      · have HN := Lib.hid (HNO.out fun q => by omega)
        go_wp2_with fail
        refine (digits_any v HV.out.1 (by have := HV.out.2; omega) _ (HG.out.below HB.out)).mono ?_
        rintro e w2 ⟨rfl, hb2⟩
        have HB2 := Lib.hid (below_trans HB.out hb2)
        clear hb2
        go_wp2
        go_ret2
        exact NumIn.no HN.out HB2.out
      · by_cases h2 : v > 999999999
        · have HN := Lib.hid (HNO.out fun q => by omega)
          go_wp2_with fail
          refine (digits_any v HV.out.1 (by have := HV.out.2; omega) _ (HG.out.below HB.out)).mono ?_
          rintro e w2 ⟨rfl, hb2⟩
          have HB2 := Lib.hid (below_trans HB.out hb2)
          clear hb2
          go_wp2
          go_ret2
          exact NumIn.no HN.out HB2.out
        · have HN := Lib.hid (HYES.out ⟨HQ.out, by omega, by omega⟩)
          go_wp2_with fail
          refine (digits_any v HV.out.1 (by have := HV.out.2; omega) _ (HG.out.below HB.out)).mono ?_
          rintro e w2 ⟨rfl, hb2⟩
          have HB2 := Lib.hid (below_trans HB.out hb2)
          clear hb2
          go_wp2
          go_ret2
          exact NumIn.yes HN.out HB2.out
  · have HP := Lib.hid hp
    have HN := Lib.hid (read_no (s := s) fun v h => by rw [hp] at h; cases h)
    clear hp
    obtain ⟨te, pe, he⟩ := HG.out.syn
    have HE := Lib.hid he
    clear he
    go_enter Tryd.func48, Tryd.ntmps48
    go_wp2_with fail
    refine (Any.strconv_ParseInt_10_at64_syntax layParse s HS.out HP.out _ _ HE.out (.inr ⟨te, pe, rfl⟩)).mono ?_
    rintro e w1 ⟨N, rfl, -, -, hb⟩
    have HB := Lib.hid hb
    clear hb
    go_wp2
    go_ret2
    exact NumIn.no HN.out HB.out
  · have HP := Lib.hid hp
    have HN := Lib.hid (read_no (s := s) fun v h => by rw [hp] at h; cases h)
    clear hp
    obtain ⟨te, pe, he⟩ := HG.out.rng
    have HE := Lib.hid he
    clear he
    go_enter Tryd.func48, Tryd.ntmps48
    go_wp2_with fail
    refine (Any.strconv_ParseInt_10_at64_range layParse s HS.out HP.out _ _ HE.out (.inr ⟨te, pe, rfl⟩)).mono ?_
    rintro e w1 ⟨N, rfl, -, -, hb⟩
    have HB := Lib.hid hb
    clear hb
    go_wp2
    go_ret2
    exact NumIn.no HN.out HB.out
end Go.Proofs.YtiijagmakkgnnaaDoor
namespace Go.Proofs.YtiijagmakkgnnaaDoor
open Go.ChangeShapes Go.WideShapes Go.ChangeAt Go.RowKit

/-- 'make([]T, n)', an element being of any number of cells. -/
theorem run_make_many {P : Program} (t e : TypeId) (z : Value) (size bytes : Nat) (ht : P.underlying t = some (.slice e)) (hinfo : (P.info? e).map (fun i => (i.zero, i.size, i.bytes)) = some (some z, size, bytes))
    (kl kc : IntKind) (n : Nat) (hbytes : bytes * n ≤ 281474976710656) (h63 : n ≤ 9223372036854775807) (w : World) :
    (Instr.makeSlice t (.int kl (n : Int)) (.int kc (n : Int))).run P w = .ok (.slice (some ⟨w.heap.size, 0, none⟩) n n) (w.alloc (.cells (madeCells z.cells (n * size)) e)) := by
  obtain ⟨i, hi, hzz⟩ := Option.map_eq_some_iff.1 hinfo
  simp only [Prod.mk.injEq] at hzz
  obtain ⟨hz, hs, hb⟩ := hzz
  have h' : (i.bytes : Int) * (n : Int) ≤ 281474976710656 := by
    have h : ((i.bytes * n : Nat) : Int) ≤ 281474976710656 := by rw [hb]; omega
    rwa [Int.natCast_mul] at h
  have hr := run_make (P := P) w t e i z ht hi hz kl kc n n (by omega) (Int.le_refl _) h' (by omega)
  simpa only [Int.toNat_natCast, hs] using hr

theorem Room.made (w : World) (z : Array Value) (n : Nat) (t : TypeId) (xs : List Value) : Room w n xs 0 (w.alloc (.cells (madeCells z n) t)) where
  low := (Below.refl _ _).alloc (Nat.le_refl _) _
  has := by simp
  all := fun j hj => by
    have hs : (madeCells z n).size = n := size_madeCells z n
    refine ⟨(madeCells z n)[j]'(by omega), ?_⟩
    simp only [World.cell?, heap_alloc_new]
    simp [hs, hj]
  free := fun o => by go_simp
  full := fun j v hj _ => by omega

theorem Room.below {w w' w2 : World} {n k : Nat} {xs : List Value} (h : Room w n xs k w') (hb : Below w'.heap.size w' w2) : Room w n xs k w2 where
  low := below_trans h.low hb
  has := Nat.lt_of_lt_of_le h.has hb.size
  all := fun j hj => by obtain ⟨v, hv⟩ := h.all j hj; exact ⟨v, by rw [hb.cell (p := ⟨w.heap.size, j, none⟩) h.has]; exact hv⟩
  free := fun o => by rw [hb.frozen (p := ⟨w.heap.size, o, none⟩) h.has]; exact h.free o
  full := fun j v hj hv => by rw [hb.cell (p := ⟨w.heap.size, j, none⟩) h.has]; exact h.full j v hj hv

theorem grown_keeps {w w' : World} {row : Option Nat} (h : w.grownBy w' row) {b o : Nat} (hb : b < w.heap.size) (hne : some b ≠ row) : w'.cell? ⟨b, o, none⟩ = w.cell? ⟨b, o, none⟩ :=
  World.cell?_of_block (h.block b hb hne)
theorem gid (w : World) (row : Option Nat) : w.grownBy w row := ⟨rfl, rfl, rfl, Nat.le_refl _, fun _ _ _ => rfl⟩
theorem gbelow {w w1 w2 : World} {row : Option Nat} (h : w.grownBy w1 row) (k : Below w1.heap.size w1 w2) : w.grownBy w2 row :=
  ⟨k.os.trans h.os, k.tape.trans h.tape, k.output.trans h.output, Nat.le_trans h.size k.size, fun i hi hne => (k.block i (Nat.lt_of_lt_of_le hi h.size)).trans (h.block i hi hne)⟩
theorem gset {w w1 : World} {b o : Nat} (h : w.grownBy w1 (some b)) (v : Value) : w.grownBy (w1.setCell ⟨b, o, none⟩ v) (some b) := by
  refine ⟨h.os, h.tape, h.output, Nat.le_trans h.size (by simp [World.setCell]), fun i hi hne => ?_⟩
  rw [Below.heap_setCell _ _ _ _ (by intro e; exact hne (by rw [e]))]
  exact h.block i hi hne
theorem bgrown {w w1 w2 : World} {B : Nat} {row : Option Nat} (h : Below B w w1) (hB : B ≤ w1.heap.size) (k : w1.grownBy w2 row) (hr : ∀ g, row = some g → B ≤ g) : Below B w w2 :=
  h.trans ⟨k.os, k.tape, k.output, k.size, fun i hi => k.block i (by omega) (by intro e; have := hr i e.symm; omega)⟩

/-- 'copy' of elements of any number of cells, over a whole row of the call's own. -/
theorem run_copy_many {P : Program} (w : World) (dT sT ty elem : TypeId) (size g dCap n : Nat) (sp : Option Addr) (sCap : Nat) (cur : Array Value) (t : TypeId) (cs : List Value)
    (hu : P.underlying dT = some (.slice elem)) (hs : (P.info? elem).map (·.size) = some size) (hsz : 0 < size) (hg : w.heap[g]? = some (.cells cur t (0, 0))) (hcur : cur.size = n * size) (hc : cs.length = n * size)
    (hsrc : Lies w sp cs) (h1 : ∀ v ∈ cs, v.oneCell' = true) :
    (Builtin.copy_ #[dT, sT] ty #[.slice (some ⟨g, 0, none⟩) n dCap, .slice sp n sCap]).run P w = .ok (goInt n) (w.setRow g cs.toArray) := by
  cases hq : P.info? elem with
  | none => simp [hq] at hs
  | some i =>
    have hi : i.size = size := by simpa [hq] using hs
    cases n with
    | zero =>
      have hcs : cs = [] := List.eq_nil_of_length_eq_zero (by omega)
      have hce : cur = #[] := Array.eq_empty_of_size_eq_zero (by omega)
      subst hcs; subst hce
      have hl : ∀ (x : Addr), (loadCells x 0).run P w = .ok #[] w := fun x => by simpa using run_loadCells_list (P := P) w x [] (by simp)
      have hself := setRow_self w g #[] t (0, 0) hg
      cases sp <;> simp [Builtin.copy_, run_underlying hu, Builtin.lenOf, Builtin.firstCells, sizeOf, typeInfo, hq, storeCells, hl, hself]
    | succ n =>
      have hpos : 0 < cs.length := by rw [hc]; exact Nat.mul_pos (by omega) hsz
      obtain ⟨b, off, rfl, _⟩ := hsrc 0 cs[0] (List.getElem?_eq_getElem hpos)
      have hsrc' : ∀ j v, cs[j]? = some v → w.cell? ((⟨b, off, none⟩ : Addr).add j) = some v := by
        intro j v hj
        obtain ⟨b', off', e, hv⟩ := hsrc j v hj
        injection e with e; injection e with e1 e2; subst e1; subst e2
        rw [add_plain]; exact hv
      have hl := run_loadCells_list (P := P) w ⟨b, off, none⟩ cs hsrc'
      have hst := run_storeCells_at P g 0 t cs 0 cur w hg (by simp; omega) h1
      have hd : cur.toList.drop (0 + 0 + cs.length) = [] := List.drop_eq_nil_of_le (by simp; omega)
      rw [hd] at hst
      simp only [Nat.add_zero, List.take_zero, List.nil_append, List.append_nil] at hst
      simp [Builtin.copy_, run_underlying hu, Builtin.lenOf, Builtin.firstCells, sizeOf, typeInfo, hq, hi, ← hc, hl, hst]

theorem setRow_new (w : World) (c cs : Array Value) (t : TypeId) : (w.alloc (.cells c t)).setRow w.heap.size cs = w.alloc (.cells cs t) := by
  unfold World.setRow World.alloc
  congr 1
  apply Array.ext
  · simp
  · intro k h1 h2
    simp only [Array.getElem_modify, Array.getElem_push]
    split
    · rename_i hk; subst hk; simp
    · split
      · rfl
      · rename_i h3 h4; simp at h1; omega

/-- 'copy' over a row that is new. -/
theorem run_copy_new {P : Program} (w : World) (dT sT ty elem : TypeId) (size dCap n : Nat) (sp : Option Addr) (sCap : Nat) (cur : Array Value) (t : TypeId) (cs : List Value)
    (hu : P.underlying dT = some (.slice elem)) (hs : (P.info? elem).map (·.size) = some size) (hsz : 0 < size) (hcur : cur.size = n * size) (hc : cs.length = n * size)
    (hsrc : Lies w sp cs) (h1 : ∀ v ∈ cs, v.oneCell' = true) :
    (Builtin.copy_ #[dT, sT] ty #[.slice (some ⟨w.heap.size, 0, none⟩) n dCap, .slice sp n sCap]).run P (w.alloc (.cells cur t)) = .ok (goInt n) (w.alloc (.cells cs.toArray t)) := by
  have hrun := run_copy_many (P := P) (w.alloc (.cells cur t)) dT sT ty elem size w.heap.size dCap n sp sCap cur t cs hu hs hsz (heap_alloc_new _ _) hcur hc (hsrc.below ((Below.refl _ _).alloc (Nat.le_refl _) _)) h1
  rw [setRow_new] at hrun
  exact hrun

/-- A row that is new. -/
theorem lies_new (w : World) (cs : List Value) (t : TypeId) : Lies (w.alloc (.cells cs.toArray t)) (some ⟨w.heap.size, 0, none⟩) cs := by
  intro k v hk
  exact ⟨_, _, rfl, by simp only [World.cell?, heap_alloc_new]; simpa using hk⟩
theorem below_new (w : World) (o : Obj) : Below w.heap.size w (w.alloc o) := (Below.refl _ _).alloc (Nat.le_refl _) _
theorem free_new (w : World) (c : Array Value) (t : TypeId) (o : Nat) : (w.alloc (.cells c t)).frozen? ⟨w.heap.size, o, none⟩ = false := by go_simp

/-- This place, of n cells, may be written: all are there, none is frozen. -/
structure Mine (w : World) (b off n : Nat) : Prop where
  all : ∀ j, j < n → ∃ v, w.cell? ⟨b, off + j, none⟩ = some v
  free : ∀ o, w.frozen? ⟨b, o, none⟩ = false
/-- The first k cells of that place hold xs's; all other blocks are as they were. -/
structure Wrote (w : World) (b off n : Nat) (xs : List Value) (k : Nat) (w' : World) : Prop where
  grown : w.grownBy w' (some b)
  mine : Mine w' b off n
  full : ∀ j v, j < k → xs[j]? = some v → w'.cell? ⟨b, off + j, none⟩ = some v
theorem Wrote.start {w : World} {b off n : Nat} (h : Mine w b off n) (xs : List Value) : Wrote w b off n xs 0 w := ⟨gid _ _, h, fun _ _ h => by omega⟩
theorem Mine.set {w : World} {b off n : Nat} (h : Mine w b off n) (o : Nat) (v : Value) : Mine (w.setCell ⟨b, o, none⟩ v) b off n where
  all := fun j hj => by
    obtain ⟨u, hu⟩ := h.all j hj
    by_cases e : off + j = o
    · subst e; exact ⟨v, by rw [World.cell?_setCell_same _ _ _ hu]⟩
    · exact ⟨u, by rw [World.cell?_setCell_other _ _ _ _ (by intro q; injection q with _ q; exact e (by omega))]; exact hu⟩
  free := fun o => by have := h.free o; go_simp
theorem Mine.below {w w' : World} {b off n : Nat} (h : Mine w b off n) (hb : b < w.heap.size) (k : Below w.heap.size w w') : Mine w' b off n where
  all := fun j hj => by obtain ⟨u, hu⟩ := h.all j hj; exact ⟨u, by rw [k.cell (p := ⟨b, off + j, none⟩) hb]; exact hu⟩
  free := fun o => by rw [k.frozen (p := ⟨b, o, none⟩) hb]; exact h.free o
theorem Mine.grown {w w' : World} {b off n : Nat} {row : Option Nat} (h : Mine w b off n) (hb : b < w.heap.size) (k : w.grownBy w' row) (hne : some b ≠ row) : Mine w' b off n where
  all := fun j hj => by obtain ⟨u, hu⟩ := h.all j hj; exact ⟨u, by rw [grown_keeps k hb hne]; exact hu⟩
  free := fun o => by rw [World.frozen?_of_block (k.block b hb hne)]; exact h.free o
theorem Wrote.set {w w' : World} {b off n k : Nat} {xs : List Value} {v : Value} (h : Wrote w b off n xs k w') (hk : k < n) (hv : xs[k]? = some v) : Wrote w b off n xs (k + 1) (w'.setCell ⟨b, off + k, none⟩ v) where
  grown := gset h.grown v
  mine := h.mine.set _ _
  full := fun j u hj hu => by
    by_cases e : j = k
    · subst e
      obtain ⟨x, hx⟩ := h.mine.all j hk
      rw [hv] at hu
      injection hu with hu
      subst hu
      rw [World.cell?_setCell_same _ _ _ hx]
    · rw [World.cell?_setCell_other _ _ _ _ (by intro q; injection q with _ q; exact e (by omega))]
      exact h.full j u (by omega) hu
theorem Wrote.put {w w' : World} {b off n k p q : Nat} {xs : List Value} {v : Value} (h : Wrote w b off n xs k w') (hk : k < n) (hv : xs[k]? = some v) (hp : p = off + k) (hq : q = k + 1) : Wrote w b off n xs q (w'.setCell ⟨b, p, none⟩ v) := by
  subst hp; subst hq; exact h.set hk hv
theorem Wrote.below {w w' w2 : World} {b off n k : Nat} {xs : List Value} (h : Wrote w b off n xs k w') (hb : b < w.heap.size) (q : Below w'.heap.size w' w2) : Wrote w b off n xs k w2 :=
  ⟨gbelow h.grown q, h.mine.below (Nat.lt_of_lt_of_le hb h.grown.size) q, fun j v hj hv => by rw [q.cell (p := ⟨b, off + j, none⟩) (Nat.lt_of_lt_of_le hb h.grown.size)]; exact h.full j v hj hv⟩
theorem Wrote.lies {w w' : World} {b off n : Nat} {xs : List Value} (h : Wrote w b off n xs n w') (hn : xs.length ≤ n) : Lies w' (some ⟨b, off, none⟩) xs := by
  intro k v hk
  have hlt : k < xs.length := (List.getElem?_eq_some_iff.1 hk).1
  exact ⟨_, _, rfl, h.full k v (by omega) hk⟩
end Go.Proofs.YtiijagmakkgnnaaDoor
namespace Go.Proofs.YtiijagmakkgnnaaDoor
open Go.ChangeShapes Go.WideShapes Go.ChangeAt Go.RowKit

section
variable {α : Type} {f : α → List Value} {c : Nat}

/-- These records lie one behind the other from a on. -/
def Recs (f : α → List Value) (w : World) (a : Option Addr) (xs : List α) : Prop := Lies w a (xs.flatMap f)

theorem flat_length (hc : ∀ x, (f x).length = c) : ∀ xs : List α, (xs.flatMap f).length = xs.length * c
  | [] => by simp
  | x :: r => by
    rw [List.flatMap_cons, List.length_append, hc x, flat_length hc r, List.length_cons, Nat.add_mul, Nat.one_mul, Nat.add_comm]
theorem flat_at (hc : ∀ x, (f x).length = c) : ∀ (xs : List α) (k j : Nat) (hk : k < xs.length), j < c → (xs.flatMap f)[k * c + j]? = (f xs[k])[j]?
  | x :: r, 0, j, _, hj => by
    rw [List.flatMap_cons, Nat.zero_mul, Nat.zero_add, List.getElem?_append_left (by rw [hc]; exact hj)]; rfl
  | x :: r, k + 1, j, hk, hj => by
    have := flat_at hc r k j (by simpa using hk) hj
    rw [List.flatMap_cons, Nat.add_mul, Nat.one_mul, List.getElem?_append_right (by rw [hc]; omega), hc, show k * c + c + j - c = k * c + j by omega, this]; rfl
theorem flat_cases (hc : ∀ x, (f x).length = c) {xs : List α} {i : Nat} {v : Value} (h : (xs.flatMap f)[i]? = some v) : ∃ k j, ∃ hk : k < xs.length, j < c ∧ i = k * c + j ∧ (f xs[k])[j]? = some v := by
  have hlt := (List.getElem?_eq_some_iff.1 h).1
  rw [flat_length hc] at hlt
  have hc0 : 0 < c := by
    rcases Nat.eq_zero_or_pos c with e | e
    · subst e; simp at hlt
    · exact e
  have hk : i / c < xs.length := Nat.div_lt_of_lt_mul (by rw [Nat.mul_comm]; exact hlt)
  have hj : i % c < c := Nat.mod_lt _ hc0
  have he : i = i / c * c + i % c := by rw [Nat.mul_comm]; exact (Nat.div_add_mod i c).symm
  refine ⟨i / c, i % c, hk, hj, he, ?_⟩
  rw [← flat_at hc xs _ _ hk hj, ← he]; exact h
theorem flat_take (hc : ∀ x, (f x).length = c) : ∀ (xs : List α) (n : Nat), (xs.take n).flatMap f = (xs.flatMap f).take (n * c)
  | [], n => by simp
  | x :: r, 0 => by simp
  | x :: r, n + 1 => by
    rw [List.take_succ_cons, List.flatMap_cons, List.flatMap_cons, flat_take hc r n, Nat.add_mul, Nat.one_mul, Nat.add_comm (n * c) c, ← hc x, List.take_length_add_append]
theorem flat_drop (hc : ∀ x, (f x).length = c) : ∀ (xs : List α) (n : Nat), (xs.drop n).flatMap f = (xs.flatMap f).drop (n * c)
  | [], n => by simp
  | x :: r, 0 => by simp
  | x :: r, n + 1 => by
    rw [List.drop_succ_cons, List.flatMap_cons, flat_drop hc r n, Nat.add_mul, Nat.one_mul, Nat.add_comm (n * c) c, ← List.drop_drop, List.drop_left' (hc x)]
theorem flat_one (h1 : ∀ x, ∀ v ∈ f x, v.oneCell' = true) (xs : List α) : ∀ v ∈ xs.flatMap f, v.oneCell' = true := by
  intro v hv
  obtain ⟨x, _, hx⟩ := List.mem_flatMap.1 hv
  exact h1 x v hx

theorem Recs.nil (w : World) (a : Option Addr) : Recs f w a [] := Lies.nil _ _
theorem Recs.below {w w' : World} {a : Option Addr} {xs : List α} (h : Recs f w a xs) (hb : Below w.heap.size w w') : Recs f w' a xs := Lies.below h hb
theorem Recs.takeR (hc : ∀ x, (f x).length = c) {w : World} {a : Option Addr} {xs : List α} (h : Recs f w a xs) (n : Nat) : Recs f w a (xs.take n) := by
  intro k v hk
  rw [flat_take hc, List.getElem?_take] at hk
  split at hk
  · exact h k v hk
  · cases hk
theorem Recs.draws {w : World} {a : Option Addr} {xs : List α} (h : Recs f w a xs) (n : Nat) : Recs f (w.drewN n) a xs := h
theorem Recs.cell {w : World} {a : Option Addr} {xs : List α} (h : Recs f w a xs) (hc : ∀ x, (f x).length = c) (h0 : 0 < c) (k : Nat) (hk : k < xs.length) :
    ∃ b off, a = some ⟨b, off, none⟩ ∧ b < w.heap.size ∧ ∀ j v, (f xs[k])[j]? = some v → w.cell? ⟨b, off + k * c + j, none⟩ = some v := by
  have hl : 0 < (f xs[k]).length := by rw [hc]; exact h0
  obtain ⟨b, off, e, hc0⟩ := h (k * c + 0) ((f xs[k])[0]) (by rw [flat_at hc xs k 0 hk h0]; exact List.getElem?_eq_getElem hl)
  refine ⟨b, off, e, at_lt hc0, fun j v hj => ?_⟩
  have hjc : j < c := by have := (List.getElem?_eq_some_iff.1 hj).1; rwa [hc] at this
  obtain ⟨b', off', e', hv⟩ := h (k * c + j) v (by rw [flat_at hc xs k j hk hjc]; exact hj)
  rw [e] at e'; injection e' with e'; injection e' with e1 e2; subst e1; subst e2
  rw [Nat.add_assoc]; exact hv
theorem Recs.under {w w' : World} {B : Nat} {a : Option Addr} {xs : List α} (hc : ∀ x, (f x).length = c) (h : Recs f w a xs) (hb : Below B w w') (hB : ∀ b off, a = some ⟨b, off, none⟩ → 0 < xs.length → b < B) : Recs f w' a xs :=
  Lies.under h hb (fun b off e hl => hB b off e (by
    rw [flat_length hc] at hl
    rcases Nat.eq_zero_or_pos xs.length with e0 | e0
    · rw [e0, Nat.zero_mul] at hl; omega
    · exact e0))
theorem Recs.old {w : World} {a : Option Addr} {xs : List α} (hc : ∀ x, (f x).length = c) (h0 : 0 < c) (h : Recs f w a xs) : ∀ b off, a = some ⟨b, off, none⟩ → 0 < xs.length → b < w.heap.size :=
  fun b off e hl => Lies.old h b off e (by rw [flat_length hc]; exact Nat.mul_pos hl h0)
theorem Recs.mk {w : World} {b off : Nat} {xs : List α} (hc : ∀ x, (f x).length = c) (h : ∀ k (hk : k < xs.length) j v, (f xs[k])[j]? = some v → w.cell? ⟨b, off + (k * c + j), none⟩ = some v) : Recs f w (some ⟨b, off, none⟩) xs := by
  intro i v hi
  obtain ⟨k, j, hk, hj, rfl, hv⟩ := flat_cases hc hi
  exact ⟨b, off, rfl, h k hk j v hv⟩

/-- The bytes of the first k. -/
def totR (z : α → Nat) (xs : List α) (k : Nat) : Nat := ((xs.take k).map z).sum
theorem totR_zero (z : α → Nat) (xs : List α) : totR z xs 0 = 0 := by simp [totR]
theorem totR_succ {z : α → Nat} {xs : List α} {k : Nat} (h : k < xs.length) : totR z xs (k + 1) = totR z xs k + z xs[k] := by
  unfold totR
  rw [List.take_succ_eq_append_getElem h, List.map_append, List.sum_append]
  simp only [List.map_cons, List.map_nil, List.sum_cons, List.sum_nil, Nat.add_zero]
theorem totR_mono (z : α → Nat) (xs : List α) {j k : Nat} (h : j ≤ k) : totR z xs j ≤ totR z xs k := by
  induction k with
  | zero => have : j = 0 := by omega
            subst this; exact Nat.le_refl _
  | succ k ih =>
    by_cases e : j = k + 1
    · subst e; exact Nat.le_refl _
    · have h1 := ih (by omega)
      by_cases hk : k < xs.length
      · rw [totR_succ hk]; omega
      · have : totR z xs (k + 1) = totR z xs k := by unfold totR; rw [List.take_of_length_le (by omega), List.take_of_length_le (by omega)]
        omega
theorem le_totR {z : α → Nat} {xs : List α} {k : Nat} (h : k < xs.length) : z xs[k] ≤ totR z xs xs.length := by
  have h1 := totR_succ (z := z) h
  have h2 := totR_mono z xs (show k + 1 ≤ xs.length by omega)
  omega
/-- What is left of so many: -1 where they are too many. -/
def szR (z : α → Nat) (xs : List α) (left : Int) : Int := if (xs.length : Int) + totR z xs xs.length ≤ left then left - xs.length - totR z xs xs.length else -1
theorem szR_no {z : α → Nat} {xs : List α} {left : Int} {k : Nat} (hk : k ≤ xs.length) (h : left < xs.length + totR z xs k) : szR z xs left = -1 := by
  have := totR_mono z xs hk
  unfold szR; rw [if_neg (by omega)]
theorem szR_yes {z : α → Nat} {xs : List α} {left : Int} (h : (xs.length : Int) + totR z xs xs.length ≤ left) : szR z xs left = left - xs.length - totR z xs xs.length := by
  unfold szR; rw [if_pos h]
theorem szR_small {z : α → Nat} {xs : List α} {left : Int} (hl : left ≤ 1048576) (h : ¬ szR z xs left < 0) : xs.length ≤ 1048576 ∧ ∀ x ∈ xs, z x ≤ 1048576 := by
  unfold szR at h
  split at h
  · rename_i hle
    refine ⟨by omega, fun x hx => ?_⟩
    obtain ⟨k, hk, rfl⟩ := List.getElem_of_mem hx
    have := le_totR (z := z) hk
    omega
  · omega
theorem szR_bd {z : α → Nat} {xs : List α} {left : Int} (h0 : 0 ≤ left) : -1 ≤ szR z xs left ∧ szR z xs left ≤ left := by
  unfold szR
  split <;> omega

/-- Marks, from k on, c of them a record. -/
def marksR (mk : Nat → α) (c k n : Nat) : List α := (List.range n).map fun i => mk (k + i * c)
theorem marksR_length (mk : Nat → α) (c k n : Nat) : (marksR mk c k n).length = n := by simp [marksR]
theorem marksR_at (mk : Nat → α) (c k n i : Nat) (h : i < n) : (marksR mk c k n)[i]'(by rw [marksR_length]; exact h) = mk (k + i * c) := by simp [marksR]

/-- A list that lies in a block of its own, from block B on, and may be written. -/
def OwnR (f : α → List Value) (c : Nat) (w : World) (B : Nat) (a : Option Addr) (xs : List α) : Prop :=
  Recs f w a xs ∧ (xs = [] ∨ ∃ b, a = some ⟨b, 0, none⟩ ∧ B ≤ b ∧ b < w.heap.size ∧ Mine w b 0 (xs.length * c))
theorem OwnR.below {w w' : World} {B : Nat} {a : Option Addr} {xs : List α} (h : OwnR f c w B a xs) (hb : Below w.heap.size w w') : OwnR f c w' B a xs := by
  refine ⟨h.1.below hb, ?_⟩
  rcases h.2 with h0 | ⟨b, e, h1, h2, hm⟩
  · exact .inl h0
  · exact .inr ⟨b, e, h1, Nat.lt_of_lt_of_le h2 hb.size, hm.below h2 hb⟩
theorem OwnR.grown {w w' : World} {B x : Nat} {a : Option Addr} {xs : List α} (h : OwnR f c w B a xs) (hg : w.grownBy w' (some x)) (hx : x < B) : OwnR f c w' B a xs := by
  rcases h.2 with rfl | ⟨b, rfl, h1, h2, hm⟩
  · exact ⟨Lies.nil _ _, .inl rfl⟩
  · have hne : some b ≠ some x := by intro e; injection e with e; omega
    refine ⟨?_, .inr ⟨b, rfl, h1, Nat.lt_of_lt_of_le h2 hg.size, hm.grown h2 hg hne⟩⟩
    intro k v hk
    obtain ⟨b', off, e, hc⟩ := h.1 k v hk
    injection e with e; injection e with e1 e2; subst e1; subst e2
    exact ⟨b, 0, rfl, by rw [grown_keeps hg h2 hne]; exact hc⟩
theorem OwnR.mono {w : World} {B B' : Nat} {a : Option Addr} {xs : List α} (h : OwnR f c w B a xs) (hB : B' ≤ B) : OwnR f c w B' a xs := by
  refine ⟨h.1, ?_⟩
  rcases h.2 with h0 | ⟨b, e, h1, h2, hm⟩
  · exact .inl h0
  · exact .inr ⟨b, e, by omega, h2, hm⟩
theorem mine_lies {w : World} {b n : Nat} {vs : List Value} (h : Lies w (some ⟨b, 0, none⟩) vs) (hn : vs.length = n) (hf : ∀ o, w.frozen? ⟨b, o, none⟩ = false) : Mine w b 0 n where
  all := fun j hj => by
    obtain ⟨b', off', e, hc⟩ := h j vs[j] (List.getElem?_eq_getElem (by omega))
    injection e with e; injection e with e1 e2; subst e1; subst e2
    exact ⟨_, hc⟩
  free := hf
/-- A row that is new, and what lies in it. -/
theorem ownR_new (hc : ∀ x, (f x).length = c) (w : World) (xs : List α) (t : TypeId) : OwnR f c (w.alloc (.cells (xs.flatMap f).toArray t)) w.heap.size (some ⟨w.heap.size, 0, none⟩) xs := by
  have hl := lies_new w (xs.flatMap f) t
  exact ⟨hl, .inr ⟨_, rfl, Nat.le_refl _, by simp, mine_lies hl (flat_length hc xs) (free_new _ _ _)⟩⟩
/-- One that owns its row. -/
theorem ownR_of {w : World} {base : Nat} {e : TypeId} {v : Value} {xs : List α} (hc : ∀ x, (f x).length = c) (h : w.ownsRow base e c v xs.length (xs.flatMap f)) :
    ∃ a cap, v = .slice a xs.length cap ∧ OwnR f c w base a xs ∧ (v = .slice none 0 0 ∨ ∃ b, a = some ⟨b, 0, none⟩) := by
  rcases h.2 with ⟨rfl, h0⟩ | ⟨g, cap, cur, rfl, hg, hh, hle, hm, hs, ht⟩
  · have : xs = [] := List.eq_nil_of_length_eq_zero h0
    subst this
    exact ⟨none, 0, rfl, ⟨Lies.nil _ _, .inl rfl⟩, .inl rfl⟩
  · have hlies : Lies w (some ⟨g, 0, none⟩) (xs.flatMap f) := by
      intro k v hk
      have hlt := (List.getElem?_eq_some_iff.1 hk).1
      refine ⟨g, 0, rfl, ?_⟩
      rw [← ht, List.getElem?_take_of_lt (by rw [flat_length hc] at hlt; exact hlt)] at hk
      simpa [World.cell?, hh] using hk
    exact ⟨_, cap, rfl, ⟨hlies, .inr ⟨g, rfl, hg, (Array.getElem?_eq_some_iff.1 hh).1, mine_lies hlies (flat_length hc xs) (fun o => by simp [World.frozen?, hh])⟩⟩, .inr ⟨g, rfl⟩⟩
end

theorem own_at0 (n : Nat) : ∀ g, (Value.slice (some ⟨n, 0, none⟩) 0 0).ownBlock = some g → n ≤ g := by
  intro g hg
  have : n = g := by simpa [Value.ownBlock] using hg
  omega
theorem own_lo {w : World} {base : Nat} {e : TypeId} {c : Nat} {v : Value} {n : Nat} {xs : List Value} (h : w.ownsRow base e c v n xs) : ∀ g, v.ownBlock = some g → base ≤ g := by
  intro g hg
  rcases h.2 with ⟨rfl, _⟩ | ⟨g', cap, cur, rfl, hb, _⟩
  · simp [Value.ownBlock] at hg
  · have : g' = g := by simpa [Value.ownBlock] using hg
    omega
theorem own_below {w w' : World} {base : Nat} {e : TypeId} {c : Nat} {v : Value} {n : Nat} {xs : List Value} (h : w.ownsRow base e c v n xs) (hb : Below w.heap.size w w') : w'.ownsRow base e c v n xs := by
  refine ⟨h.1, ?_⟩
  rcases h.2 with h0 | ⟨g, cap, cur, hv, hg, hh, hr⟩
  · exact .inl h0
  · exact .inr ⟨g, cap, cur, hv, hg, by rw [hb.block g (Array.getElem?_eq_some_iff.1 hh).1]; exact hh, hr⟩

/-- One record lies in block B, from its head on. -/
def RecAt {α : Type} (f : α → List Value) (w : World) (B : Nat) (x : α) : Prop := ∀ j v, (f x)[j]? = some v → w.cell? ⟨B, j, none⟩ = some v
theorem RecAt.below {α : Type} {f : α → List Value} {w w' : World} {B : Nat} {x : α} (h : RecAt f w B x) (hb : Below w.heap.size w w') : RecAt f w' B x :=
  fun j v hj => by have hc := h j v hj; rw [hb.cell (p := ⟨B, j, none⟩) (at_lt hc)]; exact hc
theorem RecAt.new {α : Type} (f : α → List Value) (w : World) (x : α) (T : TypeId) : RecAt f (w.alloc (.cells (f x).toArray T)) w.heap.size x :=
  fun j v hj => by simp only [World.cell?, heap_alloc_new]; simpa using hj

/-- The number behind the last mark. -/
def markTo (c n : Nat) : Int := ((1 + n * c : Nat) : Int)
theorem markTo_pos (c n : Nat) : 0 ≤ markTo c n := by unfold markTo; omega
end Go.Proofs.YtiijagmakkgnnaaDoor
namespace Go.Proofs.YtiijagmakkgnnaaDoor
open Go.ChangeShapes Go.WideShapes Go.ChangeAt Go.RowKit

/-- The last digit of k. -/
def digB (k : Nat) : UInt8 := UInt8.ofNat (48 + k % 10)
/-- So many more digits of k ahead of what is there. -/
def digs : Nat → Nat → ByteArray → ByteArray
  | 0, _, s => s
  | f + 1, k, s => if k = 0 then s else digs f (k / 10) (⟨#[digB k]⟩ ++ s)
/-- The text of a mark. -/
def markB (k : Nat) : ByteArray := ⟨#[109]⟩ ++ digs 10 k ByteArray.empty

theorem conv_byte (n : Nat) (h : n < 256) (w : World) :
    (convert 75 9 (.slice (some ⟨w.heap.size, 0, none⟩) 1 1)).run Tryd.prog (w.alloc (.cells #[.int .u8 (n : Int)] 5)) = .ok (.string ⟨#[UInt8.ofNat n]⟩) (w.alloc (.cells #[.int .u8 (n : Int)] 5)) := by
  have hn : (UInt8.ofNat n).toNat = n := by simp; omega
  exact run_convert_bytes_back (P := Tryd.prog) (w.alloc (.cells #[.int .u8 (n : Int)] 5)) 75 9 5 ⟨w.heap.size, 0, none⟩ 1 [UInt8.ofNat n] Tryd.underlying75 Tryd.underlying5 Tryd.underlying9 (fun j hj => by
    match j, hj with
    | 0, _ => simp only [List.getElem_cons_zero, hn]; simp [Addr.add])

set_option maxHeartbeats 1000000 in
set_option maxRecDepth 100000 in
theorem markText_any (k : Nat) (h0 : 0 < k) (h1 : k ≤ 10000000) (w : World) :
    Calls Tryd.prog 32 #[.int .i64 k] w fun e w' => e = .returned (.string (markB k)) ∧ Below w.heap.size w w' := by
  go_enter Tryd.func32, Tryd.ntmps32
  go_wp2
  go_loopw [0, 3] (fun n t w' => ∃ (f m : Nat) (s : ByteArray), n = .int .i64 m ∧ t = .string s ∧ m < 10 ^ f ∧ m ≤ 10000000 ∧ s.size + f ≤ 10 ∧ digs f m s = digs 10 k ByteArray.empty ∧ Below w.heap.size w w') (fun n _ _ => (intOf n).toNat)
  case atStart => exact ⟨10, k, ByteArray.empty, rfl, rfl, by omega, h1, by decide, rfl, Below.refl _ _⟩
  case round =>
    obtain ⟨f, m, s, rfl, rfl, hm, hm2, hs, he, hb⟩ := hrel
    have HE := Lib.hid he
    have HB := Lib.hid hb
    clear he hb
    by_cases hz : 0 < m
    · cases f with
      | zero => simp at hm; omega
      | succ f =>
        have HN : Hid (digs f (m / 10) (⟨#[digB m]⟩ ++ s) = digs 10 k ByteArray.empty) := by
          have := HE.out
          rw [digs, if_neg (by omega)] at this
          exact this
        have hm3 : m / 10 < 10 ^ f := by rw [Nat.pow_succ] at hm; omega
        have hcv := conv_byte (48 + m % 10) (by omega) wr
        rw [show ((48 + m % 10 : Nat) : Int) = 48 + (m : Int) % 10 by omega, show UInt8.ofNat (48 + m % 10) = digB m from rfl] at hcv
        have hdv : ((m : Int) / 10) = ((m / 10 : Nat) : Int) := by omega
        have HD := Lib.hid hdv
        have hsz : ((⟨#[digB m]⟩ : ByteArray) ++ s).size + f ≤ 10 := by
          rw [ByteArray.size_append]
          have : (⟨#[digB m]⟩ : ByteArray).size = 1 := rfl
          omega
        clear hm HE hdv
        go_wp2
        go_roundw
        case rel => exact ⟨f, m / 10, _, by rw [HD.out], rfl, hm3, by omega, hsz, HN.out, HB.out.alloc HB.out.size _⟩
        case measure => simp [intOf]; omega
    · obtain rfl : m = 0 := by omega
      have HN : Hid (s = digs 10 k ByteArray.empty) := by
        have := HE.out
        cases f with
        | zero => exact this
        | succ f => rw [digs, if_pos rfl] at this; exact this
      clear HE
      go_wp2
      go_ret
      exact ⟨by rw [HN.out]; rfl, HB.out⟩
end Go.Proofs.YtiijagmakkgnnaaDoor
namespace Go.Proofs.YtiijagmakkgnnaaDoor
open Go.ChangeShapes Go.WideShapes Go.ChangeAt Go.RowKit

/-- A world in which all that was in w is as it was. -/
structure Grow (w : World) where
  to : World
  ok : Below w.heap.size w to
instance (w : World) : Nonempty (Grow w) := ⟨⟨w, Below.refl _ _⟩⟩
theorem Grow.cell {w : World} {b o : Nat} {v : Value} (h : w.cell? ⟨b, o, none⟩ = some v) : ∀ g : Grow w, g.to.cell? ⟨b, o, none⟩ = some v :=
  fun g => (g.ok.cell (p := ⟨b, o, none⟩) (at_lt h)).trans h
/-- The region's law. -/
theorem wp_region_grow {P : Program} {id : Nat} {Q : Exit → Act → World → Prop} {a : Act} {w : World} {l : List Oper} (hm : P.follows .mixedOrders = true) (hB : Region.lexB .any l.toArray = true)
    (h : wpQuiet P l.toArray (fun w' => ∃ g : Grow w, w' = g.to) (fun a' => ∀ w', (∃ g : Grow w, w' = g.to) → Q .normal a' w') l a) : (Code.region id l.toArray true).wp P Q a w :=
  wp_region_quiet (C := fun w' => ∃ g : Grow w, w' = g.to) hm hB ⟨⟨{ w with drawn := w.drawn + 1 }, below_draws (Below.refl _ _) 1⟩, rfl⟩ (by simpa using h)
/-- A callee that makes memory. -/
theorem grow_call {P : Program} {f : FuncId} {args : Array Value} {w : World} {g : Grow w} {v u : Value} (e : u = v) (h : Calls P f args g.to fun e w' => e = .returned u ∧ Below g.to.heap.size g.to w') :
    Calls P f args g.to fun e w'' => e = .returned v ∧ ∃ g' : Grow w, w'' = g'.to :=
  h.mono fun _ w' ⟨he, hb⟩ => ⟨by rw [he, e], ⟨w', below_trans g.ok hb⟩, rfl⟩
/-- A callee that leaves the world alone. -/
theorem grow_same {P : Program} {f : FuncId} {args : Array Value} {w : World} {g : Grow w} {v u : Value} (e : u = v) (h : Calls P f args g.to fun e w' => e = .returned u ∧ g.to = w') :
    Calls P f args g.to fun e w'' => e = .returned v ∧ ∃ g' : Grow w, w'' = g'.to :=
  h.mono fun _ w' ⟨he, hb⟩ => ⟨by rw [he, e], g, hb.symm⟩
theorem int_is {a b : Int} (h : a = b) : Value.int .i64 a = .int .i64 b := by rw [h]
theorem bool_is {a b : Bool} (h : a = b) : Value.bool a = .bool b := by rw [h]
end Go.Proofs.YtiijagmakkgnnaaDoor
namespace Go.Proofs.YtiijagmakkgnnaaDoor
open Go.ChangeShapes Go.WideShapes Go.ChangeAt Go.RowKit

/-- A Deed. -/
structure Dee where
  kind : Int
  who : ByteArray
  mill : ByteArray
  to : ByteArray
  n : Int
def Dee.cs (x : Dee) : List Value := [.int .i64 x.kind, .string x.who, .string x.mill, .string x.to, .int .i64 x.n]
theorem Dee.len (x : Dee) : x.cs.length = 5 := rfl
theorem Dee.one (x : Dee) : ∀ v ∈ x.cs, v.oneCell' = true := by
  intro v hv
  simp only [Dee.cs, List.mem_cons, List.not_mem_nil, or_false] at hv
  rcases hv with rfl | rfl | rfl | rfl | rfl <;> rfl
/-- The bytes of its strings. -/
def Dee.bytes (x : Dee) : Nat := x.who.size + x.mill.size + x.to.size
/-- Its strings are no longer than a machine's. -/
def Dee.fits (x : Dee) : Prop := x.who.size ≤ 9223372036854775807 ∧ x.mill.size ≤ 9223372036854775807 ∧ x.to.size ≤ 9223372036854775807
theorem Dee.at {w : World} {a : Option Addr} {xs : List Dee} (h : Recs Dee.cs w a xs) (k : Nat) (hk : k < xs.length) :
    ∃ b off, a = some ⟨b, off, none⟩ ∧ b < w.heap.size ∧ w.cell? ⟨b, off + k * 5, none⟩ = some (.int .i64 xs[k].kind) ∧ w.cell? ⟨b, off + k * 5 + 1, none⟩ = some (.string xs[k].who) ∧ w.cell? ⟨b, off + k * 5 + 2, none⟩ = some (.string xs[k].mill) ∧ w.cell? ⟨b, off + k * 5 + 3, none⟩ = some (.string xs[k].to) ∧ w.cell? ⟨b, off + k * 5 + 4, none⟩ = some (.int .i64 xs[k].n) := by
  obtain ⟨b, off, e, hb, hc⟩ := h.cell Dee.len (by omega) k hk
  exact ⟨b, off, e, hb, hc 0 _ rfl, hc 1 _ rfl, hc 2 _ rfl, hc 3 _ rfl, hc 4 _ rfl⟩

theorem info_Deed : (Tryd.prog.info? 26).map (fun i => (i.zero, i.size, i.bytes)) = some (some (.agg #[.int .i64 0, .string ByteArray.empty, .string ByteArray.empty, .string ByteArray.empty, .int .i64 0]), 5, 64) := by kernel_rfl

theorem size_Deed : (Tryd.prog.info? 26).map (·.size) = some 5 := by kernel_rfl

/-- What is left behind one: -1 where it is too much. -/
def Dee.left (x : Dee) (left : Int) : Int := if (x.bytes : Int) ≤ left then left - x.bytes else -1

set_option maxHeartbeats 1000000 in
set_option maxRecDepth 100000 in
theorem szDeed_any (v0 : Int) (v1 : ByteArray) (v2 : ByteArray) (v3 : ByteArray) (v4 : Int) (left : Int) (w : World) (h1 : v1.size ≤ 9223372036854775807) (h2 : v2.size ≤ 9223372036854775807) (h3 : v3.size ≤ 9223372036854775807) (ha : 0 ≤ left) (hb : left ≤ 1048576) :
    Calls Tryd.prog 7 #[.agg #[.int .i64 v0, .string v1, .string v2, .string v3, .int .i64 v4], .int .i64 left] w fun e w' => e = .returned (.int .i64 (Dee.left ⟨v0, v1, v2, v3, v4⟩ left)) ∧ Below w.heap.size w w' := by
  by_cases q1 : left < v1.size
  · have HN := Lib.hid (show Dee.left ⟨v0, v1, v2, v3, v4⟩ left = -1 by have hby : (⟨v0, v1, v2, v3, v4⟩ : Dee).bytes = v1.size + v2.size + v3.size := rfl; unfold Dee.left; rw [if_neg (by omega)])
    have hd : left - (v1.size : Int) < 0 := by omega
    go_enter Tryd.func7, Tryd.ntmps7
    go_wp2
    go_ret
    exact ⟨by rw [HN.out]; rfl, below_new _ _⟩
  have hd1 : ¬ left - (v1.size : Int) < 0 := by omega
  by_cases q2 : left - (v1.size : Int) < v2.size
  · have HN := Lib.hid (show Dee.left ⟨v0, v1, v2, v3, v4⟩ left = -1 by have hby : (⟨v0, v1, v2, v3, v4⟩ : Dee).bytes = v1.size + v2.size + v3.size := rfl; unfold Dee.left; rw [if_neg (by omega)])
    have hd : left - (v1.size : Int) - (v2.size : Int) < 0 := by omega
    go_enter Tryd.func7, Tryd.ntmps7
    go_wp2
    go_ret
    exact ⟨by rw [HN.out]; rfl, below_new _ _⟩
  have hd2 : ¬ left - (v1.size : Int) - (v2.size : Int) < 0 := by omega
  by_cases q3 : left - (v1.size : Int) - (v2.size : Int) < v3.size
  · have HN := Lib.hid (show Dee.left ⟨v0, v1, v2, v3, v4⟩ left = -1 by have hby : (⟨v0, v1, v2, v3, v4⟩ : Dee).bytes = v1.size + v2.size + v3.size := rfl; unfold Dee.left; rw [if_neg (by omega)])
    have hd : left - (v1.size : Int) - (v2.size : Int) - (v3.size : Int) < 0 := by omega
    go_enter Tryd.func7, Tryd.ntmps7
    go_wp2
    go_ret
    exact ⟨by rw [HN.out]; rfl, below_new _ _⟩
  have hd3 : ¬ left - (v1.size : Int) - (v2.size : Int) - (v3.size : Int) < 0 := by omega
  have HN := Lib.hid (show Dee.left ⟨v0, v1, v2, v3, v4⟩ left = left - (v1.size : Int) - (v2.size : Int) - (v3.size : Int) by have hby : (⟨v0, v1, v2, v3, v4⟩ : Dee).bytes = v1.size + v2.size + v3.size := rfl; unfold Dee.left; rw [if_pos (by omega)]; omega)
  go_enter Tryd.func7, Tryd.ntmps7
  go_wp2
  go_ret
  exact ⟨by rw [HN.out]; rfl, below_new _ _⟩

set_option maxHeartbeats 1000000 in
set_option maxRecDepth 100000 in
theorem toDeed_any (v0 : Int) (v1 : ByteArray) (v2 : ByteArray) (v3 : ByteArray) (v4 : Int) (w : World) :
    Calls Tryd.prog 9 #[.agg #[.int .i64 v0, .string v1, .string v2, .string v3, .int .i64 v4]] w fun e w' => e = .returned (.agg #[.int .i64 v0, .string v1, .string v2, .string v3, .int .i64 v4]) ∧ Below w.heap.size w w' := by
  go_enter Tryd.func9, Tryd.ntmps9
  go_wp2
  refine bodyPost_ret (v := .agg #[.int .i64 v0, .string v1, .string v2, .string v3, .int .i64 v4]) (by simp [results, Tryd.results9, go_sem]) rfl ⟨rfl, ?_⟩
  exact (((Below.refl _ _).alloc (Nat.le_refl _) _).alloc (by simp) _).alloc (by simp; omega) _

/-- What 'toDeedS' leaves: the same records, in the block behind all that was there. -/
def ToDeed (xs : List Dee) (w : World) (e : Ending) (w' : World) : Prop :=
  e = .returned (.slice (some ⟨w.heap.size, 0, none⟩) xs.length xs.length) ∧ Recs Dee.cs w' (some ⟨w.heap.size, 0, none⟩) xs ∧ Below w.heap.size w w' ∧ Mine w' w.heap.size 0 (xs.length * 5) ∧ w.heap.size < w'.heap.size

theorem room_Deed {w w' : World} {n k : Nat} {xs : List Dee} (h : Room w n (xs.flatMap Dee.cs) (k * 5) w') (hk : k < xs.length) (hn : n = xs.length * 5) :
    Room w n (xs.flatMap Dee.cs) ((k + 1) * 5) (((((w'.setCell ⟨w.heap.size, k * 5, none⟩ (.int .i64 xs[k].kind)).setCell ⟨w.heap.size, k * 5 + 1, none⟩ (.string xs[k].who)).setCell ⟨w.heap.size, k * 5 + 2, none⟩ (.string xs[k].mill)).setCell ⟨w.heap.size, k * 5 + 3, none⟩ (.string xs[k].to)).setCell ⟨w.heap.size, k * 5 + 4, none⟩ (.int .i64 xs[k].n)) := by
  rw [show (k + 1) * 5 = k * 5 + 1 + 1 + 1 + 1 + 1 by omega]
  exact (((((h.set (by omega) ((flat_at Dee.len xs k 0 hk (by omega)).trans rfl)).set (by omega) ((flat_at Dee.len xs k 1 hk (by omega)).trans rfl)).set (by omega) ((flat_at Dee.len xs k 2 hk (by omega)).trans rfl)).set (by omega) ((flat_at Dee.len xs k 3 hk (by omega)).trans rfl)).set (by omega) ((flat_at Dee.len xs k 4 hk (by omega)).trans rfl))

set_option maxHeartbeats 1000000 in
set_option maxRecDepth 100000 in
theorem eqDeed_same (v0 : Int) (v1 : ByteArray) (v2 : ByteArray) (v3 : ByteArray) (v4 : Int) (w : World) :
    Calls Tryd.prog 20 #[.agg #[.int .i64 v0, .string v1, .string v2, .string v3, .int .i64 v4], .agg #[.int .i64 v0, .string v1, .string v2, .string v3, .int .i64 v4]] w fun e w' => e = .returned (.bool true) ∧ Below w.heap.size w w' := by
  go_enter Tryd.func20, Tryd.ntmps20
  go_wp2
  go_ret
  exact ⟨rfl, ((Below.refl _ _).alloc (Nat.le_refl _) _).alloc (by simp) _⟩

set_option maxHeartbeats 1000000 in
set_option maxRecDepth 100000 in
/-- Both lists hold the same records: it says so. -/
theorem eqDeedS_same {w : World} {a a' : Option Addr} {xs : List Dee} (cap cap' : Nat) (h : Recs Dee.cs w a xs) (h' : Recs Dee.cs w a' xs) (hl : xs.length ≤ 1048576) :
    Calls Tryd.prog 15 #[.slice a xs.length cap, .slice a' xs.length cap'] w fun e w' => e = .returned (.bool true) ∧ Below w.heap.size w w' := by
  have H := Lib.hid h
  have H' := Lib.hid h'
  clear h h'
  go_enter Tryd.func15, Tryd.ntmps15
  go_wp2
  go_loopw [5] (fun i w' => ∃ (k : Nat), k ≤ xs.length ∧ i = .int .i64 k ∧ Below w.heap.size w w') (fun i _ => xs.length - (intOf i).toNat)
  case atStart => exact ⟨0, Nat.zero_le _, rfl, Below.refl _ _⟩
  case round =>
    obtain ⟨k, hk, rfl, hb⟩ := hrel
    have HB := Lib.hid hb
    clear hb
    by_cases hlt : k < xs.length
    · obtain ⟨b, off, rfl, _, hc0, hc1, hc2, hc3, hc4⟩ := Dee.at (H.out.below HB.out) k hlt
      obtain ⟨b', off', rfl, _, hd0, hd1, hd2, hd3, hd4⟩ := Dee.at (H'.out.below HB.out) k hlt
      go_wp2
      go_still_tail 8, (by kernel_rfl)
      change wpList _ _ _ _ _ wr.drew
      go_wp2_with fail
      refine (eqDeed_same _ _ _ _ _ _).mono ?_
      rintro e w2 ⟨rfl, hb2⟩
      have HB2 := Lib.hid (below_trans (show Below w.heap.size w wr.drew from below_draws HB.out 1) hb2)
      clear hb2
      go_wp2
      go_roundw
      case rel => exact ⟨k + 1, by omega, by go_num, HB2.out⟩
      case measure => simp [intOf]; omega
    · go_wp2
      go_ret
      exact ⟨rfl, HB.out⟩

/-- The record of marks from k on. -/
def Dee.mark (k : Nat) : Dee := ⟨((k : Nat) : Int), markB (k + 1), markB (k + 2), markB (k + 3), ((k + 4 : Nat) : Int)⟩

set_option maxHeartbeats 2000000 in
set_option maxRecDepth 100000 in
theorem markDeedS_any {w : World} {b off n : Nat} (cap k : Nat) (h : Mine w b off (n * 5)) (hb : b < w.heap.size) (h0 : 0 < k) (hl : k + n * 5 ≤ 10000000) :
    Calls Tryd.prog 16 #[.slice (some ⟨b, off, none⟩) n cap, .int .i64 k] w fun e w' => e = .returned (.int .i64 ((k + n * 5 : Nat) : Int)) ∧ Wrote w b off (n * 5) ((marksR Dee.mark 5 k n).flatMap Dee.cs) (n * 5) w' := by
  have HM := Lib.hid h
  clear h
  go_enter Tryd.func16, Tryd.ntmps16
  go_wp2
  go_loopw [1, 5] (fun t i w' => ∃ j : Nat, j ≤ n ∧ i = .int .i64 j ∧ t = .int .i64 ((k + j * 5 : Nat) : Int) ∧ Wrote w b off (n * 5) ((marksR Dee.mark 5 k n).flatMap Dee.cs) (j * 5) w') (fun _ i _ => n - (intOf i).toNat)
  case atStart => exact ⟨0, Nat.zero_le _, rfl, by simp, Wrote.start HM.out _⟩
  case round =>
    obtain ⟨j, hj, rfl, rfl, hw⟩ := hrel
    by_cases hlt : j < n
    · have HW := Lib.hid hw
      have hjm : j < (marksR Dee.mark 5 k n).length := by rw [marksR_length]; exact hlt
      have HA := Lib.hid (marksR_at Dee.mark 5 k n j hlt)
      clear hw
      have hw0 := HW.out
      have hv0 : ((marksR Dee.mark 5 k n).flatMap Dee.cs)[j * 5 + 0]? = some (.int .i64 (((k + j * 5 : Nat) : Int))) := by rw [flat_at Dee.len _ j 0 hjm (by omega), HA.out]; rfl
      rw [show ((k + j * 5 : Nat) : Int) = (k : Int) + (j : Int) * 5 by omega] at hv0
      have hs0 := hw0.put (p := off + j * 5) (q := j * 5 + 1) (by omega) hv0 (by omega) (by omega)
      obtain ⟨u0, hu0⟩ := hw0.mine.all (j * 5 + 0) (by omega)
      have hf0 := hw0.mine.free (off + j * 5)
      rw [Nat.add_zero] at hu0
      have HW0 := Lib.hid hs0
      clear hs0 hv0 hw0 HW 
      go_wp2_with fail
      refine (markText_any (k + j * 5 + 1) (by omega) (by omega) _).mono ?_
      rintro e m1 ⟨rfl, hb1⟩
      have hw1 := HW0.out.below hb hb1
      have hv1 : ((marksR Dee.mark 5 k n).flatMap Dee.cs)[j * 5 + 1]? = some (.string (markB (k + j * 5 + 1))) := by rw [flat_at Dee.len _ j 1 hjm (by omega), HA.out]; rfl
      have hs1 := hw1.put (p := off + j * 5 + 1) (q := j * 5 + 2) (by omega) hv1 (by omega) (by omega)
      obtain ⟨u1, hu1⟩ := hw1.mine.all (j * 5 + 1) (by omega)
      have hf1 := hw1.mine.free (off + j * 5 + 1)
      rw [← Nat.add_assoc] at hu1
      have HW1 := Lib.hid hs1
      clear hs1 hv1 hw1 HW0 hb1
      go_wp2_with fail
      refine (markText_any (k + j * 5 + 1 + 1) (by omega) (by omega) _).mono ?_
      rintro e m2 ⟨rfl, hb2⟩
      have hw2 := HW1.out.below hb hb2
      have hv2 : ((marksR Dee.mark 5 k n).flatMap Dee.cs)[j * 5 + 2]? = some (.string (markB (k + j * 5 + 1 + 1))) := by rw [flat_at Dee.len _ j 2 hjm (by omega), HA.out]; rfl
      have hs2 := hw2.put (p := off + j * 5 + 2) (q := j * 5 + 3) (by omega) hv2 (by omega) (by omega)
      obtain ⟨u2, hu2⟩ := hw2.mine.all (j * 5 + 2) (by omega)
      have hf2 := hw2.mine.free (off + j * 5 + 2)
      rw [← Nat.add_assoc] at hu2
      have HW2 := Lib.hid hs2
      clear hs2 hv2 hw2 HW1 hb2
      go_wp2_with fail
      refine (markText_any (k + j * 5 + 1 + 1 + 1) (by omega) (by omega) _).mono ?_
      rintro e m3 ⟨rfl, hb3⟩
      have hw3 := HW2.out.below hb hb3
      have hv3 : ((marksR Dee.mark 5 k n).flatMap Dee.cs)[j * 5 + 3]? = some (.string (markB (k + j * 5 + 1 + 1 + 1))) := by rw [flat_at Dee.len _ j 3 hjm (by omega), HA.out]; rfl
      have hs3 := hw3.put (p := off + j * 5 + 3) (q := j * 5 + 4) (by omega) hv3 (by omega) (by omega)
      obtain ⟨u3, hu3⟩ := hw3.mine.all (j * 5 + 3) (by omega)
      have hf3 := hw3.mine.free (off + j * 5 + 3)
      rw [← Nat.add_assoc] at hu3
      have HW3 := Lib.hid hs3
      clear hs3 hv3 hw3 HW2 hb3
      have hw4 := HW3.out
      have hv4 : ((marksR Dee.mark 5 k n).flatMap Dee.cs)[j * 5 + 4]? = some (.int .i64 (((k + j * 5 + 1 + 1 + 1 + 1 : Nat) : Int))) := by rw [flat_at Dee.len _ j 4 hjm (by omega), HA.out]; rfl
      rw [show ((k + j * 5 + 1 + 1 + 1 + 1 : Nat) : Int) = (k : Int) + (j : Int) * 5 + 1 + 1 + 1 + 1 by omega] at hv4
      have hs4 := hw4.put (p := off + j * 5 + 4) (q := j * 5 + 5) (by omega) hv4 (by omega) (by omega)
      obtain ⟨u4, hu4⟩ := hw4.mine.all (j * 5 + 4) (by omega)
      have hf4 := hw4.mine.free (off + j * 5 + 4)
      rw [← Nat.add_assoc] at hu4
      have HW4 := Lib.hid hs4
      clear hs4 hv4 hw4 HW3 
      have HE := Lib.hid (show Wrote w b off (n * 5) ((marksR Dee.mark 5 k n).flatMap Dee.cs) ((j + 1) * 5) _ from by have := HW4.out; rw [show j * 5 + 5 = (j + 1) * 5 by omega] at this; exact this)
      clear HW4
      go_wp2
      go_roundw
      case rel => exact ⟨j + 1, by omega, by go_num, by go_num, HE.out⟩
      case measure => simp [intOf]; omega
    · obtain rfl : j = n := by omega
      have HW := Lib.hid hw
      clear hw
      go_wp2
      go_ret
      exact ⟨rfl, HW.out⟩

set_option maxHeartbeats 2000000 in
set_option maxRecDepth 100000 in
theorem heldDeedS_any {w : World} {a : Option Addr} {n : Nat} (cap k : Nat) (h : Recs Dee.cs w a (marksR Dee.mark 5 k n)) (h0 : 0 < k) (hl : k + n * 5 ≤ 10000000) :
    Calls Tryd.prog 17 #[.slice a n cap, .int .i64 k] w fun e w' => e = .returned (.int .i64 ((k + n * 5 : Nat) : Int)) ∧ Below w.heap.size w w' := by
  have H := Lib.hid h
  clear h
  go_enter Tryd.func17, Tryd.ntmps17
  go_wp2
  go_loopw [1, 5] (fun t i w' => ∃ j : Nat, j ≤ n ∧ i = .int .i64 j ∧ t = .int .i64 ((k + j * 5 : Nat) : Int) ∧ Below w.heap.size w w') (fun _ i _ => n - (intOf i).toNat)
  case atStart => exact ⟨0, Nat.zero_le _, rfl, by simp, Below.refl _ _⟩
  case round =>
    obtain ⟨j, hj, rfl, rfl, hb⟩ := hrel
    have HB := Lib.hid hb
    clear hb
    by_cases hlt : j < n
    · obtain ⟨b, off, rfl, _, g0, g1, g2, g3, g4⟩ := Dee.at (H.out.below HB.out) j (by rw [marksR_length]; exact hlt)
      rw [marksR_at Dee.mark 5 k n j hlt] at g0 g1 g2 g3 g4
      have hc0 : wr.cell? ⟨b, off + j * 5, none⟩ = some (.int .i64 (((k + j * 5 : Nat) : Int))) := g0
      have hc1 : wr.cell? ⟨b, off + j * 5 + 1, none⟩ = some (.string (markB (k + j * 5 + 1))) := g1
      have hc2 : wr.cell? ⟨b, off + j * 5 + 2, none⟩ = some (.string (markB (k + j * 5 + 1 + 1))) := g2
      have hc3 : wr.cell? ⟨b, off + j * 5 + 3, none⟩ = some (.string (markB (k + j * 5 + 1 + 1 + 1))) := g3
      have hc4 : wr.cell? ⟨b, off + j * 5 + 4, none⟩ = some (.int .i64 (((k + j * 5 + 1 + 1 + 1 + 1 : Nat) : Int))) := g4
      clear g0 g1 g2 g3 g4
      have e0_1 := Grow.cell hc1
      have e0_2 := Grow.cell hc2
      have e0_3 := Grow.cell hc3
      have e0_4 := Grow.cell hc4
      go_wp2
      refine wp_region_grow (by kernel_rfl) (by kernel_rfl) ?_
      repeat (go_big_quiet_step ((go_at_call 32; exact grow_call rfl (markText_any (k + j * 5 + 1) (by omega) (by omega) _))))
      refine wpQuiet_nil ?_
      intro _ hw0
      obtain ⟨gr0, rfl⟩ := hw0
      have HB0 := Lib.hid (below_trans HB.out gr0.ok)
      have d1_2 := e0_2 gr0
      have d1_3 := e0_3 gr0
      have d1_4 := e0_4 gr0
      clear e0_1 e0_2 e0_3 e0_4
      have e1_2 := Grow.cell d1_2
      have e1_3 := Grow.cell d1_3
      have e1_4 := Grow.cell d1_4
      go_wp2
      refine wp_region_grow (by kernel_rfl) (by kernel_rfl) ?_
      repeat (go_big_quiet_step ((go_at_call 32; exact grow_call rfl (markText_any (k + j * 5 + 1 + 1) (by omega) (by omega) _))))
      refine wpQuiet_nil ?_
      intro _ hw1
      obtain ⟨gr1, rfl⟩ := hw1
      have HB1 := Lib.hid (below_trans HB0.out gr1.ok)
      have d2_3 := e1_3 gr1
      have d2_4 := e1_4 gr1
      clear e1_2 e1_3 e1_4
      have e2_3 := Grow.cell d2_3
      have e2_4 := Grow.cell d2_4
      go_wp2
      refine wp_region_grow (by kernel_rfl) (by kernel_rfl) ?_
      repeat (go_big_quiet_step ((go_at_call 32; exact grow_call rfl (markText_any (k + j * 5 + 1 + 1 + 1) (by omega) (by omega) _))))
      refine wpQuiet_nil ?_
      intro _ hw2
      obtain ⟨gr2, rfl⟩ := hw2
      have HB2 := Lib.hid (below_trans HB1.out gr2.ok)
      have d3_4 := e2_4 gr2
      clear e2_3 e2_4
      go_wp2
      go_roundw
      case rel => exact ⟨j + 1, by omega, by go_num, by go_num, HB2.out⟩
      case measure => simp [intOf]; omega
    · obtain rfl : j = n := by omega
      go_wp2
      go_ret
      exact ⟨rfl, HB.out⟩

set_option maxHeartbeats 1000000 in
set_option maxRecDepth 100000 in
theorem markDeedS_none {w : World} (a : Option Addr) (cap k : Nat) : Calls Tryd.prog 16 #[.slice a 0 cap, .int .i64 k] w fun e w' => e = .returned (.int .i64 (k : Int)) ∧ w = w' := by
  go_enter Tryd.func16, Tryd.ntmps16
  go_wp2
  go_loop [1, 5] (fun t i => t = .int .i64 k ∧ i = .int .i64 0) (fun _ _ => 0)
  case atStart => exact ⟨rfl, rfl⟩
  case round =>
    obtain ⟨rfl, rfl⟩ := hrel
    go_wp2
    go_ret
    exact ⟨rfl, rfl⟩

/-- What marks leave of a list of the call's own. -/
def MarkDeed (w : World) (B : Nat) (a : Option Addr) (k n : Nat) (e : Ending) (w' : World) : Prop := e = .returned (.int .i64 ((k + n * 5 : Nat) : Int)) ∧ Recs Dee.cs w' a (marksR Dee.mark 5 k n) ∧ Below B w w'

theorem markDeed_own {w : World} {B : Nat} {a : Option Addr} {xs : List Dee} (cap k : Nat) (h : OwnR Dee.cs 5 w B a xs) (h0 : 0 < k) (hl : k + xs.length * 5 ≤ 10000000) :
    Calls Tryd.prog 16 #[.slice a xs.length cap, .int .i64 k] w (MarkDeed w B a k xs.length) := by
  rcases h.2 with rfl | ⟨b, rfl, h1, h2, hm⟩
  · refine (markDeedS_none a cap k).mono ?_
    rintro e w' ⟨rfl, rfl⟩
    exact ⟨by simp, Lies.nil _ _, Below.refl _ _⟩
  · refine (markDeedS_any cap k hm h2 h0 hl).mono ?_
    rintro e w' ⟨rfl, hw⟩
    refine ⟨rfl, hw.lies (by rw [flat_length Dee.len, marksR_length]; exact Nat.le_refl _), ?_⟩
    exact ⟨hw.grown.os, hw.grown.tape, hw.grown.output, hw.grown.size, fun i hi => hw.grown.block i (by omega) (by intro e; injection e with e; omega)⟩

theorem markFst_Deed {w : World} {b n : Nat} (cap : Nat) (h : Mine w b 0 (n * 5)) (hb : b < w.heap.size) (hl : n ≤ 1048576) :
    Calls Tryd.prog 16 #[.slice (some ⟨b, 0, none⟩) n cap, .int .i64 1] w fun e w' => e = .returned (.int .i64 (markTo 5 n)) ∧ w.grownBy w' (some b) :=
  (markDeedS_any cap 1 h hb (by omega) (by omega)).mono fun _ _ ⟨he, hw⟩ => ⟨he, hw.grown⟩

theorem markOwn_Deed {w : World} {B : Nat} {a : Option Addr} {xs : List Dee} (cap : Nat) (h : OwnR Dee.cs 5 w B a xs) (hl : xs.length ≤ 1048576) :
    Calls Tryd.prog 16 #[.slice a xs.length cap, .int .i64 1] w fun e w' => e = .returned (.int .i64 (markTo 5 xs.length)) ∧ Recs Dee.cs w' a (marksR Dee.mark 5 1 xs.length) ∧ Below B w w' :=
  markDeed_own cap 1 h (by omega) (by omega)

theorem heldOwn_Deed {w : World} {a : Option Addr} {n : Nat} (cap : Nat) (h : Recs Dee.cs w a (marksR Dee.mark 5 1 n)) (hl : n ≤ 1048576) :
    Calls Tryd.prog 17 #[.slice a n cap, .int .i64 1] w fun e w' => e = .returned (.int .i64 (markTo 5 n)) ∧ Below w.heap.size w w' :=
  heldDeedS_any cap 1 h (by omega) (by omega)

end Go.Proofs.YtiijagmakkgnnaaDoor
namespace Go.Proofs.YtiijagmakkgnnaaDoor
open Go.ChangeShapes Go.WideShapes Go.ChangeAt Go.RowKit

/-- Is x from lo to hi? -/
def inB (lo hi x : Int) : Bool := decide (lo ≤ x ∧ x ≤ hi)
theorem inB_true {lo hi x : Int} (h : inB lo hi x = true) : lo ≤ x ∧ x ≤ hi := by simpa [inB] using h
theorem inB_of {lo hi x : Int} (h : lo ≤ x) (h2 : x ≤ hi) : inB lo hi x = true := by simp [inB, h, h2]

theorem l1In_any (x lo hi : Int) (w : World) :
    Calls Tryd.prog 21 #[.int .i64 x, .int .i64 lo, .int .i64 hi] w fun e w' => e = .returned (.bool (inB lo hi x)) ∧ w = w' := by
  by_cases h : lo ≤ x
  · by_cases h2 : x ≤ hi
    · have hb : inB lo hi x = true := by simp [inB, h, h2]
      rw [hb]; clear hb
      go_enter Tryd.func21, Tryd.ntmps21
      go_wp2
      go_ret
      exact ⟨rfl, rfl⟩
    · have hb : inB lo hi x = false := by simp [inB, h2]
      rw [hb]; clear hb
      go_enter Tryd.func21, Tryd.ntmps21
      go_wp2
      go_ret
      exact ⟨rfl, rfl⟩
  · have hb : inB lo hi x = false := by simp [inB, h]
    rw [hb]; clear hb
    go_enter Tryd.func21, Tryd.ntmps21
    go_wp2
    go_ret
    exact ⟨rfl, rfl⟩
end Go.Proofs.YtiijagmakkgnnaaDoor
