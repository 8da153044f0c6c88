/-
  Texts joined: Name, DeedW, DeedX, StrAt, Rise, Order, PieceF, FrameF, TextF.
-/
import Derived.Test.YtiijagmakkgnnaaDoorJ1
import Derived.WalkMore
import Derived.ScopeJumps
import Derived.Laws.Cover1
import Derived.LoopN
import Derived.Lib.Hide
import Derived.Lib.ItoaNum
namespace Go.Proofs.YtiijagmakkgnnaaDoor
open Go.ChangeShapes Go.WideShapes Go.ChangeAt Go.RowKit

/-- Is it a byte from a to z? -/
def letB (c : Int) : Bool := decide (97 ≤ c ∧ c ≤ 122)
theorem letB_true {c : Int} (h : letB c = true) : 97 ≤ c ∧ c ≤ 122 := by simpa [letB] using h
theorem letB_false {c : Int} (h : letB c = false) : c < 97 ∨ 122 < c := by
  simp only [letB, decide_eq_false_iff_not] at h; omega

/-- The first k bytes are letters. -/
def Lets (s : ByteArray) (k : Nat) : Prop := ∀ j (h : j < s.size), j < k → letB (s[j].toNat : Int) = true
instance (s : ByteArray) (k : Nat) : Decidable (Lets s k) := inferInstanceAs (Decidable (∀ j (h : j < s.size), j < k → letB (s[j].toNat : Int) = true))
/-- A name: 1 to 6 bytes of a to z. -/
def nameB (s : ByteArray) : Bool := decide (1 ≤ s.size ∧ s.size ≤ 6 ∧ Lets s s.size)

theorem nameB_of {s : ByteArray} (h1 : 1 ≤ s.size) (h2 : s.size ≤ 6) (h : Lets s s.size) : nameB s = true := by simp [nameB, h1, h2, h]
theorem nameB_true {s : ByteArray} (h : nameB s = true) : 1 ≤ s.size ∧ s.size ≤ 6 ∧ Lets s s.size := by simpa [nameB] using h
theorem nameB_size {s : ByteArray} (h : s.size = 0 ∨ 6 < s.size) : nameB s = false := by
  simp only [nameB, decide_eq_false_iff_not]; rintro ⟨h1, h2, _⟩; omega
theorem nameB_bad {s : ByteArray} {k : Nat} (hk : k < s.size) (h : letB (s[k].toNat : Int) = false) : nameB s = false := by
  simp only [nameB, decide_eq_false_iff_not]; rintro ⟨_, _, h3⟩; rw [h3 k hk hk] at h; cases h
theorem Lets.zero (s : ByteArray) : Lets s 0 := fun _ _ h => by omega
theorem Lets.succ {s : ByteArray} {k : Nat} (h : Lets s k) (hk : k < s.size) (hl : letB (s[k].toNat : Int) = true) : Lets s (k + 1) := by
  intro j hj hlt
  by_cases e : j = k
  · subst e; exact hl
  · exact h j hj (by omega)
theorem nameB_len {s : ByteArray} (h : Lets s s.size) : nameB s = inB 1 6 (s.size : Int) := by
  by_cases h1 : 1 ≤ s.size
  · by_cases h2 : s.size ≤ 6
    · rw [nameB_of h1 h2 h]; symm; simp [inB]; omega
    · rw [nameB_size (by omega)]; symm; simp [inB]; omega
  · rw [nameB_size (by omega)]; symm; simp [inB]; omega

set_option maxHeartbeats 1000000 in
set_option maxRecDepth 100000 in
theorem sNameOk_any (s : ByteArray) (w : World) (hs : s.size ≤ maxLen) :
    Calls Tryd.prog 35 #[.string s] w fun e w' => e = .returned (.bool (nameB s)) ∧ w = w' := by
  unfold maxLen at hs
  go_enter Tryd.func35, Tryd.ntmps35
  go_wp2
  go_loop [3] (fun i => ∃ k : Nat, k ≤ s.size ∧ i = .int .i64 k ∧ Lets s k) (fun i => s.size - (intOf i).toNat)
  case atStart => exact ⟨0, Nat.zero_le _, rfl, Lets.zero s⟩
  case round =>
    obtain ⟨k, hk, rfl, hl⟩ := hrel
    by_cases hlt : k < s.size
    · cases hb : letB (s[k].toNat : Int)
      · have hn := Lib.hid (nameB_bad hlt hb)
        rcases letB_false hb with h1 | h1
        · clear hb
          go_wp2
          go_ret
          exact ⟨by rw [hn.out]; rfl, rfl⟩
        · have h0 : ¬ (s[k].toNat : Int) < 97 := by omega
          clear hb
          go_wp2
          go_ret
          exact ⟨by rw [hn.out]; rfl, rfl⟩
      · have hl2 := hl.succ hlt hb
        obtain ⟨h0, h1⟩ := letB_true hb
        clear hb
        go_wp2
        go_round
        case rel => exact ⟨k + 1, by omega, by go_num, hl2⟩
        case measure => simp [intOf]; omega
    · obtain rfl : k = s.size := by omega
      have hn := Lib.hid (nameB_len hl)
      go_wp2_with (go_at_call 21; refine (l1In_any _ _ _ _).mono ?_; rintro e w' ⟨rfl, rfl⟩)
      go_ret
      exact ⟨by rw [hn.out]; rfl, rfl⟩

section
variable {P : Program} {a : Act} {w : World} {Q : Exit → Act → World → Prop}
/-- As Q; by a goto to label l: what J asks there. -/
def gotosTo (J : Nat → Act → World → Prop) (Q : Exit → Act → World → Prop) : Exit → Act → World → Prop
  | .goto l, a, w => J l a w
  | e, a, w => Q e a w
theorem gotosTo_ret {J : Nat → Act → World → Prop} : gotosTo J Q .ret a w = Q .ret a w := rfl

/-- A scope of as many labels as there are: what holds at every jump to each, and a measure that each pass from a label lowers. -/
theorem wp_scope_gotos {c : Code} (J : Nat → Act → World → Prop) (m : Nat → Act → World → Nat)
    (first : c.wp P (gotosTo J Q) a w)
    (pass : ∀ l a w, J l a w → ∃ rest, findLabel c l = some rest ∧ rest.wp P (gotosTo (fun l' a' w' => J l' a' w' ∧ m l' a' w' < m l a w) Q) a w) : (Code.scope c).wp P Q a w := by
  intro b k cs
  have key : ∀ n l a w, m l a w = n → J l a w → ∃ rest, findLabel c l = some rest ∧ ∃ e a' w', Q e a' w' ∧ Arrives P (lone (b.at a (.code rest :: .inScope c :: k)) cs w) b k cs e a' w' := by
    intro n
    induction n using Nat.strongRecOn with
    | _ n ih =>
      intro l a w hn hJ
      obtain ⟨rest, hf, hp⟩ := pass l a w hJ
      refine ⟨rest, hf, ?_⟩
      obtain ⟨e, a1, w1, hq, harr⟩ := hp b (.inScope c :: k) cs
      cases e with
      | normal => exact ⟨.normal, a1, w1, hq, Steps.trans harr (.one step_inScope)⟩
      | exit id => exact ⟨.exit id, a1, w1, hq, fun k' hk => harr k' (by simp [exitTo, hk])⟩
      | goto l' =>
        obtain ⟨hJ', hlt⟩ := hq
        obtain ⟨rest', hf', e2, a2, w2, hq2, harr2⟩ := ih _ (by omega) l' a1 w1 rfl hJ'
        exact ⟨e2, a2, w2, hq2, .of_steps (harr _ (by simp [gotoIn, hf'])) harr2⟩
      | ret => exact ⟨_, a1, w1, hq, harr⟩
      | panic ch => exact ⟨_, a1, w1, hq, harr⟩
      | outgrown => exact ⟨_, a1, w1, hq, harr⟩
  obtain ⟨e, a1, w1, hq, harr⟩ := first b (.inScope c :: k) cs
  cases e with
  | normal => exact ⟨.normal, a1, w1, hq, .head step_scope (Steps.trans harr (.one step_inScope))⟩
  | exit id => exact ⟨.exit id, a1, w1, hq, fun k' hk => .head step_scope (harr k' (by simp [exitTo, hk]))⟩
  | goto l' =>
    obtain ⟨rest', hf', e2, a2, w2, hq2, harr2⟩ := key _ l' a1 w1 rfl hq
    exact ⟨e2, a2, w2, hq2, .of_steps (.head step_scope (harr _ (by simp [gotoIn, hf']))) harr2⟩
  | ret => exact ⟨_, a1, w1, hq, .of_steps (.one step_scope) harr⟩
  | panic ch => exact ⟨_, a1, w1, hq, .of_steps (.one step_scope) harr⟩
  | outgrown => exact ⟨_, a1, w1, hq, .of_steps (.one step_scope) harr⟩
end

theorem isLetter_any (c : Int) (w : World) :
    Calls Tryd.prog 55 #[.int .u8 c] w fun e w' => e = .returned (.bool (letB c)) ∧ w = w' := by
  by_cases h : 97 ≤ c
  · by_cases h2 : c ≤ 122
    · have hb : letB c = true := by simp [letB, h, h2]
      rw [hb]; clear hb
      go_enter Tryd.func55, Tryd.ntmps55
      go_wp2
      go_ret
      exact ⟨rfl, rfl⟩
    · have hb : letB c = false := by simp [letB, h2]
      rw [hb]; clear hb
      go_enter Tryd.func55, Tryd.ntmps55
      go_wp2
      go_ret
      exact ⟨rfl, rfl⟩
  · have hb : letB c = false := by simp [letB, h]
    rw [hb]; clear hb
    go_enter Tryd.func55, Tryd.ntmps55
    go_wp2
    go_ret
    exact ⟨rfl, rfl⟩

/-- What holds at each jump: label 0: it is no name; label 2: it is one; label 1: byte k is there, and all ahead of it are letters. -/
def NJ (s : ByteArray) (w : World) (l : Nat) (a : Act) (w' : World) : Prop :=
  w = w' ∧ ∃ x3 u4 u5 u6 u7 u8 u9 u10 u11 u12 u13 u14 u15 u16 u17 u18 u19 : Value, a = { tmps := #[.string s, undef, .bool false, x3, u4, u5, u6, u7, u8, u9, u10, u11, u12, u13, u14, u15, u16, u17, u18, u19], defers := [] } ∧
    ((l = 0 ∧ nameB s = false) ∨ (l = 2 ∧ nameB s = true) ∨ (l = 1 ∧ ∃ k : Nat, x3 = .int .i64 k ∧ k < s.size ∧ k < 6 ∧ Lets s k))
def NM (l : Nat) (a : Act) (_ : World) : Nat := if l = 1 then 7 - (intOf (a.tmps.getD 3 undef)).toNat else 0

theorem NJ.no {s : ByteArray} {w : World} {x3 u4 u5 u6 u7 u8 u9 u10 u11 u12 u13 u14 u15 u16 u17 u18 u19 : Value} (h : nameB s = false) : NJ s w 0 { tmps := #[.string s, undef, .bool false, x3, u4, u5, u6, u7, u8, u9, u10, u11, u12, u13, u14, u15, u16, u17, u18, u19], defers := [] } w :=
  ⟨rfl, x3, u4, u5, u6, u7, u8, u9, u10, u11, u12, u13, u14, u15, u16, u17, u18, u19, rfl, .inl ⟨rfl, h⟩⟩
theorem NJ.yes {s : ByteArray} {w : World} {x3 u4 u5 u6 u7 u8 u9 u10 u11 u12 u13 u14 u15 u16 u17 u18 u19 : Value} (h : nameB s = true) : NJ s w 2 { tmps := #[.string s, undef, .bool false, x3, u4, u5, u6, u7, u8, u9, u10, u11, u12, u13, u14, u15, u16, u17, u18, u19], defers := [] } w :=
  ⟨rfl, x3, u4, u5, u6, u7, u8, u9, u10, u11, u12, u13, u14, u15, u16, u17, u18, u19, rfl, .inr (.inl ⟨rfl, h⟩)⟩
theorem NJ.on {s : ByteArray} {w : World} {k : Nat} {u4 u5 u6 u7 u8 u9 u10 u11 u12 u13 u14 u15 u16 u17 u18 u19 : Value} (h1 : k < s.size) (h2 : k < 6) (h : Lets s k) : NJ s w 1 { tmps := #[.string s, undef, .bool false, .int .i64 k, u4, u5, u6, u7, u8, u9, u10, u11, u12, u13, u14, u15, u16, u17, u18, u19], defers := [] } w :=
  ⟨rfl, _, u4, u5, u6, u7, u8, u9, u10, u11, u12, u13, u14, u15, u16, u17, u18, u19, rfl, .inr (.inr ⟨rfl, k, rfl, h1, h2, h⟩)⟩

set_option maxRecDepth 100000 in
set_option maxHeartbeats 1000000 in
set_option maxRecDepth 100000 in
theorem iNameOk_any (s : ByteArray) (w : World) (hs : s.size ≤ maxLen) :
    Calls Tryd.prog 47 #[.string s] w fun e w' => e = .returned (.bool (nameB s)) ∧ w = w' := by
  unfold maxLen at hs
  go_enter Tryd.func47, Tryd.ntmps47
  go_wp2
  refine wp_scope_gotos (NJ s w) NM ?_ ?_
  · by_cases h0 : s.size = 0
    · have hn := Lib.hid (nameB_size (Or.inl h0))
      go_wp2
      go_step3
      exact NJ.no hn.out
    · have hl : 0 < s.size := by omega
      cases hb : letB (s[0].toNat : Int)
      · have hn := Lib.hid (nameB_bad hl hb)
        go_wp2
        go_step3
        go_wp2_with (go_at_call 55; refine (isLetter_any _ _).mono ?_; rintro e w' ⟨rfl, rfl⟩; rw [hb])
        go_step3
        exact NJ.no hn.out
      · have h1 := Lib.hid ((Lets.zero s).succ hl hb)
        by_cases hz : s.size = 1
        · have hn := Lib.hid (nameB_of (s := s) (by omega) (by omega) (by rw [hz]; exact h1.out))
          have hq : ((1 : Int) == (s.size : Int)) = true := by simp [hz]
          clear hz
          go_wp2
          go_step3
          go_wp2_with (go_at_call 55; refine (isLetter_any _ _).mono ?_; rintro e w' ⟨rfl, rfl⟩; rw [hb])
          go_step3
          exact NJ.yes hn.out
        · have hq : ((1 : Int) == (s.size : Int)) = false := beq_false_of_ne (by omega)
          go_wp2
          go_step3
          go_wp2_with (go_at_call 55; refine (isLetter_any _ _).mono ?_; rintro e w' ⟨rfl, rfl⟩; rw [hb])
          go_step3
          exact NJ.on (k := 1) (by omega) (by omega) h1.out
  · rintro l a w' ⟨rfl, x3, u4, u5, u6, u7, u8, u9, u10, u11, u12, u13, u14, u15, u16, u17, u18, u19, rfl, ⟨rfl, hn⟩ | ⟨rfl, hn⟩ | ⟨rfl, k, rfl, hk, hk6, hl⟩⟩
    · have hn := Lib.hid hn
      refine ⟨_, rfl, ?_⟩
      go_wp2
      rw [gotosTo_ret]
      go_ret
      exact ⟨by rw [hn.out]; rfl, rfl⟩
    · have hn := Lib.hid hn
      refine ⟨_, rfl, ?_⟩
      go_wp2
      rw [gotosTo_ret]
      go_ret
      exact ⟨by rw [hn.out]; rfl, rfl⟩
    · refine ⟨_, rfl, ?_⟩
      have hM : NM 1 { tmps := #[.string s, undef, .bool false, .int .i64 (k : Int), u4, u5, u6, u7, u8, u9, u10, u11, u12, u13, u14, u15, u16, u17, u18, u19], defers := [] } w = 7 - k := by simp [NM, intOf]
      have HM := Lib.hid hM
      clear hM
      cases hb : letB (s[k].toNat : Int)
      · have hn := Lib.hid (nameB_bad hk hb)
        go_wp2_with (go_at_call 55; refine (isLetter_any _ _).mono ?_; rintro e w' ⟨rfl, rfl⟩; rw [hb])
        go_step3
        exact ⟨NJ.no hn.out, by rw [HM.out]; simp [NM]; omega⟩
      · have h1 := Lib.hid (hl.succ hk hb)
        by_cases hz : k + 1 = s.size
        · have hn := Lib.hid (nameB_of (s := s) (by omega) (by omega) (by rw [← hz]; exact h1.out))
          have hq : (((k : Int) + 1) == (s.size : Int)) = true := by simp; omega
          clear hz
          go_wp2_with (go_at_call 55; refine (isLetter_any _ _).mono ?_; rintro e w' ⟨rfl, rfl⟩; rw [hb])
          go_step3
          exact ⟨NJ.yes hn.out, by rw [HM.out]; simp [NM]; omega⟩
        · have hq : (((k : Int) + 1) == (s.size : Int)) = false := beq_false_of_ne (by omega)
          by_cases h6 : k + 1 < 6
          · go_wp2_with (go_at_call 55; refine (isLetter_any _ _).mono ?_; rintro e w' ⟨rfl, rfl⟩; rw [hb])
            go_step3
            exact ⟨NJ.on (k := k + 1) (by omega) (by omega) h1.out, by rw [HM.out]; simp [NM, intOf]; omega⟩
          · have hn := Lib.hid (nameB_size (s := s) (by omega))
            go_wp2_with (go_at_call 55; refine (isLetter_any _ _).mono ?_; rintro e w' ⟨rfl, rfl⟩; rw [hb])
            go_step3
            go_wp2
            rw [gotosTo_ret]
            go_ret
            exact ⟨by rw [hn.out]; rfl, rfl⟩
end Go.Proofs.YtiijagmakkgnnaaDoor
namespace Go.Proofs.YtiijagmakkgnnaaDoor
open Go.ChangeShapes Go.WideShapes Go.ChangeAt Go.RowKit

/-- Which letters a kind tells. -/
def tellsS (k : Int) : ByteArray := ([⟨#[77, 78]⟩, ⟨#[87]⟩, ⟨#[77, 78]⟩, ⟨#[87, 77, 78]⟩, ⟨#[87, 77, 78]⟩, ⟨#[87, 77, 84, 78]⟩, ⟨#[77, 78]⟩, ⟨#[77]⟩, ⟨#[77, 78]⟩, ⟨#[87, 84, 78]⟩, ByteArray.empty] : List ByteArray).getD (k - 1).toNat ByteArray.empty
theorem kinds {k : Int} (h1 : 1 ≤ k) (h2 : k ≤ 11) : k = 1 ∨ k = 2 ∨ k = 3 ∨ k = 4 ∨ k = 5 ∨ k = 6 ∨ k = 7 ∨ k = 8 ∨ k = 9 ∨ k = 10 ∨ k = 11 := by omega
set_option maxHeartbeats 4000000 in
set_option maxRecDepth 100000 in
theorem l15Tells_any (k : Int) (h1 : 1 ≤ k) (h2 : k ≤ 11) (w : World) :
    Calls Tryd.prog 27 #[.int .i64 k] w fun e w' => e = .returned (.string (tellsS k)) ∧ Below w.heap.size w w' := by
  rcases kinds h1 h2 with rfl | rfl | rfl | rfl | rfl | rfl | rfl | rfl | rfl | rfl | rfl
  all_goals
    clear h1 h2
    go_enter Tryd.func27, Tryd.ntmps27
    go_wp2
    go_ret
    exact ⟨rfl, below_new _ _⟩
/-- None of the first k bytes is c. -/
def NoLet (s : ByteArray) (c : Int) (k : Nat) : Prop := ∀ j (h : j < s.size), j < k → ((s[j].toNat : Int) == c) = false
instance (s : ByteArray) (c : Int) (k : Nat) : Decidable (NoLet s c k) := inferInstanceAs (Decidable (∀ j (h : j < s.size), j < k → ((s[j].toNat : Int) == c) = false))
def hasB (s : ByteArray) (c : Int) : Bool := !decide (NoLet s c s.size)
theorem has_no {s : ByteArray} {c : Int} (h : NoLet s c s.size) : hasB s c = false := by simp [hasB, h]
theorem has_yes {s : ByteArray} {c : Int} {k : Nat} (hk : k < s.size) (h : ((s[k].toNat : Int) == c) = true) : hasB s c = true := by
  have : ¬ NoLet s c s.size := fun hn => by rw [hn k hk hk] at h; cases h
  simp [hasB, this]
theorem NoLet.succ {s : ByteArray} {c : Int} {k : Nat} (h : NoLet s c k) (hk : k < s.size) (h1 : ((s[k].toNat : Int) == c) = false) : NoLet s c (k + 1) := fun j hj hlt => by
  by_cases e : j = k
  · subst e; exact h1
  · exact h j hj (by omega)
theorem tells_size (k : Int) : (tellsS k).size ≤ 4 := by
  unfold tellsS
  rcases Nat.lt_or_ge (k - 1).toNat 11 with h | h
  · generalize (k - 1).toNat = n at h
    match n, h with
    | 0, _ | 1, _ | 2, _ | 3, _ | 4, _ | 5, _ | 6, _ | 7, _ | 8, _ | 9, _ | 10, _ => decide
  · rw [List.getD_eq_getElem?_getD, List.getElem?_eq_none (by simpa using h)]; decide
set_option maxHeartbeats 4000000 in
set_option maxRecDepth 100000 in
theorem l15Has_any (k c : Int) (h1 : 1 ≤ k) (h2 : k ≤ 11) (w : World) :
    Calls Tryd.prog 22 #[.int .i64 k, .int .u8 c] w fun e w' => e = .returned (.bool (hasB (tellsS k) c)) ∧ Below w.heap.size w w' := by
  obtain ⟨s, hs⟩ : ∃ s, tellsS k = s := ⟨_, rfl⟩
  have hsz := tells_size k
  rw [hs] at hsz
  have HS := Lib.hid hs
  rw [hs]
  clear hs
  go_enter Tryd.func22, Tryd.ntmps22
  go_wp2_with fail
  refine (l15Tells_any k h1 h2 _).mono ?_
  rintro e w1 ⟨rfl, hb1⟩
  have HB := Lib.hid hb1
  clear hb1
  rw [HS.out]
  go_wp2_with fail
  go_loopw [6] (fun i w' => ∃ j : Nat, j ≤ s.size ∧ i = .int .i64 j ∧ w1 = w' ∧ NoLet s c j) (fun i _ => s.size - (intOf i).toNat)
  case atStart => exact ⟨0, Nat.zero_le _, rfl, rfl, fun _ _ h => by omega⟩
  case round =>
    obtain ⟨j, hj, rfl, rfl, hu⟩ := hrel
    have HU := Lib.hid hu
    clear hu
    by_cases hlt : j < s.size
    · cases hq : ((s[j].toNat : Int) == c)
      · have HN := Lib.hid (HU.out.succ hlt hq)
        go_wp2
        go_roundw
        case rel => exact ⟨j + 1, by omega, by go_num, by first | rfl | trivial, HN.out⟩
        case measure => simp [intOf]; omega
      · have HN := Lib.hid (has_yes hlt hq)
        go_wp2
        go_ret
        exact ⟨by rw [HN.out]; rfl, HB.out⟩
    · obtain rfl : j = s.size := by omega
      have HN := Lib.hid (has_no HU.out)
      go_wp2
      go_ret
      exact ⟨by rw [HN.out]; rfl, HB.out⟩
/-- A name where it is told, else nothing. -/
def nameIs (s : ByteArray) (t : Bool) : Bool := if t = true then nameB s else (s.toList == [])
set_option maxHeartbeats 1000000 in
set_option maxRecDepth 100000 in
theorem l15Name_any (s : ByteArray) (t : Bool) (w : World) (hs : s.size ≤ maxLen) :
    Calls Tryd.prog 23 #[.string s, .bool t] w fun e w' => e = .returned (.bool (nameIs s t)) ∧ w = w' := by
  cases t
  · cases hq : (s.toList == [])
    all_goals
      have HN := Lib.hid (show nameIs s false = _ from (if_neg (by decide)).trans hq)
      go_enter Tryd.func23, Tryd.ntmps23
      go_wp2
      go_ret
      exact ⟨by rw [HN.out]; rfl, rfl⟩
  · have HN := Lib.hid (show nameIs s true = nameB s from if_pos rfl)
    go_enter Tryd.func23, Tryd.ntmps23
    go_wp2_with fail
    refine (sNameOk_any s _ hs).mono ?_
    rintro e w' ⟨rfl, rfl⟩
    go_wp2
    go_ret
    exact ⟨by rw [HN.out]; rfl, rfl⟩
end Go.Proofs.YtiijagmakkgnnaaDoor
namespace Go.Proofs.YtiijagmakkgnnaaDoor
open Go.ChangeShapes Go.WideShapes Go.ChangeAt Go.RowKit

def mostN (k : Int) : Int := if hasB (tellsS k) 78 = true then 999999999 else 0
/-- Is it a right deed? -/
def deedB (d : Dee) : Bool := inB 1 11 d.kind && (nameIs d.who (hasB (tellsS d.kind) 87) && (nameIs d.mill (hasB (tellsS d.kind) 77) && (nameIs d.to (hasB (tellsS d.kind) 84) && inB 0 (mostN d.kind) d.n)))
section
variable {d : Dee}
theorem deed_k (h : inB 1 11 d.kind = false) : deedB d = false := by simp [deedB, h]
theorem deed_w (h : nameIs d.who (hasB (tellsS d.kind) 87) = false) : deedB d = false := by simp [deedB, h]
theorem deed_m (h : nameIs d.mill (hasB (tellsS d.kind) 77) = false) : deedB d = false := by simp [deedB, h]
theorem deed_t (h : nameIs d.to (hasB (tellsS d.kind) 84) = false) : deedB d = false := by simp [deedB, h]
theorem deed_n (h : inB 0 (mostN d.kind) d.n = false) : deedB d = false := by simp [deedB, h]
theorem deed_yes (h1 : inB 1 11 d.kind = true) (h2 : nameIs d.who (hasB (tellsS d.kind) 87) = true) (h3 : nameIs d.mill (hasB (tellsS d.kind) 77) = true) (h4 : nameIs d.to (hasB (tellsS d.kind) 84) = true) (h5 : inB 0 (mostN d.kind) d.n = true) : deedB d = true := by
  rw [deedB, h1, h2, h3, h4, h5]; rfl
theorem deed_true (h : deedB d = true) : (1 ≤ d.kind ∧ d.kind ≤ 11) ∧ nameIs d.who (hasB (tellsS d.kind) 87) = true ∧ nameIs d.mill (hasB (tellsS d.kind) 77) = true ∧ nameIs d.to (hasB (tellsS d.kind) 84) = true ∧ inB 0 (mostN d.kind) d.n = true := by
  simp only [deedB, Bool.and_eq_true] at h
  exact ⟨inB_true h.1, h.2⟩
theorem deed_cases (h : inB 1 11 d.kind = true) : (nameIs d.who (hasB (tellsS d.kind) 87) = false ∧ deedB d = false) ∨ (nameIs d.who (hasB (tellsS d.kind) 87) = true ∧ nameIs d.mill (hasB (tellsS d.kind) 77) = false ∧ deedB d = false) ∨ (nameIs d.who (hasB (tellsS d.kind) 87) = true ∧ nameIs d.mill (hasB (tellsS d.kind) 77) = true ∧ nameIs d.to (hasB (tellsS d.kind) 84) = false ∧ deedB d = false) ∨ (nameIs d.who (hasB (tellsS d.kind) 87) = true ∧ nameIs d.mill (hasB (tellsS d.kind) 77) = true ∧ nameIs d.to (hasB (tellsS d.kind) 84) = true ∧ inB 0 (mostN d.kind) d.n = false ∧ deedB d = false) ∨ (nameIs d.who (hasB (tellsS d.kind) 87) = true ∧ nameIs d.mill (hasB (tellsS d.kind) 77) = true ∧ nameIs d.to (hasB (tellsS d.kind) 84) = true ∧ inB 0 (mostN d.kind) d.n = true ∧ deedB d = true) := by
  cases q1 : nameIs d.who (hasB (tellsS d.kind) 87)
  · exact .inl ⟨rfl, deed_w q1⟩
  cases q2 : nameIs d.mill (hasB (tellsS d.kind) 77)
  · exact .inr (.inl ⟨rfl, rfl, deed_m q2⟩)
  cases q3 : nameIs d.to (hasB (tellsS d.kind) 84)
  · exact .inr (.inr (.inl ⟨rfl, rfl, rfl, deed_t q3⟩))
  cases q4 : inB 0 (mostN d.kind) d.n
  · exact .inr (.inr (.inr (.inl ⟨rfl, rfl, rfl, rfl, deed_n q4⟩)))
  · exact .inr (.inr (.inr (.inr ⟨rfl, rfl, rfl, rfl, deed_yes h q1 q2 q3 q4⟩)))
end

set_option maxHeartbeats 8000000 in
set_option maxRecDepth 100000 in
theorem sDeedOk_any (k n : Int) (who mill to : ByteArray) (w : World) (h1 : who.size ≤ maxLen) (h2 : mill.size ≤ maxLen) (h3 : to.size ≤ maxLen) :
    Calls Tryd.prog 8 #[.agg #[.int .i64 k, .string who, .string mill, .string to, .int .i64 n]] w fun e w' => e = .returned (.bool (deedB ⟨k, who, mill, to, n⟩)) ∧ Below w.heap.size w w' := by
  have HS1 := Lib.hid h1
  have HS2 := Lib.hid h2
  have HS3 := Lib.hid h3
  clear h1 h2 h3
  have HX := Lib.hid (RecAt.new Dee.cs w ⟨k, who, mill, to, n⟩ 26)
  have B0 := Lib.hid (below_new w (.cells #[.int .i64 k, .string who, .string mill, .string to, .int .i64 n] 26))
  obtain ⟨W, hW⟩ : ∃ W, w.alloc (.cells #[.int .i64 k, .string who, .string mill, .string to, .int .i64 n] 26) = W := ⟨_, rfl⟩
  rw [show w.alloc (.cells (Dee.cs ⟨k, who, mill, to, n⟩).toArray 26) = W from hW] at HX
  rw [hW] at B0
  have c0 := HX.out 0 _ rfl
  go_enter Tryd.func8, Tryd.ntmps8
  go_wp2_with fail
  refine (l1In_any _ _ _ _).mono ?_
  rintro e w' ⟨rfl, rfl⟩
  cases hk : inB 1 11 k
  · have HN := Lib.hid (deed_k (d := ⟨k, who, mill, to, n⟩) hk)
    go_wp2
    go_ret
    exact ⟨by rw [HN.out]; rfl, B0.out⟩
  have HK := Lib.hid (inB_true hk)
  have HKB := Lib.hid hk
  clear hk
  go_wp2_with fail
  refine (l15Has_any k 78 HK.out.1 HK.out.2 _).mono ?_
  rintro e w1 ⟨rfl, hb1⟩
  have HX1 := Lib.hid (HX.out.below hb1)
  have B1 := Lib.hid (below_trans B0.out hb1)
  clear hb1 HX B0 c0 hW
  have g0 := Grow.cell (HX1.out 0 _ rfl)
  have g1 := Grow.cell (HX1.out 1 _ rfl)
  have g2 := Grow.cell (HX1.out 2 _ rfl)
  have g3 := Grow.cell (HX1.out 3 _ rfl)
  have g4 := Grow.cell (HX1.out 4 _ rfl)
  clear HX1
  obtain ⟨most, hm⟩ : ∃ m, mostN k = m := ⟨_, rfl⟩
  have HM := Lib.hid hm
  cases hn : hasB (tellsS k) 78
  case' false => have hmv : most = 0 := by rw [← hm, mostN, hn]; rfl
  case' true => have hmv : most = 999999999 := by rw [← hm, mostN, hn]; rfl
  all_goals
    subst hmv
    clear hm hn
    rcases deed_cases (d := ⟨k, who, mill, to, n⟩) HKB.out with ⟨q1, hn⟩ | ⟨q1, q2, hn⟩ | ⟨q1, q2, q3, hn⟩ | ⟨q1, q2, q3, q4, hn⟩ | ⟨q1, q2, q3, q4, hn⟩
    all_goals
      have HN := Lib.hid hn
      clear hn
      (try simp only at q4)
      (try simp only at q3)
      (try simp only at q2)
      simp only at q1
      (try rw [HM.out] at q4)
      (try have Q4 := Lib.hid q4)
      (try have Q3 := Lib.hid q3)
      (try have Q2 := Lib.hid q2)
      have Q1 := Lib.hid q1
      obtain ⟨b1, e1⟩ : ∃ b, hasB (tellsS k) 87 = b := ⟨_, rfl⟩
      obtain ⟨b2, e2⟩ : ∃ b, hasB (tellsS k) 77 = b := ⟨_, rfl⟩
      obtain ⟨b3, e3⟩ : ∃ b, hasB (tellsS k) 84 = b := ⟨_, rfl⟩
      have E1 := Lib.hid e1
      have E2 := Lib.hid e2
      have E3 := Lib.hid e3
      rw [e1] at q1 Q1
      (try rw [e2] at q2 Q2)
      (try rw [e3] at q3 Q3)
      clear e1 e2 e3
      go_wp2
      refine wp_region_grow (by kernel_rfl) (by kernel_rfl) ?_
      repeat (go_big_quiet_step (first
        | (go_at_call 22; first
          | (with_reducible exact grow_call (bool_is E1.out) (l15Has_any k 87 HK.out.1 HK.out.2 _))
          | (with_reducible exact grow_call (bool_is E2.out) (l15Has_any k 77 HK.out.1 HK.out.2 _))
          | (with_reducible exact grow_call (bool_is E3.out) (l15Has_any k 84 HK.out.1 HK.out.2 _)))
        | (go_at_call 23; first
          | (with_reducible exact grow_same (bool_is Q1.out) (l15Name_any who b1 _ HS1.out))
          | (with_reducible exact grow_same (bool_is Q2.out) (l15Name_any mill b2 _ HS2.out))
          | (with_reducible exact grow_same (bool_is Q3.out) (l15Name_any to b3 _ HS3.out)))
        | (go_at_call 21; exact grow_same (bool_is Q4.out) (l1In_any _ _ _ _))))
      refine wpQuiet_nil ?_
      intro _ hw'
      obtain ⟨gq, rfl⟩ := hw'
      have HB2 := Lib.hid (below_trans B1.out gq.ok)
      go_wp2
      go_ret
      exact ⟨by rw [HN.out]; rfl, HB2.out⟩
end Go.Proofs.YtiijagmakkgnnaaDoor
namespace Go.Proofs.YtiijagmakkgnnaaDoor
open Go.ChangeShapes Go.WideShapes Go.ChangeAt Go.RowKit

/-- These strings lie one behind the other from a on. -/
def Strs (w : World) (a : Option Addr) (ss : List ByteArray) : Prop := Lies w a (ss.map .string)

theorem Strs.at {w : World} {a : Option Addr} {ss : List ByteArray} (h : Strs w a ss) (k : Nat) (hk : k < ss.length) :
    ∃ b off, a = some ⟨b, off, none⟩ ∧ b < w.heap.size ∧ w.cell? ⟨b, off + k, none⟩ = some (.string ss[k]) := by
  obtain ⟨b, off, e, hc⟩ := h k (.string ss[k]) (by simp [hk])
  exact ⟨b, off, e, at_lt hc, hc⟩
theorem Strs.below {w w' : World} {a : Option Addr} {ss : List ByteArray} (h : Strs w a ss) (hb : Below w.heap.size w w') : Strs w' a ss := Lies.below h hb
end Go.Proofs.YtiijagmakkgnnaaDoor
namespace Go.Proofs.YtiijagmakkgnnaaDoor
open Go.ChangeShapes Go.WideShapes Go.ChangeAt Go.RowKit

/-- The one of that number. -/
def sat (ss : List ByteArray) (j : Nat) : ByteArray := ss.getD j ByteArray.empty
theorem sat_eq {ss : List ByteArray} {j : Nat} (h : j < ss.length) : sat ss j = ss[j] := by simp [sat, h]
/-- Is a no greater than b, byte by byte? -/
def leqB (a b : ByteArray) : Bool := Op.bytesLess a.toList b.toList || a.toList == b.toList
/-- The first n are names, each greater than the one ahead. -/
def Up (ss : List ByteArray) (n : Nat) : Prop :=
  (∀ j, j < n → nameB (sat ss j) = true) ∧ ∀ j, j < n - 1 → leqB (sat ss (j + 1)) (sat ss j) = false
instance (ss : List ByteArray) (n : Nat) : Decidable (Up ss n) :=
  inferInstanceAs (Decidable ((∀ j, j < n → nameB (sat ss j) = true) ∧ ∀ j, j < n - 1 → leqB (sat ss (j + 1)) (sat ss j) = false))
/-- They rise. -/
def risesB (ss : List ByteArray) : Bool := decide (Up ss ss.length)

theorem Up.zero (ss : List ByteArray) : Up ss 0 := ⟨fun _ h => by omega, fun _ h => by omega⟩
theorem Up.one {ss : List ByteArray} (h : nameB (sat ss 0) = true) : Up ss 1 :=
  ⟨fun j hj => by obtain rfl : j = 0 := by omega
                  exact h, fun _ h => by omega⟩
theorem Up.succ {ss : List ByteArray} {k : Nat} (h : Up ss (k + 1)) (h1 : nameB (sat ss (k + 1)) = true) (h2 : leqB (sat ss (k + 1)) (sat ss k) = false) : Up ss (k + 2) :=
  ⟨fun j hj => by
    by_cases e : j = k + 1
    · subst e; exact h1
    · exact h.1 j (by omega), fun j hj => by
    by_cases e : j = k
    · subst e; exact h2
    · exact h.2 j (by omega)⟩
theorem rises_no {ss : List ByteArray} {k : Nat} (hk : k < ss.length) (h : nameB (sat ss k) = false) : risesB ss = false := by
  simp only [risesB, decide_eq_false_iff_not]; rintro ⟨h1, _⟩; rw [h1 k hk] at h; cases h
theorem rises_not {ss : List ByteArray} {k : Nat} (hk : k + 1 < ss.length) (h : leqB (sat ss (k + 1)) (sat ss k) = true) : risesB ss = false := by
  simp only [risesB, decide_eq_false_iff_not]; rintro ⟨_, h2⟩; rw [h2 k (by omega)] at h; cases h
theorem rises_yes {ss : List ByteArray} (h : Up ss ss.length) : risesB ss = true := by simp [risesB, h]
theorem rises_true {ss : List ByteArray} (h : risesB ss = true) : Up ss ss.length := by simpa [risesB] using h

theorem strs_sat {w : World} {a : Option Addr} {ss : List ByteArray} (h : Strs w a ss) (k : Nat) (hk : k < ss.length) :
    ∃ b off, a = some ⟨b, off, none⟩ ∧ w.cell? ⟨b, off + k, none⟩ = some (.string (sat ss k)) := by
  obtain ⟨b, off, e, _, hc⟩ := h.at k hk
  exact ⟨b, off, e, by rw [sat_eq hk]; exact hc⟩

def Sized (ss : List ByteArray) : Prop := ∀ k, (sat ss k).size ≤ maxLen
theorem Sized.of {ss : List ByteArray} {n : Nat} (h : ∀ s ∈ ss, s.size ≤ n) (hn : n ≤ maxLen) : Sized ss := by
  intro k
  by_cases hk : k < ss.length
  · rw [sat_eq hk]; exact Nat.le_trans (h _ (List.getElem_mem hk)) hn
  · have : sat ss k = ByteArray.empty := by simp [sat, hk]
    rw [this]; exact Nat.zero_le _

theorem drawn_more {w : World} (n m : Nat) : ∃ k, (w.drewN n).drewN m = w.drewN k := ⟨n + m, World.drewN_drewN _ _ _⟩
/-- In a region that draws: a callee that leaves the world alone and answers what is known. -/
theorem quiet_is {P : Program} {f : FuncId} {args : Array Value} {w : World} {n : Nat} {b c : Bool} (e : b = c)
    (h : Calls P f args (w.drewN n) fun e w' => e = .returned (.bool b) ∧ w.drewN n = w') : Calls P f args (w.drewN n) fun e w'' => e = .returned (.bool c) ∧ ∃ m, w'' = w.drewN m :=
  h.mono fun _ _ ⟨he, hm⟩ => ⟨by rw [he, e], n, hm.symm⟩
theorem quiet_is2 {P : Program} {f : FuncId} {args : Array Value} {w : World} {a n : Nat} {b c : Bool} (e : b = c)
    (h : Calls P f args (w.drewN (a + n)) fun e w' => e = .returned (.bool b) ∧ w.drewN (a + n) = w') : Calls P f args (w.drewN (a + n)) fun e w'' => e = .returned (.bool c) ∧ ∃ m, w'' = w.drewN (a + m) :=
  h.mono fun _ _ ⟨he, hm⟩ => ⟨by rw [he, e], n, hm.symm⟩

/-- It is none of the first n. -/
def Out (ss : List ByteArray) (s : ByteArray) (n : Nat) : Prop := ∀ j, j < n → ((sat ss j).toList == s.toList) = false
theorem Out.zero (ss : List ByteArray) (s : ByteArray) : Out ss s 0 := fun _ h => by omega
theorem Out.succ {ss : List ByteArray} {s : ByteArray} {k : Nat} (h : Out ss s k) (h1 : ((sat ss k).toList == s.toList) = false) : Out ss s (k + 1) := by
  intro j hj
  by_cases e : j = k
  · subst e; exact h1
  · exact h j (by omega)
/-- Where it is first, from the front on, among the first n. -/
def placeUp (ss : List ByteArray) (s : ByteArray) : Nat → Int
  | 0 => -1
  | n + 1 => if placeUp ss s n = -1 then (if (sat ss n).toList == s.toList then (n : Int) else -1) else placeUp ss s n
def placeV (ss : List ByteArray) (s : ByteArray) : Int := placeUp ss s ss.length
theorem placeUp_out {ss : List ByteArray} {s : ByteArray} : ∀ {n : Nat}, Out ss s n → placeUp ss s n = -1
  | 0, _ => rfl
  | n + 1, h => by
    rw [placeUp, if_pos (placeUp_out fun j hj => h j (by omega)), h n (by omega)]; rfl
theorem placeUp_in {ss : List ByteArray} {s : ByteArray} {k : Nat} (h : Out ss s k) (hk : ((sat ss k).toList == s.toList) = true) : ∀ m, placeUp ss s (k + 1 + m) = k
  | 0 => by rw [Nat.add_zero, placeUp, if_pos (placeUp_out h), hk]; rfl
  | m + 1 => by
    have := placeUp_in h hk m
    rw [← Nat.add_assoc, placeUp, this, if_neg (by omega)]
theorem place_out {ss : List ByteArray} {s : ByteArray} (h : Out ss s ss.length) : placeV ss s = -1 := placeUp_out h
theorem place_in {ss : List ByteArray} {s : ByteArray} {k : Nat} (hk : k < ss.length) (h : Out ss s k) (he : ((sat ss k).toList == s.toList) = true) : placeV ss s = k := by
  have := placeUp_in h he (ss.length - (k + 1))
  rwa [show k + 1 + (ss.length - (k + 1)) = ss.length by omega] at this
theorem beq_turn {x y : List UInt8} {t : Bool} (h : (x == y) = t) : (y == x) = t := by
  rw [← h, Bool.eq_iff_iff, beq_iff_eq, beq_iff_eq]
  exact ⟨fun e => e.symm, fun e => e.symm⟩

set_option maxHeartbeats 1000000 in
set_option maxRecDepth 100000 in
theorem l1At_any {w : World} {a : Option Addr} {ss : List ByteArray} (cap : Nat) (s : ByteArray) (h : Strs w a ss) (hl : ss.length ≤ 9223372036854775807) :
    Calls Tryd.prog 33 #[.slice a ss.length cap, .string s] w fun e w' => e = .returned (.int .i64 (placeV ss s)) ∧ w = w' := by
  have H := Lib.hid h
  clear h
  go_enter Tryd.func33, Tryd.ntmps33
  go_wp2
  go_loop [5] (fun i => ∃ k : Nat, k ≤ ss.length ∧ i = .int .i64 k ∧ Out ss s k) (fun i => ss.length - (intOf i).toNat)
  case atStart => exact ⟨0, Nat.zero_le _, rfl, Out.zero ss s⟩
  case round =>
    obtain ⟨k, hk, rfl, hu⟩ := hrel
    have HU := Lib.hid hu
    clear hu
    by_cases hlt : k < ss.length
    · obtain ⟨b, off, rfl, hc⟩ := strs_sat H.out k hlt
      cases hq : ((sat ss k).toList == s.toList)
      · have HN := Lib.hid (HU.out.succ hq)
        go_wp2
        go_round
        case rel => exact ⟨k + 1, by omega, by go_num, HN.out⟩
        case measure => simp [intOf]; omega
      · have HN := Lib.hid (place_in hlt HU.out hq)
        go_wp2
        go_ret
        exact ⟨by rw [HN.out]; rfl, rfl⟩
    · obtain rfl : k = ss.length := by omega
      have HN := Lib.hid (place_out HU.out)
      go_wp2
      go_ret
      exact ⟨by rw [HN.out]; rfl, rfl⟩

theorem placeUp_bd (ss : List ByteArray) (s : ByteArray) : ∀ n, -1 ≤ placeUp ss s n ∧ placeUp ss s n < n
  | 0 => by simp [placeUp]
  | n + 1 => by
    have := placeUp_bd ss s n
    rw [placeUp]
    split
    · split <;> omega
    · omega

end Go.Proofs.YtiijagmakkgnnaaDoor
namespace Go.Proofs.YtiijagmakkgnnaaDoor
open Go.ChangeShapes Go.WideShapes Go.ChangeAt Go.RowKit

theorem bytesLess_lt : ∀ (x y : List UInt8), Op.bytesLess x y = decide (x < y)
  | [], [] => by simp [Op.bytesLess]
  | _ :: _, [] => by simp [Op.bytesLess]
  | [], _ :: _ => by simp [Op.bytesLess]
  | a :: x, b :: y => by
    rw [Op.bytesLess, bytesLess_lt x y, Bool.eq_iff_iff]
    simp only [List.cons_lt_cons_iff, Bool.or_eq_true, Bool.and_eq_true, decide_eq_true_eq, beq_iff_eq]
theorem less_of {a b : ByteArray} (h : leqB b a = false) : a.toList < b.toList := by
  simp only [leqB, bytesLess_lt, Bool.or_eq_false_iff, decide_eq_false_iff_not, beq_eq_false_iff_ne] at h
  have h1 : a.toList ≤ b.toList := List.not_lt.1 h.1
  by_cases h2 : a.toList < b.toList
  · exact h2
  · exact absurd (List.le_antisymm (List.not_lt.1 h2) h1) h.2

theorem Up.less {ss : List ByteArray} {n : Nat} (h : Up ss n) {j : Nat} : ∀ m, j + 1 + m < n → (sat ss j).toList < (sat ss (j + 1 + m)).toList
  | 0, hm => less_of (h.2 j (by omega))
  | m + 1, hm => List.lt_trans (h.less m (by omega)) (less_of (h.2 (j + 1 + m) (by omega)))
theorem Up.ne {ss : List ByteArray} {n j k : Nat} (h : Up ss n) (hjk : j < k) (hk : k < n) : ((sat ss j).toList == (sat ss k).toList) = false := by
  have hl := h.less (j := j) (k - (j + 1)) (by omega)
  rw [show j + 1 + (k - (j + 1)) = k by omega] at hl
  rw [beq_eq_false_iff_ne]
  intro e
  rw [e] at hl
  exact List.lt_irrefl _ hl
/-- Of names that rise each is where it is. -/
theorem place_self {ss : List ByteArray} (h : risesB ss = true) {k : Nat} (hk : k < ss.length) : placeV ss (sat ss k) = k :=
  place_in hk (fun j hj => (rises_true h).ne hj hk) (by simp)
theorem rises_name {ss : List ByteArray} (h : risesB ss = true) {k : Nat} (hk : k < ss.length) : nameB (sat ss k) = true := (rises_true h).1 k hk

theorem placeUp_hit {ss : List ByteArray} {s : ByteArray} : ∀ {n : Nat}, 0 ≤ placeUp ss s n → ∃ k : Nat, placeUp ss s n = (k : Int) ∧ k < n ∧ ((sat ss k).toList == s.toList) = true
  | 0, h => by simp [placeUp] at h
  | n + 1, h => by
    rw [placeUp] at h ⊢
    by_cases h1 : placeUp ss s n = -1
    · rw [if_pos h1] at h ⊢
      cases h2 : ((sat ss n).toList == s.toList)
      · rw [h2] at h; simp at h
      · exact ⟨n, by simp, by omega, h2⟩
    · rw [if_neg h1] at h ⊢
      obtain ⟨k, e, hk, hq⟩ := placeUp_hit (n := n) h
      exact ⟨k, e, by omega, hq⟩
theorem place_hit {ss : List ByteArray} {s : ByteArray} (h : 0 ≤ placeV ss s) : ∃ k : Nat, placeV ss s = (k : Int) ∧ k < ss.length ∧ ((sat ss k).toList == s.toList) = true := placeUp_hit h
end Go.Proofs.YtiijagmakkgnnaaDoor
namespace Go.Proofs.YtiijagmakkgnnaaDoor
open Go.Lib

/-! Texts cut at a byte -/
/-- What comes out of a text that is cut at each byte b: 'cur' is what the piece under way has. -/
def pieces (b : UInt8) (cur : List UInt8) : List UInt8 → List (List UInt8)
  | [] => [cur]
  | c :: r => if c = b then cur :: pieces b [] r else pieces b (cur ++ [c]) r
def joinT (b : UInt8) : List (List UInt8) → List UInt8
  | [] => []
  | [x] => x
  | x :: y :: r => x ++ b :: joinT b (y :: r)
theorem pieces_ne (b : UInt8) (cur l : List UInt8) : pieces b cur l ≠ [] := by
  induction l generalizing cur with
  | nil => simp [pieces]
  | cons c r ih =>
    by_cases h : c = b
    · simp [pieces, h]
    · rw [pieces, if_neg h]; exact ih _
theorem pieces_join (b : UInt8) (cur l : List UInt8) : joinT b (pieces b cur l) = cur ++ l := by
  induction l generalizing cur with
  | nil => simp [pieces, joinT]
  | cons c r ih =>
    rw [pieces]
    split
    · rename_i h; subst h
      have e := ih []
      cases hp : pieces c [] r with
      | nil => exact absurd hp (pieces_ne _ _ _)
      | cons x xs => rw [hp] at e; rw [joinT, e]; rfl
    · rw [ih]; simp
theorem pieces_no (b : UInt8) (cur l : List UInt8) (hc : b ∉ cur) : ∀ x ∈ pieces b cur l, b ∉ x := by
  induction l generalizing cur with
  | nil => intro x hx; simp only [pieces, List.mem_singleton] at hx; subst hx; exact hc
  | cons c r ih =>
    rw [pieces]
    split
    · intro x hx
      rcases List.mem_cons.mp hx with rfl | hx
      · exact hc
      · exact ih [] (by simp) x hx
    · rename_i h; exact ih _ (by simp [hc]; exact fun e => h e.symm)
theorem pieces_pre (b : UInt8) (cur x l : List UInt8) (h : b ∉ x) : pieces b cur (x ++ l) = pieces b (cur ++ x) l := by
  induction x generalizing cur with
  | nil => simp
  | cons c r ih =>
    simp only [List.mem_cons, not_or] at h
    rw [List.cons_append, pieces, if_neg (fun e => h.1 e.symm), ih _ h.2]; simp
theorem pieces_of (b : UInt8) : ∀ (x : List UInt8) (xs : List (List UInt8)) (cur : List UInt8), (∀ y ∈ x :: xs, b ∉ y) → pieces b cur (joinT b (x :: xs)) = (cur ++ x) :: xs
  | x, [], cur, h => by
    have := pieces_pre b cur x [] (h x (by simp))
    rw [List.append_nil] at this
    rw [joinT, this]; rfl
  | x, y :: r, cur, h => by
    rw [joinT, pieces_pre b cur x _ (h x (by simp)), pieces, if_pos rfl, pieces_of b y r [] (fun z hz => h z (by simp at hz ⊢; exact .inr hz))]; rfl

/-- The same of bytes in memory, from place i on (n bytes are left). -/
def pieceF (b : Int) (s : ByteArray) : Nat → Nat → Nat → List ByteArray
  | f, i, 0 => [s.extract f i]
  | f, i, n + 1 => if ((s.data.toList.getD i 0).toNat : Int) = b then s.extract f i :: pieceF b s (i + 1) (i + 1) n else pieceF b s f (i + 1) n
def splitB1 (b : Int) (s : ByteArray) : List ByteArray := pieceF b s 0 0 s.size
theorem extract_list (s : ByteArray) (a k : Nat) : (s.extract a k).data.toList = (s.data.toList.drop a).take (k - a) := by
  rw [ByteArray.data_extract, Array.toList_extract, List.extract_eq_take_drop]
theorem size_list (s : ByteArray) : s.data.toList.length = s.size := rfl
theorem pieceF_list (b : UInt8) (s : ByteArray) : ∀ (n f i : Nat), f ≤ i → i + n = s.size → (pieceF b.toNat s f i n).map (·.data.toList) = pieces b ((s.data.toList.drop f).take (i - f)) (s.data.toList.drop i) := by
  intro n
  induction n with
  | zero =>
    intro f i hf hi
    have hd : s.data.toList.drop i = [] := List.drop_eq_nil_of_le (by rw [size_list]; omega)
    rw [hd]
    simp [pieceF, pieces]
  | succ n ih =>
    intro f i hf hi
    have hlt : i < s.data.toList.length := by rw [size_list]; omega
    have hd : s.data.toList.drop i = s.data.toList[i] :: s.data.toList.drop (i + 1) := List.drop_eq_getElem_cons hlt
    have hg : s.data.toList.getD i 0 = s.data.toList[i] := by rw [List.getD_eq_getElem?_getD, List.getElem?_eq_getElem hlt]; rfl
    rw [hd, pieceF, pieces, hg]
    have hiff : (((s.data.toList[i]).toNat : Int) = ((b.toNat : Nat) : Int)) ↔ s.data.toList[i] = b := by
      rw [← UInt8.toNat_inj]; omega
    by_cases hb : s.data.toList[i] = b
    · rw [if_pos (hiff.mpr hb), if_pos hb, List.map_cons, ih (i + 1) (i + 1) (Nat.le_refl _) (by omega), extract_list]
      simp
    · rw [if_neg (fun e => hb (hiff.mp e)), if_neg hb, ih f (i + 1) (by omega) (by omega)]
      congr 1
      have : i + 1 - f = (i - f) + 1 := by omega
      rw [this, List.take_add_one, List.getElem?_drop]
      have : f + (i - f) = i := by omega
      rw [this, List.getElem?_eq_getElem hlt]; rfl
theorem splitB1_list (b : UInt8) (s : ByteArray) : (splitB1 b.toNat s).map (·.data.toList) = pieces b [] s.data.toList := by
  rw [splitB1, pieceF_list b s s.size 0 0 (Nat.le_refl _) (by omega)]; simp
theorem pieceF_len (b : Int) (s : ByteArray) : ∀ n f i, (pieceF b s f i n).length ≤ n + 1
  | 0, f, i => by simp [pieceF]
  | n + 1, f, i => by
    rw [pieceF]; split
    · have := pieceF_len b s n (i + 1) (i + 1); simp; omega
    · have := pieceF_len b s n f (i + 1); omega
theorem pieceF_size (b : Int) (s : ByteArray) : ∀ n f i, ∀ x ∈ pieceF b s f i n, x.size ≤ s.size
  | 0, f, i, x, hx => by simp only [pieceF, List.mem_singleton] at hx; subst hx; rw [ByteArray.size_extract]; omega
  | n + 1, f, i, x, hx => by
    rw [pieceF] at hx; split at hx
    · rcases List.mem_cons.mp hx with rfl | hx
      · rw [ByteArray.size_extract]; omega
      · exact pieceF_size b s n _ _ x hx
    · exact pieceF_size b s n _ _ x hx
theorem pieceF_ne (b : Int) (s : ByteArray) : ∀ n f i, pieceF b s f i n ≠ []
  | 0, f, i => by simp [pieceF]
  | n + 1, f, i => by
    by_cases h : ((s.data.toList.getD i 0).toNat : Int) = b
    · rw [pieceF, if_pos h]; simp
    · rw [pieceF, if_neg h]; exact pieceF_ne b s n _ _
end Go.Proofs.YtiijagmakkgnnaaDoor
namespace Go.Proofs.YtiijagmakkgnnaaDoor
open Go.Lib

/-! One byte that is another one -/
/-- Each byte by its place, together. -/
def sumW : Nat → List UInt8 → Nat
  | _, [] => 0
  | i, c :: r => (i + 1) * c.toNat + sumW (i + 1) r
def sumL (l : List UInt8) : Int := if 200 < l.length then -1 else ((sumW 0 l % 997 : Nat) : Int)
theorem sumW_append : ∀ (u v : List UInt8) (i : Nat), sumW i (u ++ v) = sumW i u + sumW (i + u.length) v
  | [], v, i => by simp [sumW]
  | c :: r, v, i => by
    rw [List.cons_append, sumW, sumW, sumW_append r v (i + 1), List.length_cons]
    have : i + 1 + r.length = i + (r.length + 1) := by omega
    rw [this]; omega
theorem table997 : ∀ m : Fin 201, ∀ d : Fin 256, 0 < m.val → 0 < d.val → m.val * d.val % 997 ≠ 0 := by decide +kernel
theorem sum_one (u v : List UInt8) (x y : UInt8) (h : x ≠ y) (hl : (u ++ x :: v).length ≤ 200) : sumL (u ++ x :: v) ≠ sumL (u ++ y :: v) := by
  have hl' : (u ++ y :: v).length ≤ 200 := by simp at hl ⊢; omega
  have hu : u.length < 200 := by simp at hl; omega
  unfold sumL
  rw [if_neg (by omega), if_neg (by omega)]
  intro e
  have e := Int.ofNat.inj e
  rw [sumW_append, sumW_append, sumW, sumW, Nat.zero_add] at e
  have hx := x.toNat_lt
  have hy := y.toNat_lt
  have hne : x.toNat ≠ y.toNat := fun e => h (UInt8.toNat_inj.mp e)
  generalize sumW 0 u = a at e
  generalize sumW (u.length + 1) v = z at e
  rcases Nat.lt_or_gt_of_ne hne with hlt | hlt
  · have t := table997 ⟨u.length + 1, by omega⟩ ⟨y.toNat - x.toNat, by omega⟩ (by simp) (by simp; omega)
    simp only at t
    have hm : (u.length + 1) * y.toNat = (u.length + 1) * x.toNat + (u.length + 1) * (y.toNat - x.toNat) := by rw [← Nat.mul_add]; congr 1; omega
    rw [hm] at e
    generalize (u.length + 1) * x.toNat = p at e
    generalize (u.length + 1) * (y.toNat - x.toNat) = q at e t
    omega
  · have t := table997 ⟨u.length + 1, by omega⟩ ⟨x.toNat - y.toNat, by omega⟩ (by simp) (by simp; omega)
    simp only at t
    have hm : (u.length + 1) * x.toNat = (u.length + 1) * y.toNat + (u.length + 1) * (x.toNat - y.toNat) := by rw [← Nat.mul_add]; congr 1; omega
    rw [hm] at e
    generalize (u.length + 1) * y.toNat = p at e
    generalize (u.length + 1) * (x.toNat - y.toNat) = q at e t
    omega

/-- Two texts with just one sign 58 each, that differ in one byte: where they differ, and that the sign is at one place. -/
theorem one_sign (t c t' c' u v : List UInt8) (x y : UInt8) (ht : 58 ∉ t) (ht' : 58 ∉ t') (hc : 58 ∉ c) (hc' : 58 ∉ c') (h : x ≠ y)
    (e : t ++ 58 :: c = u ++ x :: v) (e' : t' ++ 58 :: c' = u ++ y :: v) :
    (∃ v1, t = u ++ x :: v1 ∧ t' = u ++ y :: v1 ∧ c = c') ∨ (∃ u1, t = t' ∧ c = u1 ++ x :: v ∧ c' = u1 ++ y :: v) := by
  induction t generalizing t' u with
  | nil =>
    cases u with
    | nil =>
      have e1 := List.cons.inj e
      obtain ⟨rfl, rfl⟩ := e1
      cases t' with
      | nil => exact absurd (List.cons.inj e').1.symm (fun e => h e.symm)
      | cons a r =>
        have := (List.cons.inj e').2
        exact absurd (by rw [← this]; simp) hc
    | cons a u =>
      have e1 := List.cons.inj e
      obtain ⟨rfl, rfl⟩ := e1
      cases t' with
      | nil => exact .inr ⟨u, rfl, rfl, (List.cons.inj e').2⟩
      | cons b r => exact absurd (List.cons.inj e').1 (by intro q; apply ht'; rw [q]; simp)
  | cons a r ih =>
    simp only [List.mem_cons, not_or] at ht
    cases u with
    | nil =>
      have e1 := List.cons.inj e
      obtain ⟨rfl, hv⟩ := e1
      cases t' with
      | nil =>
        have := (List.cons.inj e').2
        exact absurd (by rw [this, ← hv]; simp) hc'
      | cons b r' =>
        have e2 := List.cons.inj e'
        obtain ⟨rfl, hv'⟩ := e2
        simp only [List.mem_cons, not_or] at ht'
        have hh : r ++ 58 :: c = r' ++ 58 :: c' := hv.trans hv'.symm
        have hr : r = r' ∧ c = c' := by
          clear ih hv hv' e e' h
          induction r generalizing r' with
          | nil =>
            cases r' with
            | nil => exact ⟨rfl, (List.cons.inj hh).2⟩
            | cons a r' => exact absurd (List.cons.inj hh).1 (by intro q; apply ht'.2; rw [← q]; simp)
          | cons a r ih =>
            simp only [List.mem_cons, not_or] at ht
            cases r' with
            | nil => exact absurd (List.cons.inj hh).1 (by intro q; exact ht.2.1 q.symm)
            | cons b r' =>
              obtain ⟨rfl, h2⟩ := List.cons.inj hh
              simp only [List.mem_cons, not_or] at ht'
              have := ih ⟨ht.1, ht.2.2⟩ r' ⟨ht'.1, ht'.2.2⟩ h2
              exact ⟨by rw [this.1], this.2⟩
        exact .inl ⟨r, rfl, by rw [hr.1]; rfl, hr.2⟩
    | cons a' u =>
      obtain ⟨rfl, e2⟩ := List.cons.inj e
      cases t' with
      | nil => exact absurd (List.cons.inj e').1 ht.1
      | cons b r' =>
        obtain ⟨rfl, e3⟩ := List.cons.inj e'
        simp only [List.mem_cons, not_or] at ht'
        rcases ih r' u ht.2 ht'.2 e2 e3 with ⟨v1, q1, q2, q3⟩ | ⟨u1, q1, q2, q3⟩
        · exact .inl ⟨v1, by rw [q1]; rfl, by rw [q2]; rfl, q3⟩
        · exact .inr ⟨u1, by rw [q1], q2, q3⟩

/-! Frames -/
theorem itoa_inj {m n : Int} (hm1 : -1000000000 < m) (hm2 : m < 1000000000) (hn1 : -1000000000 < n) (hn2 : n < 1000000000) (h : itoa m = itoa n) : m = n := by
  have h1 := readL_itoa hm1 hm2
  rw [h, readL_itoa hn1 hn2] at h1
  exact (Option.some.inj h1).symm
theorem dec_byte (u : Nat) : ∀ c ∈ decDigits u, isDig c = true := by
  have := (dec_val u).2.1
  rw [List.all_eq_true] at this; exact this
theorem itoa_byte {n : Int} {c : UInt8} (h : c ∈ itoa n) : c = 45 ∨ isDig c = true := by
  unfold itoa at h
  split at h
  · rcases List.mem_cons.mp h with rfl | h
    · exact .inl rfl
    · exact .inr (dec_byte _ _ h)
  · exact .inr (dec_byte _ _ h)
theorem itoa_no58 (n : Int) : (58 : UInt8) ∉ itoa n := fun h => by
  rcases itoa_byte h with h | h
  · simp at h
  · simp [isDig] at h
theorem itoa_no10 (n : Int) : (10 : UInt8) ∉ itoa n := fun h => by
  rcases itoa_byte h with h | h
  · simp at h
  · simp [isDig] at h
theorem itoa_no32 (n : Int) : (32 : UInt8) ∉ itoa n := fun h => by
  rcases itoa_byte h with h | h
  · simp at h
  · simp [isDig] at h
theorem sumL_bounds (l : List UInt8) : -1 ≤ sumL l ∧ sumL l < 997 := by
  unfold sumL; split <;> omega
def frameL (no : Int) (t : List UInt8) : List UInt8 := itoa no ++ 58 :: (t ++ 58 :: (itoa (sumL (itoa no ++ 58 :: t)) ++ [10]))
theorem strip_pre (A : List UInt8) : ∀ (f f' u v : List UInt8) (x y : UInt8), x ≠ y → A ++ f = u ++ x :: v → A ++ f' = u ++ y :: v → ∃ u', u = A ++ u' ∧ f = u' ++ x :: v ∧ f' = u' ++ y :: v := by
  induction A with
  | nil => intro f f' u v x y _ h1 h2; exact ⟨u, rfl, h1, h2⟩
  | cons a A ih =>
    intro f f' u v x y hxy h1 h2
    cases u with
    | nil => exact absurd ((List.cons.inj h1).1.symm.trans (List.cons.inj h2).1) hxy
    | cons b u =>
      have k1 := List.cons.inj h1
      have k2 := List.cons.inj h2
      obtain ⟨u', q1, q2, q3⟩ := ih f f' u v x y hxy k1.2 k2.2
      exact ⟨u', by rw [q1, ← k1.1]; rfl, q2, q3⟩
theorem frame_one (no : Int) (t t' u v : List UInt8) (x y : UInt8) (ht : (58 : UInt8) ∉ t) (ht' : (58 : UInt8) ∉ t') (hl : (itoa no ++ 58 :: t).length ≤ 200)
    (h : x ≠ y) (e : frameL no t = u ++ x :: v) (e' : frameL no t' = u ++ y :: v) : False := by
  unfold frameL at e e'
  rw [show itoa no ++ 58 :: (t ++ 58 :: (itoa (sumL (itoa no ++ 58 :: t)) ++ [10])) = (itoa no ++ [58]) ++ (t ++ 58 :: (itoa (sumL (itoa no ++ 58 :: t)) ++ [10])) by simp] at e
  rw [show itoa no ++ 58 :: (t' ++ 58 :: (itoa (sumL (itoa no ++ 58 :: t')) ++ [10])) = (itoa no ++ [58]) ++ (t' ++ 58 :: (itoa (sumL (itoa no ++ 58 :: t')) ++ [10])) by simp] at e'
  obtain ⟨u', _, q2, q3⟩ := strip_pre _ _ _ _ _ _ _ h e e'
  have hc : ∀ n : Int, (58 : UInt8) ∉ itoa n ++ [10] := fun n hm => by
    rcases List.mem_append.mp hm with hm | hm
    · exact itoa_no58 n hm
    · simp at hm
  rcases one_sign t _ t' _ u' v x y ht ht' (hc _) (hc _) h q2 q3 with ⟨v1, r1, r2, r3⟩ | ⟨u1, r1, r2, r3⟩
  · have r3 := List.append_cancel_right r3
    have b1 := sumL_bounds (itoa no ++ 58 :: t)
    have b2 := sumL_bounds (itoa no ++ 58 :: t')
    have r4 := itoa_inj (by omega) (by omega) (by omega) (by omega) r3
    rw [r1, r2] at r4
    refine sum_one (itoa no ++ 58 :: u') v1 x y h ?_ (by simpa using r4)
    rw [r1] at hl; simpa using hl
  · subst r1
    rw [r2] at r3
    have := List.append_cancel_left r3
    exact h (List.cons.inj this).1

/-- A text's first line, the sign at its end too, and what is behind it. -/
def lineL : List UInt8 → Option (List UInt8 × List UInt8)
  | [] => none
  | c :: r => if c = 10 then some ([10], r) else (lineL r).map fun p => (c :: p.1, p.2)
theorem lineL_of (a r : List UInt8) (h : (10 : UInt8) ∉ a) : lineL (a ++ 10 :: r) = some (a ++ [10], r) := by
  induction a with
  | nil => simp [lineL]
  | cons c a ih =>
    simp only [List.mem_cons, not_or] at h
    rw [List.cons_append, lineL, if_neg (fun e => h.1 e.symm), ih h.2]; rfl
theorem lineL_none (a : List UInt8) (h : (10 : UInt8) ∉ a) : lineL a = none := by
  induction a with
  | nil => rfl
  | cons c a ih =>
    simp only [List.mem_cons, not_or] at h
    rw [lineL, if_neg (fun e => h.1 e.symm), ih h.2]; rfl
theorem lineL_cut (l : List UInt8) : (∃ a r, (10 : UInt8) ∉ a ∧ l = a ++ 10 :: r) ∨ (10 : UInt8) ∉ l := by
  induction l with
  | nil => exact .inr (by simp)
  | cons c r ih =>
    by_cases h : c = 10
    · subst h; exact .inl ⟨[], r, by simp, rfl⟩
    · rcases ih with ⟨a, q, h1, h2⟩ | h1
      · exact .inl ⟨c :: a, q, by simp [h1]; exact fun e => h e.symm, by rw [h2]; rfl⟩
      · exact .inr (by simp [h1]; exact fun e => h e.symm)
section
variable {D : Type} (un : List UInt8 → Option (Int × D))
/-- The deeds in a file, frame by frame, and how many bytes. -/
def readsL : Nat → List UInt8 → Int → List D × Nat
  | 0, _, _ => ([], 0)
  | k + 1, l, no => match lineL l with
    | none => ([], 0)
    | some (p, r) => match un p with
      | none => ([], 0)
      | some (m, d) => if m = no then (d :: (readsL k r (no + 1)).1, p.length + (readsL k r (no + 1)).2) else ([], 0)
/-- What is read of a line is its frame. -/
def Unframes (ok : D → Bool) (show' : D → List UInt8) : Prop :=
  (∀ (no : Int) (d : D), 0 ≤ no → no ≤ 99999 → ok d = true → un (frameL no (show' d)) = some (no, d)) ∧
  (∀ p no d, un p = some (no, d) → 0 ≤ no ∧ no ≤ 99999 ∧ ok d = true ∧ p = frameL no (show' d))
/-- A deed's text has neither sign, and is short. -/
def Shows (ok : D → Bool) (show' : D → List UInt8) : Prop := ∀ d, ok d = true → (58 : UInt8) ∉ show' d ∧ (10 : UInt8) ∉ show' d ∧ (show' d).length ≤ 100
/-- The frames of deeds, one behind the other. -/
def fileL (show' : D → List UInt8) : Int → List D → List UInt8
  | _, [] => []
  | no, d :: r => frameL no (show' d) ++ fileL show' (no + 1) r
variable {un} {ok : D → Bool} {show' : D → List UInt8}
theorem itoa_len5 {no : Int} (h0 : 0 ≤ no) (h : no ≤ 99999) : (itoa no).length ≤ 5 := by
  rw [itoa, if_neg (by omega)]
  exact dec_len (k := 4) (by omega)
theorem frameL_split (no : Int) (t : List UInt8) : frameL no t = (itoa no ++ 58 :: (t ++ 58 :: itoa (sumL (itoa no ++ 58 :: t)))) ++ [10] := by simp [frameL]
theorem frameL_body {no : Int} {t : List UInt8} (h : (10 : UInt8) ∉ t) : (10 : UInt8) ∉ itoa no ++ 58 :: (t ++ 58 :: itoa (sumL (itoa no ++ 58 :: t))) := by
  simp only [List.mem_append, List.mem_cons, not_or]
  exact ⟨itoa_no10 _, by decide, h, by decide, itoa_no10 _⟩
theorem reads_step (hu : Unframes un ok show') (hs : Shows ok show') (k : Nat) (d : D) (r : List UInt8) (no : Int) (h0 : 0 ≤ no) (h1 : no ≤ 99999) (hd : ok d = true) :
    readsL un (k + 1) (frameL no (show' d) ++ r) no = (d :: (readsL un k r (no + 1)).1, (frameL no (show' d)).length + (readsL un k r (no + 1)).2) := by
  have hl : lineL (frameL no (show' d) ++ r) = some (frameL no (show' d), r) := by
    rw [frameL_split, List.append_assoc]
    exact lineL_of _ r (frameL_body (hs d hd).2.1)
  rw [readsL, hl]
  simp only [hu.1 no d h0 h1 hd, if_true]
theorem reads_fuel : ∀ (k j : Nat) (l : List UInt8) (no : Int), l.length ≤ k → k ≤ j → readsL un j l no = readsL un k l no := by
  intro k
  induction k with
  | zero =>
    intro j l no hl _
    have : l = [] := List.length_eq_zero_iff.mp (by omega)
    subst this
    cases j with
    | zero => rfl
    | succ j => rfl
  | succ k ih =>
    intro j l no hl hj
    obtain ⟨j, rfl⟩ : ∃ i, j = i + 1 := ⟨j - 1, by omega⟩
    rw [readsL, readsL]
    rcases lineL_cut l with ⟨a, r, h1, rfl⟩ | h1
    · rw [lineL_of a r h1]
      have := ih j r (no + 1) (by simp at hl; omega) (by omega)
      simp only [this]
    · rw [lineL_none l h1]
theorem count_frame (no : Int) (t : List UInt8) (h : (58 : UInt8) ∉ t) : (frameL no t).count 58 = 2 := by
  have e1 : (itoa no).count 58 = 0 := List.count_eq_zero.mpr (itoa_no58 _)
  have e2 : t.count 58 = 0 := List.count_eq_zero.mpr h
  have e3 : (itoa (sumL (itoa no ++ 58 :: t))).count 58 = 0 := List.count_eq_zero.mpr (itoa_no58 _)
  simp only [frameL, List.count_append, List.count_cons, List.count_nil, e1, e2, e3]; decide
/-- Where one byte of the first frame is another one, nothing is read. -/
theorem reads_bent (hu : Unframes un ok show') (hs : Shows ok show') (k : Nat) (d : D) (r : List D) (no : Int) (h0 : 0 ≤ no) (h1 : no + r.length ≤ 99999) (hd : ok d = true) (hr : ∀ x ∈ r, ok x = true)
    (u v : List UInt8) (x y : UInt8) (h : x ≠ y) (e : frameL no (show' d) = u ++ x :: v) :
    readsL un k (u ++ y :: v ++ fileL show' (no + 1) r) no = ([], 0) := by
  cases k with
  | zero => rfl
  | succ k =>
  rw [readsL]
  have hd1 := hs d hd
  rcases lineL_cut (u ++ y :: v ++ fileL show' (no + 1) r) with ⟨p, q, hp, hq⟩ | hno
  · rw [hq, lineL_of p q hp]
    cases hun : un (p ++ [10]) with
    | none => simp [hun]
    | some md =>
      obtain ⟨m, d'⟩ := md
      by_cases hm : m = no
      · exfalso
        subst hm
        obtain ⟨hm0, hm1, hd', hp'⟩ := hu.2 _ _ _ hun
        have hs' := hs d' hd'
        rw [frameL_split] at e
        have hbody := frameL_body (no := m) hd1.2.1
        generalize hB : itoa m ++ 58 :: (show' d ++ 58 :: itoa (sumL (itoa m ++ 58 :: show' d))) = B at e hbody
        -- where the byte stands
        rcases List.eq_nil_or_concat v with rfl | ⟨v1, z, rfl⟩
        · -- the last one
          have e1 := List.append_inj' e (by simp)
          obtain ⟨rfl, e2⟩ := e1
          have hx : x = 10 := by simpa using e2.symm
          subst hx
          have hy : y ≠ 10 := fun q => h q.symm
          cases r with
          | nil =>
            have : (10 : UInt8) ∈ B ++ y :: [] ++ fileL show' (m + 1) [] := by rw [hq]; simp
            simp [fileL] at this
            rcases this with q1 | q1
            · exact hbody q1
            · exact hy q1.symm
          | cons d2 r =>
            have hs2 := hs d2 (hr d2 (by simp))
            rw [fileL, frameL_split] at hq
            have hb2 := frameL_body (no := m + 1) hs2.2.1
            have hc2 := count_frame (m + 1) (show' d2) hs2.1
            rw [frameL_split] at hc2
            generalize itoa (m + 1) ++ 58 :: (show' d2 ++ 58 :: itoa (sumL (itoa (m + 1) ++ 58 :: show' d2))) = B2 at hq hb2 hc2
            have hl2 : lineL (B ++ [y] ++ (B2 ++ [10] ++ fileL show' (m + 1 + 1) r)) = some ((B ++ [y] ++ B2) ++ [10], fileL show' (m + 1 + 1) r) := by
              have := lineL_of (B ++ [y] ++ B2) (fileL show' (m + 1 + 1) r) (by
                simp only [List.mem_append, not_or]
                exact ⟨⟨hbody, by simpa using fun q => hy q.symm⟩, hb2⟩)
              simpa using this
            rw [hq, lineL_of p q hp] at hl2
            have hpp := (Prod.mk.inj (Option.some.inj hl2)).1
            rw [hpp] at hp'
            have c1 := count_frame m (show' d) hd1.1
            rw [frameL_split, hB] at c1
            have c2 := count_frame m (show' d') hs'.1
            rw [← hp'] at c2
            simp only [List.count_append] at c1 c2 hc2
            have : List.count (58 : UInt8) [10] = 0 := by decide
            omega
        · -- ahead of it
          have e0 : B ++ [10] = (u ++ x :: v1) ++ [z] := by rw [e]; simp
          have ⟨eB, ez⟩ := List.append_inj' e0 rfl
          have hz : z = 10 := by simpa using ez.symm
          subst hz
          by_cases hy : y = 10
          · subst hy
            have hu10 : (10 : UInt8) ∉ u := fun q => hbody (by rw [eB]; simp [q])
            have hl2 := lineL_of u (v1 ++ [10] ++ fileL show' (m + 1) r) hu10
            rw [show u ++ 10 :: (v1 ++ [10] ++ fileL show' (m + 1) r) = u ++ 10 :: (v1 ++ [10]) ++ fileL show' (m + 1) r by simp, show v1 ++ [10] = v1.concat 10 by simp, hq, lineL_of p q hp] at hl2
            have hpp := (Prod.mk.inj (Option.some.inj hl2)).1
            rw [hpp, frameL_split] at hp'
            have hp2 := List.append_cancel_right hp'
            rw [← hB, hp2] at eB
            have eB' : (itoa m ++ [58]) ++ (show' d ++ 58 :: itoa (sumL (itoa m ++ 58 :: show' d))) = (itoa m ++ [58]) ++ (show' d' ++ 58 :: (itoa (sumL (itoa m ++ 58 :: show' d')) ++ x :: v1)) := by simpa using eB
            have e3 := List.append_cancel_left eB'
            have hone : ∀ (a b c f : List UInt8), (58 : UInt8) ∉ a → (58 : UInt8) ∉ b → a ++ 58 :: c = b ++ 58 :: f → a = b ∧ c = f := by
              intro a
              induction a with
              | nil =>
                intro b c f _ hb hh
                cases b with
                | nil => exact ⟨rfl, (List.cons.inj hh).2⟩
                | cons z b => exact absurd (List.cons.inj hh).1 (by intro q; apply hb; rw [← q]; simp)
              | cons w a ih =>
                intro b c f ha hb hh
                simp only [List.mem_cons, not_or] at ha
                cases b with
                | nil => exact absurd (List.cons.inj hh).1 (fun q => ha.1 q.symm)
                | cons z b =>
                  obtain ⟨rfl, h2⟩ := List.cons.inj hh
                  simp only [List.mem_cons, not_or] at hb
                  have := ih b c f ha.2 hb.2 h2
                  exact ⟨by rw [this.1], this.2⟩
            obtain ⟨e4, e5⟩ := hone _ _ _ _ hd1.1 hs'.1 e3
            rw [← e4] at e5
            have := congrArg List.length e5
            simp at this
          · have hno : (10 : UInt8) ∉ u ++ y :: v1 := by
              intro q
              simp only [List.mem_append, List.mem_cons] at q
              rcases q with q | q | q
              · exact hbody (by rw [eB]; simp [q])
              · exact hy q.symm
              · exact hbody (by rw [eB]; simp [q])
            have hl2 := lineL_of (u ++ y :: v1) (fileL show' (m + 1) r) hno
            rw [show (u ++ y :: v1) ++ 10 :: fileL show' (m + 1) r = u ++ y :: v1.concat 10 ++ fileL show' (m + 1) r by simp, hq, lineL_of p q hp] at hl2
            have hpp := (Prod.mk.inj (Option.some.inj hl2)).1
            rw [hpp] at hp'
            refine frame_one m (show' d) (show' d') u (v1 ++ [10]) x y hd1.1 hs'.1 ?_ h ?_ ?_
            · have := itoa_len5 hm0 hm1
              have := hd1.2.2
              simp; omega
            · rw [frameL_split, hB, eB]; simp
            · rw [← hp']; simp
      · simp [hun, hm]
  · rw [lineL_none _ hno]
theorem reads_file (hu : Unframes un ok show') (hs : Shows ok show') : ∀ (ds : List D) (k : Nat) (l : List UInt8) (no : Int), 0 ≤ no → no + ds.length ≤ 100000 → (∀ x ∈ ds, ok x = true) →
    readsL un (ds.length + k) (fileL show' no ds ++ l) no = (ds ++ (readsL un k l (no + ds.length)).1, (fileL show' no ds).length + (readsL un k l (no + ds.length)).2)
  | [], k, l, no, _, _, _ => by simp [fileL]
  | d :: r, k, l, no, h0, h1, hd => by
    simp only [List.length_cons] at h1
    have e : (d :: r).length + k = (r.length + k) + 1 := by simp; omega
    rw [e, fileL, List.append_assoc, reads_step hu hs _ d _ no h0 (by omega) (hd d (by simp)), reads_file hu hs r k l (no + 1) (by omega) (by omega) (fun x hx => hd x (by simp [hx]))]
    have e2 : no + ((d :: r).length : Int) = no + 1 + (r.length : Int) := by simp; omega
    rw [e2]
    simp; omega
theorem fileL_append : ∀ (a b : List D) (no : Int), fileL show' no (a ++ b) = fileL show' no a ++ fileL show' (no + a.length) b
  | [], b, no => by simp [fileL]
  | d :: r, b, no => by
    rw [List.cons_append, fileL, fileL, fileL_append r b, List.append_assoc]
    have : no + 1 + (r.length : Int) = no + ((d :: r).length : Int) := by simp; omega
    rw [this]
/-- Where one byte of a file is another one, just the deeds ahead of that frame are read. -/
theorem reads_one (hu : Unframes un ok show') (hs : Shows ok show') (a b : List D) (d : D) (k : Nat) (no : Int) (h0 : 0 ≤ no) (h1 : no + (a ++ d :: b).length ≤ 100000) (hd : ∀ x ∈ a ++ d :: b, ok x = true)
    (u v : List UInt8) (x y : UInt8) (h : x ≠ y) (e : frameL (no + a.length) (show' d) = u ++ x :: v) :
    readsL un (a.length + k) (fileL show' no a ++ (u ++ y :: v ++ fileL show' (no + a.length + 1) b)) no = (a, (fileL show' no a).length) := by
  simp only [List.length_append, List.length_cons] at h1
  rw [reads_file hu hs a k _ no h0 (by omega) (fun z hz => hd z (by simp [hz])), reads_bent hu hs k d b _ (by omega) (by omega) (hd d (by simp)) (fun z hz => hd z (by simp [hz])) u v x y h e]
  simp
theorem lineL_some {l p r : List UInt8} (h : lineL l = some (p, r)) : ∃ a, (10 : UInt8) ∉ a ∧ p = a ++ [10] ∧ l = p ++ r := by
  rcases lineL_cut l with ⟨a, q, h1, rfl⟩ | h1
  · rw [lineL_of a q h1] at h
    obtain ⟨rfl, rfl⟩ := Prod.mk.inj (Option.some.inj h)
    exact ⟨a, h1, rfl, by simp⟩
  · rw [lineL_none l h1] at h; cases h
/-- What is read is what the file's beginning is. -/
theorem reads_text (hu : Unframes un ok show') : ∀ (k : Nat) (l : List UInt8) (no : Int),
    (readsL un k l no).2 ≤ l.length ∧ l.take (readsL un k l no).2 = fileL show' no (readsL un k l no).1 ∧ (∀ x ∈ (readsL un k l no).1, ok x = true) ∧ ((readsL un k l no).1 ≠ [] → 0 ≤ no ∧ no + (readsL un k l no).1.length ≤ 100000)
  | 0, l, no => by simp [readsL, fileL]
  | k + 1, l, no => by
    rw [readsL]
    cases hl : lineL l with
    | none => simp [fileL]
    | some pr =>
      obtain ⟨p, r⟩ := pr
      obtain ⟨a, _, _, e⟩ := lineL_some hl
      cases hun : un p with
      | none => simp [fileL, hun]
      | some md =>
        obtain ⟨m, d⟩ := md
        by_cases hm : m = no
        · subst hm
          obtain ⟨g0, g1, g2, g3⟩ := hu.2 _ _ _ hun
          obtain ⟨i1, i2, i3, i4⟩ := reads_text hu k r (m + 1)
          simp only [hun, if_true]
          refine ⟨by rw [e]; simp; exact i1, ?_, ?_, fun _ => ⟨g0, ?_⟩⟩
          · rw [e, fileL, ← i2, ← g3, List.take_length_add_append]
          · intro x hx
            rcases List.mem_cons.mp hx with rfl | hx
            · exact g2
            · exact i3 x hx
          · by_cases hne : (readsL un k r (m + 1)).1 = []
            · rw [hne]; simp; omega
            · have := i4 hne; simp; omega
        · simp [hun, hm, fileL]
/-- Of a file that is cut, no more than of the whole, and all that are whole. -/
theorem reads_cut : ∀ (k : Nat) (l : List UInt8) (no : Int) (c : Nat),
    (readsL un k (l.take c) no).2 ≤ c ∧ ∃ n, (readsL un k (l.take c) no).1 = (readsL un k l no).1.take n ∧ n ≤ (readsL un k l no).1.length
  | 0, l, no, c => by simp [readsL]
  | k + 1, l, no, c => by
    rw [readsL, readsL]
    rcases lineL_cut l with ⟨a, r, h1, rfl⟩ | h1
    · rw [lineL_of a r h1]
      by_cases hc : a.length + 1 ≤ c
      · have e : (a ++ 10 :: r).take c = a ++ 10 :: r.take (c - (a.length + 1)) := by
          obtain ⟨j, rfl⟩ : ∃ j, c = a.length + (1 + j) := ⟨c - a.length - 1, by omega⟩
          rw [List.take_length_add_append]
          have : a.length + (1 + j) - (a.length + 1) = j := by omega
          rw [this, Nat.add_comm 1 j, List.take_succ_cons]
        rw [e, lineL_of a _ h1]
        cases hun : un (a ++ [10]) with
        | none => simp [hun]
        | some md =>
          obtain ⟨m, d⟩ := md
          by_cases hm : m = no
          · obtain ⟨i1, n, i2, i3⟩ := reads_cut k r (no + 1) (c - (a.length + 1))
            simp only [hun, hm, if_true]
            refine ⟨by simp; omega, n + 1, by rw [i2]; rfl, by simp; omega⟩
          · simp [hun, hm]
      · have e : (10 : UInt8) ∉ (a ++ 10 :: r).take c := by
          rw [List.take_append_of_le_length (by omega)]
          exact fun q => h1 (List.mem_of_mem_take q)
        rw [lineL_none _ e]
        exact ⟨Nat.zero_le _, 0, by simp, Nat.zero_le _⟩
    · rw [lineL_none _ h1, lineL_none _ (fun q => h1 (List.mem_of_mem_take q))]
      exact ⟨Nat.zero_le _, 0, rfl, Nat.zero_le _⟩
end
end Go.Proofs.YtiijagmakkgnnaaDoor
namespace Go.Proofs.YtiijagmakkgnnaaDoor
open Go.Lib
/-! What a deed is as a text, and how it is read -/
def wordsS : List ByteArray := [⟨#[111, 112, 101, 110]⟩, ⟨#[106, 111, 105, 110]⟩, ⟨#[99, 117, 116]⟩, ⟨#[108, 101, 110, 100]⟩, ⟨#[108, 111, 111, 115, 101, 110]⟩, ⟨#[115, 104, 105, 102, 116]⟩, ⟨#[102, 105, 110, 101]⟩, ⟨#[109, 101, 110, 100]⟩, ⟨#[101, 97, 114, 110]⟩, ⟨#[103, 105, 118, 101]⟩, ⟨#[115, 101, 97, 115, 111, 110]⟩]
/-- The byte of that number. -/
def byteN (t : ByteArray) (j : Nat) : Int := ((t.data.toList.getD j 0).toNat : Int)
theorem byteN_eq {t : ByteArray} {j : Nat} (h : j < t.size) : byteN t j = (t[j].toNat : Int) := by
  have h' : j < t.data.toList.length := h
  rw [byteN, List.getD_eq_getElem?_getD, List.getElem?_eq_getElem h']; rfl
def addF (d : Dee) (s : ByteArray) (c : Int) : ByteArray :=
  if c = 87 then s ++ ⟨#[32]⟩ ++ d.who else if c = 77 then s ++ ⟨#[32]⟩ ++ d.mill else if c = 84 then s ++ ⟨#[32]⟩ ++ d.to else if c = 78 then s ++ ⟨#[32]⟩ ++ itoaB d.n else s
def textN (d : Dee) (t s : ByteArray) : Nat → ByteArray
  | 0 => s
  | j + 1 => addF d (textN d t s j) (byteN t j)
/-- A deed's text. -/
def showB (d : Dee) : ByteArray := if deedB d = true then textN d (tellsS d.kind) (wordsS.getD (d.kind - 1).toNat ByteArray.empty) (tellsS d.kind).size else ByteArray.empty
def stepR (w : List ByteArray) (x : Dee × Bool) (c : Int) (j : Nat) : Dee × Bool :=
  if c = 87 then ({ x.1 with who := sat w (j + 1) }, x.2) else if c = 77 then ({ x.1 with mill := sat w (j + 1) }, x.2) else if c = 84 then ({ x.1 with to := sat w (j + 1) }, x.2)
  else if c = 78 then ({ x.1 with n := (readL (sat w (j + 1)).data.toList).getD 0 }, (readL (sat w (j + 1)).data.toList).isSome) else x
def runR (w : List ByteArray) (t : ByteArray) (x : Dee × Bool) : Nat → Dee × Bool
  | 0 => x
  | j + 1 => stepR w (runR w t x j) (byteN t j) j
def zeroD (k : Int) : Dee := ⟨k, ByteArray.empty, ByteArray.empty, ByteArray.empty, 0⟩
/-- The deed of a kind that the words tell. -/
def readW (w : List ByteArray) (k : Int) : Option Dee :=
  if k = 0 then none else if w.length ≠ (tellsS k).size + 1 then none
  else if (runR w (tellsS k) (zeroD k, true) (tellsS k).size).2 = true ∧ deedB (runR w (tellsS k) (zeroD k, true) (tellsS k).size).1 = true then some (runR w (tellsS k) (zeroD k, true) (tellsS k).size).1 else none
/-- The deed that a text tells. -/
def readB (s : ByteArray) : Option Dee := readW (splitB1 32 s) (placeV wordsS (sat (splitB1 32 s) 0) + 1)

theorem ba_ext {a b : ByteArray} (h : a.data.toList = b.data.toList) : a = b := WideShapes.bytes_inj h
theorem ba_app (a b : ByteArray) : (a ++ b).data.toList = a.data.toList ++ b.data.toList := by
  rw [ByteArray.data_append, Array.toList_append]
theorem itoaB_list (n : Int) : (itoaB n).data.toList = itoa n := rfl
/-- The words of a deed's text. -/
def wordsOf (d : Dee) : List ByteArray :=
  wordsS.getD (d.kind - 1).toNat ByteArray.empty :: (tellsS d.kind).data.toList.map fun c => if c = 87 then d.who else if c = 77 then d.mill else if c = 84 then d.to else itoaB d.n
theorem show_join {d : Dee} (h : deedB d = true) : (showB d).data.toList = joinT 32 ((wordsOf d).map (·.data.toList)) := by
  obtain ⟨⟨h1, h2⟩, _⟩ := deed_true h
  rw [showB, if_pos h]
  obtain ⟨k, who, mill, to, n⟩ := d
  simp only at h1 h2
  clear h
  rcases kinds h1 h2 with rfl | rfl | rfl | rfl | rfl | rfl | rfl | rfl | rfl | rfl | rfl <;>
    simp [wordsOf, tellsS, wordsS, textN, addF, byteN, joinT, itoaB_list, ByteArray.size]
theorem name_byte {s : ByteArray} (h : nameB s = true) {c : UInt8} (hc : c ∈ s.data.toList) : 97 ≤ c.toNat ∧ c.toNat ≤ 122 := by
  obtain ⟨_, _, h3⟩ := nameB_true h
  obtain ⟨j, hj, rfl⟩ := List.getElem_of_mem hc
  have := letB_true (h3 j hj hj)
  have e : s[j]'hj = s.data.toList[j] := rfl
  rw [e] at this
  omega
theorem name_no {s : ByteArray} (h : nameB s = true) {c : UInt8} (hc : c.toNat < 97) : c ∉ s.data.toList := fun q => by have := name_byte h q; omega
theorem nameIs_no {s : ByteArray} {t : Bool} (h : nameIs s t = true) {c : UInt8} (hc : c.toNat < 97) : c ∉ s.data.toList ∧ s.size ≤ 6 := by
  unfold nameIs at h
  split at h
  · exact ⟨name_no h hc, (nameB_true h).2.1⟩
  · have : s.data.toList = [] := by rw [ByteArray.toList_eq] at h; simpa using h
    have h0 : s.size = 0 := by have := congrArg List.length this; exact this
    exact ⟨by rw [this]; simp, by omega⟩
theorem mostN_le (k : Int) : mostN k ≤ 999999999 := by unfold mostN; split <;> omega
theorem deed_num {d : Dee} (h : deedB d = true) : 0 ≤ d.n ∧ d.n ≤ 999999999 := by
  have := (deed_true h).2.2.2.2
  have := inB_true this
  have := mostN_le d.kind
  omega
theorem itoa_small {n : Int} (h0 : 0 ≤ n) {c : UInt8} (hc : c ∈ itoa n) : 48 ≤ c.toNat ∧ c.toNat ≤ 57 := by
  rw [itoa, if_neg (by omega)] at hc
  exact digB_true (dec_byte _ _ hc)
theorem words_no {d : Dee} (h : deedB d = true) {c : UInt8} (hc97 : c.toNat < 97) (hc : c.toNat < 48 ∨ 57 < c.toNat) : ∀ x ∈ wordsOf d, c ∉ x.data.toList := by
  obtain ⟨⟨h1, h2⟩, h3, h4, h5, h6⟩ := deed_true h
  have hn := deed_num h
  intro x hx
  rcases List.mem_cons.mp hx with rfl | hx
  · have hw : ∀ w ∈ wordsS, ∀ c ∈ w.data.toList, 97 ≤ c.toNat := by decide
    intro q
    have : wordsS.getD (d.kind - 1).toNat ByteArray.empty ∈ wordsS := by
      have hlt : (d.kind - 1).toNat < wordsS.length := by simp [wordsS]; omega
      rw [List.getD_eq_getElem?_getD, List.getElem?_eq_getElem hlt]; exact List.getElem_mem _
    have := hw _ this c q
    omega
  · obtain ⟨e, _, rfl⟩ := List.mem_map.mp hx
    by_cases e1 : e = 87
    · rw [if_pos e1]; exact (nameIs_no h3 (by omega)).1
    rw [if_neg e1]
    by_cases e2 : e = 77
    · rw [if_pos e2]; exact (nameIs_no h4 (by omega)).1
    rw [if_neg e2]
    by_cases e3 : e = 84
    · rw [if_pos e3]; exact (nameIs_no h5 (by omega)).1
    rw [if_neg e3]
    intro q
    have := itoa_small hn.1 q
    omega
theorem word_mem {k : Int} (h1 : 1 ≤ k) (h2 : k ≤ 11) : wordsS.getD (k - 1).toNat ByteArray.empty ∈ wordsS := by
  have hlt : (k - 1).toNat < wordsS.length := by simp [wordsS]; omega
  rw [List.getD_eq_getElem?_getD, List.getElem?_eq_getElem hlt]; exact List.getElem_mem _
theorem words_len {d : Dee} (h : deedB d = true) : (∀ x ∈ wordsOf d, x.data.toList.length ≤ 9) ∧ (wordsOf d).length ≤ 5 := by
  obtain ⟨⟨h1, h2⟩, h3, h4, h5, h6⟩ := deed_true h
  have hn := deed_num h
  have ht := tells_size d.kind
  have ht' : (tellsS d.kind).data.toList.length ≤ 4 := ht
  refine ⟨fun x hx => ?_, by rw [wordsOf]; simp; exact ht'⟩
  rcases List.mem_cons.mp hx with rfl | hx
  · have hw : ∀ w ∈ wordsS, w.data.toList.length ≤ 9 := by decide
    exact hw _ (word_mem h1 h2)
  · obtain ⟨e, _, rfl⟩ := List.mem_map.mp hx
    have z : (48 : UInt8).toNat < 97 := by decide
    by_cases e1 : e = 87
    · rw [if_pos e1]; have := (nameIs_no h3 z).2; rw [size_list]; omega
    rw [if_neg e1]
    by_cases e2 : e = 77
    · rw [if_pos e2]; have := (nameIs_no h4 z).2; rw [size_list]; omega
    rw [if_neg e2]
    by_cases e3 : e = 84
    · rw [if_pos e3]; have := (nameIs_no h5 z).2; rw [size_list]; omega
    rw [if_neg e3, itoaB_list, itoa, if_neg (by omega)]
    exact dec_len (k := 8) (by omega)
theorem joinL_len (b : UInt8) (m : Nat) : ∀ xs : List (List UInt8), (∀ x ∈ xs, x.length ≤ m) → (joinT b xs).length ≤ (m + 1) * xs.length
  | [], _ => by simp [joinT]
  | [x], h => by have := h x (by simp); simp [joinT]; omega
  | x :: y :: r, h => by
    have h1 := h x (by simp)
    have h2 := joinL_len b m (y :: r) (fun z hz => h z (by simp at hz ⊢; exact .inr hz))
    rw [joinT, List.length_append, List.length_cons, List.length_cons, Nat.mul_succ]
    omega
theorem joinL_mem (b : UInt8) {c : UInt8} : ∀ xs : List (List UInt8), c ∈ joinT b xs → c = b ∨ ∃ x ∈ xs, c ∈ x
  | [], h => by simp [joinT] at h
  | [x], h => .inr ⟨x, by simp, by simpa [joinT] using h⟩
  | x :: y :: r, h => by
    rw [joinT] at h
    rcases List.mem_append.mp h with h | h
    · exact .inr ⟨x, by simp, h⟩
    rcases List.mem_cons.mp h with h | h
    · exact .inl h
    rcases joinL_mem b (y :: r) h with h | ⟨z, hz, h⟩
    · exact .inl h
    · exact .inr ⟨z, by simp at hz ⊢; exact .inr hz, h⟩
theorem show_no {d : Dee} (h : deedB d = true) {c : UInt8} (hc97 : c.toNat < 97) (hc : c.toNat < 48 ∨ 57 < c.toNat) (h32 : c ≠ 32) : c ∉ (showB d).data.toList := by
  rw [show_join h]
  intro q
  rcases joinL_mem 32 _ q with q | ⟨x, hx, q⟩
  · exact h32 q
  · obtain ⟨y, hy, rfl⟩ := List.mem_map.mp hx
    exact words_no h hc97 hc y hy q
theorem show_len {d : Dee} (h : deedB d = true) : (showB d).data.toList.length ≤ 50 := by
  rw [show_join h]
  have ⟨h1, h2⟩ := words_len h
  have := joinL_len 32 9 ((wordsOf d).map (·.data.toList)) (fun x hx => by obtain ⟨y, hy, rfl⟩ := List.mem_map.mp hx; exact h1 y hy)
  rw [List.length_map] at this; omega
theorem split_of {b : UInt8} {s : ByteArray} {x : ByteArray} {xs : List ByteArray} (h : ∀ y ∈ x :: xs, b ∉ y.data.toList) (e : s.data.toList = joinT b ((x :: xs).map (·.data.toList))) : splitB1 b.toNat s = x :: xs := by
  have h1 := splitB1_list b s
  rw [e, List.map_cons, pieces_of b _ _ [] (by
    intro y hy
    rcases List.mem_cons.mp hy with rfl | hy
    · exact h x (by simp)
    · obtain ⟨z, hz, rfl⟩ := List.mem_map.mp hy
      exact h z (by simp [hz])), List.nil_append] at h1
  have h2 : (splitB1 b.toNat s).map (·.data.toList) = (x :: xs).map (·.data.toList) := h1
  exact (List.map_inj_right (fun a b q => ba_ext q)).mp h2
theorem join_split (b : UInt8) (s : ByteArray) : joinT b ((splitB1 b.toNat s).map (·.data.toList)) = s.data.toList := by
  rw [splitB1_list, pieces_join]; rfl
theorem place_word {k : Int} (h1 : 1 ≤ k) (h2 : k ≤ 11) : placeV wordsS (wordsS.getD (k - 1).toNat ByteArray.empty) = k - 1 := by
  rcases kinds h1 h2 with rfl | rfl | rfl | rfl | rfl | rfl | rfl | rfl | rfl | rfl | rfl <;> decide +kernel
theorem untold {s : ByteArray} (h : nameIs s false = true) : s = ByteArray.empty := by
  unfold nameIs at h
  rw [if_neg (by simp)] at h
  rw [ByteArray.toList_eq] at h
  exact ba_ext (by simpa using h)
set_option maxHeartbeats 1000000 in
set_option maxRecDepth 100000 in
/-- What is shown is read. -/
theorem read_show {d : Dee} (h : deedB d = true) : readB (showB d) = some d := by
  have hsp : splitB1 32 (showB d) = wordsOf d := by
    have := split_of (b := 32) (s := showB d) (x := wordsS.getD (d.kind - 1).toNat ByteArray.empty) (xs := (tellsS d.kind).data.toList.map fun c => if c = 87 then d.who else if c = 77 then d.mill else if c = 84 then d.to else itoaB d.n)
      (fun y hy => words_no h (by decide) (by decide) y hy) (show_join h)
    exact this
  obtain ⟨⟨h1, h2⟩, h3, h4, h5, h6⟩ := deed_true h
  have hn := deed_num h
  rw [readB, hsp]
  have h0 : sat (wordsOf d) 0 = wordsS.getD (d.kind - 1).toNat ByteArray.empty := rfl
  rw [h0, place_word h1 h2]
  have hk : d.kind - 1 + 1 = d.kind := by omega
  have hr := readL_itoa (n := d.n) (by omega) (by omega)
  rw [hk, readW, if_neg (by omega), if_neg (by rw [wordsOf, List.length_cons, List.length_map]; exact fun q => q rfl)]
  suffices hrun : runR (wordsOf d) (tellsS d.kind) (zeroD d.kind, true) (tellsS d.kind).size = (d, true) by
    rw [hrun, if_pos ⟨rfl, h⟩]
  obtain ⟨k, who, mill, to, n⟩ := d
  simp only at h1 h2 h3 h4 h5 h6 hr
  clear h hsp h0 hk hn
  rcases kinds h1 h2 with rfl | rfl | rfl | rfl | rfl | rfl | rfl | rfl | rfl | rfl | rfl <;>
    (first
      | (have e := untold (s := who) h3; subst e)
      | skip) <;>
    (first
      | (have e := untold (s := mill) h4; subst e)
      | skip) <;>
    (first
      | (have e := untold (s := to) h5; subst e)
      | skip) <;>
    (first
      | (have e : n = 0 := by
          have q := inB_true h6
          have hm : ∀ k : Int, hasB (tellsS k) 78 = false → mostN k = 0 := fun k hk => by rw [mostN, hk]; rfl
          rw [hm _ (by decide)] at q; omega
         subst e)
      | skip) <;>
    simp [runR, stepR, wordsOf, tellsS, byteN, sat, zeroD, hr, ByteArray.size, itoaB_list]
theorem read_num {x : ByteArray} {n : Int} (h : (readL x.data.toList).isSome = true) (hn : (readL x.data.toList).getD 0 = n) : x = itoaB n := by
  cases hr : readL x.data.toList with
  | none => rw [hr] at h; cases h
  | some m =>
    rw [hr] at hn
    simp only [Option.getD_some] at hn
    subst hn
    exact ba_ext (readL_some hr).1
theorem len2 {α : Type} {l : List α} (h : l.length = 2) : ∃ a b, l = [a, b] := by
  match l, h with
  | [a, b], _ => exact ⟨a, b, rfl⟩
theorem len3 {α : Type} {l : List α} (h : l.length = 3) : ∃ a b c, l = [a, b, c] := by
  match l, h with
  | [a, b, c], _ => exact ⟨a, b, c, rfl⟩
theorem len4 {α : Type} {l : List α} (h : l.length = 4) : ∃ a b c d, l = [a, b, c, d] := by
  match l, h with
  | [a, b, c, d], _ => exact ⟨a, b, c, d, rfl⟩
theorem len5 {α : Type} {l : List α} (h : l.length = 5) : ∃ a b c d e, l = [a, b, c, d, e] := by
  match l, h with
  | [a, b, c, d, e], _ => exact ⟨a, b, c, d, e, rfl⟩
theorem placeV_word {s : ByteArray} (h : placeV wordsS s + 1 ≠ 0) : ∃ k : Int, 1 ≤ k ∧ k ≤ 11 ∧ placeV wordsS s + 1 = k ∧ s = wordsS.getD (k - 1).toNat ByteArray.empty := by
  have hb : placeV wordsS s = -1 ∨ 0 ≤ placeV wordsS s := by
    have : ∀ n, placeUp wordsS s n = -1 ∨ 0 ≤ placeUp wordsS s n := by
      intro n
      induction n with
      | zero => exact .inl rfl
      | succ n ih => rw [placeUp]; split <;> (try split) <;> omega
    exact this _
  rcases hb with hb | hb
  · omega
  · obtain ⟨j, e, hj, hq⟩ := place_hit hb
    have hl : wordsS.length = 11 := rfl
    refine ⟨j + 1, by omega, by omega, by omega, ?_⟩
    have : ((j : Int) + 1 - 1).toNat = j := by omega
    rw [this]
    have hq' : (sat wordsS j).data.toList = s.data.toList := by
      rw [ByteArray.toList_eq, ByteArray.toList_eq] at hq; simpa using hq
    exact (ba_ext hq').symm
set_option maxHeartbeats 2000000 in
set_option maxRecDepth 100000 in
/-- What is read is shown so. -/
theorem read_some {s : ByteArray} {d : Dee} (h : readB s = some d) : deedB d = true ∧ showB d = s := by
  have hj := join_split 32 s
  rw [readB] at h
  have e32 : (((32 : UInt8).toNat : Nat) : Int) = 32 := rfl
  rw [e32] at hj
  generalize splitB1 32 s = w at h hj
  rw [readW] at h
  split at h
  · cases h
  rename_i hk
  obtain ⟨k, h1, h2, hk1, hw0⟩ := placeV_word hk
  rw [hk1] at h
  clear hk hk1
  split at h
  · cases h
  rename_i hl
  have hl : w.length = (tellsS k).size + 1 := Classical.not_not.mp hl
  by_cases hg : (runR w (tellsS k) (zeroD k, true) (tellsS k).size).2 = true ∧ deedB (runR w (tellsS k) (zeroD k, true) (tellsS k).size).1 = true
  case neg => rw [if_neg hg] at h; cases h
  rw [if_pos hg] at h
  have hd := Option.some.inj h
  obtain ⟨hg, hok⟩ := hg
  rw [hd] at hok
  refine ⟨hok, ba_ext ?_⟩
  rw [show_join hok, ← hj]
  congr 1
  clear h hj hok
  rcases kinds h1 h2 with rfl | rfl | rfl | rfl | rfl | rfl | rfl | rfl | rfl | rfl | rfl
  · obtain ⟨a, b, c, rfl⟩ := len3 (show w.length = 3 from hl)
    simp only [sat, List.getD_cons_zero] at hw0
    subst hd hw0
    have hnum := read_num (x := c) (by simpa [runR, stepR, tellsS, byteN, sat, ByteArray.size, zeroD] using hg) rfl
    have q := congrArg (fun b : ByteArray => b.data.toList) hnum
    simp only [itoaB_list] at q
    simp [wordsOf, wordsS, runR, stepR, tellsS, byteN, sat, zeroD, ByteArray.size, itoaB_list, ← q]
  · obtain ⟨a, b, rfl⟩ := len2 (show w.length = 2 from hl)
    simp only [sat, List.getD_cons_zero] at hw0
    subst hd hw0
    simp [wordsOf, wordsS, runR, stepR, tellsS, byteN, sat, zeroD, ByteArray.size]
  · obtain ⟨a, b, c, rfl⟩ := len3 (show w.length = 3 from hl)
    simp only [sat, List.getD_cons_zero] at hw0
    subst hd hw0
    have hnum := read_num (x := c) (by simpa [runR, stepR, tellsS, byteN, sat, ByteArray.size, zeroD] using hg) rfl
    have q := congrArg (fun b : ByteArray => b.data.toList) hnum
    simp only [itoaB_list] at q
    simp [wordsOf, wordsS, runR, stepR, tellsS, byteN, sat, zeroD, ByteArray.size, itoaB_list, ← q]
  · obtain ⟨a, b, c, e, rfl⟩ := len4 (show w.length = 4 from hl)
    simp only [sat, List.getD_cons_zero] at hw0
    subst hd hw0
    have hnum := read_num (x := e) (by simpa [runR, stepR, tellsS, byteN, sat, ByteArray.size, zeroD] using hg) rfl
    have q := congrArg (fun b : ByteArray => b.data.toList) hnum
    simp only [itoaB_list] at q
    simp [wordsOf, wordsS, runR, stepR, tellsS, byteN, sat, zeroD, ByteArray.size, itoaB_list, ← q]
  · obtain ⟨a, b, c, e, rfl⟩ := len4 (show w.length = 4 from hl)
    simp only [sat, List.getD_cons_zero] at hw0
    subst hd hw0
    have hnum := read_num (x := e) (by simpa [runR, stepR, tellsS, byteN, sat, ByteArray.size, zeroD] using hg) rfl
    have q := congrArg (fun b : ByteArray => b.data.toList) hnum
    simp only [itoaB_list] at q
    simp [wordsOf, wordsS, runR, stepR, tellsS, byteN, sat, zeroD, ByteArray.size, itoaB_list, ← q]
  · obtain ⟨a, b, c, e, f, rfl⟩ := len5 (show w.length = 5 from hl)
    simp only [sat, List.getD_cons_zero] at hw0
    subst hd hw0
    have hnum := read_num (x := f) (by simpa [runR, stepR, tellsS, byteN, sat, ByteArray.size, zeroD] using hg) rfl
    have q := congrArg (fun b : ByteArray => b.data.toList) hnum
    simp only [itoaB_list] at q
    simp [wordsOf, wordsS, runR, stepR, tellsS, byteN, sat, zeroD, ByteArray.size, itoaB_list, ← q]
  · obtain ⟨a, b, c, rfl⟩ := len3 (show w.length = 3 from hl)
    simp only [sat, List.getD_cons_zero] at hw0
    subst hd hw0
    have hnum := read_num (x := c) (by simpa [runR, stepR, tellsS, byteN, sat, ByteArray.size, zeroD] using hg) rfl
    have q := congrArg (fun b : ByteArray => b.data.toList) hnum
    simp only [itoaB_list] at q
    simp [wordsOf, wordsS, runR, stepR, tellsS, byteN, sat, zeroD, ByteArray.size, itoaB_list, ← q]
  · obtain ⟨a, b, rfl⟩ := len2 (show w.length = 2 from hl)
    simp only [sat, List.getD_cons_zero] at hw0
    subst hd hw0
    simp [wordsOf, wordsS, runR, stepR, tellsS, byteN, sat, zeroD, ByteArray.size]
  · obtain ⟨a, b, c, rfl⟩ := len3 (show w.length = 3 from hl)
    simp only [sat, List.getD_cons_zero] at hw0
    subst hd hw0
    have hnum := read_num (x := c) (by simpa [runR, stepR, tellsS, byteN, sat, ByteArray.size, zeroD] using hg) rfl
    have q := congrArg (fun b : ByteArray => b.data.toList) hnum
    simp only [itoaB_list] at q
    simp [wordsOf, wordsS, runR, stepR, tellsS, byteN, sat, zeroD, ByteArray.size, itoaB_list, ← q]
  · obtain ⟨a, b, c, e, rfl⟩ := len4 (show w.length = 4 from hl)
    simp only [sat, List.getD_cons_zero] at hw0
    subst hd hw0
    have hnum := read_num (x := e) (by simpa [runR, stepR, tellsS, byteN, sat, ByteArray.size, zeroD] using hg) rfl
    have q := congrArg (fun b : ByteArray => b.data.toList) hnum
    simp only [itoaB_list] at q
    simp [wordsOf, wordsS, runR, stepR, tellsS, byteN, sat, zeroD, ByteArray.size, itoaB_list, ← q]
  · obtain ⟨a, rfl⟩ := List.length_eq_one_iff.mp (show w.length = 1 from hl)
    simp only [sat, List.getD_cons_zero] at hw0
    subst hd hw0
    simp [wordsOf, wordsS, runR, tellsS, zeroD, ByteArray.size]
end Go.Proofs.YtiijagmakkgnnaaDoor
