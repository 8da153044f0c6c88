/-
  What chapter 2's NameOk answers, the model's and the program's: at every string just 'nameB'; the world stays. (The program's states are labels: 'wp_scope_gotos' bears a scope with any number of labels.)
-/
import Derived.Test.YtbgklakhelcgcaaL1In
import Derived.WalkMore
import Derived.ScopeJumps
import Derived.Laws.Cover1
import Derived.LoopN
import Derived.Lib.Hide
namespace Go.Proofs.Ytbgklakhelcgcaa
open Go.ChangeShapes Go.WideShapes Go.ChangeAt Go.RowKit

/-- Is it a byte from a to z? -/
def letB (c : Int) : Bool := decide (97 ≤ c ∧ c ≤ 122)
theorem letB_true {c : Int} (h : letB c = true) : 97 ≤ c ∧ c ≤ 122 := by simpa [letB] using h
theorem letB_false {c : Int} (h : letB c = false) : c < 97 ∨ 122 < c := by
  simp only [letB, decide_eq_false_iff_not] at h; omega

/-- The first k bytes are letters. -/
def Lets (s : ByteArray) (k : Nat) : Prop := ∀ j (h : j < s.size), j < k → letB (s[j].toNat : Int) = true
instance (s : ByteArray) (k : Nat) : Decidable (Lets s k) := inferInstanceAs (Decidable (∀ j (h : j < s.size), j < k → letB (s[j].toNat : Int) = true))
/-- A name: 1 to 6 bytes of a to z. -/
def nameB (s : ByteArray) : Bool := decide (1 ≤ s.size ∧ s.size ≤ 6 ∧ Lets s s.size)

theorem nameB_of {s : ByteArray} (h1 : 1 ≤ s.size) (h2 : s.size ≤ 6) (h : Lets s s.size) : nameB s = true := by simp [nameB, h1, h2, h]
theorem nameB_true {s : ByteArray} (h : nameB s = true) : 1 ≤ s.size ∧ s.size ≤ 6 ∧ Lets s s.size := by simpa [nameB] using h
theorem nameB_size {s : ByteArray} (h : s.size = 0 ∨ 6 < s.size) : nameB s = false := by
  simp only [nameB, decide_eq_false_iff_not]; rintro ⟨h1, h2, _⟩; omega
theorem nameB_bad {s : ByteArray} {k : Nat} (hk : k < s.size) (h : letB (s[k].toNat : Int) = false) : nameB s = false := by
  simp only [nameB, decide_eq_false_iff_not]; rintro ⟨_, _, h3⟩; rw [h3 k hk hk] at h; cases h
theorem Lets.zero (s : ByteArray) : Lets s 0 := fun _ _ h => by omega
theorem Lets.succ {s : ByteArray} {k : Nat} (h : Lets s k) (hk : k < s.size) (hl : letB (s[k].toNat : Int) = true) : Lets s (k + 1) := by
  intro j hj hlt
  by_cases e : j = k
  · subst e; exact hl
  · exact h j hj (by omega)
theorem nameB_len {s : ByteArray} (h : Lets s s.size) : nameB s = inB 1 6 (s.size : Int) := by
  by_cases h1 : 1 ≤ s.size
  · by_cases h2 : s.size ≤ 6
    · rw [nameB_of h1 h2 h]; symm; simp [inB]; omega
    · rw [nameB_size (by omega)]; symm; simp [inB]; omega
  · rw [nameB_size (by omega)]; symm; simp [inB]; omega

set_option maxHeartbeats 1000000 in
set_option maxRecDepth 100000 in
theorem sNameOk_any (s : ByteArray) (w : World) (hs : s.size ≤ maxLen) :
    Calls Try.prog 43 #[.string s] w fun e w' => e = .returned (.bool (nameB s)) ∧ w = w' := by
  unfold maxLen at hs
  go_enter Try.func43, Try.ntmps43
  go_wp2
  go_loop [3] (fun i => ∃ k : Nat, k ≤ s.size ∧ i = .int .i64 k ∧ Lets s k) (fun i => s.size - (intOf i).toNat)
  case atStart => exact ⟨0, Nat.zero_le _, rfl, Lets.zero s⟩
  case round =>
    obtain ⟨k, hk, rfl, hl⟩ := hrel
    by_cases hlt : k < s.size
    · cases hb : letB (s[k].toNat : Int)
      · have hn := Lib.hid (nameB_bad hlt hb)
        rcases letB_false hb with h1 | h1
        · clear hb
          go_wp2
          go_ret
          exact ⟨by rw [hn.out]; rfl, rfl⟩
        · have h0 : ¬ (s[k].toNat : Int) < 97 := by omega
          clear hb
          go_wp2
          go_ret
          exact ⟨by rw [hn.out]; rfl, rfl⟩
      · have hl2 := hl.succ hlt hb
        obtain ⟨h0, h1⟩ := letB_true hb
        clear hb
        go_wp2
        go_round
        case rel => exact ⟨k + 1, by omega, by go_num, hl2⟩
        case measure => simp [intOf]; omega
    · obtain rfl : k = s.size := by omega
      have hn := Lib.hid (nameB_len hl)
      go_wp2_with (go_at_call 48; refine (l1In_any _ _ _ _).mono ?_; rintro e w' ⟨rfl, rfl⟩)
      go_ret
      exact ⟨by rw [hn.out]; rfl, rfl⟩

section
variable {P : Program} {a : Act} {w : World} {Q : Exit → Act → World → Prop}
/-- As Q; by a goto to label l: what J asks there. -/
def gotosTo (J : Nat → Act → World → Prop) (Q : Exit → Act → World → Prop) : Exit → Act → World → Prop
  | .goto l, a, w => J l a w
  | e, a, w => Q e a w
theorem gotosTo_ret {J : Nat → Act → World → Prop} : gotosTo J Q .ret a w = Q .ret a w := rfl

/-- A scope of as many labels as there are: what holds at every jump to each, and a measure that each pass from a label lowers. -/
theorem wp_scope_gotos {c : Code} (J : Nat → Act → World → Prop) (m : Nat → Act → World → Nat)
    (first : c.wp P (gotosTo J Q) a w)
    (pass : ∀ l a w, J l a w → ∃ rest, findLabel c l = some rest ∧ rest.wp P (gotosTo (fun l' a' w' => J l' a' w' ∧ m l' a' w' < m l a w) Q) a w) : (Code.scope c).wp P Q a w := by
  intro b k cs
  have key : ∀ n l a w, m l a w = n → J l a w → ∃ rest, findLabel c l = some rest ∧ ∃ e a' w', Q e a' w' ∧ Arrives P (lone (b.at a (.code rest :: .inScope c :: k)) cs w) b k cs e a' w' := by
    intro n
    induction n using Nat.strongRecOn with
    | _ n ih =>
      intro l a w hn hJ
      obtain ⟨rest, hf, hp⟩ := pass l a w hJ
      refine ⟨rest, hf, ?_⟩
      obtain ⟨e, a1, w1, hq, harr⟩ := hp b (.inScope c :: k) cs
      cases e with
      | normal => exact ⟨.normal, a1, w1, hq, Steps.trans harr (.one step_inScope)⟩
      | exit id => exact ⟨.exit id, a1, w1, hq, fun k' hk => harr k' (by simp [exitTo, hk])⟩
      | goto l' =>
        obtain ⟨hJ', hlt⟩ := hq
        obtain ⟨rest', hf', e2, a2, w2, hq2, harr2⟩ := ih _ (by omega) l' a1 w1 rfl hJ'
        exact ⟨e2, a2, w2, hq2, .of_steps (harr _ (by simp [gotoIn, hf'])) harr2⟩
      | ret => exact ⟨_, a1, w1, hq, harr⟩
      | panic ch => exact ⟨_, a1, w1, hq, harr⟩
      | outgrown => exact ⟨_, a1, w1, hq, harr⟩
  obtain ⟨e, a1, w1, hq, harr⟩ := first b (.inScope c :: k) cs
  cases e with
  | normal => exact ⟨.normal, a1, w1, hq, .head step_scope (Steps.trans harr (.one step_inScope))⟩
  | exit id => exact ⟨.exit id, a1, w1, hq, fun k' hk => .head step_scope (harr k' (by simp [exitTo, hk]))⟩
  | goto l' =>
    obtain ⟨rest', hf', e2, a2, w2, hq2, harr2⟩ := key _ l' a1 w1 rfl hq
    exact ⟨e2, a2, w2, hq2, .of_steps (.head step_scope (harr _ (by simp [gotoIn, hf']))) harr2⟩
  | ret => exact ⟨_, a1, w1, hq, .of_steps (.one step_scope) harr⟩
  | panic ch => exact ⟨_, a1, w1, hq, .of_steps (.one step_scope) harr⟩
  | outgrown => exact ⟨_, a1, w1, hq, .of_steps (.one step_scope) harr⟩
end

theorem isLetter_any (c : Int) (w : World) :
    Calls Try.prog 62 #[.int .u8 c] w fun e w' => e = .returned (.bool (letB c)) ∧ w = w' := by
  by_cases h : 97 ≤ c
  · by_cases h2 : c ≤ 122
    · have hb : letB c = true := by simp [letB, h, h2]
      rw [hb]; clear hb
      go_enter Try.func62, Try.ntmps62
      go_wp2
      go_ret
      exact ⟨rfl, rfl⟩
    · have hb : letB c = false := by simp [letB, h2]
      rw [hb]; clear hb
      go_enter Try.func62, Try.ntmps62
      go_wp2
      go_ret
      exact ⟨rfl, rfl⟩
  · have hb : letB c = false := by simp [letB, h]
    rw [hb]; clear hb
    go_enter Try.func62, Try.ntmps62
    go_wp2
    go_ret
    exact ⟨rfl, rfl⟩

/-- What holds at each jump: label 0: it is no name; label 2: it is one; label 1: byte k is there, and all ahead of it are letters. -/
def NJ (s : ByteArray) (w : World) (l : Nat) (a : Act) (w' : World) : Prop :=
  w = w' ∧ ∃ x3 u4 u5 u6 u7 u8 u9 u10 u11 u12 u13 u14 u15 u16 u17 u18 u19 : Value, a = { tmps := #[.string s, undef, .bool false, x3, u4, u5, u6, u7, u8, u9, u10, u11, u12, u13, u14, u15, u16, u17, u18, u19], defers := [] } ∧
    ((l = 0 ∧ nameB s = false) ∨ (l = 2 ∧ nameB s = true) ∨ (l = 1 ∧ ∃ k : Nat, x3 = .int .i64 k ∧ k < s.size ∧ k < 6 ∧ Lets s k))
def NM (l : Nat) (a : Act) (_ : World) : Nat := if l = 1 then 7 - (intOf (a.tmps.getD 3 undef)).toNat else 0

theorem NJ.no {s : ByteArray} {w : World} {x3 u4 u5 u6 u7 u8 u9 u10 u11 u12 u13 u14 u15 u16 u17 u18 u19 : Value} (h : nameB s = false) : NJ s w 0 { tmps := #[.string s, undef, .bool false, x3, u4, u5, u6, u7, u8, u9, u10, u11, u12, u13, u14, u15, u16, u17, u18, u19], defers := [] } w :=
  ⟨rfl, x3, u4, u5, u6, u7, u8, u9, u10, u11, u12, u13, u14, u15, u16, u17, u18, u19, rfl, .inl ⟨rfl, h⟩⟩
theorem NJ.yes {s : ByteArray} {w : World} {x3 u4 u5 u6 u7 u8 u9 u10 u11 u12 u13 u14 u15 u16 u17 u18 u19 : Value} (h : nameB s = true) : NJ s w 2 { tmps := #[.string s, undef, .bool false, x3, u4, u5, u6, u7, u8, u9, u10, u11, u12, u13, u14, u15, u16, u17, u18, u19], defers := [] } w :=
  ⟨rfl, x3, u4, u5, u6, u7, u8, u9, u10, u11, u12, u13, u14, u15, u16, u17, u18, u19, rfl, .inr (.inl ⟨rfl, h⟩)⟩
theorem NJ.on {s : ByteArray} {w : World} {k : Nat} {u4 u5 u6 u7 u8 u9 u10 u11 u12 u13 u14 u15 u16 u17 u18 u19 : Value} (h1 : k < s.size) (h2 : k < 6) (h : Lets s k) : NJ s w 1 { tmps := #[.string s, undef, .bool false, .int .i64 k, u4, u5, u6, u7, u8, u9, u10, u11, u12, u13, u14, u15, u16, u17, u18, u19], defers := [] } w :=
  ⟨rfl, _, u4, u5, u6, u7, u8, u9, u10, u11, u12, u13, u14, u15, u16, u17, u18, u19, rfl, .inr (.inr ⟨rfl, k, rfl, h1, h2, h⟩)⟩

set_option maxRecDepth 100000 in
set_option maxHeartbeats 1000000 in
set_option maxRecDepth 100000 in
theorem iNameOk_any (s : ByteArray) (w : World) (hs : s.size ≤ maxLen) :
    Calls Try.prog 61 #[.string s] w fun e w' => e = .returned (.bool (nameB s)) ∧ w = w' := by
  unfold maxLen at hs
  go_enter Try.func61, Try.ntmps61
  go_wp2
  refine wp_scope_gotos (NJ s w) NM ?_ ?_
  · by_cases h0 : s.size = 0
    · have hn := Lib.hid (nameB_size (Or.inl h0))
      go_wp2
      go_step3
      exact NJ.no hn.out
    · have hl : 0 < s.size := by omega
      cases hb : letB (s[0].toNat : Int)
      · have hn := Lib.hid (nameB_bad hl hb)
        go_wp2
        go_step3
        go_wp2_with (go_at_call 62; refine (isLetter_any _ _).mono ?_; rintro e w' ⟨rfl, rfl⟩; rw [hb])
        go_step3
        exact NJ.no hn.out
      · have h1 := Lib.hid ((Lets.zero s).succ hl hb)
        by_cases hz : s.size = 1
        · have hn := Lib.hid (nameB_of (s := s) (by omega) (by omega) (by rw [hz]; exact h1.out))
          have hq : ((1 : Int) == (s.size : Int)) = true := by simp [hz]
          clear hz
          go_wp2
          go_step3
          go_wp2_with (go_at_call 62; refine (isLetter_any _ _).mono ?_; rintro e w' ⟨rfl, rfl⟩; rw [hb])
          go_step3
          exact NJ.yes hn.out
        · have hq : ((1 : Int) == (s.size : Int)) = false := beq_false_of_ne (by omega)
          go_wp2
          go_step3
          go_wp2_with (go_at_call 62; refine (isLetter_any _ _).mono ?_; rintro e w' ⟨rfl, rfl⟩; rw [hb])
          go_step3
          exact NJ.on (k := 1) (by omega) (by omega) h1.out
  · rintro l a w' ⟨rfl, x3, u4, u5, u6, u7, u8, u9, u10, u11, u12, u13, u14, u15, u16, u17, u18, u19, rfl, ⟨rfl, hn⟩ | ⟨rfl, hn⟩ | ⟨rfl, k, rfl, hk, hk6, hl⟩⟩
    · have hn := Lib.hid hn
      refine ⟨_, rfl, ?_⟩
      go_wp2
      rw [gotosTo_ret]
      go_ret
      exact ⟨by rw [hn.out]; rfl, rfl⟩
    · have hn := Lib.hid hn
      refine ⟨_, rfl, ?_⟩
      go_wp2
      rw [gotosTo_ret]
      go_ret
      exact ⟨by rw [hn.out]; rfl, rfl⟩
    · refine ⟨_, rfl, ?_⟩
      have hM : NM 1 { tmps := #[.string s, undef, .bool false, .int .i64 (k : Int), u4, u5, u6, u7, u8, u9, u10, u11, u12, u13, u14, u15, u16, u17, u18, u19], defers := [] } w = 7 - k := by simp [NM, intOf]
      have HM := Lib.hid hM
      clear hM
      cases hb : letB (s[k].toNat : Int)
      · have hn := Lib.hid (nameB_bad hk hb)
        go_wp2_with (go_at_call 62; refine (isLetter_any _ _).mono ?_; rintro e w' ⟨rfl, rfl⟩; rw [hb])
        go_step3
        exact ⟨NJ.no hn.out, by rw [HM.out]; simp [NM]; omega⟩
      · have h1 := Lib.hid (hl.succ hk hb)
        by_cases hz : k + 1 = s.size
        · have hn := Lib.hid (nameB_of (s := s) (by omega) (by omega) (by rw [← hz]; exact h1.out))
          have hq : (((k : Int) + 1) == (s.size : Int)) = true := by simp; omega
          clear hz
          go_wp2_with (go_at_call 62; refine (isLetter_any _ _).mono ?_; rintro e w' ⟨rfl, rfl⟩; rw [hb])
          go_step3
          exact ⟨NJ.yes hn.out, by rw [HM.out]; simp [NM]; omega⟩
        · have hq : (((k : Int) + 1) == (s.size : Int)) = false := beq_false_of_ne (by omega)
          by_cases h6 : k + 1 < 6
          · go_wp2_with (go_at_call 62; refine (isLetter_any _ _).mono ?_; rintro e w' ⟨rfl, rfl⟩; rw [hb])
            go_step3
            exact ⟨NJ.on (k := k + 1) (by omega) (by omega) h1.out, by rw [HM.out]; simp [NM, intOf]; omega⟩
          · have hn := Lib.hid (nameB_size (s := s) (by omega))
            go_wp2_with (go_at_call 62; refine (isLetter_any _ _).mono ?_; rintro e w' ⟨rfl, rfl⟩; rw [hb])
            go_step3
            go_wp2
            rw [gotosTo_ret]
            go_ret
            exact ⟨by rw [hn.out]; rfl, rfl⟩
end Go.Proofs.Ytbgklakhelcgcaa
