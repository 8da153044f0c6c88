/-
  Texts joined: Name, Rise, Base, Purs, Strs, PursLaw, Folk, FolkI, Order, FolkF, Pay, Own, Step, OwnRes, Book, MarkTwo, BookM, All, Down, MillS, MillV, Find, PartS, PartV, WaitS, BookS, BookT.
-/
import Derived.Test.YtoabpbdjffonlaaGreatDoorP1
import Derived.WalkMore
import Derived.ScopeJumps
import Derived.Laws.Cover1
import Derived.LoopN
import Derived.Lib.Hide
import Derived.StillTailTactics
import Derived.Deep.RegionHeld3
import Derived.Maps.AppendAt
import Derived.Deep.RegionLaw
import Derived.Deep.AppendLies
namespace Go.Proofs.YtoabpbdjffonlaaGreatDoor
open Go.ChangeShapes Go.WideShapes Go.ChangeAt Go.RowKit

/-- Is it a byte from a to z? -/
def letB (c : Int) : Bool := decide (97 ≤ c ∧ c ≤ 122)
theorem letB_true {c : Int} (h : letB c = true) : 97 ≤ c ∧ c ≤ 122 := by simpa [letB] using h
theorem letB_false {c : Int} (h : letB c = false) : c < 97 ∨ 122 < c := by
  simp only [letB, decide_eq_false_iff_not] at h; omega

/-- The first k bytes are letters. -/
def Lets (s : ByteArray) (k : Nat) : Prop := ∀ j (h : j < s.size), j < k → letB (s[j].toNat : Int) = true
instance (s : ByteArray) (k : Nat) : Decidable (Lets s k) := inferInstanceAs (Decidable (∀ j (h : j < s.size), j < k → letB (s[j].toNat : Int) = true))
/-- A name: 1 to 6 bytes of a to z. -/
def nameB (s : ByteArray) : Bool := decide (1 ≤ s.size ∧ s.size ≤ 6 ∧ Lets s s.size)

theorem nameB_of {s : ByteArray} (h1 : 1 ≤ s.size) (h2 : s.size ≤ 6) (h : Lets s s.size) : nameB s = true := by simp [nameB, h1, h2, h]
theorem nameB_true {s : ByteArray} (h : nameB s = true) : 1 ≤ s.size ∧ s.size ≤ 6 ∧ Lets s s.size := by simpa [nameB] using h
theorem nameB_size {s : ByteArray} (h : s.size = 0 ∨ 6 < s.size) : nameB s = false := by
  simp only [nameB, decide_eq_false_iff_not]; rintro ⟨h1, h2, _⟩; omega
theorem nameB_bad {s : ByteArray} {k : Nat} (hk : k < s.size) (h : letB (s[k].toNat : Int) = false) : nameB s = false := by
  simp only [nameB, decide_eq_false_iff_not]; rintro ⟨_, _, h3⟩; rw [h3 k hk hk] at h; cases h
theorem Lets.zero (s : ByteArray) : Lets s 0 := fun _ _ h => by omega
theorem Lets.succ {s : ByteArray} {k : Nat} (h : Lets s k) (hk : k < s.size) (hl : letB (s[k].toNat : Int) = true) : Lets s (k + 1) := by
  intro j hj hlt
  by_cases e : j = k
  · subst e; exact hl
  · exact h j hj (by omega)
theorem nameB_len {s : ByteArray} (h : Lets s s.size) : nameB s = inB 1 6 (s.size : Int) := by
  by_cases h1 : 1 ≤ s.size
  · by_cases h2 : s.size ≤ 6
    · rw [nameB_of h1 h2 h]; symm; simp [inB]; omega
    · rw [nameB_size (by omega)]; symm; simp [inB]; omega
  · rw [nameB_size (by omega)]; symm; simp [inB]; omega

set_option maxHeartbeats 1000000 in
set_option maxRecDepth 100000 in
theorem sNameOk_any (s : ByteArray) (w : World) (hs : s.size ≤ maxLen) :
    Calls Tryz.prog 54 #[.string s] w fun e w' => e = .returned (.bool (nameB s)) ∧ w = w' := by
  unfold maxLen at hs
  go_enter Tryz.func54, Tryz.ntmps54
  go_wp2
  go_loop [3] (fun i => ∃ k : Nat, k ≤ s.size ∧ i = .int .i64 k ∧ Lets s k) (fun i => s.size - (intOf i).toNat)
  case atStart => exact ⟨0, Nat.zero_le _, rfl, Lets.zero s⟩
  case round =>
    obtain ⟨k, hk, rfl, hl⟩ := hrel
    by_cases hlt : k < s.size
    · cases hb : letB (s[k].toNat : Int)
      · have hn := Lib.hid (nameB_bad hlt hb)
        rcases letB_false hb with h1 | h1
        · clear hb
          go_wp2
          go_ret
          exact ⟨by rw [hn.out]; rfl, rfl⟩
        · have h0 : ¬ (s[k].toNat : Int) < 97 := by omega
          clear hb
          go_wp2
          go_ret
          exact ⟨by rw [hn.out]; rfl, rfl⟩
      · have hl2 := hl.succ hlt hb
        obtain ⟨h0, h1⟩ := letB_true hb
        clear hb
        go_wp2
        go_round
        case rel => exact ⟨k + 1, by omega, by go_num, hl2⟩
        case measure => simp [intOf]; omega
    · obtain rfl : k = s.size := by omega
      have hn := Lib.hid (nameB_len hl)
      go_wp2_with (go_at_call 34; refine (l1In_any _ _ _ _).mono ?_; rintro e w' ⟨rfl, rfl⟩)
      go_ret
      exact ⟨by rw [hn.out]; rfl, rfl⟩

section
variable {P : Program} {a : Act} {w : World} {Q : Exit → Act → World → Prop}
/-- As Q; by a goto to label l: what J asks there. -/
def gotosTo (J : Nat → Act → World → Prop) (Q : Exit → Act → World → Prop) : Exit → Act → World → Prop
  | .goto l, a, w => J l a w
  | e, a, w => Q e a w
theorem gotosTo_ret {J : Nat → Act → World → Prop} : gotosTo J Q .ret a w = Q .ret a w := rfl

/-- A scope of as many labels as there are: what holds at every jump to each, and a measure that each pass from a label lowers. -/
theorem wp_scope_gotos {c : Code} (J : Nat → Act → World → Prop) (m : Nat → Act → World → Nat)
    (first : c.wp P (gotosTo J Q) a w)
    (pass : ∀ l a w, J l a w → ∃ rest, findLabel c l = some rest ∧ rest.wp P (gotosTo (fun l' a' w' => J l' a' w' ∧ m l' a' w' < m l a w) Q) a w) : (Code.scope c).wp P Q a w := by
  intro b k cs
  have key : ∀ n l a w, m l a w = n → J l a w → ∃ rest, findLabel c l = some rest ∧ ∃ e a' w', Q e a' w' ∧ Arrives P (lone (b.at a (.code rest :: .inScope c :: k)) cs w) b k cs e a' w' := by
    intro n
    induction n using Nat.strongRecOn with
    | _ n ih =>
      intro l a w hn hJ
      obtain ⟨rest, hf, hp⟩ := pass l a w hJ
      refine ⟨rest, hf, ?_⟩
      obtain ⟨e, a1, w1, hq, harr⟩ := hp b (.inScope c :: k) cs
      cases e with
      | normal => exact ⟨.normal, a1, w1, hq, Steps.trans harr (.one step_inScope)⟩
      | exit id => exact ⟨.exit id, a1, w1, hq, fun k' hk => harr k' (by simp [exitTo, hk])⟩
      | goto l' =>
        obtain ⟨hJ', hlt⟩ := hq
        obtain ⟨rest', hf', e2, a2, w2, hq2, harr2⟩ := ih _ (by omega) l' a1 w1 rfl hJ'
        exact ⟨e2, a2, w2, hq2, .of_steps (harr _ (by simp [gotoIn, hf'])) harr2⟩
      | ret => exact ⟨_, a1, w1, hq, harr⟩
      | panic ch => exact ⟨_, a1, w1, hq, harr⟩
      | outgrown => exact ⟨_, a1, w1, hq, harr⟩
  obtain ⟨e, a1, w1, hq, harr⟩ := first b (.inScope c :: k) cs
  cases e with
  | normal => exact ⟨.normal, a1, w1, hq, .head step_scope (Steps.trans harr (.one step_inScope))⟩
  | exit id => exact ⟨.exit id, a1, w1, hq, fun k' hk => .head step_scope (harr k' (by simp [exitTo, hk]))⟩
  | goto l' =>
    obtain ⟨rest', hf', e2, a2, w2, hq2, harr2⟩ := key _ l' a1 w1 rfl hq
    exact ⟨e2, a2, w2, hq2, .of_steps (.head step_scope (harr _ (by simp [gotoIn, hf']))) harr2⟩
  | ret => exact ⟨_, a1, w1, hq, .of_steps (.one step_scope) harr⟩
  | panic ch => exact ⟨_, a1, w1, hq, .of_steps (.one step_scope) harr⟩
  | outgrown => exact ⟨_, a1, w1, hq, .of_steps (.one step_scope) harr⟩
end

theorem isLetter_any (c : Int) (w : World) :
    Calls Tryz.prog 68 #[.int .u8 c] w fun e w' => e = .returned (.bool (letB c)) ∧ w = w' := by
  by_cases h : 97 ≤ c
  · by_cases h2 : c ≤ 122
    · have hb : letB c = true := by simp [letB, h, h2]
      rw [hb]; clear hb
      go_enter Tryz.func68, Tryz.ntmps68
      go_wp2
      go_ret
      exact ⟨rfl, rfl⟩
    · have hb : letB c = false := by simp [letB, h2]
      rw [hb]; clear hb
      go_enter Tryz.func68, Tryz.ntmps68
      go_wp2
      go_ret
      exact ⟨rfl, rfl⟩
  · have hb : letB c = false := by simp [letB, h]
    rw [hb]; clear hb
    go_enter Tryz.func68, Tryz.ntmps68
    go_wp2
    go_ret
    exact ⟨rfl, rfl⟩

/-- What holds at each jump: label 0: it is no name; label 2: it is one; label 1: byte k is there, and all ahead of it are letters. -/
def NJ (s : ByteArray) (w : World) (l : Nat) (a : Act) (w' : World) : Prop :=
  w = w' ∧ ∃ x3 u4 u5 u6 u7 u8 u9 u10 u11 u12 u13 u14 u15 u16 u17 u18 u19 : Value, a = { tmps := #[.string s, undef, .bool false, x3, u4, u5, u6, u7, u8, u9, u10, u11, u12, u13, u14, u15, u16, u17, u18, u19], defers := [] } ∧
    ((l = 0 ∧ nameB s = false) ∨ (l = 2 ∧ nameB s = true) ∨ (l = 1 ∧ ∃ k : Nat, x3 = .int .i64 k ∧ k < s.size ∧ k < 6 ∧ Lets s k))
def NM (l : Nat) (a : Act) (_ : World) : Nat := if l = 1 then 7 - (intOf (a.tmps.getD 3 undef)).toNat else 0

theorem NJ.no {s : ByteArray} {w : World} {x3 u4 u5 u6 u7 u8 u9 u10 u11 u12 u13 u14 u15 u16 u17 u18 u19 : Value} (h : nameB s = false) : NJ s w 0 { tmps := #[.string s, undef, .bool false, x3, u4, u5, u6, u7, u8, u9, u10, u11, u12, u13, u14, u15, u16, u17, u18, u19], defers := [] } w :=
  ⟨rfl, x3, u4, u5, u6, u7, u8, u9, u10, u11, u12, u13, u14, u15, u16, u17, u18, u19, rfl, .inl ⟨rfl, h⟩⟩
theorem NJ.yes {s : ByteArray} {w : World} {x3 u4 u5 u6 u7 u8 u9 u10 u11 u12 u13 u14 u15 u16 u17 u18 u19 : Value} (h : nameB s = true) : NJ s w 2 { tmps := #[.string s, undef, .bool false, x3, u4, u5, u6, u7, u8, u9, u10, u11, u12, u13, u14, u15, u16, u17, u18, u19], defers := [] } w :=
  ⟨rfl, x3, u4, u5, u6, u7, u8, u9, u10, u11, u12, u13, u14, u15, u16, u17, u18, u19, rfl, .inr (.inl ⟨rfl, h⟩)⟩
theorem NJ.on {s : ByteArray} {w : World} {k : Nat} {u4 u5 u6 u7 u8 u9 u10 u11 u12 u13 u14 u15 u16 u17 u18 u19 : Value} (h1 : k < s.size) (h2 : k < 6) (h : Lets s k) : NJ s w 1 { tmps := #[.string s, undef, .bool false, .int .i64 k, u4, u5, u6, u7, u8, u9, u10, u11, u12, u13, u14, u15, u16, u17, u18, u19], defers := [] } w :=
  ⟨rfl, _, u4, u5, u6, u7, u8, u9, u10, u11, u12, u13, u14, u15, u16, u17, u18, u19, rfl, .inr (.inr ⟨rfl, k, rfl, h1, h2, h⟩)⟩

set_option maxRecDepth 100000 in
set_option maxHeartbeats 1000000 in
set_option maxRecDepth 100000 in
theorem iNameOk_any (s : ByteArray) (w : World) (hs : s.size ≤ maxLen) :
    Calls Tryz.prog 60 #[.string s] w fun e w' => e = .returned (.bool (nameB s)) ∧ w = w' := by
  unfold maxLen at hs
  go_enter Tryz.func60, Tryz.ntmps60
  go_wp2
  refine wp_scope_gotos (NJ s w) NM ?_ ?_
  · by_cases h0 : s.size = 0
    · have hn := Lib.hid (nameB_size (Or.inl h0))
      go_wp2
      go_step3
      exact NJ.no hn.out
    · have hl : 0 < s.size := by omega
      cases hb : letB (s[0].toNat : Int)
      · have hn := Lib.hid (nameB_bad hl hb)
        go_wp2
        go_step3
        go_wp2_with (go_at_call 68; refine (isLetter_any _ _).mono ?_; rintro e w' ⟨rfl, rfl⟩; rw [hb])
        go_step3
        exact NJ.no hn.out
      · have h1 := Lib.hid ((Lets.zero s).succ hl hb)
        by_cases hz : s.size = 1
        · have hn := Lib.hid (nameB_of (s := s) (by omega) (by omega) (by rw [hz]; exact h1.out))
          have hq : ((1 : Int) == (s.size : Int)) = true := by simp [hz]
          clear hz
          go_wp2
          go_step3
          go_wp2_with (go_at_call 68; refine (isLetter_any _ _).mono ?_; rintro e w' ⟨rfl, rfl⟩; rw [hb])
          go_step3
          exact NJ.yes hn.out
        · have hq : ((1 : Int) == (s.size : Int)) = false := beq_false_of_ne (by omega)
          go_wp2
          go_step3
          go_wp2_with (go_at_call 68; refine (isLetter_any _ _).mono ?_; rintro e w' ⟨rfl, rfl⟩; rw [hb])
          go_step3
          exact NJ.on (k := 1) (by omega) (by omega) h1.out
  · rintro l a w' ⟨rfl, x3, u4, u5, u6, u7, u8, u9, u10, u11, u12, u13, u14, u15, u16, u17, u18, u19, rfl, ⟨rfl, hn⟩ | ⟨rfl, hn⟩ | ⟨rfl, k, rfl, hk, hk6, hl⟩⟩
    · have hn := Lib.hid hn
      refine ⟨_, rfl, ?_⟩
      go_wp2
      rw [gotosTo_ret]
      go_ret
      exact ⟨by rw [hn.out]; rfl, rfl⟩
    · have hn := Lib.hid hn
      refine ⟨_, rfl, ?_⟩
      go_wp2
      rw [gotosTo_ret]
      go_ret
      exact ⟨by rw [hn.out]; rfl, rfl⟩
    · refine ⟨_, rfl, ?_⟩
      have hM : NM 1 { tmps := #[.string s, undef, .bool false, .int .i64 (k : Int), u4, u5, u6, u7, u8, u9, u10, u11, u12, u13, u14, u15, u16, u17, u18, u19], defers := [] } w = 7 - k := by simp [NM, intOf]
      have HM := Lib.hid hM
      clear hM
      cases hb : letB (s[k].toNat : Int)
      · have hn := Lib.hid (nameB_bad hk hb)
        go_wp2_with (go_at_call 68; refine (isLetter_any _ _).mono ?_; rintro e w' ⟨rfl, rfl⟩; rw [hb])
        go_step3
        exact ⟨NJ.no hn.out, by rw [HM.out]; simp [NM]; omega⟩
      · have h1 := Lib.hid (hl.succ hk hb)
        by_cases hz : k + 1 = s.size
        · have hn := Lib.hid (nameB_of (s := s) (by omega) (by omega) (by rw [← hz]; exact h1.out))
          have hq : (((k : Int) + 1) == (s.size : Int)) = true := by simp; omega
          clear hz
          go_wp2_with (go_at_call 68; refine (isLetter_any _ _).mono ?_; rintro e w' ⟨rfl, rfl⟩; rw [hb])
          go_step3
          exact ⟨NJ.yes hn.out, by rw [HM.out]; simp [NM]; omega⟩
        · have hq : (((k : Int) + 1) == (s.size : Int)) = false := beq_false_of_ne (by omega)
          by_cases h6 : k + 1 < 6
          · go_wp2_with (go_at_call 68; refine (isLetter_any _ _).mono ?_; rintro e w' ⟨rfl, rfl⟩; rw [hb])
            go_step3
            exact ⟨NJ.on (k := k + 1) (by omega) (by omega) h1.out, by rw [HM.out]; simp [NM, intOf]; omega⟩
          · have hn := Lib.hid (nameB_size (s := s) (by omega))
            go_wp2_with (go_at_call 68; refine (isLetter_any _ _).mono ?_; rintro e w' ⟨rfl, rfl⟩; rw [hb])
            go_step3
            go_wp2
            rw [gotosTo_ret]
            go_ret
            exact ⟨by rw [hn.out]; rfl, rfl⟩
end Go.Proofs.YtoabpbdjffonlaaGreatDoor
namespace Go.Proofs.YtoabpbdjffonlaaGreatDoor
open Go.ChangeShapes Go.WideShapes Go.ChangeAt Go.RowKit

/-- The one of that number. -/
def sat (ss : List ByteArray) (j : Nat) : ByteArray := ss.getD j ByteArray.empty
theorem sat_eq {ss : List ByteArray} {j : Nat} (h : j < ss.length) : sat ss j = ss[j] := by simp [sat, h]
/-- Is a no greater than b, byte by byte? -/
def leqB (a b : ByteArray) : Bool := Op.bytesLess a.toList b.toList || a.toList == b.toList
/-- The first n are names, each greater than the one ahead. -/
def Up (ss : List ByteArray) (n : Nat) : Prop :=
  (∀ j, j < n → nameB (sat ss j) = true) ∧ ∀ j, j < n - 1 → leqB (sat ss (j + 1)) (sat ss j) = false
instance (ss : List ByteArray) (n : Nat) : Decidable (Up ss n) :=
  inferInstanceAs (Decidable ((∀ j, j < n → nameB (sat ss j) = true) ∧ ∀ j, j < n - 1 → leqB (sat ss (j + 1)) (sat ss j) = false))
theorem Up.zero (ss : List ByteArray) : Up ss 0 := ⟨fun _ h => by omega, fun _ h => by omega⟩
theorem Up.one {ss : List ByteArray} (h : nameB (sat ss 0) = true) : Up ss 1 :=
  ⟨fun j hj => by obtain rfl : j = 0 := by omega
                  exact h, fun _ h => by omega⟩
theorem Up.succ {ss : List ByteArray} {k : Nat} (h : Up ss (k + 1)) (h1 : nameB (sat ss (k + 1)) = true) (h2 : leqB (sat ss (k + 1)) (sat ss k) = false) : Up ss (k + 2) :=
  ⟨fun j hj => by
    by_cases e : j = k + 1
    · subst e; exact h1
    · exact h.1 j (by omega), fun j hj => by
    by_cases e : j = k
    · subst e; exact h2
    · exact h.2 j (by omega)⟩
theorem strs_sat {w : World} {a : Option Addr} {ss : List ByteArray} (h : Strs w a ss) (k : Nat) (hk : k < ss.length) :
    ∃ b off, a = some ⟨b, off, none⟩ ∧ w.cell? ⟨b, off + k, none⟩ = some (.string (sat ss k)) := by
  obtain ⟨b, off, e, _, hc⟩ := h.at k hk
  exact ⟨b, off, e, by rw [sat_eq hk]; exact hc⟩

def Sized (ss : List ByteArray) : Prop := ∀ k, (sat ss k).size ≤ maxLen
theorem Sized.of {ss : List ByteArray} {n : Nat} (h : ∀ s ∈ ss, s.size ≤ n) (hn : n ≤ maxLen) : Sized ss := by
  intro k
  by_cases hk : k < ss.length
  · rw [sat_eq hk]; exact Nat.le_trans (h _ (List.getElem_mem hk)) hn
  · have : sat ss k = ByteArray.empty := by simp [sat, hk]
    rw [this]; exact Nat.zero_le _

/-- It is none of the first n. -/
def Out (ss : List ByteArray) (s : ByteArray) (n : Nat) : Prop := ∀ j, j < n → ((sat ss j).toList == s.toList) = false
theorem Out.zero (ss : List ByteArray) (s : ByteArray) : Out ss s 0 := fun _ h => by omega
theorem Out.succ {ss : List ByteArray} {s : ByteArray} {k : Nat} (h : Out ss s k) (h1 : ((sat ss k).toList == s.toList) = false) : Out ss s (k + 1) := by
  intro j hj
  by_cases e : j = k
  · subst e; exact h1
  · exact h j (by omega)
/-- Where it is first, from the front on, among the first n. -/
def placeUp (ss : List ByteArray) (s : ByteArray) : Nat → Int
  | 0 => -1
  | n + 1 => if placeUp ss s n = -1 then (if (sat ss n).toList == s.toList then (n : Int) else -1) else placeUp ss s n
def placeV (ss : List ByteArray) (s : ByteArray) : Int := placeUp ss s ss.length
theorem placeUp_out {ss : List ByteArray} {s : ByteArray} : ∀ {n : Nat}, Out ss s n → placeUp ss s n = -1
  | 0, _ => rfl
  | n + 1, h => by
    rw [placeUp, if_pos (placeUp_out fun j hj => h j (by omega)), h n (by omega)]; rfl
theorem placeUp_in {ss : List ByteArray} {s : ByteArray} {k : Nat} (h : Out ss s k) (hk : ((sat ss k).toList == s.toList) = true) : ∀ m, placeUp ss s (k + 1 + m) = k
  | 0 => by rw [Nat.add_zero, placeUp, if_pos (placeUp_out h), hk]; rfl
  | m + 1 => by
    have := placeUp_in h hk m
    rw [← Nat.add_assoc, placeUp, this, if_neg (by omega)]
theorem place_out {ss : List ByteArray} {s : ByteArray} (h : Out ss s ss.length) : placeV ss s = -1 := placeUp_out h
theorem place_in {ss : List ByteArray} {s : ByteArray} {k : Nat} (hk : k < ss.length) (h : Out ss s k) (he : ((sat ss k).toList == s.toList) = true) : placeV ss s = k := by
  have := placeUp_in h he (ss.length - (k + 1))
  rwa [show k + 1 + (ss.length - (k + 1)) = ss.length by omega] at this
theorem beq_turn {x y : List UInt8} {t : Bool} (h : (x == y) = t) : (y == x) = t := by
  rw [← h, Bool.eq_iff_iff, beq_iff_eq, beq_iff_eq]
  exact ⟨fun e => e.symm, fun e => e.symm⟩

set_option maxHeartbeats 1000000 in
set_option maxRecDepth 100000 in
theorem l1At_any {w : World} {a : Option Addr} {ss : List ByteArray} (cap : Nat) (s : ByteArray) (h : Strs w a ss) (hl : ss.length ≤ 9223372036854775807) :
    Calls Tryz.prog 29 #[.slice a ss.length cap, .string s] w fun e w' => e = .returned (.int .i64 (placeV ss s)) ∧ w = w' := by
  have H := Lib.hid h
  clear h
  go_enter Tryz.func29, Tryz.ntmps29
  go_wp2
  go_loop [5] (fun i => ∃ k : Nat, k ≤ ss.length ∧ i = .int .i64 k ∧ Out ss s k) (fun i => ss.length - (intOf i).toNat)
  case atStart => exact ⟨0, Nat.zero_le _, rfl, Out.zero ss s⟩
  case round =>
    obtain ⟨k, hk, rfl, hu⟩ := hrel
    have HU := Lib.hid hu
    clear hu
    by_cases hlt : k < ss.length
    · obtain ⟨b, off, rfl, hc⟩ := strs_sat H.out k hlt
      cases hq : ((sat ss k).toList == s.toList)
      · have HN := Lib.hid (HU.out.succ hq)
        go_wp2
        go_round
        case rel => exact ⟨k + 1, by omega, by go_num, HN.out⟩
        case measure => simp [intOf]; omega
      · have HN := Lib.hid (place_in hlt HU.out hq)
        go_wp2
        go_ret
        exact ⟨by rw [HN.out]; rfl, rfl⟩
    · obtain rfl : k = ss.length := by omega
      have HN := Lib.hid (place_out HU.out)
      go_wp2
      go_ret
      exact ⟨by rw [HN.out]; rfl, rfl⟩

theorem placeUp_bd (ss : List ByteArray) (s : ByteArray) : ∀ n, -1 ≤ placeUp ss s n ∧ placeUp ss s n < n
  | 0 => by simp [placeUp]
  | n + 1 => by
    have := placeUp_bd ss s n
    rw [placeUp]
    split
    · split <;> omega
    · omega

end Go.Proofs.YtoabpbdjffonlaaGreatDoor
namespace Go.Proofs.YtoabpbdjffonlaaGreatDoor
open Go.ChangeShapes Go.WideShapes Go.ChangeAt Go.RowKit

end Go.Proofs.YtoabpbdjffonlaaGreatDoor
namespace Go.Proofs.YtoabpbdjffonlaaGreatDoor
open Go.ChangeShapes Go.WideShapes Go.ChangeAt Go.RowKit

/-- A purse. -/
structure Pur where
  name : ByteArray
  free : Int
def Pur.cells (p : Pur) : List Value := [.string p.name, .int .i64 p.free]
/-- All their cells, one behind the other. -/
def pcells : List Pur → List Value
  | [] => []
  | p :: r => .string p.name :: .int .i64 p.free :: pcells r
/-- These purses lie one behind the other from a on. -/
def Purs (w : World) (a : Option Addr) (ps : List Pur) : Prop := Lies w a (pcells ps)

theorem pcells_length : ∀ ps : List Pur, (pcells ps).length = ps.length * 2
  | [] => rfl
  | p :: r => by simp [pcells, pcells_length r]; omega
theorem pcells_name : ∀ (ps : List Pur) (k : Nat) (h : k < ps.length), (pcells ps)[k * 2]? = some (.string ps[k].name)
  | p :: r, 0, _ => rfl
  | p :: r, k + 1, h => by
    have := pcells_name r k (by simpa using h)
    rw [show (k + 1) * 2 = k * 2 + 2 by omega]
    simpa [pcells] using this
theorem pcells_free : ∀ (ps : List Pur) (k : Nat) (h : k < ps.length), (pcells ps)[k * 2 + 1]? = some (.int .i64 ps[k].free)
  | p :: r, 0, _ => rfl
  | p :: r, k + 1, h => by
    have := pcells_free r k (by simpa using h)
    rw [show (k + 1) * 2 + 1 = k * 2 + 1 + 2 by omega]
    simpa [pcells] using this
theorem Purs.at {w : World} {a : Option Addr} {ps : List Pur} (h : Purs w a ps) (k : Nat) (hk : k < ps.length) :
    ∃ b off, a = some ⟨b, off, none⟩ ∧ b < w.heap.size ∧ w.cell? ⟨b, off + k * 2, none⟩ = some (.string ps[k].name) ∧ w.cell? ⟨b, off + k * 2 + 1, none⟩ = some (.int .i64 ps[k].free) := by
  obtain ⟨b, off, e, hc⟩ := h _ _ (pcells_name ps k hk)
  obtain ⟨b', off', e', hc'⟩ := h _ _ (pcells_free ps k hk)
  rw [e] at e'; injection e' with e'; injection e' with e1 e2; subst e1; subst e2
  exact ⟨b, off, e, at_lt hc, hc, by rw [Nat.add_assoc]; exact hc'⟩
theorem Purs.below {w w' : World} {a : Option Addr} {ps : List Pur} (h : Purs w a ps) (hb : Below w.heap.size w w') : Purs w' a ps := Lies.below h hb

/-- Their names. -/
def pnames (ps : List Pur) : List ByteArray := ps.map Pur.name
end Go.Proofs.YtoabpbdjffonlaaGreatDoor
namespace Go.Proofs.YtoabpbdjffonlaaGreatDoor
open Go.ChangeShapes Go.WideShapes Go.ChangeAt Go.RowKit

end Go.Proofs.YtoabpbdjffonlaaGreatDoor
namespace Go.Proofs.YtoabpbdjffonlaaGreatDoor
open Go.ChangeShapes Go.WideShapes Go.ChangeAt Go.RowKit

end Go.Proofs.YtoabpbdjffonlaaGreatDoor
namespace Go.Proofs.YtoabpbdjffonlaaGreatDoor
open Go.ChangeShapes Go.WideShapes Go.ChangeAt Go.RowKit

/-- The first n are amounts. -/
def Amts (ps : List Pur) (n : Nat) : Prop := ∀ j (h : j < ps.length), j < n → inB 0 1000000 ps[j].free = true
instance (ps : List Pur) (n : Nat) : Decidable (Amts ps n) := inferInstanceAs (Decidable (∀ j (h : j < ps.length), j < n → inB 0 1000000 ps[j].free = true))
theorem Amts.zero (ps : List Pur) : Amts ps 0 := fun _ _ h => by omega
theorem Amts.succ {ps : List Pur} {k : Nat} (h : Amts ps k) (hk : k < ps.length) (h1 : inB 0 1000000 ps[k].free = true) : Amts ps (k + 1) := by
  intro j hj hlt
  by_cases e : j = k
  · subst e; exact h1
  · exact h j hj (by omega)
end Go.Proofs.YtoabpbdjffonlaaGreatDoor
namespace Go.Proofs.YtoabpbdjffonlaaGreatDoor
open Go.ChangeShapes Go.WideShapes Go.ChangeAt Go.RowKit

end Go.Proofs.YtoabpbdjffonlaaGreatDoor
namespace Go.Proofs.YtoabpbdjffonlaaGreatDoor
open Go.ChangeShapes Go.WideShapes Go.ChangeAt Go.RowKit

theorem placeUp_hit {ss : List ByteArray} {s : ByteArray} : ∀ {n : Nat}, 0 ≤ placeUp ss s n → ∃ k : Nat, placeUp ss s n = (k : Int) ∧ k < n ∧ ((sat ss k).toList == s.toList) = true
  | 0, h => by simp [placeUp] at h
  | n + 1, h => by
    rw [placeUp] at h ⊢
    by_cases h1 : placeUp ss s n = -1
    · rw [if_pos h1] at h ⊢
      cases h2 : ((sat ss n).toList == s.toList)
      · rw [h2] at h; simp at h
      · exact ⟨n, by simp, by omega, h2⟩
    · rw [if_neg h1] at h ⊢
      obtain ⟨k, e, hk, hq⟩ := placeUp_hit (n := n) h
      exact ⟨k, e, by omega, hq⟩
theorem place_hit {ss : List ByteArray} {s : ByteArray} (h : 0 ≤ placeV ss s) : ∃ k : Nat, placeV ss s = (k : Int) ∧ k < ss.length ∧ ((sat ss k).toList == s.toList) = true := placeUp_hit h
end Go.Proofs.YtoabpbdjffonlaaGreatDoor
namespace Go.Proofs.YtoabpbdjffonlaaGreatDoor
open Go.ChangeShapes Go.WideShapes Go.ChangeAt Go.RowKit

end Go.Proofs.YtoabpbdjffonlaaGreatDoor
namespace Go.Proofs.YtoabpbdjffonlaaGreatDoor
open Go.ChangeShapes Go.WideShapes Go.ChangeAt Go.RowKit

section
variable {ps : List Pur} {s : ByteArray} {n d : Int}
end

theorem Lies.set {w : World} {b off j : Nat} {xs : List Value} (h : Lies w (some ⟨b, off, none⟩) xs) (v : Value) : Lies (w.setCell ⟨b, off + j, none⟩ v) (some ⟨b, off, none⟩) (xs.set j v) := by
  intro k u hk
  refine ⟨b, off, rfl, ?_⟩
  have hkl : k < xs.length := by have := (List.getElem?_eq_some_iff.1 hk).1; simpa using this
  obtain ⟨b', off', e, hc⟩ := h k xs[k] (List.getElem?_eq_getElem hkl)
  injection e with e; injection e with e1 e2; subst e1; subst e2
  by_cases e : j = k
  · subst e
    rw [List.getElem?_set_self hkl] at hk
    injection hk with hk
    subst hk
    rw [World.cell?_setCell_same _ _ _ hc]
  · rw [List.getElem?_set_ne e, List.getElem?_eq_getElem hkl] at hk
    injection hk with hk
    subst hk
    rw [World.cell?_setCell_other _ _ _ _ (by intro q; injection q with _ q; exact e (by omega))]
    exact hc

end Go.Proofs.YtoabpbdjffonlaaGreatDoor
namespace Go.Proofs.YtoabpbdjffonlaaGreatDoor
open Go.ChangeShapes Go.WideShapes Go.ChangeAt Go.RowKit

/-- A list that lies in a block of its own, from block B on, and may be written. -/
def OwnP (w : World) (B : Nat) (a : Option Addr) (ps : List Pur) : Prop :=
  Purs w a ps ∧ (ps = [] ∨ ∃ b, a = some ⟨b, 0, none⟩ ∧ B ≤ b ∧ b < w.heap.size ∧ Mine w b 0 (ps.length * 2))
theorem OwnP.below {w w' : World} {B : Nat} {a : Option Addr} {ps : List Pur} (h : OwnP w B a ps) (hb : Below w.heap.size w w') : OwnP w' B a ps := by
  refine ⟨h.1.below hb, ?_⟩
  rcases h.2 with h0 | ⟨b, e, h1, h2, hm⟩
  · exact .inl h0
  · exact .inr ⟨b, e, h1, Nat.lt_of_lt_of_le h2 hb.size, hm.below h2 hb⟩
theorem OwnP.grown {w w' : World} {B x : Nat} {a : Option Addr} {ps : List Pur} (h : OwnP w B a ps) (hg : w.grownBy w' (some x)) (hx : x < B) : OwnP w' B a ps := by
  rcases h.2 with rfl | ⟨b, rfl, h1, h2, hm⟩
  · exact ⟨Lies.nil _ _, .inl rfl⟩
  · have hne : some b ≠ some x := by intro e; injection e with e; omega
    refine ⟨?_, .inr ⟨b, rfl, h1, Nat.lt_of_lt_of_le h2 hg.size, hm.grown h2 hg hne⟩⟩
    intro k v hk
    obtain ⟨b', off, e, hc⟩ := h.1 k v hk
    injection e with e; injection e with e1 e2; subst e1; subst e2
    exact ⟨b, 0, rfl, by rw [grown_keeps hg h2 hne]; exact hc⟩
theorem OwnP.mono {w : World} {B B' : Nat} {a : Option Addr} {ps : List Pur} (h : OwnP w B a ps) (hB : B' ≤ B) : OwnP w B' a ps := by
  refine ⟨h.1, ?_⟩
  rcases h.2 with h0 | ⟨b, e, h1, h2, hm⟩
  · exact .inl h0
  · exact .inr ⟨b, e, by omega, h2, hm⟩
theorem Purs.under {w w' : World} {B : Nat} {a : Option Addr} {ps : List Pur} (h : Purs w a ps) (hb : Below B w w') (hB : ∀ b off, a = some ⟨b, off, none⟩ → 0 < ps.length → b < B) : Purs w' a ps :=
  Lies.under h hb (fun b off e hl => hB b off e (by rw [pcells_length] at hl; omega))
theorem Purs.old {w : World} {a : Option Addr} {ps : List Pur} (h : Purs w a ps) : ∀ b off, a = some ⟨b, off, none⟩ → 0 < ps.length → b < w.heap.size :=
  fun b off e hl => Lies.old h b off e (by rw [pcells_length]; omega)

end Go.Proofs.YtoabpbdjffonlaaGreatDoor
namespace Go.Proofs.YtoabpbdjffonlaaGreatDoor
open Go.ChangeShapes Go.WideShapes Go.ChangeAt Go.RowKit

/-- What append leaves. -/
def Appended (w : World) (base : Nat) (e : TypeId) (size g n : Nat) (xs : List Value) (g' c' : Nat) (w' : World) : Prop :=
  w'.ownsRow base e size (.slice (some ⟨g', 0, none⟩) n c') n xs ∧ w.grownBy w' (some g) ∧ base ≤ g ∧ g < w.heap.size ∧ g' < w'.heap.size ∧ (g' = g ∨ g' = w.heap.size)
section
variable {P : Program} {w : World}
/-- append onto a row of the call's own, of which the address is known. -/
theorem run_append_some (base : Nat) (t ty e : TypeId) (i : TypeInfo) (z : Value) (size bytes : Nat) (ht : P.underlying t = some (.slice e)) (hi : P.info? e = some i) (hz : i.zero = some z)
    (hsize : i.size = size) (hby : i.bytes = bytes) (hzs : z.cells.size = size) (hsz : 0 < size)
    (g c0 n : Nat) (xs : List Value) (hown : w.ownsRow base e size (.slice (some ⟨g, 0, none⟩) n c0) n xs)
    (ad : Addr) (m c : Nat) (news : List Value) (hl : news.length = m * size) (hnews : ∀ j u, news[j]? = some u → w.cell? (ad.add j) = some u) (h1 : ∀ u ∈ news, u.oneCell' = true)
    (h63 : n + m ≤ maxLen) (hbytes : (n + m) * bytes ≤ 140737488355328) :
    ∃ g' c' w', (Builtin.append_ #[t, t] ty #[.slice (some ⟨g, 0, none⟩) n c0, .slice (some ad) m c]).run P w = .ok (.slice (some ⟨g', 0, none⟩) (n + m) c') w' ∧
      w'.ownsRow base e size (.slice (some ⟨g', 0, none⟩) (n + m) c') (n + m) (xs ++ news) ∧ w.grownBy w' (some g) ∧ base ≤ g ∧ g < w.heap.size ∧ g' < w'.heap.size ∧ (g' = g ∨ g' = w.heap.size) := by
  obtain ⟨hb, hlt⟩ := hown.lt g rfl
  obtain ⟨v', w', hr, ho, hgr, hn, hat⟩ := run_append_own_at (P := P) w base t ty e i z size bytes ht hi hz hsize hby hzs hsz _ n xs hown ad m c news hl hnews h1 h63 hbytes (by omega)
  rcases ho.2 with ⟨rfl, -⟩ | ⟨g', c', cur, rfl, -, hh, -⟩
  · exact absurd (hn.1 rfl).1 (by simp)
  · exact ⟨g', c', w', hr, ho, hgr, hb, hlt, (Array.getElem?_eq_some_iff.1 hh).1, by simpa [Value.ownBlock] using hat⟩

theorem wp_append_some {o : Oper} {a : Act} {K : Act → World → Prop} {Q : Exit → Act → World → Prop} (s x : Operand) (t : TypeId)
    (ho : o.op = .call { callee := .builtin .append, args := #[s, x], argTypes := #[t, t] })
    (base : Nat) (e : TypeId) (i : TypeInfo) (z : Value) (size bytes : Nat) (ht : P.underlying t = some (.slice e)) (hi : P.info? e = some i) (hz : i.zero = some z)
    (hsize : i.size = size) (hby : i.bytes = bytes) (hzs : z.cells.size = size) (hsz : 0 < size)
    (g c0 n : Nat) (xs : List Value) (hs : a.eval s = .slice (some ⟨g, 0, none⟩) n c0) (hown : w.ownsRow base e size (.slice (some ⟨g, 0, none⟩) n c0) n xs)
    (ad : Addr) (m c : Nat) (news : List Value) (hx : a.eval x = .slice (some ad) m c) (hl : news.length = m * size) (hnews : ∀ j u, news[j]? = some u → w.cell? (ad.add j) = some u) (h1 : ∀ u ∈ news, u.oneCell' = true)
    (h63 : n + m ≤ maxLen) (hbytes : (n + m) * bytes ≤ 140737488355328)
    (h : ∀ g' c' w', Appended w base e size g (n + m) (xs ++ news) g' c' w' → K (a.put o.dst (.slice (some ⟨g', 0, none⟩) (n + m) c')) w') : o.wp P a w K Q := by
  obtain ⟨g', c', w', hr, h2, h3, h4, h5, h6⟩ := run_append_some (P := P) (w := w) base t o.type e i z size bytes ht hi hz hsize hby hzs hsz g c0 n xs hown ad m c news hl hnews h1 h63 hbytes
  unfold Oper.wp execOp
  simp only [ho, resolve, invoke, builtin, Sem.run_bind, Sem.run_pure, Result.andThen_ok, List.map_toArray, List.map_cons, List.map_nil, hs, hx, hr]
  exact h g' c' w' ⟨h2, h3, h4, h5, h6⟩

theorem step_append_some {ops : Array Oper} {o : Oper} {a : Act} {K : Act → World → Prop} {Q : Exit → Act → World → Prop} {E : Prop} (hgd : o.guard = none) (s x : Operand) (t : TypeId)
    (ho : o.op = .call { callee := .builtin .append, args := #[s, x], argTypes := #[t, t] })
    (base : Nat) (e : TypeId) (i : TypeInfo) (z : Value) (size bytes : Nat) (ht : P.underlying t = some (.slice e)) (hi : P.info? e = some i) (hz : i.zero = some z)
    (hsize : i.size = size) (hby : i.bytes = bytes) (hzs : z.cells.size = size) (hsz : 0 < size)
    (g c0 n : Nat) (xs : List Value) (hs : a.eval s = .slice (some ⟨g, 0, none⟩) n c0) (hown : w.ownsRow base e size (.slice (some ⟨g, 0, none⟩) n c0) n xs)
    (ad : Addr) (m c : Nat) (news : List Value) (hx : a.eval x = .slice (some ad) m c) (hl : news.length = m * size) (hnews : ∀ j u, news[j]? = some u → w.cell? (ad.add j) = some u) (h1 : ∀ u ∈ news, u.oneCell' = true)
    (h63 : n + m ≤ maxLen) (hbytes : (n + m) * bytes ≤ 140737488355328)
    (h : ∀ g' c' w', Appended w base e size g (n + m) (xs ++ news) g' c' w' → K (a.put o.dst (.slice (some ⟨g', 0, none⟩) (n + m) c')) w') :
    if Region.wanted o (yielded ops a.tmps) = true then Oper.wp P o a w K Q else E := by
  have hw : Region.wanted o (yielded ops a.tmps) = true := by simp [Region.wanted, hgd]
  rw [if_pos hw]
  exact wp_append_some s x t ho base e i z size bytes ht hi hz hsize hby hzs hsz g c0 n xs hs hown ad m c news hx hl hnews h1 h63 hbytes h
end

theorem own_some {w : World} {base : Nat} {e : TypeId} {c g n cap m : Nat} {xs : List Value} (h : w.ownsRow base e c (.slice (some ⟨g, 0, none⟩) n cap) m xs) : n = m ∧ n ≤ cap ∧ cap ≤ maxLen ∧ base ≤ g ∧ g < w.heap.size := by
  rcases h.2 with ⟨h0, -⟩ | ⟨g', cap', cur, hv, hg, hh, hle, hm, hs, ht⟩
  · simp at h0
  · injection hv with e1 e2 e3
    injection e1 with e1
    injection e1 with e1
    subst e1; subst e2; subst e3
    exact ⟨rfl, hle, hm, hg, (Array.getElem?_eq_some_iff.1 hh).1⟩
end Go.Proofs.YtoabpbdjffonlaaGreatDoor
namespace Go.Proofs.YtoabpbdjffonlaaGreatDoor
open Go.ChangeShapes Go.WideShapes Go.ChangeAt Go.RowKit

section
variable {α : Type}
end
theorem RecAt.under {α : Type} {f : α → List Value} {w w' : World} {B B0 : Nat} {x : α} (h : RecAt f w B x) (hb : Below B0 w w') (hlt : B < B0) : RecAt f w' B x :=
  fun j v hj => by rw [hb.cell (p := ⟨B, j, none⟩) hlt]; exact h j v hj
end Go.Proofs.YtoabpbdjffonlaaGreatDoor
namespace Go.Proofs.YtoabpbdjffonlaaGreatDoor
open Go.ChangeShapes Go.WideShapes Go.ChangeAt Go.RowKit

/-- A book. -/
structure Bok where
  season : Int
  supply : Int
  burnt : Int
  pot : Int
  folk : List Pur
  mills : List Mil
  parts : List Par
  waits : List Wai
/-- Where its lists lie, and each one's room. -/
structure Spots where
  fa : Option Addr
  fc : Nat
  ma : Option Addr
  mc : Nat
  pa : Option Addr
  pc : Nat
  wa : Option Addr
  wc : Nat
/-- Its lists lie there. -/
structure BookAt (w : World) (b : Bok) (s : Spots) : Prop where
  folk : Purs w s.fa b.folk
  mills : Recs Mil.cs w s.ma b.mills
  parts : Recs Par.cs w s.pa b.parts
  waits : Recs Wai.cs w s.wa b.waits
theorem BookAt.below {w w' : World} {b : Bok} {s : Spots} (h : BookAt w b s) (hb : Below w.heap.size w w') : BookAt w' b s :=
  ⟨h.folk.below hb, h.mills.below hb, h.parts.below hb, h.waits.below hb⟩
theorem BookAt.draws {w : World} {b : Bok} {s : Spots} (h : BookAt w b s) (n : Nat) : BookAt (w.drewN n) b s :=
  ⟨h.folk, h.mills, h.parts, h.waits⟩
/-- Its lists are lists of a machine. -/
structure BFits (b : Bok) : Prop where
  fl : b.folk.length ≤ 9223372036854775807
  ml : b.mills.length ≤ 9223372036854775807
  pl : b.parts.length ≤ 9223372036854775807
  wl : b.waits.length ≤ 9223372036854775807
  fs : ∀ p ∈ b.folk, p.name.size ≤ 9223372036854775807
  ms : ∀ p ∈ b.mills, p.fits
  ps : ∀ p ∈ b.parts, p.fits
  ws : ∀ p ∈ b.waits, p.fits
/-- Its lists are not long. -/
structure BLen (b : Bok) : Prop where
  fl : b.folk.length ≤ 1048576
  ml : b.mills.length ≤ 1048576
  pl : b.parts.length ≤ 1048576
  wl : b.waits.length ≤ 1048576
/-- A block holds a book whose lists lie. -/
structure BoxB (w : World) (B : Nat) (b : Bok) (s : Spots) : Prop where
  book : BookAt w b s
  c0 : w.cell? ⟨B, 0, none⟩ = some (.int .i64 b.season)
  c1 : w.cell? ⟨B, 1, none⟩ = some (.int .i64 b.supply)
  c2 : w.cell? ⟨B, 2, none⟩ = some (.int .i64 b.burnt)
  c3 : w.cell? ⟨B, 3, none⟩ = some (.int .i64 b.pot)
  c4 : w.cell? ⟨B, 4, none⟩ = some (.slice s.fa b.folk.length s.fc)
  c5 : w.cell? ⟨B, 5, none⟩ = some (.slice s.ma b.mills.length s.mc)
  c6 : w.cell? ⟨B, 6, none⟩ = some (.slice s.pa b.parts.length s.pc)
  c7 : w.cell? ⟨B, 7, none⟩ = some (.slice s.wa b.waits.length s.wc)
theorem BoxB.lt {w : World} {B : Nat} {b : Bok} {s : Spots} (h : BoxB w B b s) : B < w.heap.size := at_lt h.c0
theorem BoxB.below {w w' : World} {B : Nat} {b : Bok} {s : Spots} (h : BoxB w B b s) (hb : Below w.heap.size w w') : BoxB w' B b s := by
  have k : ∀ o v, w.cell? ⟨B, o, none⟩ = some v → w'.cell? ⟨B, o, none⟩ = some v := fun o v hc => (hb.cell (p := ⟨B, o, none⟩) h.lt).trans hc
  exact ⟨h.book.below hb, k _ _ h.c0, k _ _ h.c1, k _ _ h.c2, k _ _ h.c3, k _ _ h.c4, k _ _ h.c5, k _ _ h.c6, k _ _ h.c7⟩
theorem BoxB.draws {w : World} {B : Nat} {b : Bok} {s : Spots} (h : BoxB w B b s) (n : Nat) : BoxB (w.drewN n) B b s :=
  ⟨h.book.draws n, h.c0, h.c1, h.c2, h.c3, h.c4, h.c5, h.c6, h.c7⟩
theorem BoxB.new {w : World} {b : Bok} {s : Spots} (h : BookAt w b s) (T : TypeId) :
    BoxB (w.alloc (.cells #[.int .i64 b.season, .int .i64 b.supply, .int .i64 b.burnt, .int .i64 b.pot, .slice s.fa b.folk.length s.fc, .slice s.ma b.mills.length s.mc, .slice s.pa b.parts.length s.pc, .slice s.wa b.waits.length s.wc] T)) w.heap.size b s := by
  have k : ∀ (o : Nat) v, (#[.int .i64 b.season, .int .i64 b.supply, .int .i64 b.burnt, .int .i64 b.pot, .slice s.fa b.folk.length s.fc, .slice s.ma b.mills.length s.mc, .slice s.pa b.parts.length s.pc, .slice s.wa b.waits.length s.wc] : Array Value)[o]? = some v → (w.alloc (.cells #[.int .i64 b.season, .int .i64 b.supply, .int .i64 b.burnt, .int .i64 b.pot, .slice s.fa b.folk.length s.fc, .slice s.ma b.mills.length s.mc, .slice s.pa b.parts.length s.pc, .slice s.wa b.waits.length s.wc] T)).cell? ⟨w.heap.size, o, none⟩ = some v := fun o v hv => by
    simp only [World.cell?, heap_alloc_new]; exact hv
  exact ⟨h.below (below_new _ _), k _ _ rfl, k _ _ rfl, k _ _ rfl, k _ _ rfl, k _ _ rfl, k _ _ rfl, k _ _ rfl, k _ _ rfl⟩

/-- Two lists that lie apart. -/
def ApartN (a1 a2 : Option Addr) (n1 n2 : Nat) : Prop := ∀ b1 b2, a1 = some ⟨b1, 0, none⟩ → a2 = some ⟨b2, 0, none⟩ → 0 < n1 → 0 < n2 → b1 ≠ b2
theorem ApartN.symm {a1 a2 : Option Addr} {n1 n2 : Nat} (h : ApartN a1 a2 n1 n2) : ApartN a2 a1 n2 n1 := fun b1 b2 e1 e2 h1 h2 e => h b2 b1 e2 e1 h2 h1 e.symm
theorem ApartN.lt {x y n1 n2 : Nat} (h : x < y) : ApartN (some ⟨x, 0, none⟩) (some ⟨y, 0, none⟩) n1 n2 := by
  intro b1 b2 e1 e2 _ _ e
  injection e1 with e1; injection e1 with e1; injection e2 with e2; injection e2 with e2
  omega
theorem ApartN.none1 {a : Option Addr} {b : Option Addr} {n : Nat} : ApartN a b 0 n := fun _ _ _ _ h => by omega
/-- A list's place: none at all, or the head of a block. -/
def Rooted (a : Option Addr) (cap : Nat) : Prop := (a = none ∧ cap = 0) ∨ ∃ x, a = some ⟨x, 0, none⟩
/-- Each list's place, and its room. -/
structure Roots (b : Bok) (s : Spots) : Prop where
  f : Rooted s.fa s.fc
  m : Rooted s.ma s.mc
  p : Rooted s.pa s.pc
  w : Rooted s.wa s.wc
  cf : b.folk.length ≤ s.fc
  cm : b.mills.length ≤ s.mc
  cp : b.parts.length ≤ s.pc
  cw : b.waits.length ≤ s.wc
/-- A book of the call's own: each list in a block of its own, from B on, no two in one. -/
structure OwnB (w : World) (B : Nat) (b : Bok) (s : Spots) : Prop where
  folk : OwnP w B s.fa b.folk
  mills : OwnR Mil.cs 5 w B s.ma b.mills
  parts : OwnR Par.cs 3 w B s.pa b.parts
  waits : OwnR Wai.cs 4 w B s.wa b.waits
  fm : ApartN s.fa s.ma b.folk.length b.mills.length
  fp : ApartN s.fa s.pa b.folk.length b.parts.length
  fw : ApartN s.fa s.wa b.folk.length b.waits.length
  mp : ApartN s.ma s.pa b.mills.length b.parts.length
  mw : ApartN s.ma s.wa b.mills.length b.waits.length
  pw : ApartN s.pa s.wa b.parts.length b.waits.length
  rt : Roots b s
theorem OwnB.at {w : World} {B : Nat} {b : Bok} {s : Spots} (h : OwnB w B b s) : BookAt w b s := ⟨h.folk.1, h.mills.1, h.parts.1, h.waits.1⟩
theorem OwnB.below {w w' : World} {B : Nat} {b : Bok} {s : Spots} (h : OwnB w B b s) (hb : Below w.heap.size w w') : OwnB w' B b s :=
  ⟨h.folk.below hb, h.mills.below hb, h.parts.below hb, h.waits.below hb, h.fm, h.fp, h.fw, h.mp, h.mw, h.pw, h.rt⟩

/-- Values in block O, from its head on, that may be written. -/
structure OutV (w : World) (O : Nat) (vs : List Value) : Prop where
  has : ∀ j v, vs[j]? = some v → w.cell? ⟨O, j, none⟩ = some v
  free : ∀ o, w.frozen? ⟨O, o, none⟩ = false
  lt : O < w.heap.size
theorem OutV.below {w w' : World} {O : Nat} {vs : List Value} (h : OutV w O vs) (hb : Below w.heap.size w w') : OutV w' O vs :=
  ⟨fun j v hj => (hb.cell (p := ⟨O, j, none⟩) h.lt).trans (h.has j v hj), fun o => (hb.frozen (p := ⟨O, o, none⟩) h.lt).trans (h.free o), Nat.lt_of_lt_of_le h.lt hb.size⟩
theorem OutV.set {w : World} {O : Nat} {vs : List Value} (h : OutV w O vs) (k : Nat) (v : Value) : OutV (w.setCell ⟨O, k, none⟩ v) O (vs.set k v) where
  has := fun j u hj => by
    have hlt : j < vs.length := by have := (List.getElem?_eq_some_iff.1 hj).1; simpa using this
    have hu := h.has j vs[j] (List.getElem?_eq_getElem hlt)
    by_cases e : j = k
    · subst e
      rw [List.getElem?_set_self hlt] at hj
      injection hj with hj; subst hj
      rw [World.cell?_setCell_same _ _ _ hu]
    · rw [List.getElem?_set_ne (by omega)] at hj
      rw [World.cell?_setCell_other _ _ _ _ (by intro q; injection q with _ q; exact e q.symm)]
      exact h.has j u hj
  free := fun o => by have := h.free o; go_simp
  lt := by have := h.lt; simpa [World.setCell] using this
theorem OutV.new (w : World) (vs : List Value) (T : TypeId) : OutV (w.alloc (.cells vs.toArray T)) w.heap.size vs :=
  ⟨fun j v hj => by simp only [World.cell?, heap_alloc_new]; simpa using hj, free_new _ _ _, by simp⟩

end Go.Proofs.YtoabpbdjffonlaaGreatDoor
namespace Go.Proofs.YtoabpbdjffonlaaGreatDoor
open Go.ChangeShapes Go.WideShapes Go.ChangeAt Go.RowKit

theorem OwnR.apart {α : Type} {f : α → List Value} {c : Nat} {w w' : World} {B x : Nat} {a : Option Addr} {xs : List α} (h : OwnR f c w B a xs) (hg : w.grownBy w' (some x)) (hne : ∀ b, a = some ⟨b, 0, none⟩ → xs ≠ [] → b ≠ x) : OwnR f c w' B a xs := by
  by_cases h0 : xs = []
  · subst h0; exact ⟨Lies.nil _ _, .inl rfl⟩
  rcases h.2 with e | ⟨b, rfl, h1, h2, hm⟩
  · exact absurd e h0
  · have hbx := hne b rfl h0
    have hn : some b ≠ some x := by intro e; injection e with e; exact hbx e
    refine ⟨?_, .inr ⟨b, rfl, h1, Nat.lt_of_lt_of_le h2 hg.size, hm.grown h2 hg hn⟩⟩
    intro k v hk
    obtain ⟨b', off, e, hc⟩ := h.1 k v hk
    injection e with e; injection e with e1 e2; subst e1; subst e2
    exact ⟨b, 0, rfl, by rw [grown_keeps hg h2 hn]; exact hc⟩
theorem grown_to {w w' : World} {B b : Nat} (hg : w.grownBy w' (some b)) (hB : B ≤ b) (hs : B ≤ w.heap.size) : Below B w w' :=
  ⟨hg.os, hg.tape, hg.output, hg.size, fun i hi => hg.block i (by omega) (by intro e; injection e with e; omega)⟩
end Go.Proofs.YtoabpbdjffonlaaGreatDoor
namespace Go.Proofs.YtoabpbdjffonlaaGreatDoor
open Go.ChangeShapes Go.WideShapes Go.ChangeAt Go.RowKit

/-- Nothing has turned, or just the block in which that list lies. -/
def Touch (B : Nat) (a : Option Addr) (n : Nat) (w w' : World) : Prop :=
  w = w' ∨ ∃ x, a = some ⟨x, 0, none⟩ ∧ 0 < n ∧ B ≤ x ∧ x < w.heap.size ∧ w.grownBy w' (some x)
theorem Touch.below {B : Nat} {a : Option Addr} {n : Nat} {w w' : World} (h : Touch B a n w w') : Below B w w' := by
  rcases h with rfl | ⟨x, -, -, h1, h2, hg⟩
  · exact Below.refl _ _
  · exact grown_to hg h1 (by omega)
theorem Touch.size {B : Nat} {a : Option Addr} {n : Nat} {w w' : World} (h : Touch B a n w w') : w.heap.size ≤ w'.heap.size := h.below.size
theorem length_ne {α : Type} {xs : List α} (h : xs ≠ []) : 0 < xs.length := by
  cases xs with
  | nil => exact absurd rfl h
  | cons y r => simp

theorem Touch.cell {B Bx o n : Nat} {a : Option Addr} {w w' : World} (h : Touch B a n w w') (hne : ∀ x, a = some ⟨x, 0, none⟩ → 0 < n → x ≠ Bx) (hlt : Bx < w.heap.size) : w'.cell? ⟨Bx, o, none⟩ = w.cell? ⟨Bx, o, none⟩ := by
  rcases h with rfl | ⟨x, e, hn, -, -, hg⟩
  · rfl
  · exact grown_keeps hg hlt (by intro q; injection q with q; exact hne x e hn q.symm)

/-- A block holds a book's cells. -/
structure CellB (w : World) (B : Nat) (b : Bok) (s : Spots) : Prop where
  c0 : w.cell? ⟨B, 0, none⟩ = some (.int .i64 b.season)
  c1 : w.cell? ⟨B, 1, none⟩ = some (.int .i64 b.supply)
  c2 : w.cell? ⟨B, 2, none⟩ = some (.int .i64 b.burnt)
  c3 : w.cell? ⟨B, 3, none⟩ = some (.int .i64 b.pot)
  c4 : w.cell? ⟨B, 4, none⟩ = some (.slice s.fa b.folk.length s.fc)
  c5 : w.cell? ⟨B, 5, none⟩ = some (.slice s.ma b.mills.length s.mc)
  c6 : w.cell? ⟨B, 6, none⟩ = some (.slice s.pa b.parts.length s.pc)
  c7 : w.cell? ⟨B, 7, none⟩ = some (.slice s.wa b.waits.length s.wc)
theorem CellB.lt {w : World} {B : Nat} {b : Bok} {s : Spots} (h : CellB w B b s) : B < w.heap.size := at_lt h.c0
theorem CellB.keep {w w' : World} {B : Nat} {b : Bok} {s : Spots} (h : CellB w B b s) (k : ∀ o, w'.cell? ⟨B, o, none⟩ = w.cell? ⟨B, o, none⟩) : CellB w' B b s :=
  ⟨(k 0).trans h.c0, (k 1).trans h.c1, (k 2).trans h.c2, (k 3).trans h.c3, (k 4).trans h.c4, (k 5).trans h.c5, (k 6).trans h.c6, (k 7).trans h.c7⟩
theorem CellB.below {w w' : World} {B : Nat} {b : Bok} {s : Spots} (h : CellB w B b s) (hb : Below w.heap.size w w') : CellB w' B b s := h.keep fun o => hb.cell (p := ⟨B, o, none⟩) h.lt
theorem CellB.under {w w' : World} {B C : Nat} {b : Bok} {s : Spots} (h : CellB w B b s) (hb : Below C w w') (hC : B < C) : CellB w' B b s := h.keep fun o => hb.cell (p := ⟨B, o, none⟩) hC
theorem CellB.grown {w w' : World} {B x : Nat} {b : Bok} {s : Spots} (h : CellB w B b s) (hg : w.grownBy w' (some x)) (hx : x ≠ B) : CellB w' B b s := h.keep fun o => grown_keeps hg h.lt (by intro q; injection q with q; exact hx q.symm)
theorem CellB.new (w : World) (b : Bok) (s : Spots) (T : TypeId) : CellB (w.alloc (.cells #[.int .i64 b.season, .int .i64 b.supply, .int .i64 b.burnt, .int .i64 b.pot, .slice s.fa b.folk.length s.fc, .slice s.ma b.mills.length s.mc, .slice s.pa b.parts.length s.pc, .slice s.wa b.waits.length s.wc] T)) w.heap.size b s := by
  have k : ∀ (o : Nat) v, (#[.int .i64 b.season, .int .i64 b.supply, .int .i64 b.burnt, .int .i64 b.pot, .slice s.fa b.folk.length s.fc, .slice s.ma b.mills.length s.mc, .slice s.pa b.parts.length s.pc, .slice s.wa b.waits.length s.wc] : Array Value)[o]? = some v → (w.alloc (.cells #[.int .i64 b.season, .int .i64 b.supply, .int .i64 b.burnt, .int .i64 b.pot, .slice s.fa b.folk.length s.fc, .slice s.ma b.mills.length s.mc, .slice s.pa b.parts.length s.pc, .slice s.wa b.waits.length s.wc] T)).cell? ⟨w.heap.size, o, none⟩ = some v := fun o v hv => by
    simp only [World.cell?, heap_alloc_new]; exact hv
  exact ⟨k _ _ rfl, k _ _ rfl, k _ _ rfl, k _ _ rfl, k _ _ rfl, k _ _ rfl, k _ _ rfl, k _ _ rfl⟩
/-- Its lists lie below block B. -/
structure BOld (b : Bok) (s : Spots) (B : Nat) : Prop where
  folk : ∀ x off, s.fa = some ⟨x, off, none⟩ → 0 < b.folk.length → x < B
  mills : ∀ x off, s.ma = some ⟨x, off, none⟩ → 0 < b.mills.length → x < B
  parts : ∀ x off, s.pa = some ⟨x, off, none⟩ → 0 < b.parts.length → x < B
  waits : ∀ x off, s.wa = some ⟨x, off, none⟩ → 0 < b.waits.length → x < B
theorem BOld.mono {b : Bok} {s : Spots} {B B' : Nat} (h : BOld b s B) (hB : B ≤ B') : BOld b s B' :=
  ⟨fun x o e l => Nat.lt_of_lt_of_le (h.folk x o e l) hB, fun x o e l => Nat.lt_of_lt_of_le (h.mills x o e l) hB, fun x o e l => Nat.lt_of_lt_of_le (h.parts x o e l) hB, fun x o e l => Nat.lt_of_lt_of_le (h.waits x o e l) hB⟩
theorem BookAt.under {w w' : World} {B : Nat} {b : Bok} {s : Spots} (h : BookAt w b s) (hb : Below B w w') (ho : BOld b s B) : BookAt w' b s :=
  ⟨h.folk.under hb ho.folk, h.mills.under Mil.len hb ho.mills, h.parts.under Par.len hb ho.parts, h.waits.under Wai.len hb ho.waits⟩
theorem OwnB.grown {w w' : World} {B x : Nat} {b : Bok} {s : Spots} (h : OwnB w B b s) (hg : w.grownBy w' (some x)) (hx : x < B) : OwnB w' B b s :=
  ⟨h.folk.grown hg hx, h.mills.grown hg hx, h.parts.grown hg hx, h.waits.grown hg hx, h.fm, h.fp, h.fw, h.mp, h.mw, h.pw, h.rt⟩
/-- A block in which none of its lists lies. -/
structure NotIn (b : Bok) (s : Spots) (X : Nat) : Prop where
  folk : ∀ x, s.fa = some ⟨x, 0, none⟩ → 0 < b.folk.length → x ≠ X
  mills : ∀ x, s.ma = some ⟨x, 0, none⟩ → 0 < b.mills.length → x ≠ X
  parts : ∀ x, s.pa = some ⟨x, 0, none⟩ → 0 < b.parts.length → x ≠ X
  waits : ∀ x, s.wa = some ⟨x, 0, none⟩ → 0 < b.waits.length → x ≠ X
/-- The number behind the last mark. -/
def Bok.marks (b : Bok) : Nat := 1 + b.folk.length * 2 + b.mills.length * 5 + b.parts.length * 3 + b.waits.length * 4

end Go.Proofs.YtoabpbdjffonlaaGreatDoor
namespace Go.Proofs.YtoabpbdjffonlaaGreatDoor
open Go.ChangeShapes Go.WideShapes Go.ChangeAt Go.RowKit
end Go.Proofs.YtoabpbdjffonlaaGreatDoor
namespace Go.Proofs.YtoabpbdjffonlaaGreatDoor
open Go.ChangeShapes Go.WideShapes Go.ChangeAt Go.RowKit

end Go.Proofs.YtoabpbdjffonlaaGreatDoor
namespace Go.Proofs.YtoabpbdjffonlaaGreatDoor
open Go.ChangeShapes Go.WideShapes Go.ChangeAt Go.RowKit

/-- A right mill. -/
def millB (m : Mil) : Bool := nameB m.name && (inB 0 1000000 m.stake && (inB 0 1000000000 m.shares && ((m.stake == 0 || decide (0 < m.shares)) && inB 0 100 m.cut)))

/-- Their names. -/
def mnames (ms : List Mil) : List ByteArray := ms.map Mil.name
/-- The first n are right. -/
def MRight (ms : List Mil) (n : Nat) : Prop := ∀ j (h : j < ms.length), j < n → millB ms[j] = true
instance (ms : List Mil) (n : Nat) : Decidable (MRight ms n) := inferInstanceAs (Decidable (∀ j (h : j < ms.length), j < n → millB ms[j] = true))
theorem MRight.zero (ms : List Mil) : MRight ms 0 := fun _ _ h => by omega
theorem MRight.succ {ms : List Mil} {k : Nat} (h : MRight ms k) (hk : k < ms.length) (h1 : millB ms[k] = true) : MRight ms (k + 1) := by
  intro j hj hlt
  by_cases e : j = k
  · subst e; exact h1
  · exact h j hj (by omega)
end Go.Proofs.YtoabpbdjffonlaaGreatDoor
namespace Go.Proofs.YtoabpbdjffonlaaGreatDoor
open Go.ChangeShapes Go.WideShapes Go.ChangeAt Go.RowKit

section
variable {m : Mil} {n : Int}
end

section
variable {m : Mil} {n : Int}
end

end Go.Proofs.YtoabpbdjffonlaaGreatDoor
namespace Go.Proofs.YtoabpbdjffonlaaGreatDoor
open Go.ChangeShapes Go.WideShapes Go.ChangeAt Go.RowKit

end Go.Proofs.YtoabpbdjffonlaaGreatDoor
namespace Go.Proofs.YtoabpbdjffonlaaGreatDoor
open Go.ChangeShapes Go.WideShapes Go.ChangeAt Go.RowKit

/-- Is p ahead of these two names? -/
def lessB (p : Par) (who mill : ByteArray) : Bool := if (p.who.toList == who.toList) = true then Op.bytesLess p.mill.toList mill.toList else Op.bytesLess p.who.toList who.toList
/-- A right part. -/
def partB (p : Par) : Bool := nameB p.who && (nameB p.mill && inB 1 1000000000 p.shares)
/-- The first n are right and rise. -/
def PUp (ps : List Par) (n : Nat) : Prop := (∀ j (h : j < ps.length), j < n → partB ps[j] = true) ∧ ∀ j (h : j + 1 < ps.length), j + 1 < n → lessB ps[j] ps[j + 1].who ps[j + 1].mill = true
noncomputable instance (ps : List Par) (n : Nat) : Decidable (PUp ps n) := Classical.propDecidable _
/-- They are parts. -/
noncomputable def partsB (ps : List Par) : Bool := decide (ps.length ≤ 20 ∧ PUp ps ps.length)
theorem parts_true {ps : List Par} (h : partsB ps = true) : ps.length ≤ 20 ∧ PUp ps ps.length := by simpa [partsB] using h
theorem parts_yes {ps : List Par} (h : ps.length ≤ 20) (h1 : PUp ps ps.length) : partsB ps = true := by simp [partsB, h, h1]
theorem PUp.zero (ps : List Par) : PUp ps 0 := ⟨fun _ _ h => by omega, fun _ _ h => by omega⟩
theorem PUp.one {ps : List Par} (hk : 0 < ps.length) (h : partB ps[0] = true) : PUp ps 1 :=
  ⟨fun j hj hlt => by obtain rfl : j = 0 := by omega
                      exact h, fun _ _ h => by omega⟩
theorem PUp.succ {ps : List Par} {k : Nat} (h : PUp ps (k + 1)) (hk : k + 1 < ps.length) (h1 : partB ps[k + 1] = true) (h2 : lessB ps[k] ps[k + 1].who ps[k + 1].mill = true) : PUp ps (k + 2) :=
  ⟨fun j hj hlt => by
    by_cases e : j = k + 1
    · subst e; exact h1
    · exact h.1 j hj (by omega), fun j hj hlt => by
    by_cases e : j = k
    · subst e; exact h2
    · exact h.2 j hj (by omega)⟩

/-- Names of at most so many bytes. -/
def PSized (ps : List Par) : Prop := ∀ k (h : k < ps.length), ps[k].who.size ≤ maxLen ∧ ps[k].mill.size ≤ maxLen

end Go.Proofs.YtoabpbdjffonlaaGreatDoor
namespace Go.Proofs.YtoabpbdjffonlaaGreatDoor
open Go.ChangeShapes Go.WideShapes Go.ChangeAt Go.RowKit

def par0 : Par := ⟨ByteArray.empty, ByteArray.empty, 0⟩
def patn (ps : List Par) (j : Nat) : Par := ps.getD j par0
/-- All shares of that mill among the first k. -/
def sumS (ps : List Par) (mill : ByteArray) : Nat → Int
  | 0 => 0
  | k + 1 => sumS ps mill k + if ((patn ps k).mill.toList == mill.toList) = true then (patn ps k).shares else 0
noncomputable def sharesInV (ps : List Par) (mill : ByteArray) : Int := if partsB ps = true then sumS ps mill ps.length else -1
theorem part_bd1 {p : Par} (h : partB p = true) : 1 ≤ p.shares ∧ p.shares ≤ 1000000000 := by
  simp only [partB, Bool.and_eq_true] at h
  have := h.2.2
  simp [inB] at this; omega
end Go.Proofs.YtoabpbdjffonlaaGreatDoor
namespace Go.Proofs.YtoabpbdjffonlaaGreatDoor
open Go.ChangeShapes Go.WideShapes Go.ChangeAt Go.RowKit

/-- A right one. -/
def waitB (p : Wai) : Bool := nameB p.who && (nameB p.mill && (inB 1 1000000 p.amount && inB 0 1000 p.ripe))

/-- The first n are right, and none is ripe sooner than one ahead of it. -/
def WUp (ps : List Wai) (n : Nat) : Prop := (∀ j (h : j < ps.length), j < n → waitB ps[j] = true) ∧ ∀ j (h : j + 1 < ps.length), j + 1 < n → ps[j].ripe ≤ ps[j + 1].ripe
noncomputable instance (ps : List Wai) (n : Nat) : Decidable (WUp ps n) := Classical.propDecidable _
theorem WUp.zero (ps : List Wai) : WUp ps 0 := ⟨fun _ _ h => by omega, fun _ _ h => by omega⟩
theorem WUp.one {ps : List Wai} (hk : 0 < ps.length) (h : waitB ps[0] = true) : WUp ps 1 :=
  ⟨fun j hj hlt => by obtain rfl : j = 0 := by omega
                      exact h, fun _ _ h => by omega⟩
theorem WUp.succ {ps : List Wai} {k : Nat} (h : WUp ps (k + 1)) (hk : k + 1 < ps.length) (h1 : waitB ps[k + 1] = true) (h2 : ps[k].ripe ≤ ps[k + 1].ripe) : WUp ps (k + 2) :=
  ⟨fun j hj hlt => by
    by_cases e : j = k + 1
    · subst e; exact h1
    · exact h.1 j hj (by omega), fun j hj hlt => by
    by_cases e : j = k
    · subst e; exact h2
    · exact h.2 j hj (by omega)⟩
def WSized (ps : List Wai) : Prop := ∀ k (h : k < ps.length), ps[k].who.size ≤ maxLen ∧ ps[k].mill.size ≤ maxLen

def wai0 : Wai := ⟨ByteArray.empty, ByteArray.empty, 0, 0⟩
end Go.Proofs.YtoabpbdjffonlaaGreatDoor
namespace Go.Proofs.YtoabpbdjffonlaaGreatDoor
open Go.ChangeShapes Go.WideShapes Go.ChangeAt Go.RowKit

/-- The names of its lists are no longer than a machine's. -/
structure BSized (b : Bok) : Prop where
  fs : Sized (pnames b.folk)
  ms : Sized (mnames b.mills)
  ps : PSized b.parts
  ws : WSized b.waits
section
variable {b : Bok}
end

/-- Are they one of the folk, and one of the mills? -/
def knownB (b : Bok) (who mill : ByteArray) : Bool := decide (0 ≤ placeV (pnames b.folk) who) && decide (0 ≤ placeV (mnames b.mills) mill)
def KnowsP (b : Bok) (n : Nat) : Prop := ∀ j (h : j < b.parts.length), j < n → knownB b b.parts[j].who b.parts[j].mill = true
def KnowsW (b : Bok) (n : Nat) : Prop := ∀ j (h : j < b.waits.length), j < n → knownB b b.waits[j].who b.waits[j].mill = true
def HeldM (b : Bok) (n : Nat) : Prop := ∀ j (h : j < b.mills.length), j < n → sharesInV b.parts b.mills[j].name = b.mills[j].shares
theorem KnowsP.zero (b : Bok) : KnowsP b 0 := fun _ _ h => by omega
theorem KnowsW.zero (b : Bok) : KnowsW b 0 := fun _ _ h => by omega
theorem HeldM.zero (b : Bok) : HeldM b 0 := fun _ _ h => by omega
theorem KnowsP.succ {b : Bok} {k : Nat} (h : KnowsP b k) (hk : k < b.parts.length) (h1 : knownB b b.parts[k].who b.parts[k].mill = true) : KnowsP b (k + 1) := fun j hj hlt => by
  by_cases e : j = k
  · subst e; exact h1
  · exact h j hj (by omega)
theorem KnowsW.succ {b : Bok} {k : Nat} (h : KnowsW b k) (hk : k < b.waits.length) (h1 : knownB b b.waits[k].who b.waits[k].mill = true) : KnowsW b (k + 1) := fun j hj hlt => by
  by_cases e : j = k
  · subst e; exact h1
  · exact h j hj (by omega)
theorem HeldM.succ {b : Bok} {k : Nat} (h : HeldM b k) (hk : k < b.mills.length) (h1 : sharesInV b.parts b.mills[k].name = b.mills[k].shares) : HeldM b (k + 1) := fun j hj hlt => by
  by_cases e : j = k
  · subst e; exact h1
  · exact h j hj (by omega)
end Go.Proofs.YtoabpbdjffonlaaGreatDoor
namespace Go.Proofs.YtoabpbdjffonlaaGreatDoor
open Go.ChangeShapes Go.WideShapes Go.ChangeAt Go.RowKit

end Go.Proofs.YtoabpbdjffonlaaGreatDoor
