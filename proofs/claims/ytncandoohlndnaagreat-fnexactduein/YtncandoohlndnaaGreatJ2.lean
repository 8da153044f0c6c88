/-
  Texts joined: Name, StrAt, Rise, Base, Purs, Strs, PursLaw, Folk, FolkI, Order, FolkF, Pay, Own, Step.
-/
import Derived.Test.YtncandoohlndnaaGreatJ1
import Derived.WalkMore
import Derived.ScopeJumps
import Derived.Laws.Cover1
import Derived.LoopN
import Derived.Lib.Hide
import Derived.StillTailTactics
import Derived.Deep.RegionHeld3
import Derived.Maps.AppendAt
import Derived.Deep.RegionLaw
namespace Go.Proofs.YtncandoohlndnaaGreat
open Go.ChangeShapes Go.WideShapes Go.ChangeAt Go.RowKit

/-- Is it a byte from a to z? -/
def letB (c : Int) : Bool := decide (97 ≤ c ∧ c ≤ 122)
theorem letB_true {c : Int} (h : letB c = true) : 97 ≤ c ∧ c ≤ 122 := by simpa [letB] using h
theorem letB_false {c : Int} (h : letB c = false) : c < 97 ∨ 122 < c := by
  simp only [letB, decide_eq_false_iff_not] at h; omega

/-- The first k bytes are letters. -/
def Lets (s : ByteArray) (k : Nat) : Prop := ∀ j (h : j < s.size), j < k → letB (s[j].toNat : Int) = true
instance (s : ByteArray) (k : Nat) : Decidable (Lets s k) := inferInstanceAs (Decidable (∀ j (h : j < s.size), j < k → letB (s[j].toNat : Int) = true))
/-- A name: 1 to 6 bytes of a to z. -/
def nameB (s : ByteArray) : Bool := decide (1 ≤ s.size ∧ s.size ≤ 6 ∧ Lets s s.size)

theorem nameB_of {s : ByteArray} (h1 : 1 ≤ s.size) (h2 : s.size ≤ 6) (h : Lets s s.size) : nameB s = true := by simp [nameB, h1, h2, h]
theorem nameB_true {s : ByteArray} (h : nameB s = true) : 1 ≤ s.size ∧ s.size ≤ 6 ∧ Lets s s.size := by simpa [nameB] using h
theorem nameB_size {s : ByteArray} (h : s.size = 0 ∨ 6 < s.size) : nameB s = false := by
  simp only [nameB, decide_eq_false_iff_not]; rintro ⟨h1, h2, _⟩; omega
theorem nameB_bad {s : ByteArray} {k : Nat} (hk : k < s.size) (h : letB (s[k].toNat : Int) = false) : nameB s = false := by
  simp only [nameB, decide_eq_false_iff_not]; rintro ⟨_, _, h3⟩; rw [h3 k hk hk] at h; cases h
theorem Lets.zero (s : ByteArray) : Lets s 0 := fun _ _ h => by omega
theorem Lets.succ {s : ByteArray} {k : Nat} (h : Lets s k) (hk : k < s.size) (hl : letB (s[k].toNat : Int) = true) : Lets s (k + 1) := by
  intro j hj hlt
  by_cases e : j = k
  · subst e; exact hl
  · exact h j hj (by omega)
theorem nameB_len {s : ByteArray} (h : Lets s s.size) : nameB s = inB 1 6 (s.size : Int) := by
  by_cases h1 : 1 ≤ s.size
  · by_cases h2 : s.size ≤ 6
    · rw [nameB_of h1 h2 h]; symm; simp [inB]; omega
    · rw [nameB_size (by omega)]; symm; simp [inB]; omega
  · rw [nameB_size (by omega)]; symm; simp [inB]; omega

set_option maxHeartbeats 1000000 in
set_option maxRecDepth 100000 in
theorem sNameOk_any (s : ByteArray) (w : World) (hs : s.size ≤ maxLen) :
    Calls Tryz.prog 80 #[.string s] w fun e w' => e = .returned (.bool (nameB s)) ∧ w = w' := by
  unfold maxLen at hs
  go_enter Tryz.func80, Tryz.ntmps80
  go_wp2
  go_loop [3] (fun i => ∃ k : Nat, k ≤ s.size ∧ i = .int .i64 k ∧ Lets s k) (fun i => s.size - (intOf i).toNat)
  case atStart => exact ⟨0, Nat.zero_le _, rfl, Lets.zero s⟩
  case round =>
    obtain ⟨k, hk, rfl, hl⟩ := hrel
    by_cases hlt : k < s.size
    · cases hb : letB (s[k].toNat : Int)
      · have hn := Lib.hid (nameB_bad hlt hb)
        rcases letB_false hb with h1 | h1
        · clear hb
          go_wp2
          go_ret
          exact ⟨by rw [hn.out]; rfl, rfl⟩
        · have h0 : ¬ (s[k].toNat : Int) < 97 := by omega
          clear hb
          go_wp2
          go_ret
          exact ⟨by rw [hn.out]; rfl, rfl⟩
      · have hl2 := hl.succ hlt hb
        obtain ⟨h0, h1⟩ := letB_true hb
        clear hb
        go_wp2
        go_round
        case rel => exact ⟨k + 1, by omega, by go_num, hl2⟩
        case measure => simp [intOf]; omega
    · obtain rfl : k = s.size := by omega
      have hn := Lib.hid (nameB_len hl)
      go_wp2_with (go_at_call 56; refine (l1In_any _ _ _ _).mono ?_; rintro e w' ⟨rfl, rfl⟩)
      go_ret
      exact ⟨by rw [hn.out]; rfl, rfl⟩

section
variable {P : Program} {a : Act} {w : World} {Q : Exit → Act → World → Prop}
/-- As Q; by a goto to label l: what J asks there. -/
def gotosTo (J : Nat → Act → World → Prop) (Q : Exit → Act → World → Prop) : Exit → Act → World → Prop
  | .goto l, a, w => J l a w
  | e, a, w => Q e a w
theorem gotosTo_ret {J : Nat → Act → World → Prop} : gotosTo J Q .ret a w = Q .ret a w := rfl

/-- A scope of as many labels as there are: what holds at every jump to each, and a measure that each pass from a label lowers. -/
theorem wp_scope_gotos {c : Code} (J : Nat → Act → World → Prop) (m : Nat → Act → World → Nat)
    (first : c.wp P (gotosTo J Q) a w)
    (pass : ∀ l a w, J l a w → ∃ rest, findLabel c l = some rest ∧ rest.wp P (gotosTo (fun l' a' w' => J l' a' w' ∧ m l' a' w' < m l a w) Q) a w) : (Code.scope c).wp P Q a w := by
  intro b k cs
  have key : ∀ n l a w, m l a w = n → J l a w → ∃ rest, findLabel c l = some rest ∧ ∃ e a' w', Q e a' w' ∧ Arrives P (lone (b.at a (.code rest :: .inScope c :: k)) cs w) b k cs e a' w' := by
    intro n
    induction n using Nat.strongRecOn with
    | _ n ih =>
      intro l a w hn hJ
      obtain ⟨rest, hf, hp⟩ := pass l a w hJ
      refine ⟨rest, hf, ?_⟩
      obtain ⟨e, a1, w1, hq, harr⟩ := hp b (.inScope c :: k) cs
      cases e with
      | normal => exact ⟨.normal, a1, w1, hq, Steps.trans harr (.one step_inScope)⟩
      | exit id => exact ⟨.exit id, a1, w1, hq, fun k' hk => harr k' (by simp [exitTo, hk])⟩
      | goto l' =>
        obtain ⟨hJ', hlt⟩ := hq
        obtain ⟨rest', hf', e2, a2, w2, hq2, harr2⟩ := ih _ (by omega) l' a1 w1 rfl hJ'
        exact ⟨e2, a2, w2, hq2, .of_steps (harr _ (by simp [gotoIn, hf'])) harr2⟩
      | ret => exact ⟨_, a1, w1, hq, harr⟩
      | panic ch => exact ⟨_, a1, w1, hq, harr⟩
      | outgrown => exact ⟨_, a1, w1, hq, harr⟩
  obtain ⟨e, a1, w1, hq, harr⟩ := first b (.inScope c :: k) cs
  cases e with
  | normal => exact ⟨.normal, a1, w1, hq, .head step_scope (Steps.trans harr (.one step_inScope))⟩
  | exit id => exact ⟨.exit id, a1, w1, hq, fun k' hk => .head step_scope (harr k' (by simp [exitTo, hk]))⟩
  | goto l' =>
    obtain ⟨rest', hf', e2, a2, w2, hq2, harr2⟩ := key _ l' a1 w1 rfl hq
    exact ⟨e2, a2, w2, hq2, .of_steps (.head step_scope (harr _ (by simp [gotoIn, hf']))) harr2⟩
  | ret => exact ⟨_, a1, w1, hq, .of_steps (.one step_scope) harr⟩
  | panic ch => exact ⟨_, a1, w1, hq, .of_steps (.one step_scope) harr⟩
  | outgrown => exact ⟨_, a1, w1, hq, .of_steps (.one step_scope) harr⟩
end

theorem isLetter_any (c : Int) (w : World) :
    Calls Tryz.prog 104 #[.int .u8 c] w fun e w' => e = .returned (.bool (letB c)) ∧ w = w' := by
  by_cases h : 97 ≤ c
  · by_cases h2 : c ≤ 122
    · have hb : letB c = true := by simp [letB, h, h2]
      rw [hb]; clear hb
      go_enter Tryz.func104, Tryz.ntmps104
      go_wp2
      go_ret
      exact ⟨rfl, rfl⟩
    · have hb : letB c = false := by simp [letB, h2]
      rw [hb]; clear hb
      go_enter Tryz.func104, Tryz.ntmps104
      go_wp2
      go_ret
      exact ⟨rfl, rfl⟩
  · have hb : letB c = false := by simp [letB, h]
    rw [hb]; clear hb
    go_enter Tryz.func104, Tryz.ntmps104
    go_wp2
    go_ret
    exact ⟨rfl, rfl⟩

/-- What holds at each jump: label 0: it is no name; label 2: it is one; label 1: byte k is there, and all ahead of it are letters. -/
def NJ (s : ByteArray) (w : World) (l : Nat) (a : Act) (w' : World) : Prop :=
  w = w' ∧ ∃ x3 u4 u5 u6 u7 u8 u9 u10 u11 u12 u13 u14 u15 u16 u17 u18 u19 : Value, a = { tmps := #[.string s, undef, .bool false, x3, u4, u5, u6, u7, u8, u9, u10, u11, u12, u13, u14, u15, u16, u17, u18, u19], defers := [] } ∧
    ((l = 0 ∧ nameB s = false) ∨ (l = 2 ∧ nameB s = true) ∨ (l = 1 ∧ ∃ k : Nat, x3 = .int .i64 k ∧ k < s.size ∧ k < 6 ∧ Lets s k))
def NM (l : Nat) (a : Act) (_ : World) : Nat := if l = 1 then 7 - (intOf (a.tmps.getD 3 undef)).toNat else 0

theorem NJ.no {s : ByteArray} {w : World} {x3 u4 u5 u6 u7 u8 u9 u10 u11 u12 u13 u14 u15 u16 u17 u18 u19 : Value} (h : nameB s = false) : NJ s w 0 { tmps := #[.string s, undef, .bool false, x3, u4, u5, u6, u7, u8, u9, u10, u11, u12, u13, u14, u15, u16, u17, u18, u19], defers := [] } w :=
  ⟨rfl, x3, u4, u5, u6, u7, u8, u9, u10, u11, u12, u13, u14, u15, u16, u17, u18, u19, rfl, .inl ⟨rfl, h⟩⟩
theorem NJ.yes {s : ByteArray} {w : World} {x3 u4 u5 u6 u7 u8 u9 u10 u11 u12 u13 u14 u15 u16 u17 u18 u19 : Value} (h : nameB s = true) : NJ s w 2 { tmps := #[.string s, undef, .bool false, x3, u4, u5, u6, u7, u8, u9, u10, u11, u12, u13, u14, u15, u16, u17, u18, u19], defers := [] } w :=
  ⟨rfl, x3, u4, u5, u6, u7, u8, u9, u10, u11, u12, u13, u14, u15, u16, u17, u18, u19, rfl, .inr (.inl ⟨rfl, h⟩)⟩
theorem NJ.on {s : ByteArray} {w : World} {k : Nat} {u4 u5 u6 u7 u8 u9 u10 u11 u12 u13 u14 u15 u16 u17 u18 u19 : Value} (h1 : k < s.size) (h2 : k < 6) (h : Lets s k) : NJ s w 1 { tmps := #[.string s, undef, .bool false, .int .i64 k, u4, u5, u6, u7, u8, u9, u10, u11, u12, u13, u14, u15, u16, u17, u18, u19], defers := [] } w :=
  ⟨rfl, _, u4, u5, u6, u7, u8, u9, u10, u11, u12, u13, u14, u15, u16, u17, u18, u19, rfl, .inr (.inr ⟨rfl, k, rfl, h1, h2, h⟩)⟩

set_option maxRecDepth 100000 in
set_option maxHeartbeats 1000000 in
set_option maxRecDepth 100000 in
theorem iNameOk_any (s : ByteArray) (w : World) (hs : s.size ≤ maxLen) :
    Calls Tryz.prog 95 #[.string s] w fun e w' => e = .returned (.bool (nameB s)) ∧ w = w' := by
  unfold maxLen at hs
  go_enter Tryz.func95, Tryz.ntmps95
  go_wp2
  refine wp_scope_gotos (NJ s w) NM ?_ ?_
  · by_cases h0 : s.size = 0
    · have hn := Lib.hid (nameB_size (Or.inl h0))
      go_wp2
      go_step3
      exact NJ.no hn.out
    · have hl : 0 < s.size := by omega
      cases hb : letB (s[0].toNat : Int)
      · have hn := Lib.hid (nameB_bad hl hb)
        go_wp2
        go_step3
        go_wp2_with (go_at_call 104; refine (isLetter_any _ _).mono ?_; rintro e w' ⟨rfl, rfl⟩; rw [hb])
        go_step3
        exact NJ.no hn.out
      · have h1 := Lib.hid ((Lets.zero s).succ hl hb)
        by_cases hz : s.size = 1
        · have hn := Lib.hid (nameB_of (s := s) (by omega) (by omega) (by rw [hz]; exact h1.out))
          have hq : ((1 : Int) == (s.size : Int)) = true := by simp [hz]
          clear hz
          go_wp2
          go_step3
          go_wp2_with (go_at_call 104; refine (isLetter_any _ _).mono ?_; rintro e w' ⟨rfl, rfl⟩; rw [hb])
          go_step3
          exact NJ.yes hn.out
        · have hq : ((1 : Int) == (s.size : Int)) = false := beq_false_of_ne (by omega)
          go_wp2
          go_step3
          go_wp2_with (go_at_call 104; refine (isLetter_any _ _).mono ?_; rintro e w' ⟨rfl, rfl⟩; rw [hb])
          go_step3
          exact NJ.on (k := 1) (by omega) (by omega) h1.out
  · rintro l a w' ⟨rfl, x3, u4, u5, u6, u7, u8, u9, u10, u11, u12, u13, u14, u15, u16, u17, u18, u19, rfl, ⟨rfl, hn⟩ | ⟨rfl, hn⟩ | ⟨rfl, k, rfl, hk, hk6, hl⟩⟩
    · have hn := Lib.hid hn
      refine ⟨_, rfl, ?_⟩
      go_wp2
      rw [gotosTo_ret]
      go_ret
      exact ⟨by rw [hn.out]; rfl, rfl⟩
    · have hn := Lib.hid hn
      refine ⟨_, rfl, ?_⟩
      go_wp2
      rw [gotosTo_ret]
      go_ret
      exact ⟨by rw [hn.out]; rfl, rfl⟩
    · refine ⟨_, rfl, ?_⟩
      have hM : NM 1 { tmps := #[.string s, undef, .bool false, .int .i64 (k : Int), u4, u5, u6, u7, u8, u9, u10, u11, u12, u13, u14, u15, u16, u17, u18, u19], defers := [] } w = 7 - k := by simp [NM, intOf]
      have HM := Lib.hid hM
      clear hM
      cases hb : letB (s[k].toNat : Int)
      · have hn := Lib.hid (nameB_bad hk hb)
        go_wp2_with (go_at_call 104; refine (isLetter_any _ _).mono ?_; rintro e w' ⟨rfl, rfl⟩; rw [hb])
        go_step3
        exact ⟨NJ.no hn.out, by rw [HM.out]; simp [NM]; omega⟩
      · have h1 := Lib.hid (hl.succ hk hb)
        by_cases hz : k + 1 = s.size
        · have hn := Lib.hid (nameB_of (s := s) (by omega) (by omega) (by rw [← hz]; exact h1.out))
          have hq : (((k : Int) + 1) == (s.size : Int)) = true := by simp; omega
          clear hz
          go_wp2_with (go_at_call 104; refine (isLetter_any _ _).mono ?_; rintro e w' ⟨rfl, rfl⟩; rw [hb])
          go_step3
          exact ⟨NJ.yes hn.out, by rw [HM.out]; simp [NM]; omega⟩
        · have hq : (((k : Int) + 1) == (s.size : Int)) = false := beq_false_of_ne (by omega)
          by_cases h6 : k + 1 < 6
          · go_wp2_with (go_at_call 104; refine (isLetter_any _ _).mono ?_; rintro e w' ⟨rfl, rfl⟩; rw [hb])
            go_step3
            exact ⟨NJ.on (k := k + 1) (by omega) (by omega) h1.out, by rw [HM.out]; simp [NM, intOf]; omega⟩
          · have hn := Lib.hid (nameB_size (s := s) (by omega))
            go_wp2_with (go_at_call 104; refine (isLetter_any _ _).mono ?_; rintro e w' ⟨rfl, rfl⟩; rw [hb])
            go_step3
            go_wp2
            rw [gotosTo_ret]
            go_ret
            exact ⟨by rw [hn.out]; rfl, rfl⟩
end Go.Proofs.YtncandoohlndnaaGreat
namespace Go.Proofs.YtncandoohlndnaaGreat
open Go.ChangeShapes Go.WideShapes Go.ChangeAt Go.RowKit

/-- These strings lie one behind the other from a on. -/
def Strs (w : World) (a : Option Addr) (ss : List ByteArray) : Prop := Lies w a (ss.map .string)

theorem Strs.at {w : World} {a : Option Addr} {ss : List ByteArray} (h : Strs w a ss) (k : Nat) (hk : k < ss.length) :
    ∃ b off, a = some ⟨b, off, none⟩ ∧ b < w.heap.size ∧ w.cell? ⟨b, off + k, none⟩ = some (.string ss[k]) := by
  obtain ⟨b, off, e, hc⟩ := h k (.string ss[k]) (by simp [hk])
  exact ⟨b, off, e, at_lt hc, hc⟩
theorem Strs.below {w w' : World} {a : Option Addr} {ss : List ByteArray} (h : Strs w a ss) (hb : Below w.heap.size w w') : Strs w' a ss := Lies.below h hb
end Go.Proofs.YtncandoohlndnaaGreat
namespace Go.Proofs.YtncandoohlndnaaGreat
open Go.ChangeShapes Go.WideShapes Go.ChangeAt Go.RowKit

/-- The one of that number. -/
def sat (ss : List ByteArray) (j : Nat) : ByteArray := ss.getD j ByteArray.empty
theorem sat_eq {ss : List ByteArray} {j : Nat} (h : j < ss.length) : sat ss j = ss[j] := by simp [sat, h]
/-- Is a no greater than b, byte by byte? -/
def leqB (a b : ByteArray) : Bool := Op.bytesLess a.toList b.toList || a.toList == b.toList
/-- The first n are names, each greater than the one ahead. -/
def Up (ss : List ByteArray) (n : Nat) : Prop :=
  (∀ j, j < n → nameB (sat ss j) = true) ∧ ∀ j, j < n - 1 → leqB (sat ss (j + 1)) (sat ss j) = false
instance (ss : List ByteArray) (n : Nat) : Decidable (Up ss n) :=
  inferInstanceAs (Decidable ((∀ j, j < n → nameB (sat ss j) = true) ∧ ∀ j, j < n - 1 → leqB (sat ss (j + 1)) (sat ss j) = false))
/-- They rise. -/
def risesB (ss : List ByteArray) : Bool := decide (Up ss ss.length)

theorem Up.zero (ss : List ByteArray) : Up ss 0 := ⟨fun _ h => by omega, fun _ h => by omega⟩
theorem Up.one {ss : List ByteArray} (h : nameB (sat ss 0) = true) : Up ss 1 :=
  ⟨fun j hj => by obtain rfl : j = 0 := by omega
                  exact h, fun _ h => by omega⟩
theorem Up.succ {ss : List ByteArray} {k : Nat} (h : Up ss (k + 1)) (h1 : nameB (sat ss (k + 1)) = true) (h2 : leqB (sat ss (k + 1)) (sat ss k) = false) : Up ss (k + 2) :=
  ⟨fun j hj => by
    by_cases e : j = k + 1
    · subst e; exact h1
    · exact h.1 j (by omega), fun j hj => by
    by_cases e : j = k
    · subst e; exact h2
    · exact h.2 j (by omega)⟩
theorem rises_no {ss : List ByteArray} {k : Nat} (hk : k < ss.length) (h : nameB (sat ss k) = false) : risesB ss = false := by
  simp only [risesB, decide_eq_false_iff_not]; rintro ⟨h1, _⟩; rw [h1 k hk] at h; cases h
theorem rises_not {ss : List ByteArray} {k : Nat} (hk : k + 1 < ss.length) (h : leqB (sat ss (k + 1)) (sat ss k) = true) : risesB ss = false := by
  simp only [risesB, decide_eq_false_iff_not]; rintro ⟨_, h2⟩; rw [h2 k (by omega)] at h; cases h
theorem rises_yes {ss : List ByteArray} (h : Up ss ss.length) : risesB ss = true := by simp [risesB, h]
theorem rises_true {ss : List ByteArray} (h : risesB ss = true) : Up ss ss.length := by simpa [risesB] using h

theorem strs_sat {w : World} {a : Option Addr} {ss : List ByteArray} (h : Strs w a ss) (k : Nat) (hk : k < ss.length) :
    ∃ b off, a = some ⟨b, off, none⟩ ∧ w.cell? ⟨b, off + k, none⟩ = some (.string (sat ss k)) := by
  obtain ⟨b, off, e, _, hc⟩ := h.at k hk
  exact ⟨b, off, e, by rw [sat_eq hk]; exact hc⟩

def Sized (ss : List ByteArray) : Prop := ∀ k, (sat ss k).size ≤ maxLen
theorem Sized.of {ss : List ByteArray} {n : Nat} (h : ∀ s ∈ ss, s.size ≤ n) (hn : n ≤ maxLen) : Sized ss := by
  intro k
  by_cases hk : k < ss.length
  · rw [sat_eq hk]; exact Nat.le_trans (h _ (List.getElem_mem hk)) hn
  · have : sat ss k = ByteArray.empty := by simp [sat, hk]
    rw [this]; exact Nat.zero_le _

theorem drawn_more {w : World} (n m : Nat) : ∃ k, (w.drewN n).drewN m = w.drewN k := ⟨n + m, World.drewN_drewN _ _ _⟩
/-- In a region that draws: a callee that leaves the world alone and answers what is known. -/
theorem quiet_is {P : Program} {f : FuncId} {args : Array Value} {w : World} {n : Nat} {b c : Bool} (e : b = c)
    (h : Calls P f args (w.drewN n) fun e w' => e = .returned (.bool b) ∧ w.drewN n = w') : Calls P f args (w.drewN n) fun e w'' => e = .returned (.bool c) ∧ ∃ m, w'' = w.drewN m :=
  h.mono fun _ _ ⟨he, hm⟩ => ⟨by rw [he, e], n, hm.symm⟩
theorem quiet_is2 {P : Program} {f : FuncId} {args : Array Value} {w : World} {a n : Nat} {b c : Bool} (e : b = c)
    (h : Calls P f args (w.drewN (a + n)) fun e w' => e = .returned (.bool b) ∧ w.drewN (a + n) = w') : Calls P f args (w.drewN (a + n)) fun e w'' => e = .returned (.bool c) ∧ ∃ m, w'' = w.drewN (a + m) :=
  h.mono fun _ _ ⟨he, hm⟩ => ⟨by rw [he, e], n, hm.symm⟩

set_option maxHeartbeats 1000000 in
set_option maxRecDepth 100000 in
theorem iRises_any {w : World} {a : Option Addr} {ss : List ByteArray} (cap : Nat) (h : Strs w a ss) (hl : ss.length ≤ 9223372036854775807) (hs : Sized ss) :
    Calls Tryz.prog 101 #[.slice a ss.length cap] w fun e w' => e = .returned (.bool (risesB ss)) ∧ w = w' := by
  have H := Lib.hid h
  have HS := Lib.hid hs
  clear h hs
  go_enter Tryz.func101, Tryz.ntmps101
  go_wp2
  go_loop [7] (fun i => ∃ k : Nat, k ≤ ss.length ∧ i = .int .i64 k ∧ Up ss k) (fun i => ss.length - (intOf i).toNat)
  case atStart => exact ⟨0, Nat.zero_le _, rfl, Up.zero ss⟩
  case round =>
    obtain ⟨k, hk, rfl, hu⟩ := hrel
    have HU := Lib.hid hu
    clear hu
    by_cases hlt : k < ss.length
    · obtain ⟨b, off, rfl, hc⟩ := strs_sat H.out k hlt
      cases hn : nameB (sat ss k)
      · have HN := Lib.hid (rises_no hlt hn)
        go_wp2_with (go_at_call 95; refine (iNameOk_any _ _ (HS.out _)).mono ?_; rintro e w' ⟨rfl, rfl⟩; rw [hn])
        go_ret
        exact ⟨by rw [HN.out]; rfl, rfl⟩
      · cases k with
        | zero =>
          have HN := Lib.hid (Up.one hn)
          have hc0 : w.cell? ⟨b, off, none⟩ = some (.string (sat ss 0)) := hc
          go_wp2_with (go_at_call 95; refine (iNameOk_any _ _ (HS.out _)).mono ?_; rintro e w' ⟨rfl, rfl⟩; rw [hn])
          go_round
          case rel => exact ⟨1, by omega, by go_num, HN.out⟩
          case measure => simp [intOf]; omega
        | succ m =>
          obtain ⟨b', off', e', hc'⟩ := strs_sat H.out m (by omega)
          obtain ⟨rfl, rfl⟩ : b' = b ∧ off' = off := by injection e' with e'; injection e' with e1 e2; exact ⟨e1.symm, e2.symm⟩
          clear e'
          cases hq : (Op.bytesLess (sat ss (m + 1)).toList (sat ss m).toList || (sat ss (m + 1)).toList == (sat ss m).toList)
          · have HN := Lib.hid (HU.out.succ hn hq)
            go_wp2_with (go_at_call 95; refine (iNameOk_any _ _ (HS.out _)).mono ?_; rintro e w' ⟨rfl, rfl⟩; rw [hn])
            go_round
            case rel => exact ⟨m + 2, by omega, by go_num, HN.out⟩
            case measure => simp [intOf]; omega
          · have HN := Lib.hid (rises_not hlt hq)
            go_wp2_with (go_at_call 95; refine (iNameOk_any _ _ (HS.out _)).mono ?_; rintro e w' ⟨rfl, rfl⟩; rw [hn])
            go_ret
            exact ⟨by rw [HN.out]; rfl, rfl⟩
    · obtain rfl : k = ss.length := by omega
      have HN := Lib.hid (rises_yes HU.out)
      go_wp2
      go_ret
      exact ⟨by rw [HN.out]; rfl, rfl⟩

/-- It is none of the first n. -/
def Out (ss : List ByteArray) (s : ByteArray) (n : Nat) : Prop := ∀ j, j < n → ((sat ss j).toList == s.toList) = false
theorem Out.zero (ss : List ByteArray) (s : ByteArray) : Out ss s 0 := fun _ h => by omega
theorem Out.succ {ss : List ByteArray} {s : ByteArray} {k : Nat} (h : Out ss s k) (h1 : ((sat ss k).toList == s.toList) = false) : Out ss s (k + 1) := by
  intro j hj
  by_cases e : j = k
  · subst e; exact h1
  · exact h j (by omega)
/-- Where it is first, from the front on, among the first n. -/
def placeUp (ss : List ByteArray) (s : ByteArray) : Nat → Int
  | 0 => -1
  | n + 1 => if placeUp ss s n = -1 then (if (sat ss n).toList == s.toList then (n : Int) else -1) else placeUp ss s n
def placeV (ss : List ByteArray) (s : ByteArray) : Int := placeUp ss s ss.length
theorem placeUp_out {ss : List ByteArray} {s : ByteArray} : ∀ {n : Nat}, Out ss s n → placeUp ss s n = -1
  | 0, _ => rfl
  | n + 1, h => by
    rw [placeUp, if_pos (placeUp_out fun j hj => h j (by omega)), h n (by omega)]; rfl
theorem placeUp_in {ss : List ByteArray} {s : ByteArray} {k : Nat} (h : Out ss s k) (hk : ((sat ss k).toList == s.toList) = true) : ∀ m, placeUp ss s (k + 1 + m) = k
  | 0 => by rw [Nat.add_zero, placeUp, if_pos (placeUp_out h), hk]; rfl
  | m + 1 => by
    have := placeUp_in h hk m
    rw [← Nat.add_assoc, placeUp, this, if_neg (by omega)]
theorem place_out {ss : List ByteArray} {s : ByteArray} (h : Out ss s ss.length) : placeV ss s = -1 := placeUp_out h
theorem place_in {ss : List ByteArray} {s : ByteArray} {k : Nat} (hk : k < ss.length) (h : Out ss s k) (he : ((sat ss k).toList == s.toList) = true) : placeV ss s = k := by
  have := placeUp_in h he (ss.length - (k + 1))
  rwa [show k + 1 + (ss.length - (k + 1)) = ss.length by omega] at this
theorem beq_turn {x y : List UInt8} {t : Bool} (h : (x == y) = t) : (y == x) = t := by
  rw [← h, Bool.eq_iff_iff, beq_iff_eq, beq_iff_eq]
  exact ⟨fun e => e.symm, fun e => e.symm⟩

set_option maxHeartbeats 1000000 in
set_option maxRecDepth 100000 in
theorem index_any {w : World} {a : Option Addr} {ss : List ByteArray} (cap : Nat) (s : ByteArray) (h : Strs w a ss) (hl : ss.length ≤ 9223372036854775807) :
    Calls Tryz.prog 102 #[.slice a ss.length cap, .string s] w fun e w' => e = .returned (.int .i64 (placeV ss s)) ∧ w = w' := by
  have H := Lib.hid h
  clear h
  go_enter Tryz.func102, Tryz.ntmps102
  go_wp2
  go_loop [8] (fun i => ∃ k : Nat, k ≤ ss.length ∧ i = .int .i64 k ∧ Out ss s k) (fun i => ss.length - (intOf i).toNat)
  case atStart => exact ⟨0, Nat.zero_le _, rfl, Out.zero ss s⟩
  case round =>
    obtain ⟨k, hk, rfl, hu⟩ := hrel
    have HU := Lib.hid hu
    clear hu
    by_cases hlt : k < ss.length
    · obtain ⟨b, off, rfl, hc⟩ := strs_sat H.out k hlt
      cases hq : (s.toList == (sat ss k).toList)
      · have HN := Lib.hid (HU.out.succ (beq_turn hq))
        go_wp2
        go_round
        case rel => exact ⟨k + 1, by omega, by go_num, HN.out⟩
        case measure => simp [intOf]; omega
      · have HN := Lib.hid (place_in hlt HU.out (beq_turn hq))
        go_wp2
        go_ret
        exact ⟨by rw [HN.out]; rfl, rfl⟩
    · obtain rfl : k = ss.length := by omega
      have HN := Lib.hid (place_out HU.out)
      go_wp2
      go_ret
      exact ⟨by rw [HN.out]; rfl, rfl⟩

theorem placeUp_bd (ss : List ByteArray) (s : ByteArray) : ∀ n, -1 ≤ placeUp ss s n ∧ placeUp ss s n < n
  | 0 => by simp [placeUp]
  | n + 1 => by
    have := placeUp_bd ss s n
    rw [placeUp]
    split
    · split <;> omega
    · omega

theorem iPlaceIn_any {w : World} {a : Option Addr} {ss : List ByteArray} (cap : Nat) (s : ByteArray) (h : Strs w a ss) (hl : ss.length ≤ 9223372036854775807) :
    Calls Tryz.prog 91 #[.slice a ss.length cap, .string s] w fun e w' => e = .returned (.int .i64 (placeV ss s)) ∧ w = w' := by
  have hb := placeUp_bd ss s ss.length
  have h1 : -1 ≤ placeV ss s := hb.1
  have h2 : placeV ss s < ss.length := hb.2
  clear hb
  go_enter Tryz.func91, Tryz.ntmps91
  go_wp2_with (go_at_call 102; refine (index_any _ _ h hl).mono ?_; rintro e w' ⟨rfl, rfl⟩)
  go_ret
  exact ⟨rfl, rfl⟩
end Go.Proofs.YtncandoohlndnaaGreat
namespace Go.Proofs.YtncandoohlndnaaGreat
open Go.ChangeShapes Go.WideShapes Go.ChangeAt Go.RowKit

theorem within_any (lim n : Int) (w : World) :
    Calls Tryz.prog 63 #[.int .i64 lim, .int .i64 n] w fun e w' => e = .returned (.bool (inB 0 lim n)) ∧ w = w' := by
  by_cases h : 0 ≤ n
  · by_cases h2 : n ≤ lim
    · have hb : inB 0 lim n = true := by simp [inB, h, h2]
      rw [hb]; clear hb
      go_enter Tryz.func63, Tryz.ntmps63
      go_wp2
      go_ret
      exact ⟨rfl, rfl⟩
    · have hb : inB 0 lim n = false := by simp [inB, h2]
      rw [hb]; clear hb
      go_enter Tryz.func63, Tryz.ntmps63
      go_wp2
      go_ret
      exact ⟨rfl, rfl⟩
  · have hb : inB 0 lim n = false := by simp [inB, h]
    rw [hb]; clear hb
    go_enter Tryz.func63, Tryz.ntmps63
    go_wp2
    go_ret
    exact ⟨rfl, rfl⟩

theorem iAmountOk_any (n : Int) (w : World) :
    Calls Tryz.prog 65 #[.int .i64 n] w fun e w' => e = .returned (.bool (inB 0 1000000 n)) ∧ w = w' := by
  go_enter Tryz.func65, Tryz.ntmps65
  go_wp2_with (go_at_call 63; refine (within_any _ _ _).mono ?_; rintro e w' ⟨rfl, rfl⟩)
  go_ret
  exact ⟨rfl, rfl⟩

theorem sAmountOk_any (n : Int) (w : World) :
    Calls Tryz.prog 57 #[.int .i64 n] w fun e w' => e = .returned (.bool (inB 0 1000000 n)) ∧ w = w' := by
  go_enter Tryz.func57, Tryz.ntmps57
  go_wp2_with (go_at_call 56; refine (l1In_any _ _ _ _).mono ?_; rintro e w' ⟨rfl, rfl⟩)
  go_ret
  exact ⟨rfl, rfl⟩

theorem iSharesOk_any (n : Int) (w : World) :
    Calls Tryz.prog 113 #[.int .i64 n] w fun e w' => e = .returned (.bool (inB 0 1000000000 n)) ∧ w = w' := by
  go_enter Tryz.func113, Tryz.ntmps113
  go_wp2_with (go_at_call 63; refine (within_any _ _ _).mono ?_; rintro e w' ⟨rfl, rfl⟩)
  go_ret
  exact ⟨rfl, rfl⟩

theorem sSharesOk_any (n : Int) (w : World) :
    Calls Tryz.prog 97 #[.int .i64 n] w fun e w' => e = .returned (.bool (inB 0 1000000000 n)) ∧ w = w' := by
  go_enter Tryz.func97, Tryz.ntmps97
  go_wp2_with (go_at_call 56; refine (l1In_any _ _ _ _).mono ?_; rintro e w' ⟨rfl, rfl⟩)
  go_ret
  exact ⟨rfl, rfl⟩
end Go.Proofs.YtncandoohlndnaaGreat
namespace Go.Proofs.YtncandoohlndnaaGreat
open Go.ChangeShapes Go.WideShapes Go.ChangeAt Go.RowKit

/-- A purse. -/
structure Pur where
  name : ByteArray
  free : Int
def Pur.cells (p : Pur) : List Value := [.string p.name, .int .i64 p.free]
/-- All their cells, one behind the other. -/
def pcells : List Pur → List Value
  | [] => []
  | p :: r => .string p.name :: .int .i64 p.free :: pcells r
/-- These purses lie one behind the other from a on. -/
def Purs (w : World) (a : Option Addr) (ps : List Pur) : Prop := Lies w a (pcells ps)

theorem pcells_length : ∀ ps : List Pur, (pcells ps).length = ps.length * 2
  | [] => rfl
  | p :: r => by simp [pcells, pcells_length r]; omega
theorem pcells_name : ∀ (ps : List Pur) (k : Nat) (h : k < ps.length), (pcells ps)[k * 2]? = some (.string ps[k].name)
  | p :: r, 0, _ => rfl
  | p :: r, k + 1, h => by
    have := pcells_name r k (by simpa using h)
    rw [show (k + 1) * 2 = k * 2 + 2 by omega]
    simpa [pcells] using this
theorem pcells_free : ∀ (ps : List Pur) (k : Nat) (h : k < ps.length), (pcells ps)[k * 2 + 1]? = some (.int .i64 ps[k].free)
  | p :: r, 0, _ => rfl
  | p :: r, k + 1, h => by
    have := pcells_free r k (by simpa using h)
    rw [show (k + 1) * 2 + 1 = k * 2 + 1 + 2 by omega]
    simpa [pcells] using this
theorem Purs.at {w : World} {a : Option Addr} {ps : List Pur} (h : Purs w a ps) (k : Nat) (hk : k < ps.length) :
    ∃ b off, a = some ⟨b, off, none⟩ ∧ b < w.heap.size ∧ w.cell? ⟨b, off + k * 2, none⟩ = some (.string ps[k].name) ∧ w.cell? ⟨b, off + k * 2 + 1, none⟩ = some (.int .i64 ps[k].free) := by
  obtain ⟨b, off, e, hc⟩ := h _ _ (pcells_name ps k hk)
  obtain ⟨b', off', e', hc'⟩ := h _ _ (pcells_free ps k hk)
  rw [e] at e'; injection e' with e'; injection e' with e1 e2; subst e1; subst e2
  exact ⟨b, off, e, at_lt hc, hc, by rw [Nat.add_assoc]; exact hc'⟩
theorem Purs.below {w w' : World} {a : Option Addr} {ps : List Pur} (h : Purs w a ps) (hb : Below w.heap.size w w') : Purs w' a ps := Lies.below h hb

/-- Their names. -/
def pnames (ps : List Pur) : List ByteArray := ps.map Pur.name
theorem pnames_at {ps : List Pur} {k : Nat} (h : k < ps.length) : sat (pnames ps) k = ps[k].name := by
  rw [sat_eq (by simpa [pnames] using h)]; simp [pnames]

set_option maxHeartbeats 1000000 in
set_option maxRecDepth 100000 in
theorem l3Find_any {w : World} {a : Option Addr} {ps : List Pur} (cap : Nat) (s : ByteArray) (h : Purs w a ps) (hl : ps.length ≤ 9223372036854775807) :
    Calls Tryz.prog 14 #[.slice a ps.length cap, .string s] w fun e w' => e = .returned (.int .i64 (placeV (pnames ps) s)) ∧ w = w' := by
  have H := Lib.hid h
  clear h
  go_enter Tryz.func14, Tryz.ntmps14
  go_wp2
  go_loop [5] (fun i => ∃ k : Nat, k ≤ ps.length ∧ i = .int .i64 k ∧ Out (pnames ps) s k) (fun i => ps.length - (intOf i).toNat)
  case atStart => exact ⟨0, Nat.zero_le _, rfl, Out.zero _ s⟩
  case round =>
    obtain ⟨k, hk, rfl, hu⟩ := hrel
    have HU := Lib.hid hu
    clear hu
    by_cases hlt : k < ps.length
    · obtain ⟨b, off, rfl, _, hc, hc1⟩ := H.out.at k hlt
      have HA := Lib.hid (pnames_at hlt)
      cases hq : (ps[k].name.toList == s.toList)
      · have HN := Lib.hid (HU.out.succ (by rw [HA.out]; exact hq))
        go_wp2
        go_round
        case rel => exact ⟨k + 1, by omega, by go_num, HN.out⟩
        case measure => simp [intOf]; omega
      · have HN := Lib.hid (place_in (by simpa [pnames] using hlt) HU.out (by rw [HA.out]; exact hq))
        go_wp2
        go_ret
        exact ⟨by rw [HN.out]; rfl, rfl⟩
    · obtain rfl : k = ps.length := by omega
      have HN := Lib.hid (place_out (ss := pnames ps) (s := s) (by simpa [pnames] using HU.out))
      go_wp2
      go_ret
      exact ⟨by rw [HN.out]; rfl, rfl⟩
end Go.Proofs.YtncandoohlndnaaGreat
namespace Go.Proofs.YtncandoohlndnaaGreat
open Go.ChangeShapes Go.WideShapes Go.ChangeAt Go.RowKit

/-- All bytes of the first k, together. -/
def totS (ss : List ByteArray) (k : Nat) : Nat := ((ss.take k).map ByteArray.size).sum
theorem totS_zero (ss : List ByteArray) : totS ss 0 = 0 := by simp [totS]
theorem totS_succ {ss : List ByteArray} {k : Nat} (h : k < ss.length) : totS ss (k + 1) = totS ss k + ss[k].size := by
  unfold totS
  rw [List.take_succ_eq_append_getElem h, List.map_append, List.sum_append]
  simp only [List.map_cons, List.map_nil, List.sum_cons, List.sum_nil, Nat.add_zero]
theorem totS_mono (ss : List ByteArray) {j k : Nat} (h : j ≤ k) : totS ss j ≤ totS ss k := by
  induction k with
  | zero => have : j = 0 := by omega
            subst this; exact Nat.le_refl _
  | succ k ih =>
    by_cases e : j = k + 1
    · subst e; exact Nat.le_refl _
    · have h1 := ih (by omega)
      by_cases hk : k < ss.length
      · rw [totS_succ hk]; omega
      · have : totS ss (k + 1) = totS ss k := by unfold totS; rw [List.take_of_length_le (by omega), List.take_of_length_le (by omega)]
        omega
theorem size_le_totS {ss : List ByteArray} {k : Nat} (h : k < ss.length) : ss[k].size ≤ totS ss ss.length := by
  have h1 := totS_succ h
  have h2 := totS_mono ss (show k + 1 ≤ ss.length by omega)
  omega

/-- What is left of so many: -1 where they are too many. -/
def szV (ss : List ByteArray) (left : Int) : Int := if (ss.length : Int) + totS ss ss.length ≤ left then left - ss.length - totS ss ss.length else -1
theorem szV_no {ss : List ByteArray} {left : Int} {k : Nat} (hk : k ≤ ss.length) (h : left < ss.length + totS ss k) : szV ss left = -1 := by
  have := totS_mono ss hk
  unfold szV; rw [if_neg (by omega)]
theorem szV_yes {ss : List ByteArray} {left : Int} (h : (ss.length : Int) + totS ss ss.length ≤ left) : szV ss left = left - ss.length - totS ss ss.length := by
  unfold szV; rw [if_pos h]

theorem szV_small {ss : List ByteArray} (h : ¬ szV ss 1048576 < 0) : ss.length ≤ 1048576 ∧ ∀ s ∈ ss, s.size ≤ 1048576 := by
  unfold szV at h
  split at h
  · rename_i hle
    refine ⟨by omega, fun s hs => ?_⟩
    obtain ⟨k, hk, rfl⟩ := List.getElem_of_mem hs
    have := size_le_totS hk
    omega
  · omega

/-- What 'toStringS' leaves: the same strings, in the block behind all that was there. -/
def ToStrs (ss : List ByteArray) (w : World) (e : Ending) (w' : World) : Prop :=
  e = .returned (.slice (some ⟨w.heap.size, 0, none⟩) ss.length ss.length) ∧ Strs w' (some ⟨w.heap.size, 0, none⟩) ss ∧ Below w.heap.size w w'

theorem info_string : (Tryz.prog.info? 9).map (fun i => (i.zero, i.size, i.bytes)) = some (some (.string ByteArray.empty), 1, 16) := by kernel_rfl

theorem beq_refl_bytes (s : ByteArray) : (s.toList == s.toList) = true := by simp

end Go.Proofs.YtncandoohlndnaaGreat
namespace Go.Proofs.YtncandoohlndnaaGreat
open Go.ChangeShapes Go.WideShapes Go.ChangeAt Go.RowKit

theorem pnames_length (ps : List Pur) : (pnames ps).length = ps.length := by simp [pnames]
theorem pnames_get {ps : List Pur} {k : Nat} (h : k < ps.length) : (pnames ps)[k]'(by simpa [pnames] using h) = ps[k].name := by simp [pnames]
theorem totP_succ {ps : List Pur} {k : Nat} (h : k < ps.length) : totS (pnames ps) (k + 1) = totS (pnames ps) k + ps[k].name.size := by
  rw [totS_succ (by simpa [pnames] using h), pnames_get h]

set_option maxHeartbeats 1000000 in
set_option maxRecDepth 100000 in
theorem szPurseS_any {w : World} {a : Option Addr} {ps : List Pur} (cap : Nat) (left : Int) (h : Purs w a ps) (hl : (ps.length : Int) ≤ 9223372036854775807) (hs : ∀ p ∈ ps, p.name.size ≤ 9223372036854775807) (h0 : 0 ≤ left) (h1 : left ≤ 1048576) :
    Calls Tryz.prog 9 #[.slice a ps.length cap, .int .i64 left] w fun e w' => e = .returned (.int .i64 (szV (pnames ps) left)) ∧ Below w.heap.size w w' := by
  have H := Lib.hid h
  have HS := Lib.hid hs
  have HL := Lib.hid (pnames_length ps)
  clear h hs
  by_cases hz : left < ps.length
  · have hn := Lib.hid (szV_no (ss := pnames ps) (left := left) (k := 0) (Nat.zero_le _) (by rw [HL.out]; omega))
    have hd : left - (ps.length : Int) < 0 := by omega
    go_enter Tryz.func9, Tryz.ntmps9
    go_wp2
    go_ret
    exact ⟨by rw [hn.out]; rfl, Below.refl _ _⟩
  · have hd : ¬ left - (ps.length : Int) < 0 := by omega
    go_enter Tryz.func9, Tryz.ntmps9
    go_wp2
    go_loopw [1, 5] (fun t i w' => ∃ k : Nat, k ≤ ps.length ∧ i = .int .i64 k ∧ t = .int .i64 (left - ps.length - totS (pnames ps) k) ∧ (totS (pnames ps) k : Int) ≤ left - ps.length ∧ Below w.heap.size w w') (fun _ i _ => ps.length - (intOf i).toNat)
    case atStart => exact ⟨0, Nat.zero_le _, rfl, by rw [totS_zero]; go_num, by rw [totS_zero]; omega, Below.refl _ _⟩
    case round =>
      obtain ⟨k, hk, rfl, rfl, ht, hb⟩ := hrel
      have HB := Lib.hid hb
      clear hb
      by_cases hlt : k < ps.length
      · obtain ⟨b, off, rfl, _, hc, hc1⟩ := (H.out.below HB.out).at k hlt
        have hsz := HS.out ps[k] (List.getElem_mem hlt)
        have hsu := Lib.hid (totP_succ hlt)
        by_cases hz : left - ps.length - totS (pnames ps) k < ps[k].name.size
        · have hn := Lib.hid (szV_no (ss := pnames ps) (left := left) (k := k + 1) (by rw [HL.out]; omega) (by rw [hsu.out, HL.out]; omega))
          have hd : left - (ps.length : Int) - (totS (pnames ps) k : Int) - (ps[k].name.size : Int) < 0 := by omega
          go_wp2
          go_ret
          exact ⟨by rw [hn.out]; rfl, HB.out.alloc HB.out.size _⟩
        · have hd : ¬ left - (ps.length : Int) - (totS (pnames ps) k : Int) - (ps[k].name.size : Int) < 0 := by omega
          go_wp2
          go_roundw
          case rel => exact ⟨k + 1, by omega, by go_num, by rw [hsu.out]; go_num, by rw [hsu.out]; omega, HB.out.alloc HB.out.size _⟩
          case measure => simp [intOf]; omega
      · obtain rfl : k = ps.length := by omega
        have hn := Lib.hid (szV_yes (ss := pnames ps) (left := left) (by rw [HL.out]; omega))
        go_wp2
        go_ret
        exact ⟨by rw [hn.out, HL.out]; rfl, HB.out⟩

theorem info_purse : (Tryz.prog.info? 79).map (fun i => (i.zero, i.size, i.bytes)) = some (some (.agg #[.string ByteArray.empty, .int .i64 0]), 2, 24) := by kernel_rfl

set_option maxHeartbeats 1000000 in
set_option maxRecDepth 100000 in
theorem toPurse_any (s : ByteArray) (n : Int) (w : World) :
    Calls Tryz.prog 36 #[.agg #[.string s, .int .i64 n]] w fun e w' => e = .returned (.agg #[.string s, .int .i64 n]) ∧ Below w.heap.size w w' := by
  go_enter Tryz.func36, Tryz.ntmps36
  go_wp2
  refine bodyPost_ret (v := .agg #[.string s, .int .i64 n]) (by simp [results, Tryz.results36, go_sem]) rfl ⟨rfl, ?_⟩
  exact (((Below.refl _ _).alloc (Nat.le_refl _) _).alloc (by simp) _).alloc (by simp; omega) _

/-- What 'toPurseS' leaves: the same purses, in the block behind all that was there. -/
def ToPurs (ps : List Pur) (w : World) (e : Ending) (w' : World) : Prop :=
  e = .returned (.slice (some ⟨w.heap.size, 0, none⟩) ps.length ps.length) ∧ Purs w' (some ⟨w.heap.size, 0, none⟩) ps ∧ Below w.heap.size w w' ∧ (∀ o, w'.frozen? ⟨w.heap.size, o, none⟩ = false) ∧ w.heap.size < w'.heap.size

theorem room_two {w w' : World} {n k : Nat} {ps : List Pur} (h : Room w n (pcells ps) (k * 2) w') (hk : k < ps.length) (hn : n = ps.length * 2) :
    Room w n (pcells ps) ((k + 1) * 2) ((w'.setCell ⟨w.heap.size, k * 2, none⟩ (.string ps[k].name)).setCell ⟨w.heap.size, k * 2 + 1, none⟩ (.int .i64 ps[k].free)) := by
  rw [show (k + 1) * 2 = k * 2 + 1 + 1 by omega]
  exact (h.set (by omega) (pcells_name ps k hk)).set (by omega) (pcells_free ps k hk)

set_option maxHeartbeats 1000000 in
set_option maxRecDepth 100000 in
theorem toPurseS_any {w : World} {a : Option Addr} {ps : List Pur} (cap : Nat) (h : Purs w a ps) (hl : ps.length ≤ 1048576) :
    Calls Tryz.prog 15 #[.slice a ps.length cap] w (ToPurs ps w) := by
  have H := Lib.hid h
  clear h
  have hmk := run_make_many (P := Tryz.prog) 30 79 (.agg #[.string ByteArray.empty, .int .i64 0]) 2 24 Tryz.underlying30 info_purse .i64 .i64 ps.length (by omega) (by omega)
  go_enter Tryz.func15, Tryz.ntmps15
  go_wp2
  clear hmk
  go_loopw [4] (fun i w' => ∃ k : Nat, k ≤ ps.length ∧ i = .int .i64 k ∧ Room w (ps.length * 2) (pcells ps) (k * 2) w') (fun i _ => ps.length - (intOf i).toNat)
  case atStart => exact ⟨0, Nat.zero_le _, rfl, Room.made _ _ _ _ _⟩
  case round =>
    obtain ⟨k, hk, rfl, hr⟩ := hrel
    by_cases hlt : k < ps.length
    · obtain ⟨b, off, rfl, hb, hc0, hc1⟩ := H.out.at k hlt
      have hc := (hr.low.cell (p := ⟨b, off + k * 2, none⟩) hb).trans hc0
      have hc' := (hr.low.cell (p := ⟨b, off + k * 2 + 1, none⟩) hb).trans hc1
      have HR := Lib.hid hr
      clear hr hc0 hc1
      go_wp2_with fail
      refine (toPurse_any _ _ _).mono ?_
      rintro e w2 ⟨rfl, hb2⟩
      have hr2 := HR.out.below hb2
      obtain ⟨u, hu⟩ := hr2.all (k * 2) (by omega)
      obtain ⟨u', hu'⟩ := hr2.all (k * 2 + 1) (by omega)
      have hf := hr2.free (k * 2)
      have hf' := hr2.free (k * 2 + 1)
      have HR2 := Lib.hid (room_two hr2 hlt rfl)
      clear hr2 hb2 HR
      go_wp2
      go_roundw
      case rel => exact ⟨k + 1, by omega, by go_num, HR2.out⟩
      case measure => simp [intOf]; omega
    · obtain rfl : k = ps.length := by omega
      have HR := Lib.hid hr
      clear hr
      go_wp2
      go_ret
      exact ⟨rfl, HR.out.lies (by rw [pcells_length]; omega), HR.out.low, HR.out.free, HR.out.has⟩

set_option maxHeartbeats 1000000 in
set_option maxRecDepth 100000 in
theorem eqPurse_same (s : ByteArray) (n : Int) (w : World) :
    Calls Tryz.prog 48 #[.agg #[.string s, .int .i64 n], .agg #[.string s, .int .i64 n]] w fun e w' => e = .returned (.bool true) ∧ Below w.heap.size w w' := by
  go_enter Tryz.func48, Tryz.ntmps48
  go_wp2
  go_ret
  exact ⟨rfl, ((Below.refl _ _).alloc (Nat.le_refl _) _).alloc (by simp) _⟩

set_option maxHeartbeats 1000000 in
set_option maxRecDepth 100000 in
/-- Both lists hold the same purses: it says so. -/
theorem eqPurseS_same {w : World} {a a' : Option Addr} {ps : List Pur} (cap cap' : Nat) (h : Purs w a ps) (h' : Purs w a' ps) (hl : ps.length ≤ 1048576) :
    Calls Tryz.prog 25 #[.slice a ps.length cap, .slice a' ps.length cap'] w fun e w' => e = .returned (.bool true) ∧ Below w.heap.size w w' := by
  have H := Lib.hid h
  have H' := Lib.hid h'
  clear h h'
  go_enter Tryz.func25, Tryz.ntmps25
  go_wp2
  go_loopw [5] (fun i w' => ∃ (k : Nat), k ≤ ps.length ∧ i = .int .i64 k ∧ Below w.heap.size w w') (fun i _ => ps.length - (intOf i).toNat)
  case atStart => exact ⟨0, Nat.zero_le _, rfl, Below.refl _ _⟩
  case round =>
    obtain ⟨k, hk, rfl, hb⟩ := hrel
    have HB := Lib.hid hb
    clear hb
    by_cases hlt : k < ps.length
    · obtain ⟨b, off, rfl, _, hc, hc1⟩ := (H.out.below HB.out).at k hlt
      obtain ⟨b', off', rfl, _, hc', hc1'⟩ := (H'.out.below HB.out).at k hlt
      go_wp2
      go_still_tail 8, (by kernel_rfl)
      change wpList _ _ _ _ _ wr.drew
      go_wp2_with fail
      refine (eqPurse_same _ _ _).mono ?_
      rintro e w2 ⟨rfl, hb2⟩
      have HB2 := Lib.hid (below_trans (show Below w.heap.size w wr.drew from below_draws HB.out 1) hb2)
      clear hb2
      go_wp2
      go_roundw
      case rel => exact ⟨k + 1, by omega, by go_num, HB2.out⟩
      case measure => simp [intOf]; omega
    · go_wp2
      go_ret
      exact ⟨rfl, HB.out⟩

/-- Marks, from k on. -/
def pmarks (k : Nat) : Nat → List Pur
  | 0 => []
  | n + 1 => ⟨markB k, (k + 1 : Nat)⟩ :: pmarks (k + 2) n
theorem pmarks_length : ∀ (k n : Nat), (pmarks k n).length = n
  | _, 0 => rfl
  | k, n + 1 => by simp [pmarks, pmarks_length (k + 2) n]
theorem pmarks_at : ∀ (n k i : Nat) (h : i < n), (pmarks k n)[i]'(by rw [pmarks_length]; exact h) = ⟨markB (k + i * 2), (k + i * 2 + 1 : Nat)⟩
  | n + 1, k, 0, _ => by simp [pmarks]
  | n + 1, k, i + 1, h => by
    have := pmarks_at n (k + 2) i (by omega)
    simp only [pmarks, List.getElem_cons_succ, this]
    rw [show k + 2 + i * 2 = k + (i + 1) * 2 by omega]

end Go.Proofs.YtncandoohlndnaaGreat
namespace Go.Proofs.YtncandoohlndnaaGreat
open Go.ChangeShapes Go.WideShapes Go.ChangeAt Go.RowKit

/-- The first n are amounts. -/
def Amts (ps : List Pur) (n : Nat) : Prop := ∀ j (h : j < ps.length), j < n → inB 0 1000000 ps[j].free = true
instance (ps : List Pur) (n : Nat) : Decidable (Amts ps n) := inferInstanceAs (Decidable (∀ j (h : j < ps.length), j < n → inB 0 1000000 ps[j].free = true))
/-- They are folk. -/
def folkB (ps : List Pur) : Bool := decide (ps.length ≤ 8 ∧ Amts ps ps.length ∧ risesB (pnames ps) = true)
theorem folk_true {ps : List Pur} (h : folkB ps = true) : ps.length ≤ 8 ∧ Amts ps ps.length ∧ risesB (pnames ps) = true := by simpa [folkB] using h
theorem folk_yes {ps : List Pur} (h : ps.length ≤ 8) (h1 : Amts ps ps.length) (h2 : risesB (pnames ps) = true) : folkB ps = true := by simp [folkB, h, h1, h2]
theorem folk_long {ps : List Pur} (h : ¬ ps.length ≤ 8) : folkB ps = false := by simp [folkB]; omega
theorem folk_amt {ps : List Pur} {k : Nat} (hk : k < ps.length) (h : inB 0 1000000 ps[k].free = false) : folkB ps = false := by
  simp only [folkB, decide_eq_false_iff_not]; rintro ⟨_, h1, _⟩; rw [h1 k hk hk] at h; cases h
theorem folk_rise {ps : List Pur} (h : risesB (pnames ps) = false) : folkB ps = false := by
  simp only [folkB, decide_eq_false_iff_not]; rintro ⟨_, _, h1⟩; rw [h1] at h; cases h
theorem Amts.zero (ps : List Pur) : Amts ps 0 := fun _ _ h => by omega
theorem Amts.succ {ps : List Pur} {k : Nat} (h : Amts ps k) (hk : k < ps.length) (h1 : inB 0 1000000 ps[k].free = true) : Amts ps (k + 1) := by
  intro j hj hlt
  by_cases e : j = k
  · subst e; exact h1
  · exact h j hj (by omega)
theorem len_pn (ps : List Pur) : (pnames ps).length = ps.length := by simp [pnames]

set_option maxHeartbeats 2000000 in
set_option maxRecDepth 100000 in
theorem sFolkOk_any {w : World} {a : Option Addr} {ps : List Pur} (cap : Nat) (h : Purs w a ps) (hl : ps.length ≤ 9223372036854775807) (hs : Sized (pnames ps)) :
    Calls Tryz.prog 52 #[.slice a ps.length cap] w fun e w' => e = .returned (.bool (folkB ps)) ∧ ∃ n, w' = w.drewN n := by
  have H := Lib.hid h
  have HS := Lib.hid hs
  clear h hs
  go_enter Tryz.func52, Tryz.ntmps52
  go_wp2
  go_loopw [3] (fun i w' => ∃ (k n : Nat), k ≤ ps.length ∧ i = .int .i64 k ∧ w' = w.drewN n ∧ Up (pnames ps) k ∧ Amts ps k) (fun i _ => ps.length - (intOf i).toNat)
  case atStart => exact ⟨0, 0, Nat.zero_le _, rfl, rfl, Up.zero _, Amts.zero _⟩
  case round =>
    obtain ⟨k, n, hk, rfl, rfl, hu, hm⟩ := hrel
    have HU := Lib.hid hu
    have HM := Lib.hid hm
    clear hu hm
    by_cases hlt : k < ps.length
    · obtain ⟨b, off, rfl, _, hc, hc1⟩ := H.out.at k hlt
      have HA := Lib.hid (pnames_at hlt)
      have hsz : Hid (ps[k].name.size ≤ maxLen) := by have := HS.out k; rw [HA.out] at this; exact this
      have hlp : k < (pnames ps).length := by rw [len_pn]; exact hlt
      cases hn : nameB ps[k].name
      · have HN := Lib.hid (folk_rise (rises_no hlp (by rw [HA.out]; exact hn)))
        go_wp2
        go_quiet ((go_at_call 80; first | exact quiet_is2 hn (sNameOk_any _ _ hsz.out) | exact quiet_is hn (sNameOk_any _ _ hsz.out)))
        go_wp2
        go_ret
        exact ⟨by rw [HN.out]; rfl, drawn_more _ _⟩
      · cases hm : inB 0 1000000 ps[k].free
        · have HN := Lib.hid (folk_amt hlt hm)
          go_wp2
          go_quiet (first | (go_at_call 80; first | exact quiet_is2 hn (sNameOk_any _ _ hsz.out) | exact quiet_is hn (sNameOk_any _ _ hsz.out)) | (go_at_call 57; first | exact quiet_is2 hm (sAmountOk_any _ _) | exact quiet_is hm (sAmountOk_any _ _)))
          go_wp2
          go_ret
          exact ⟨by rw [HN.out]; rfl, drawn_more _ _⟩
        · cases k with
          | zero =>
            have HN := Lib.hid (Up.one (ss := pnames ps) (by rw [HA.out]; exact hn))
            have HN2 := Lib.hid (HM.out.succ hlt hm)
            have hc0 : w.cell? ⟨b, off, none⟩ = some (.string ps[0].name) := by simpa using hc
            have hc01 : w.cell? ⟨b, off + 1, none⟩ = some (.int .i64 ps[0].free) := by simpa using hc1
            go_wp2
            go_quiet (first | (go_at_call 80; first | exact quiet_is2 hn (sNameOk_any _ _ hsz.out) | exact quiet_is hn (sNameOk_any _ _ hsz.out)) | (go_at_call 57; first | exact quiet_is2 hm (sAmountOk_any _ _) | exact quiet_is hm (sAmountOk_any _ _)))
            go_wp2
            go_roundw
            case rel => exact ⟨1, _, by omega, by go_num, rfl, HN.out, HN2.out⟩
            case measure => simp [intOf]; omega
          | succ m =>
            obtain ⟨b', off', e', _, hc', hc1'⟩ := H.out.at m (by omega)
            obtain ⟨rfl, rfl⟩ : b' = b ∧ off' = off := by injection e' with e'; injection e' with e1 e2; exact ⟨e1.symm, e2.symm⟩
            clear e'
            have HA' := Lib.hid (pnames_at (ps := ps) (k := m) (by omega))
            have HN2 := Lib.hid (HM.out.succ hlt hm)
            cases hq : (Op.bytesLess (ps[m + 1]).name.toList (ps[m]).name.toList || (ps[m + 1]).name.toList == (ps[m]).name.toList)
            · have HN := Lib.hid (HU.out.succ (by rw [HA.out]; exact hn) (by rw [HA.out, HA'.out]; exact hq))
              go_wp2
              go_quiet (first | (go_at_call 80; first | exact quiet_is2 hn (sNameOk_any _ _ hsz.out) | exact quiet_is hn (sNameOk_any _ _ hsz.out)) | (go_at_call 57; first | exact quiet_is2 hm (sAmountOk_any _ _) | exact quiet_is hm (sAmountOk_any _ _)))
              go_wp2
              go_roundw
              case rel => exact ⟨m + 2, _, by omega, by go_num, rfl, HN.out, HN2.out⟩
              case measure => simp [intOf]; omega
            · have HN := Lib.hid (folk_rise (rises_not hlp (by rw [HA.out, HA'.out]; exact hq)))
              go_wp2
              go_quiet (first | (go_at_call 80; first | exact quiet_is2 hn (sNameOk_any _ _ hsz.out) | exact quiet_is hn (sNameOk_any _ _ hsz.out)) | (go_at_call 57; first | exact quiet_is2 hm (sAmountOk_any _ _) | exact quiet_is hm (sAmountOk_any _ _)))
              go_wp2
              go_ret
              exact ⟨by rw [HN.out]; rfl, drawn_more _ _⟩
    · obtain rfl : k = ps.length := by omega
      by_cases h8 : ps.length ≤ 8
      · have HN := Lib.hid (folk_yes h8 HM.out (rises_yes (by rw [len_pn]; exact HU.out)))
        go_wp2
        go_ret
        exact ⟨by rw [HN.out]; simp; omega, _, rfl⟩
      · have HN := Lib.hid (folk_long h8)
        go_wp2
        go_ret
        exact ⟨by rw [HN.out]; simp; omega, _, rfl⟩
end Go.Proofs.YtncandoohlndnaaGreat
namespace Go.Proofs.YtncandoohlndnaaGreat
open Go.ChangeShapes Go.WideShapes Go.ChangeAt Go.RowKit

theorem info_strs : (Tryz.prog.info? 9).map (fun i => (i.zero, i.size, i.bytes)) = some (some (.string ByteArray.empty), 1, 16) := by kernel_rfl

theorem m_called (s : ByteArray) (n : Int) (w : World) : (method 301 79 (.agg #[.string s, .int .i64 n]) "loop.example/g00614/impl.called").run Tryz.prog w = .ok (153, .agg #[.string s, .int .i64 n]) w := by kernel_rfl
theorem m_right (s : ByteArray) (n : Int) (w : World) : (method 301 79 (.agg #[.string s, .int .i64 n]) "loop.example/g00614/impl.right").run Tryz.prog w = .ok (154, .agg #[.string s, .int .i64 n]) w := by kernel_rfl

/-- What 'names' leaves: the names, in the block behind all that was there. -/
def ToNames (ps : List Pur) (w : World) (e : Ending) (w' : World) : Prop :=
  e = .returned (.slice (some ⟨w.heap.size, 0, none⟩) ps.length ps.length) ∧ Strs w' (some ⟨w.heap.size, 0, none⟩) (pnames ps) ∧ Below w.heap.size w w'

set_option maxHeartbeats 1000000 in
set_option maxRecDepth 100000 in
theorem names_any {w : World} {a : Option Addr} {ps : List Pur} (cap : Nat) (h : Purs w a ps) (hl : ps.length ≤ 1048576) :
    Calls Tryz.prog 92 #[.slice a ps.length cap] w (ToNames ps w) := by
  have H := Lib.hid h
  clear h
  have hmk := run_make_row' (P := Tryz.prog) 127 9 (.string ByteArray.empty) 16 Tryz.underlying127 info_strs rfl .i64 .i64 ps.length (by omega) (by omega)
  go_enter Tryz.func92, Tryz.ntmps92
  go_wp2
  clear hmk
  go_loopw [11] (fun i w' => ∃ k : Nat, k ≤ ps.length ∧ i = .int .i64 k ∧ Room w ps.length ((pnames ps).map .string) k w') (fun i _ => ps.length - (intOf i).toNat)
  case atStart => exact ⟨0, Nat.zero_le _, rfl, Room.new _ _ _ _ _⟩
  case round =>
    obtain ⟨k, hk, rfl, hr⟩ := hrel
    by_cases hlt : k < ps.length
    · obtain ⟨b, off, rfl, hb, hc0, hc1⟩ := H.out.at k hlt
      have hc := (hr.low.cell (p := ⟨b, off + k * 2, none⟩) hb).trans hc0
      have hc' := (hr.low.cell (p := ⟨b, off + k * 2 + 1, none⟩) hb).trans hc1
      have hm := m_called ps[k].name ps[k].free
      obtain ⟨u, hu⟩ := hr.all k hlt
      have hf := hr.free k
      have hlo := hr.has
      have hle := hr.low.size
      have HR := Lib.hid (((hr.set (v := .string ps[k].name) hlt (by rw [List.getElem?_map, List.getElem?_eq_getElem (by rw [len_pn]; exact hlt)]; simp [pnames])).below (below_new _ (.cells #[.string ps[k].name, .int .i64 ps[k].free] 79))).below (below_new _ (.cells #[.string ps[k].name, .int .i64 ps[k].free] 79)))
      clear hr hc0 hc1
      go_wp2
      go_roundw
      case rel => exact ⟨k + 1, by omega, by go_num, HR.out⟩
      case measure => simp [intOf]; omega
    · obtain rfl : k = ps.length := by omega
      have HR := Lib.hid hr
      clear hr
      go_wp2
      go_ret
      exact ⟨rfl, HR.out.lies (by simp [pnames]), HR.out.low⟩

set_option maxHeartbeats 1000000 in
set_option maxRecDepth 100000 in
theorem right_any (s : ByteArray) (n : Int) (w : World) :
    Calls Tryz.prog 154 #[.agg #[.string s, .int .i64 n]] w fun e w' => e = .returned (.bool (inB 0 1000000 n)) ∧ Below w.heap.size w w' := by
  go_enter Tryz.func154, Tryz.ntmps154
  go_wp2_with (go_at_call 65; refine (iAmountOk_any _ _).mono ?_; rintro e w' ⟨rfl, rfl⟩)
  go_ret
  exact ⟨rfl, below_new _ _⟩

set_option maxHeartbeats 1000000 in
set_option maxRecDepth 100000 in
theorem ok_any {w : World} {a : Option Addr} {ps : List Pur} (cap : Nat) (h : Purs w a ps) (hl : ps.length ≤ 1048576) (hs : Sized (pnames ps)) :
    Calls Tryz.prog 90 #[.slice a ps.length cap, .int .i64 8] w fun e w' => e = .returned (.bool (folkB ps)) ∧ Below w.heap.size w w' := by
  have H := Lib.hid h
  have HS := Lib.hid hs
  clear h hs
  by_cases h8 : ps.length ≤ 8
  case neg =>
    have HN := Lib.hid (folk_long h8)
    have hd : decide ((8 : Int) < (ps.length : Int)) = true := by simp; omega
    go_enter Tryz.func90, Tryz.ntmps90
    go_wp2
    go_ret
    exact ⟨by rw [HN.out]; rfl, Below.refl _ _⟩
  have hd : decide ((8 : Int) < (ps.length : Int)) = false := by simp; omega
  go_enter Tryz.func90, Tryz.ntmps90
  go_wp2
  go_loopw [13] (fun i w' => ∃ k : Nat, k ≤ ps.length ∧ i = .int .i64 k ∧ Amts ps k ∧ Below w.heap.size w w') (fun i _ => ps.length - (intOf i).toNat)
  case atStart => exact ⟨0, Nat.zero_le _, rfl, Amts.zero _, Below.refl _ _⟩
  case round =>
    obtain ⟨k, hk, rfl, hm, hb⟩ := hrel
    have HM := Lib.hid hm
    have HB := Lib.hid hb
    clear hm hb
    by_cases hlt : k < ps.length
    · obtain ⟨b, off, rfl, _, hc, hc1⟩ := (H.out.below HB.out).at k hlt
      have hmr := m_right ps[k].name ps[k].free
      cases hi : inB 0 1000000 ps[k].free
      · have HN := Lib.hid (folk_amt hlt hi)
        go_wp2_with (go_at_call 154; refine (right_any _ _ _).mono ?_; rintro e w2 ⟨rfl, hb2⟩; rw [hi]; have HB2 := Lib.hid (below_trans HB.out (below_trans (below_new _ _) hb2)); clear hb2)
        go_ret
        exact ⟨by rw [HN.out]; rfl, HB2.out⟩
      · have HN := Lib.hid (HM.out.succ hlt hi)
        go_wp2_with (go_at_call 154; refine (right_any _ _ _).mono ?_; rintro e w2 ⟨rfl, hb2⟩; rw [hi]; have HB2 := Lib.hid (below_trans HB.out (below_trans (below_new _ _) hb2)); clear hb2)
        go_roundw
        case rel => exact ⟨k + 1, by omega, by go_num, HN.out, HB2.out⟩
        case measure => simp [intOf]; omega
    · obtain rfl : k = ps.length := by omega
      go_wp2_with fail
      refine (names_any _ (H.out.below HB.out) hl).mono ?_
      rintro e w2 ⟨rfl, hs2, hb2⟩
      have HS2 := Lib.hid hs2
      have HB2 := Lib.hid (below_trans HB.out hb2)
      clear hs2 hb2
      have HP := Lib.hid (len_pn ps)
      have hri : Calls Tryz.prog 101 #[.slice (some ⟨wr.heap.size, 0, none⟩) ps.length ps.length] w2 fun e w' => e = .returned (.bool (risesB (pnames ps))) ∧ w2 = w' := by
        have := iRises_any ps.length HS2.out (by rw [HP.out]; omega) HS.out
        rw [HP.out] at this
        exact this
      have HRI := Lib.hid hri
      clear hri
      go_wp2_with fail
      refine HRI.out.mono ?_
      rintro e w' ⟨rfl, rfl⟩
      cases hr : risesB (pnames ps)
      · have HN := Lib.hid (folk_rise hr)
        go_wp2
        go_ret
        exact ⟨by rw [HN.out]; rfl, HB2.out⟩
      · have HN := Lib.hid (folk_yes h8 HM.out hr)
        go_wp2
        go_ret
        exact ⟨by rw [HN.out]; rfl, HB2.out⟩

theorem iFolkOk_any {w : World} {a : Option Addr} {ps : List Pur} (cap : Nat) (h : Purs w a ps) (hl : ps.length ≤ 1048576) (hs : Sized (pnames ps)) :
    Calls Tryz.prog 72 #[.slice a ps.length cap] w fun e w' => e = .returned (.bool (folkB ps)) ∧ Below w.heap.size w w' := by
  go_enter Tryz.func72, Tryz.ntmps72
  go_wp2_with (go_at_call 90; refine (ok_any _ h hl hs).mono ?_; rintro e w2 ⟨rfl, hb2⟩)
  go_ret
  exact ⟨rfl, hb2⟩

theorem place_any {w : World} {a : Option Addr} {ps : List Pur} (cap : Nat) (s : ByteArray) (h : Purs w a ps) (hl : ps.length ≤ 1048576) :
    Calls Tryz.prog 73 #[.slice a ps.length cap, .string s] w fun e w' => e = .returned (.int .i64 (placeV (pnames ps) s)) ∧ Below w.heap.size w w' := by
  have H := Lib.hid h
  clear h
  go_enter Tryz.func73, Tryz.ntmps73
  go_wp2_with fail
  refine (names_any _ H.out hl).mono ?_
  rintro e w2 ⟨rfl, hs2, hb2⟩
  have HB2 := Lib.hid hb2
  have HP := Lib.hid (len_pn ps)
  have hri : Calls Tryz.prog 91 #[.slice (some ⟨w.heap.size, 0, none⟩) ps.length ps.length, .string s] w2 fun e w' => e = .returned (.int .i64 (placeV (pnames ps) s)) ∧ w2 = w' := by
    have := iPlaceIn_any ps.length s hs2 (by rw [HP.out]; omega)
    rw [HP.out] at this
    exact this
  have HRI := Lib.hid hri
  clear hri hs2 hb2
  go_wp2_with fail
  refine HRI.out.mono ?_
  rintro e w' ⟨rfl, rfl⟩
  go_wp2
  go_ret
  exact ⟨rfl, HB2.out⟩

theorem pcells_one : ∀ (ps : List Pur), ∀ v ∈ pcells ps, v.oneCell' = true
  | [], v, h => by simp [pcells] at h
  | p :: r, v, h => by
    simp only [pcells, List.mem_cons] at h
    rcases h with rfl | rfl | h
    · rfl
    · rfl
    · exact pcells_one r v h

theorem info_purse2 : (Tryz.prog.info? 79).map (fun i => (i.zero, i.size, i.bytes)) = some (some (.agg #[.string ByteArray.empty, .int .i64 0]), 2, 24) := by kernel_rfl
theorem size_purse : (Tryz.prog.info? 79).map (·.size) = some 2 := by kernel_rfl

end Go.Proofs.YtncandoohlndnaaGreat
namespace Go.Proofs.YtncandoohlndnaaGreat
open Go.ChangeShapes Go.WideShapes Go.ChangeAt Go.RowKit

theorem bytesLess_lt : ∀ (x y : List UInt8), Op.bytesLess x y = decide (x < y)
  | [], [] => by simp [Op.bytesLess]
  | _ :: _, [] => by simp [Op.bytesLess]
  | [], _ :: _ => by simp [Op.bytesLess]
  | a :: x, b :: y => by
    rw [Op.bytesLess, bytesLess_lt x y, Bool.eq_iff_iff]
    simp only [List.cons_lt_cons_iff, Bool.or_eq_true, Bool.and_eq_true, decide_eq_true_eq, beq_iff_eq]
theorem less_of {a b : ByteArray} (h : leqB b a = false) : a.toList < b.toList := by
  simp only [leqB, bytesLess_lt, Bool.or_eq_false_iff, decide_eq_false_iff_not, beq_eq_false_iff_ne] at h
  have h1 : a.toList ≤ b.toList := List.not_lt.1 h.1
  by_cases h2 : a.toList < b.toList
  · exact h2
  · exact absurd (List.le_antisymm (List.not_lt.1 h2) h1) h.2

theorem Up.less {ss : List ByteArray} {n : Nat} (h : Up ss n) {j : Nat} : ∀ m, j + 1 + m < n → (sat ss j).toList < (sat ss (j + 1 + m)).toList
  | 0, hm => less_of (h.2 j (by omega))
  | m + 1, hm => List.lt_trans (h.less m (by omega)) (less_of (h.2 (j + 1 + m) (by omega)))
theorem Up.ne {ss : List ByteArray} {n j k : Nat} (h : Up ss n) (hjk : j < k) (hk : k < n) : ((sat ss j).toList == (sat ss k).toList) = false := by
  have hl := h.less (j := j) (k - (j + 1)) (by omega)
  rw [show j + 1 + (k - (j + 1)) = k by omega] at hl
  rw [beq_eq_false_iff_ne]
  intro e
  rw [e] at hl
  exact List.lt_irrefl _ hl
/-- Of names that rise each is where it is. -/
theorem place_self {ss : List ByteArray} (h : risesB ss = true) {k : Nat} (hk : k < ss.length) : placeV ss (sat ss k) = k :=
  place_in hk (fun j hj => (rises_true h).ne hj hk) (by simp)
theorem rises_name {ss : List ByteArray} (h : risesB ss = true) {k : Nat} (hk : k < ss.length) : nameB (sat ss k) = true := (rises_true h).1 k hk

theorem placeUp_hit {ss : List ByteArray} {s : ByteArray} : ∀ {n : Nat}, 0 ≤ placeUp ss s n → ∃ k : Nat, placeUp ss s n = (k : Int) ∧ k < n ∧ ((sat ss k).toList == s.toList) = true
  | 0, h => by simp [placeUp] at h
  | n + 1, h => by
    rw [placeUp] at h ⊢
    by_cases h1 : placeUp ss s n = -1
    · rw [if_pos h1] at h ⊢
      cases h2 : ((sat ss n).toList == s.toList)
      · rw [h2] at h; simp at h
      · exact ⟨n, by simp, by omega, h2⟩
    · rw [if_neg h1] at h ⊢
      obtain ⟨k, e, hk, hq⟩ := placeUp_hit (n := n) h
      exact ⟨k, e, by omega, hq⟩
theorem place_hit {ss : List ByteArray} {s : ByteArray} (h : 0 ≤ placeV ss s) : ∃ k : Nat, placeV ss s = (k : Int) ∧ k < ss.length ∧ ((sat ss k).toList == s.toList) = true := placeUp_hit h
end Go.Proofs.YtncandoohlndnaaGreat
namespace Go.Proofs.YtncandoohlndnaaGreat
open Go.ChangeShapes Go.WideShapes Go.ChangeAt Go.RowKit

/-- Free of the one of that number. -/
def pfree (ps : List Pur) (k : Nat) : Int := (ps[k]?.map Pur.free).getD 0
theorem pfree_eq {ps : List Pur} {k : Nat} (h : k < ps.length) : pfree ps k = ps[k].free := by simp [pfree, h]
/-- Free of that one; -1 where there is none. -/
def freeOfV (ps : List Pur) (s : ByteArray) : Int := if folkB ps = true ∧ 0 ≤ placeV (pnames ps) s then pfree ps (placeV (pnames ps) s).toNat else -1
theorem freeOf_no {ps : List Pur} {s : ByteArray} (h : folkB ps = false) : freeOfV ps s = -1 := by simp [freeOfV, h]
theorem freeOf_out {ps : List Pur} {s : ByteArray} (h : ¬ 0 ≤ placeV (pnames ps) s) : freeOfV ps s = -1 := by simp [freeOfV, h]
theorem freeOf_in {ps : List Pur} {s : ByteArray} {k : Nat} (h : folkB ps = true) (e : placeV (pnames ps) s = k) (hk : k < ps.length) : freeOfV ps s = ps[k].free := by
  rw [freeOfV, if_pos ⟨h, by omega⟩, e]; exact pfree_eq hk
theorem place_lo (ss : List ByteArray) (s : ByteArray) : -1 ≤ placeV ss s := (placeUp_bd ss s ss.length).1

set_option maxHeartbeats 1000000 in
set_option maxRecDepth 100000 in
theorem iFreeOf_any {w : World} {a : Option Addr} {ps : List Pur} (cap : Nat) (s : ByteArray) (h : Purs w a ps) (hl : ps.length ≤ 1048576) (hs : Sized (pnames ps)) :
    Calls Tryz.prog 44 #[.slice a ps.length cap, .string s] w fun e w' => e = .returned (.int .i64 (freeOfV ps s)) ∧ Below w.heap.size w w' := by
  have H := Lib.hid h
  have HS := Lib.hid hs
  clear h hs
  go_enter Tryz.func44, Tryz.ntmps44
  go_wp2_with fail
  refine (iFolkOk_any _ H.out hl HS.out).mono ?_
  rintro e w1 ⟨rfl, hb1⟩
  have HB1 := Lib.hid hb1
  clear hb1
  cases hf : folkB ps
  · have HN := Lib.hid (freeOf_no (s := s) hf)
    go_wp2
    go_ret
    exact ⟨by rw [HN.out]; rfl, HB1.out⟩
  · go_wp2_with fail
    refine (place_any _ _ (H.out.below HB1.out) hl).mono ?_
    rintro e w2 ⟨rfl, hb2⟩
    have HB2 := Lib.hid (below_trans HB1.out hb2)
    clear hb2
    by_cases hp : 0 ≤ placeV (pnames ps) s
    · obtain ⟨k, e, hk, hq⟩ := place_hit hp
      have hk' : k < ps.length := by rw [len_pn] at hk; exact hk
      have HN := Lib.hid (freeOf_in hf e hk')
      rw [e]
      obtain ⟨b, off, rfl, _, hc, hc1⟩ := (H.out.below HB2.out).at k hk'
      clear hp e hk hq
      go_wp2
      go_ret
      exact ⟨by rw [HN.out]; rfl, HB2.out⟩
    · have HN := Lib.hid (freeOf_out hp)
      have hlo := place_lo (pnames ps) s
      have hpe : placeV (pnames ps) s = -1 := by omega
      rw [hpe]
      clear hp hpe hlo
      go_wp2
      go_ret
      exact ⟨by rw [HN.out]; rfl, HB2.out⟩

/-- All Free of the first k, together. -/
def sumP (ps : List Pur) : Nat → Int
  | 0 => 0
  | k + 1 => sumP ps k + pfree ps k
/-- All Free together; -1 where they are no folk. -/
def freeInV (ps : List Pur) : Int := if folkB ps then sumP ps ps.length else -1
theorem inB_bd {n : Int} (h : inB 0 1000000 n = true) : 0 ≤ n ∧ n ≤ 1000000 := by
  simp [inB] at h; omega
theorem sumP_bd {ps : List Pur} (h : Amts ps ps.length) : ∀ k, k ≤ ps.length → 0 ≤ sumP ps k ∧ sumP ps k ≤ 1000000 * k
  | 0, _ => by simp [sumP]
  | k + 1, hk => by
    have h1 := sumP_bd h k (by omega)
    have h2 := inB_bd (h k (by omega) (by omega))
    have h3 := pfree_eq (ps := ps) (k := k) (by omega)
    simp only [sumP, h3]
    omega

set_option maxHeartbeats 1000000 in
set_option maxRecDepth 100000 in
theorem l3Free_any {w : World} {a : Option Addr} {ps : List Pur} (cap : Nat) (h : Purs w a ps) (hf : folkB ps = true) :
    Calls Tryz.prog 60 #[.slice a ps.length cap] w fun e w' => e = .returned (.int .i64 (sumP ps ps.length)) ∧ w = w' := by
  obtain ⟨h8, hm, -⟩ := folk_true hf
  have H := Lib.hid h
  have HM := Lib.hid hm
  clear h hm hf
  go_enter Tryz.func60, Tryz.ntmps60
  go_wp2
  go_loop [3, 4] (fun t i => ∃ k : Nat, k ≤ ps.length ∧ i = .int .i64 k ∧ t = .int .i64 (sumP ps k)) (fun _ i => ps.length - (intOf i).toNat)
  case atStart => exact ⟨0, Nat.zero_le _, rfl, rfl⟩
  case round =>
    obtain ⟨k, hk, rfl, rfl⟩ := hrel
    have hb := sumP_bd HM.out k hk
    by_cases hlt : k < ps.length
    · obtain ⟨b, off, rfl, _, hc, hc1⟩ := H.out.at k hlt
      have hb2 := sumP_bd HM.out (k + 1) (by omega)
      have HN := Lib.hid (show sumP ps (k + 1) = sumP ps k + ps[k].free by simp only [sumP, pfree_eq hlt])
      have hb3 := inB_bd (HM.out k hlt hlt)
      clear hb2
      go_wp2
      go_round
      case rel => exact ⟨k + 1, by omega, by go_num, by rw [HN.out]⟩
      case measure => simp [intOf]; omega
    · obtain rfl : k = ps.length := by omega
      go_wp2
      go_ret
      exact ⟨rfl, rfl⟩

set_option maxHeartbeats 1000000 in
set_option maxRecDepth 100000 in
theorem iFreeIn_any {w : World} {a : Option Addr} {ps : List Pur} (cap : Nat) (h : Purs w a ps) (hl : ps.length ≤ 1048576) (hs : Sized (pnames ps)) :
    Calls Tryz.prog 86 #[.slice a ps.length cap] w fun e w' => e = .returned (.int .i64 (freeInV ps)) ∧ Below w.heap.size w w' := by
  have H := Lib.hid h
  have HS := Lib.hid hs
  clear h hs
  go_enter Tryz.func86, Tryz.ntmps86
  go_wp2_with fail
  refine (iFolkOk_any _ H.out hl HS.out).mono ?_
  rintro e w1 ⟨rfl, hb1⟩
  have HB1 := Lib.hid hb1
  clear hb1
  cases hf : folkB ps
  · have HN := Lib.hid (show freeInV ps = -1 by simp [freeInV, hf])
    go_wp2
    go_ret
    exact ⟨by rw [HN.out]; rfl, HB1.out⟩
  · have HN := Lib.hid (show freeInV ps = sumP ps ps.length by simp [freeInV, hf])
    obtain ⟨h8, hm, -⟩ := folk_true hf
    have HM := Lib.hid hm
    clear hm hf
    go_wp2
    go_loopw [3, 11] (fun t i w' => ∃ k : Nat, k ≤ ps.length ∧ i = .int .i64 k ∧ t = .int .i64 (sumP ps k) ∧ Below w.heap.size w w') (fun _ i _ => ps.length - (intOf i).toNat)
    case atStart => exact ⟨0, Nat.zero_le _, rfl, rfl, HB1.out⟩
    case round =>
      obtain ⟨k, hk, rfl, rfl, hb⟩ := hrel
      have HB := Lib.hid hb
      clear hb
      have hb := sumP_bd HM.out k hk
      by_cases hlt : k < ps.length
      · obtain ⟨b, off, rfl, _, hc, hc1⟩ := (H.out.below HB.out).at k hlt
        have HN := Lib.hid (show sumP ps (k + 1) = sumP ps k + ps[k].free by simp only [sumP, pfree_eq hlt])
        have hb3 := inB_bd (HM.out k hlt hlt)
        go_wp2
        go_roundw
        case rel => exact ⟨k + 1, by omega, by go_num, by rw [HN.out], HB.out.alloc HB.out.size _⟩
        case measure => simp [intOf]; omega
      · obtain rfl : k = ps.length := by omega
        go_wp2
        go_ret
        exact ⟨by rw [HN.out]; rfl, HB.out⟩
end Go.Proofs.YtncandoohlndnaaGreat
namespace Go.Proofs.YtncandoohlndnaaGreat
open Go.ChangeShapes Go.WideShapes Go.ChangeAt Go.RowKit

/-- Free of number k is v. -/
def setFree : List Pur → Nat → Int → List Pur
  | [], _, _ => []
  | p :: r, 0, v => ⟨p.name, v⟩ :: r
  | p :: r, k + 1, v => p :: setFree r k v
theorem setFree_length : ∀ (ps : List Pur) (k : Nat) (v : Int), (setFree ps k v).length = ps.length
  | [], _, _ => rfl
  | p :: r, 0, v => rfl
  | p :: r, k + 1, v => by simp [setFree, setFree_length r k v]
theorem setFree_cells : ∀ (ps : List Pur) (k : Nat) (v : Int), k < ps.length → pcells (setFree ps k v) = (pcells ps).set (k * 2 + 1) (.int .i64 v)
  | p :: r, 0, v, _ => by simp [setFree, pcells]
  | p :: r, k + 1, v, h => by
    rw [setFree, pcells, pcells, setFree_cells r k v (by simpa using h), show (k + 1) * 2 + 1 = k * 2 + 1 + 2 by omega]
    simp

/-- Is it paid? -/
def payB (ps : List Pur) (s : ByteArray) (n d : Int) : Bool := folkB ps && (decide (0 ≤ placeV (pnames ps) s) && (inB 0 1000000 n && inB 0 1000000 (pfree ps (placeV (pnames ps) s).toNat + d)))
/-- What they are then. -/
def payL (ps : List Pur) (s : ByteArray) (n d : Int) : List Pur :=
  if folkB ps = true then (if payB ps s n d = true then setFree ps (placeV (pnames ps) s).toNat (pfree ps (placeV (pnames ps) s).toNat + d) else ps) else []
section
variable {ps : List Pur} {s : ByteArray} {n d : Int}
theorem pay_no (h : folkB ps = false) : payB ps s n d = false ∧ payL ps s n d = [] := by simp [payB, payL, h]
theorem pay_keep (h : folkB ps = true) (hb : payB ps s n d = false) : payL ps s n d = ps := by simp [payL, h, hb]
theorem pay_out (h : ¬ 0 ≤ placeV (pnames ps) s) : payB ps s n d = false := by simp [payB, h]
theorem pay_n (h : inB 0 1000000 n = false) : payB ps s n d = false := by simp [payB, h]
theorem pay_over {k : Nat} (e : placeV (pnames ps) s = k) (hk : k < ps.length) (h : inB 0 1000000 (ps[k].free + d) = false) : payB ps s n d = false := by
  have : pfree ps (placeV (pnames ps) s).toNat = ps[k].free := by rw [e]; exact pfree_eq hk
  simp [payB, this, h]
theorem pay_yes {k : Nat} (hf : folkB ps = true) (e : placeV (pnames ps) s = k) (hk : k < ps.length) (hn : inB 0 1000000 n = true) (h : inB 0 1000000 (ps[k].free + d) = true) :
    payB ps s n d = true ∧ payL ps s n d = setFree ps k (ps[k].free + d) := by
  have h1 : pfree ps (placeV (pnames ps) s).toNat = ps[k].free := by rw [e]; exact pfree_eq hk
  have h2 : payB ps s n d = true := by unfold payB; rw [h1, hf, hn, h, e]; simp
  refine ⟨h2, ?_⟩
  rw [payL, if_pos hf, if_pos h2, h1, e]; rfl
end

/-- A list of the call's own comes back, and a word. -/
def PayRes (out : List Pur) (ok : Bool) (w : World) (e : Ending) (w' : World) : Prop :=
  ∃ a cap, e = .returned (.tuple #[.slice a out.length cap, .bool ok]) ∧ Purs w' a out ∧ (out = [] ∨ ∃ b, a = some ⟨b, 0, none⟩ ∧ w.heap.size ≤ b ∧ b < w'.heap.size ∧ Mine w' b 0 (out.length * 2)) ∧ Below w.heap.size w w'

theorem Lies.set {w : World} {b off j : Nat} {xs : List Value} (h : Lies w (some ⟨b, off, none⟩) xs) (v : Value) : Lies (w.setCell ⟨b, off + j, none⟩ v) (some ⟨b, off, none⟩) (xs.set j v) := by
  intro k u hk
  refine ⟨b, off, rfl, ?_⟩
  have hkl : k < xs.length := by have := (List.getElem?_eq_some_iff.1 hk).1; simpa using this
  obtain ⟨b', off', e, hc⟩ := h k xs[k] (List.getElem?_eq_getElem hkl)
  injection e with e; injection e with e1 e2; subst e1; subst e2
  by_cases e : j = k
  · subst e
    rw [List.getElem?_set_self hkl] at hk
    injection hk with hk
    subst hk
    rw [World.cell?_setCell_same _ _ _ hc]
  · rw [List.getElem?_set_ne e, List.getElem?_eq_getElem hkl] at hk
    injection hk with hk
    subst hk
    rw [World.cell?_setCell_other _ _ _ _ (by intro q; injection q with _ q; exact e (by omega))]
    exact hc

theorem mine_of_lies {w : World} {b : Nat} {xs : List Value} {n : Nat} (h : Lies w (some ⟨b, 0, none⟩) xs) (hn : xs.length = n) (hf : ∀ o, w.frozen? ⟨b, o, none⟩ = false) : Mine w b 0 n where
  all := fun j hj => by
    obtain ⟨b', off', e, hc⟩ := h j xs[j] (List.getElem?_eq_getElem (by omega))
    injection e with e; injection e with e1 e2; subst e1; subst e2
    exact ⟨_, hc⟩
  free := hf

theorem own_at (n : Nat) : ∀ g, (Value.slice (some ⟨n, 0, none⟩) 0 0).ownBlock = some g → n ≤ g := by
  intro g hg
  have : n = g := by simpa [Value.ownBlock] using hg
  omega

/-- A copy of the call's own. -/
def CopyRes (ps : List Pur) (w : World) (e : Ending) (w' : World) : Prop :=
  ∃ b cap, e = .returned (.slice (some ⟨b, 0, none⟩) ps.length cap) ∧ Purs w' (some ⟨b, 0, none⟩) ps ∧ w.heap.size ≤ b ∧ b < w'.heap.size ∧ Mine w' b 0 (ps.length * 2) ∧ Below w.heap.size w w' ∧ ps.length ≤ cap ∧ w'.ownsRow w.heap.size 79 2 (.slice (some ⟨b, 0, none⟩) ps.length cap) ps.length (pcells ps)

theorem copyRes_of {w w' : World} {v : Value} {ps : List Pur} (h : w'.ownsRow w.heap.size 79 2 v ps.length (pcells ps)) (hn : ¬ v = .slice none 0 0) (hb : Below w.heap.size w w') : CopyRes ps w (.returned v) w' := by
  have hrow := h
  rcases h.2 with ⟨h0, _⟩ | ⟨g, cap, cur, rfl, hg, hh, hle, hm, hs, ht⟩
  · exact absurd h0 hn
  · have hlies : Lies w' (some ⟨g, 0, none⟩) (pcells ps) := by
      intro k v hk
      have hlt := (List.getElem?_eq_some_iff.1 hk).1
      refine ⟨g, 0, rfl, ?_⟩
      rw [← ht, List.getElem?_take_of_lt (by rw [pcells_length] at hlt; exact hlt)] at hk
      simpa [World.cell?, hh] using hk
    have hlt : g < w'.heap.size := (Array.getElem?_eq_some_iff.1 hh).1
    exact ⟨g, cap, rfl, hlies, hg, hlt, mine_of_lies hlies (pcells_length ps) (fun o => by simp [World.frozen?, hh]), hb, hle, hrow⟩

/-- The same, and it has room for them. -/
def PayCap (out : List Pur) (ok : Bool) (w : World) (e : Ending) (w' : World) : Prop :=
  ∃ a cap, e = .returned (.tuple #[.slice a out.length cap, .bool ok]) ∧ Purs w' a out ∧ (out = [] ∨ ∃ b, a = some ⟨b, 0, none⟩ ∧ w.heap.size ≤ b ∧ b < w'.heap.size ∧ Mine w' b 0 (out.length * 2)) ∧ Below w.heap.size w w' ∧ out.length ≤ cap
theorem payCap_res {out : List Pur} {ok : Bool} {w : World} {e : Ending} {w' : World} (h : PayCap out ok w e w') : PayRes out ok w e w' := by
  obtain ⟨a, c, h1, h2, h3, h4, -⟩ := h
  exact ⟨a, c, h1, h2, h3, h4⟩

end Go.Proofs.YtncandoohlndnaaGreat
namespace Go.Proofs.YtncandoohlndnaaGreat
open Go.ChangeShapes Go.WideShapes Go.ChangeAt Go.RowKit

/-- A list that lies in a block of its own, from block B on, and may be written. -/
def OwnP (w : World) (B : Nat) (a : Option Addr) (ps : List Pur) : Prop :=
  Purs w a ps ∧ (ps = [] ∨ ∃ b, a = some ⟨b, 0, none⟩ ∧ B ≤ b ∧ b < w.heap.size ∧ Mine w b 0 (ps.length * 2))
theorem OwnP.below {w w' : World} {B : Nat} {a : Option Addr} {ps : List Pur} (h : OwnP w B a ps) (hb : Below w.heap.size w w') : OwnP w' B a ps := by
  refine ⟨h.1.below hb, ?_⟩
  rcases h.2 with h0 | ⟨b, e, h1, h2, hm⟩
  · exact .inl h0
  · exact .inr ⟨b, e, h1, Nat.lt_of_lt_of_le h2 hb.size, hm.below h2 hb⟩
theorem OwnP.grown {w w' : World} {B x : Nat} {a : Option Addr} {ps : List Pur} (h : OwnP w B a ps) (hg : w.grownBy w' (some x)) (hx : x < B) : OwnP w' B a ps := by
  rcases h.2 with rfl | ⟨b, rfl, h1, h2, hm⟩
  · exact ⟨Lies.nil _ _, .inl rfl⟩
  · have hne : some b ≠ some x := by intro e; injection e with e; omega
    refine ⟨?_, .inr ⟨b, rfl, h1, Nat.lt_of_lt_of_le h2 hg.size, hm.grown h2 hg hne⟩⟩
    intro k v hk
    obtain ⟨b', off, e, hc⟩ := h.1 k v hk
    injection e with e; injection e with e1 e2; subst e1; subst e2
    exact ⟨b, 0, rfl, by rw [grown_keeps hg h2 hne]; exact hc⟩
theorem OwnP.mono {w : World} {B B' : Nat} {a : Option Addr} {ps : List Pur} (h : OwnP w B a ps) (hB : B' ≤ B) : OwnP w B' a ps := by
  refine ⟨h.1, ?_⟩
  rcases h.2 with h0 | ⟨b, e, h1, h2, hm⟩
  · exact .inl h0
  · exact .inr ⟨b, e, by omega, h2, hm⟩
theorem Purs.under {w w' : World} {B : Nat} {a : Option Addr} {ps : List Pur} (h : Purs w a ps) (hb : Below B w w') (hB : ∀ b off, a = some ⟨b, off, none⟩ → 0 < ps.length → b < B) : Purs w' a ps :=
  Lies.under h hb (fun b off e hl => hB b off e (by rw [pcells_length] at hl; omega))
theorem Purs.old {w : World} {a : Option Addr} {ps : List Pur} (h : Purs w a ps) : ∀ b off, a = some ⟨b, off, none⟩ → 0 < ps.length → b < w.heap.size :=
  fun b off e hl => Lies.old h b off e (by rw [pcells_length]; omega)

/-- The number behind the last mark. -/
def markEnd (n : Nat) : Int := ((1 + n * 2 : Nat) : Int)
theorem markEnd_pos (n : Nat) : 0 ≤ markEnd n := by unfold markEnd; omega

/-- What marks leave of a list of the call's own. -/
def Marked (w : World) (B : Nat) (a : Option Addr) (n : Nat) (e : Ending) (w' : World) : Prop := e = .returned (.int .i64 (markEnd n)) ∧ Purs w' a (pmarks 1 n) ∧ Below B w w'

theorem payL_le (ps : List Pur) (s : ByteArray) (n d : Int) : (payL ps s n d).length ≤ ps.length := by
  unfold payL
  split
  · split
    · rw [setFree_length]; exact Nat.le_refl _
    · exact Nat.le_refl _
  · exact Nat.zero_le _
end Go.Proofs.YtncandoohlndnaaGreat
namespace Go.Proofs.YtncandoohlndnaaGreat
open Go.ChangeShapes Go.WideShapes Go.ChangeAt Go.RowKit

/-- What append leaves. -/
def Appended (w : World) (base : Nat) (e : TypeId) (size g n : Nat) (xs : List Value) (g' c' : Nat) (w' : World) : Prop :=
  w'.ownsRow base e size (.slice (some ⟨g', 0, none⟩) n c') n xs ∧ w.grownBy w' (some g) ∧ base ≤ g ∧ g < w.heap.size ∧ g' < w'.heap.size ∧ (g' = g ∨ g' = w.heap.size)
section
variable {P : Program} {w : World}
/-- append onto a row of the call's own, of which the address is known. -/
theorem run_append_some (base : Nat) (t ty e : TypeId) (i : TypeInfo) (z : Value) (size bytes : Nat) (ht : P.underlying t = some (.slice e)) (hi : P.info? e = some i) (hz : i.zero = some z)
    (hsize : i.size = size) (hby : i.bytes = bytes) (hzs : z.cells.size = size) (hsz : 0 < size)
    (g c0 n : Nat) (xs : List Value) (hown : w.ownsRow base e size (.slice (some ⟨g, 0, none⟩) n c0) n xs)
    (ad : Addr) (m c : Nat) (news : List Value) (hl : news.length = m * size) (hnews : ∀ j u, news[j]? = some u → w.cell? (ad.add j) = some u) (h1 : ∀ u ∈ news, u.oneCell' = true)
    (h63 : n + m ≤ maxLen) (hbytes : (n + m) * bytes ≤ 140737488355328) :
    ∃ g' c' w', (Builtin.append_ #[t, t] ty #[.slice (some ⟨g, 0, none⟩) n c0, .slice (some ad) m c]).run P w = .ok (.slice (some ⟨g', 0, none⟩) (n + m) c') w' ∧
      w'.ownsRow base e size (.slice (some ⟨g', 0, none⟩) (n + m) c') (n + m) (xs ++ news) ∧ w.grownBy w' (some g) ∧ base ≤ g ∧ g < w.heap.size ∧ g' < w'.heap.size ∧ (g' = g ∨ g' = w.heap.size) := by
  obtain ⟨hb, hlt⟩ := hown.lt g rfl
  obtain ⟨v', w', hr, ho, hgr, hn, hat⟩ := run_append_own_at (P := P) w base t ty e i z size bytes ht hi hz hsize hby hzs hsz _ n xs hown ad m c news hl hnews h1 h63 hbytes (by omega)
  rcases ho.2 with ⟨rfl, -⟩ | ⟨g', c', cur, rfl, -, hh, -⟩
  · exact absurd (hn.1 rfl).1 (by simp)
  · exact ⟨g', c', w', hr, ho, hgr, hb, hlt, (Array.getElem?_eq_some_iff.1 hh).1, by simpa [Value.ownBlock] using hat⟩

theorem wp_append_some {o : Oper} {a : Act} {K : Act → World → Prop} {Q : Exit → Act → World → Prop} (s x : Operand) (t : TypeId)
    (ho : o.op = .call { callee := .builtin .append, args := #[s, x], argTypes := #[t, t] })
    (base : Nat) (e : TypeId) (i : TypeInfo) (z : Value) (size bytes : Nat) (ht : P.underlying t = some (.slice e)) (hi : P.info? e = some i) (hz : i.zero = some z)
    (hsize : i.size = size) (hby : i.bytes = bytes) (hzs : z.cells.size = size) (hsz : 0 < size)
    (g c0 n : Nat) (xs : List Value) (hs : a.eval s = .slice (some ⟨g, 0, none⟩) n c0) (hown : w.ownsRow base e size (.slice (some ⟨g, 0, none⟩) n c0) n xs)
    (ad : Addr) (m c : Nat) (news : List Value) (hx : a.eval x = .slice (some ad) m c) (hl : news.length = m * size) (hnews : ∀ j u, news[j]? = some u → w.cell? (ad.add j) = some u) (h1 : ∀ u ∈ news, u.oneCell' = true)
    (h63 : n + m ≤ maxLen) (hbytes : (n + m) * bytes ≤ 140737488355328)
    (h : ∀ g' c' w', Appended w base e size g (n + m) (xs ++ news) g' c' w' → K (a.put o.dst (.slice (some ⟨g', 0, none⟩) (n + m) c')) w') : o.wp P a w K Q := by
  obtain ⟨g', c', w', hr, h2, h3, h4, h5, h6⟩ := run_append_some (P := P) (w := w) base t o.type e i z size bytes ht hi hz hsize hby hzs hsz g c0 n xs hown ad m c news hl hnews h1 h63 hbytes
  unfold Oper.wp execOp
  simp only [ho, resolve, invoke, builtin, Sem.run_bind, Sem.run_pure, Result.andThen_ok, List.map_toArray, List.map_cons, List.map_nil, hs, hx, hr]
  exact h g' c' w' ⟨h2, h3, h4, h5, h6⟩

theorem wpList_append_some {ops : Array Oper} {rest : List Oper} {o : Oper} {a : Act} {Q : Exit → Act → World → Prop} (hgd : o.guard = none) (s x : Operand) (t : TypeId)
    (ho : o.op = .call { callee := .builtin .append, args := #[s, x], argTypes := #[t, t] })
    (base : Nat) (e : TypeId) (i : TypeInfo) (z : Value) (size bytes : Nat) (ht : P.underlying t = some (.slice e)) (hi : P.info? e = some i) (hz : i.zero = some z)
    (hsize : i.size = size) (hby : i.bytes = bytes) (hzs : z.cells.size = size) (hsz : 0 < size)
    (g c0 n : Nat) (xs : List Value) (hs : a.eval s = .slice (some ⟨g, 0, none⟩) n c0) (hown : w.ownsRow base e size (.slice (some ⟨g, 0, none⟩) n c0) n xs)
    (ad : Addr) (m c : Nat) (news : List Value) (hx : a.eval x = .slice (some ad) m c) (hl : news.length = m * size) (hnews : ∀ j u, news[j]? = some u → w.cell? (ad.add j) = some u) (h1 : ∀ u ∈ news, u.oneCell' = true)
    (h63 : n + m ≤ maxLen) (hbytes : (n + m) * bytes ≤ 140737488355328)
    (h : ∀ g' c' w', Appended w base e size g (n + m) (xs ++ news) g' c' w' → wpList P ops Q rest (a.put o.dst (.slice (some ⟨g', 0, none⟩) (n + m) c')) w') : wpList P ops Q (o :: rest) a w :=
  wpList_plain hgd fun _ hK => wp_append_some s x t ho base e i z size bytes ht hi hz hsize hby hzs hsz g c0 n xs hs hown ad m c news hx hl hnews h1 h63 hbytes fun g' c' w' h2 => hK _ _ (h g' c' w' h2)

theorem step_append_some {ops : Array Oper} {o : Oper} {a : Act} {K : Act → World → Prop} {Q : Exit → Act → World → Prop} {E : Prop} (hgd : o.guard = none) (s x : Operand) (t : TypeId)
    (ho : o.op = .call { callee := .builtin .append, args := #[s, x], argTypes := #[t, t] })
    (base : Nat) (e : TypeId) (i : TypeInfo) (z : Value) (size bytes : Nat) (ht : P.underlying t = some (.slice e)) (hi : P.info? e = some i) (hz : i.zero = some z)
    (hsize : i.size = size) (hby : i.bytes = bytes) (hzs : z.cells.size = size) (hsz : 0 < size)
    (g c0 n : Nat) (xs : List Value) (hs : a.eval s = .slice (some ⟨g, 0, none⟩) n c0) (hown : w.ownsRow base e size (.slice (some ⟨g, 0, none⟩) n c0) n xs)
    (ad : Addr) (m c : Nat) (news : List Value) (hx : a.eval x = .slice (some ad) m c) (hl : news.length = m * size) (hnews : ∀ j u, news[j]? = some u → w.cell? (ad.add j) = some u) (h1 : ∀ u ∈ news, u.oneCell' = true)
    (h63 : n + m ≤ maxLen) (hbytes : (n + m) * bytes ≤ 140737488355328)
    (h : ∀ g' c' w', Appended w base e size g (n + m) (xs ++ news) g' c' w' → K (a.put o.dst (.slice (some ⟨g', 0, none⟩) (n + m) c')) w') :
    if Region.wanted o (yielded ops a.tmps) = true then Oper.wp P o a w K Q else E := by
  have hw : Region.wanted o (yielded ops a.tmps) = true := by simp [Region.wanted, hgd]
  rw [if_pos hw]
  exact wp_append_some s x t ho base e i z size bytes ht hi hz hsize hby hzs hsz g c0 n xs hs hown ad m c news hx hl hnews h1 h63 hbytes h
end

theorem heap_set (w : World) (g j : Nat) (v : Value) {c : Array Value} {e : TypeId} {fz : Nat × Nat} (h : w.heap[g]? = some (.cells c e fz)) : (w.setCell ⟨g, j, none⟩ v).heap[g]? = some (.cells (c.setIfInBounds j v) e fz) := by
  simp [World.setCell, Array.getElem?_modify, h]
/-- One cell of such a row is written. -/
theorem own_set {w : World} {base : Nat} {e : TypeId} {c g n cap j : Nat} {xs : List Value} (h : w.ownsRow base e c (.slice (some ⟨g, 0, none⟩) n cap) n xs) (v : Value) :
    (w.setCell ⟨g, j, none⟩ v).ownsRow base e c (.slice (some ⟨g, 0, none⟩) n cap) n (xs.set j v) := by
  refine ⟨by rw [List.length_set]; exact h.1, ?_⟩
  rcases h.2 with ⟨h0, -⟩ | ⟨g', cap', cur, hv, hg, hh, hle, hm, hs, ht⟩
  · simp at h0
  · injection hv with e1 _ e3
    injection e1 with e1
    injection e1 with e1
    subst e1; subst e3
    have hl := h.1
    refine .inr ⟨g, cap, cur.setIfInBounds j v, rfl, hg, heap_set w g j v hh, hle, hm, by rw [Array.size_setIfInBounds]; exact hs, ?_⟩
    rw [Array.toList_setIfInBounds, List.take_set, ht]
theorem own_some {w : World} {base : Nat} {e : TypeId} {c g n cap m : Nat} {xs : List Value} (h : w.ownsRow base e c (.slice (some ⟨g, 0, none⟩) n cap) m xs) : n = m ∧ n ≤ cap ∧ cap ≤ maxLen ∧ base ≤ g ∧ g < w.heap.size := by
  rcases h.2 with ⟨h0, -⟩ | ⟨g', cap', cur, hv, hg, hh, hle, hm, hs, ht⟩
  · simp at h0
  · injection hv with e1 e2 e3
    injection e1 with e1
    injection e1 with e1
    subst e1; subst e2; subst e3
    exact ⟨rfl, hle, hm, hg, (Array.getElem?_eq_some_iff.1 hh).1⟩
theorem own_down {w : World} {base base' : Nat} {e : TypeId} {c n : Nat} {v : Value} {xs : List Value} (h : w.ownsRow base e c v n xs) (hb : base' ≤ base) : w.ownsRow base' e c v n xs := by
  refine ⟨h.1, ?_⟩
  rcases h.2 with h0 | ⟨g, cap, cur, hv, hg, hr⟩
  · exact .inl h0
  · exact .inr ⟨g, cap, cur, hv, by omega, hr⟩
/-- A cell that is there is written over: what was below stays. -/
theorem below_set {w w' : World} {B : Nat} (h : Below B w w') {g j : Nat} (hg : B ≤ g) (v : Value) : Below B w (w'.setCell ⟨g, j, none⟩ v) := h.setCell hg _
end Go.Proofs.YtncandoohlndnaaGreat
