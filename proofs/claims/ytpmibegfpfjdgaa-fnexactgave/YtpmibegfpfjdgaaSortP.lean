/-
  The library's sort, by the program's comparison: what a list of parts with no key twice becomes.
-/
import Derived.Test.YtpmibegfpfjdgaaCmpBy
import Derived.Test.YtpmibegfpfjdgaaSortK
import Derived.Test.YtpmibegfpfjdgaaMapP
namespace Go.Proofs.Ytpmibegfpfjdgaa
open Go.ChangeShapes Go.WideShapes Go.ChangeAt Go.RowKit
open Go.Shelf Go.Lib
open Go.Sort (SWO PermIn SortedIn)

theorem bytes_same {a b : ByteArray} (h : a.toList = b.toList) : a = b := WideShapes.bytes_inj (by rw [ByteArray.toList_eq, ByteArray.toList_eq] at h; exact h)
theorem bytes_cases (a b : List UInt8) : a < b ∨ a = b ∨ b < a := by
  by_cases h : a < b
  · exact .inl h
  · by_cases e : a = b
    · exact .inr (.inl e)
    · exact .inr (.inr (bytes_gt h e))
theorem cmpS_cases (a b : ByteArray) : (a.toList < b.toList ∧ cmpS a b = -1) ∨ (a.toList = b.toList ∧ cmpS a b = 0) ∨ (b.toList < a.toList ∧ cmpS a b = 1) := by
  rcases bytes_cases a.toList b.toList with h | h | h
  · exact .inl ⟨h, cmpS_lt (by rw [bytesLess_lt, decide_eq_true_eq]; exact h)⟩
  · exact .inr (.inl ⟨h, cmpS_same (by simpa using h)⟩)
  · refine .inr (.inr ⟨h, cmpS_gt ?_ (by rw [bytesLess_lt, decide_eq_true_eq]; exact h)⟩)
    rw [bytesLess_lt, decide_eq_false_iff_not]
    exact fun h' => List.lt_irrefl _ (List.lt_trans h h')
theorem lt_cmp (p q : Par) : ltOf cmpP p q = lessB p q.who q.mill := by
  have h1 : (ltOf cmpP p q = true) ↔ cmpP p q < 0 := by simp [ltOf]
  have h2 : (lessB p q.who q.mill = true) ↔ cmpP p q < 0 := by
    rw [less_iff]
    unfold cmpP orI
    have nn : ∀ {x y : List UInt8}, x < y → ¬ x = y := fun h e => List.lt_irrefl _ (e ▸ h)
    have na : ∀ {x y : List UInt8}, x < y → ¬ y < x := fun h h' => List.lt_irrefl _ (List.lt_trans h h')
    rcases cmpS_cases p.who q.who with ⟨h, e⟩ | ⟨h, e⟩ | ⟨h, e⟩ <;> rcases cmpS_cases p.mill q.mill with ⟨k, e'⟩ | ⟨k, e'⟩ | ⟨k, e'⟩ <;> rw [e, e']
    all_goals simp [h, k, nn, na, List.lt_irrefl]
    all_goals first | exact fun e => absurd e.symm (nn h) | skip
  exact Bool.eq_iff_iff.2 (h1.trans h2.symm)
theorem key_cases (p q : Par) : KeyLt p q ∨ (p.who = q.who ∧ p.mill = q.mill) ∨ KeyLt q p := by
  unfold KeyLt
  rw [less_iff, less_iff]
  rcases bytes_cases p.who.toList q.who.toList with h | h | h
  · exact .inl (.inl h)
  · rcases bytes_cases p.mill.toList q.mill.toList with k | k | k
    · exact .inl (.inr ⟨h, k⟩)
    · exact .inr (.inl ⟨bytes_same h, bytes_same k⟩)
    · exact .inr (.inr (.inr ⟨h.symm, k⟩))
  · exact .inr (.inr (.inl h))
theorem KeyLt.irrefl (p : Par) : ¬ KeyLt p p := by
  unfold KeyLt
  rw [less_iff]
  rintro (h | ⟨_, h⟩) <;> exact List.lt_irrefl _ h
theorem KeyLt.of_key {p q p' q' : Par} (h : KeyLt p q) (h1 : p'.who = p.who ∧ p'.mill = p.mill) (h2 : q'.who = q.who ∧ q'.mill = q.mill) : KeyLt p' q' := by
  unfold KeyLt at *
  rw [less_iff] at *
  rw [h1.1, h1.2, h2.1, h2.2]; exact h
theorem swoP : SWO (ltOf cmpP) where
  irrefl x := by
    rw [lt_cmp]
    cases h : lessB x x.who x.mill
    · rfl
    · exact absurd h (KeyLt.irrefl x)
  trans x y z h1 h2 := by
    rw [lt_cmp] at *
    exact KeyLt.trans h1 h2
  ntrans x y z h1 h2 := by
    rw [lt_cmp] at *
    cases h : lessB x z.who z.mill
    · rfl
    · exfalso
      rcases key_cases x y with k | k | k
      · rw [show lessB x y.who y.mill = true from k] at h1; cases h1
      · rw [show lessB y z.who z.mill = true from KeyLt.of_key (show KeyLt x z from h) ⟨k.1.symm, k.2.symm⟩ ⟨rfl, rfl⟩] at h2; cases h2
      · rw [show lessB y z.who z.mill = true from KeyLt.trans k h] at h2; cases h2

/-- Two lists that rise and hold the same are one. -/
theorem up_one {xs ys : List Par} (hp : xs.Perm ys) (hx : xs.Pairwise KeyLt) (hy : ys.Pairwise KeyLt) : xs = ys := by
  refine hp.eq_of_pairwise ?_ hx hy
  intro a b _ _ h1 h2
  exact absurd (h1.trans h2) (KeyLt.irrefl a)
/-- What rises has no key twice. -/
theorem up_apart {xs : List Par} (hs : PSized xs) (hx : xs.Pairwise KeyLt) : Apart keyL xs := by
  rw [psized_mem] at hs
  refine List.Pairwise.imp_of_mem ?_ hx
  intro a b ha hb h e
  obtain ⟨e1, e2⟩ := keyAt_inj (hs a ha).1 (hs a ha).2 (hs b hb).1 (hs b hb).2 e
  exact KeyLt.irrefl b (KeyLt.of_key h ⟨e1.symm, e2.symm⟩ ⟨rfl, rfl⟩)
theorem key_same {p q : Par} (h : p.who = q.who ∧ p.mill = q.mill) : keyL p = keyL q := by unfold keyL; rw [h.1, h.2]

instance : Inhabited Par := ⟨par0⟩

theorem sorts_up {ps out : List Par} (ha : Apart keyL ps) (hp : PermIn 0 ps.toArray.size ps.toArray out.toArray) (hs : SortedIn (ltOf cmpP) 0 ps.toArray.size out.toArray) : out.Perm ps ∧ out.Pairwise KeyLt := by
  have hl : out.length = ps.length := by simpa using hp.1
  have hperm : out.Perm ps := by
    have := hp.2.2
    rw [List.extract_toArray, List.extract_toArray] at this
    simp only [List.size_toArray, List.extract_eq_take_drop, List.drop_zero, Nat.sub_zero] at this
    rw [List.take_of_length_le (by omega), List.take_of_length_le (by omega)] at this
    exact this
  refine ⟨hperm, ?_⟩
  have ha' := ha.perm hperm.symm
  rw [List.pairwise_iff_getElem]
  intro i j hi hj hij
  have h1 := hs i j (Nat.zero_le _) hij (by simpa [← hl] using hj)
  have h2 : lessB out[j] out[i].who out[i].mill = false := by
    rw [lt_cmp] at h1
    simpa [hi, hj] using h1
  rcases key_cases out[i] out[j] with k | k | k
  · exact k
  · exact absurd (key_same k) ((List.pairwise_iff_getElem.1 ha') i j hi hj hij)
  · rw [show lessB out[j] out[i].who out[i].mill = true from k] at h2; cases h2

theorem entersBy : ∀ args w, (callFunc 59 args).run Try.prog w = .ok (.enter 59 args) w := enters_of Try.func59 (by kernel_rfl) rfl

set_option maxHeartbeats 2000000 in
set_option maxRecDepth 100000 in
theorem iSort_any {W : World} {base g cap : Nat} {ps : List Par} (ho : W.ownsRow base 37 3 (.slice (some ⟨g, 0, none⟩) ps.length cap) ps.length (ps.flatMap Par.cs)) (ha : Apart keyL ps) (hl : ps.length ≤ 1048577) :
    Calls Try.prog 58 #[.slice (some ⟨g, 0, none⟩) ps.length cap, .func (.func 59) #[] #[]] W fun e w' => e = .returned (.tuple #[]) ∧ ∃ out : List Par, out.Perm ps ∧ out.Pairwise KeyLt ∧ w'.ownsRow base 37 3 (.slice (some ⟨g, 0, none⟩) out.length cap) out.length (out.flatMap Par.cs) ∧ W.grownBy w' (some g) := by
  have hcon := AnyQ.slices_SortFunc sortPart 3 Try.isAgg37 Try.sizeOf37 Par.cs Par.len Par.one cmpP swoP 59 #[] g 0 cap ps.toArray W entersBy (fun _ _ _ _ x y => iBy_any x y _) (row_holds Par.len ho) (own_some ho).2.2.2.2 (by simp; omega)
  change Calls Try.prog 58 _ _ _ at hcon
  simp only [List.size_toArray] at hcon
  refine hcon.mono ?_
  rintro e w' ⟨rfl, d', n, os, hp, hs, rfl⟩
  obtain ⟨out⟩ := d'
  obtain ⟨h1, h2⟩ := sorts_up ha (by simpa using hp) (by simpa using hs)
  exact ⟨rfl, out, h1, h2, sorted_row Par.len ho h1.length_eq, sorted_grown _⟩
end Go.Proofs.Ytpmibegfpfjdgaa
