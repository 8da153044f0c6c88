/-
  What chapter 3's Paid and Spent answer, the model's and the program's: a list of the call's own.
-/
import Derived.Test.YtbgklakhelcgcaaFolkF
import Derived.Maps.AppendAt
namespace Go.Proofs.Ytbgklakhelcgcaa
open Go.ChangeShapes Go.WideShapes Go.ChangeAt Go.RowKit

/-- Free of number k is v. -/
def setFree : List Pur → Nat → Int → List Pur
  | [], _, _ => []
  | p :: r, 0, v => ⟨p.name, v⟩ :: r
  | p :: r, k + 1, v => p :: setFree r k v
theorem setFree_length : ∀ (ps : List Pur) (k : Nat) (v : Int), (setFree ps k v).length = ps.length
  | [], _, _ => rfl
  | p :: r, 0, v => rfl
  | p :: r, k + 1, v => by simp [setFree, setFree_length r k v]
theorem setFree_cells : ∀ (ps : List Pur) (k : Nat) (v : Int), k < ps.length → pcells (setFree ps k v) = (pcells ps).set (k * 2 + 1) (.int .i64 v)
  | p :: r, 0, v, _ => by simp [setFree, pcells]
  | p :: r, k + 1, v, h => by
    rw [setFree, pcells, pcells, setFree_cells r k v (by simpa using h), show (k + 1) * 2 + 1 = k * 2 + 1 + 2 by omega]
    simp

/-- Is it paid? -/
def payB (ps : List Pur) (s : ByteArray) (n d : Int) : Bool := folkB ps && (decide (0 ≤ placeV (pnames ps) s) && (inB 0 1000000 n && inB 0 1000000 (pfree ps (placeV (pnames ps) s).toNat + d)))
/-- What they are then. -/
def payL (ps : List Pur) (s : ByteArray) (n d : Int) : List Pur :=
  if folkB ps = true then (if payB ps s n d = true then setFree ps (placeV (pnames ps) s).toNat (pfree ps (placeV (pnames ps) s).toNat + d) else ps) else []
section
variable {ps : List Pur} {s : ByteArray} {n d : Int}
theorem pay_no (h : folkB ps = false) : payB ps s n d = false ∧ payL ps s n d = [] := by simp [payB, payL, h]
theorem pay_keep (h : folkB ps = true) (hb : payB ps s n d = false) : payL ps s n d = ps := by simp [payL, h, hb]
theorem pay_out (h : ¬ 0 ≤ placeV (pnames ps) s) : payB ps s n d = false := by simp [payB, h]
theorem pay_n (h : inB 0 1000000 n = false) : payB ps s n d = false := by simp [payB, h]
theorem pay_over {k : Nat} (e : placeV (pnames ps) s = k) (hk : k < ps.length) (h : inB 0 1000000 (ps[k].free + d) = false) : payB ps s n d = false := by
  have : pfree ps (placeV (pnames ps) s).toNat = ps[k].free := by rw [e]; exact pfree_eq hk
  simp [payB, this, h]
theorem pay_yes {k : Nat} (hf : folkB ps = true) (e : placeV (pnames ps) s = k) (hk : k < ps.length) (hn : inB 0 1000000 n = true) (h : inB 0 1000000 (ps[k].free + d) = true) :
    payB ps s n d = true ∧ payL ps s n d = setFree ps k (ps[k].free + d) := by
  have h1 : pfree ps (placeV (pnames ps) s).toNat = ps[k].free := by rw [e]; exact pfree_eq hk
  have h2 : payB ps s n d = true := by unfold payB; rw [h1, hf, hn, h, e]; simp
  refine ⟨h2, ?_⟩
  rw [payL, if_pos hf, if_pos h2, h1, e]; rfl
end

/-- A list of the call's own comes back, and a word. -/
def PayRes (out : List Pur) (ok : Bool) (w : World) (e : Ending) (w' : World) : Prop :=
  ∃ a cap, e = .returned (.tuple #[.slice a out.length cap, .bool ok]) ∧ Purs w' a out ∧ (out = [] ∨ ∃ b, a = some ⟨b, 0, none⟩ ∧ w.heap.size ≤ b ∧ b < w'.heap.size ∧ Mine w' b 0 (out.length * 2)) ∧ Below w.heap.size w w'

theorem Lies.set {w : World} {b off j : Nat} {xs : List Value} (h : Lies w (some ⟨b, off, none⟩) xs) (v : Value) : Lies (w.setCell ⟨b, off + j, none⟩ v) (some ⟨b, off, none⟩) (xs.set j v) := by
  intro k u hk
  refine ⟨b, off, rfl, ?_⟩
  have hkl : k < xs.length := by have := (List.getElem?_eq_some_iff.1 hk).1; simpa using this
  obtain ⟨b', off', e, hc⟩ := h k xs[k] (List.getElem?_eq_getElem hkl)
  injection e with e; injection e with e1 e2; subst e1; subst e2
  by_cases e : j = k
  · subst e
    rw [List.getElem?_set_self hkl] at hk
    injection hk with hk
    subst hk
    rw [World.cell?_setCell_same _ _ _ hc]
  · rw [List.getElem?_set_ne e, List.getElem?_eq_getElem hkl] at hk
    injection hk with hk
    subst hk
    rw [World.cell?_setCell_other _ _ _ _ (by intro q; injection q with _ q; exact e (by omega))]
    exact hc

theorem mine_of_lies {w : World} {b : Nat} {xs : List Value} {n : Nat} (h : Lies w (some ⟨b, 0, none⟩) xs) (hn : xs.length = n) (hf : ∀ o, w.frozen? ⟨b, o, none⟩ = false) : Mine w b 0 n where
  all := fun j hj => by
    obtain ⟨b', off', e, hc⟩ := h j xs[j] (List.getElem?_eq_getElem (by omega))
    injection e with e; injection e with e1 e2; subst e1; subst e2
    exact ⟨_, hc⟩
  free := hf

theorem own_at (n : Nat) : ∀ g, (Value.slice (some ⟨n, 0, none⟩) 0 0).ownBlock = some g → n ≤ g := by
  intro g hg
  have : n = g := by simpa [Value.ownBlock] using hg
  omega

/-- A copy of the call's own. -/
def CopyRes (ps : List Pur) (w : World) (e : Ending) (w' : World) : Prop :=
  ∃ b cap, e = .returned (.slice (some ⟨b, 0, none⟩) ps.length cap) ∧ Purs w' (some ⟨b, 0, none⟩) ps ∧ w.heap.size ≤ b ∧ b < w'.heap.size ∧ Mine w' b 0 (ps.length * 2) ∧ Below w.heap.size w w'

theorem copyRes_of {w w' : World} {v : Value} {ps : List Pur} (h : w'.ownsRow w.heap.size 44 2 v ps.length (pcells ps)) (hn : ¬ v = .slice none 0 0) (hb : Below w.heap.size w w') : CopyRes ps w (.returned v) w' := by
  rcases h.2 with ⟨h0, _⟩ | ⟨g, cap, cur, rfl, hg, hh, hle, hm, hs, ht⟩
  · exact absurd h0 hn
  · have hlies : Lies w' (some ⟨g, 0, none⟩) (pcells ps) := by
      intro k v hk
      have hlt := (List.getElem?_eq_some_iff.1 hk).1
      refine ⟨g, 0, rfl, ?_⟩
      rw [← ht, List.getElem?_take_of_lt (by rw [pcells_length] at hlt; exact hlt)] at hk
      simpa [World.cell?, hh] using hk
    have hlt : g < w'.heap.size := (Array.getElem?_eq_some_iff.1 hh).1
    exact ⟨g, cap, rfl, hlies, hg, hlt, mine_of_lies hlies (pcells_length ps) (fun o => by simp [World.frozen?, hh]), hb⟩

set_option maxHeartbeats 1000000 in
set_option maxRecDepth 100000 in
theorem l3Copy_any {w : World} {b off : Nat} {ps : List Pur} (cap : Nat) (h : Purs w (some ⟨b, off, none⟩) ps) (hl : ps.length ≤ 1048576) :
    Calls Try.prog 14 #[.slice (some ⟨b, off, none⟩) ps.length cap] w (CopyRes ps w) := by
  have H := Lib.hid h
  clear h
  obtain ⟨i0, hi, hz0, hz1, hz2⟩ := info_parts info_purse2
  have HI := Lib.hid hi
  have HZ0 := Lib.hid hz0
  have HZ1 := Lib.hid hz1
  have HZ2 := Lib.hid hz2
  clear hi hz0 hz1 hz2
  go_enter Try.func14, Try.ntmps14
  go_wp2_with (at_builtin; refine wpList_append_own_at _ rfl _ _ 24 rfl w.heap.size 44 i0 (.agg #[.string ByteArray.empty, .int .i64 0]) 2 24 Try.underlying24 HI.out HZ0.out HZ1.out HZ2.out rfl (by decide) (.slice (some ⟨w.heap.size, 0, none⟩) 0 0) 0 [] rfl ?c0 ⟨b, off, none⟩ ps.length cap (pcells ps) rfl (pcells_length ps) ?c1 (pcells_one ps) ?c2 ?c3 ?c4 ?_)
  case c0 => exact ⟨by simp, .inr ⟨w.heap.size, 0, #[], rfl, Nat.le_refl _, heap_alloc_new _ _, Nat.le_refl _, Nat.zero_le _, by simp, by simp⟩⟩
  case c1 =>
    intro j u hj
    obtain ⟨b', off', e, hc⟩ := (Lies.below H.out (below_new w (.cells #[] 44))) j u hj
    injection e with e; injection e with e1 e2; subst e1; subst e2
    rw [add_plain]; exact hc
  case c2 => unfold maxLen; omega
  case c3 => omega
  case c4 => simp
  intro v' w' hown hgrow hnil hat
  have HR := Lib.hid (copyRes_of hown hnil (bgrown (below_new w (.cells #[] 44)) (by simp) hgrow (own_at w.heap.size)))
  clear hown hgrow hnil hat
  go_wp2
  go_ret
  exact HR.out

end Go.Proofs.Ytbgklakhelcgcaa
