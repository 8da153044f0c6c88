/-
  Purses in memory, and what the laws' own helpers do with them.
-/
import Derived.Test.YtbgklakhelcgcaaRise
import Derived.Test.YtbgklakhelcgcaaBase
namespace Go.Proofs.Ytbgklakhelcgcaa
open Go.ChangeShapes Go.WideShapes Go.ChangeAt Go.RowKit

/-- A purse. -/
structure Pur where
  name : ByteArray
  free : Int
def Pur.cells (p : Pur) : List Value := [.string p.name, .int .i64 p.free]
/-- All their cells, one behind the other. -/
def pcells : List Pur → List Value
  | [] => []
  | p :: r => .string p.name :: .int .i64 p.free :: pcells r
/-- These purses lie one behind the other from a on. -/
def Purs (w : World) (a : Option Addr) (ps : List Pur) : Prop := Lies w a (pcells ps)

theorem pcells_length : ∀ ps : List Pur, (pcells ps).length = ps.length * 2
  | [] => rfl
  | p :: r => by simp [pcells, pcells_length r]; omega
theorem pcells_name : ∀ (ps : List Pur) (k : Nat) (h : k < ps.length), (pcells ps)[k * 2]? = some (.string ps[k].name)
  | p :: r, 0, _ => rfl
  | p :: r, k + 1, h => by
    have := pcells_name r k (by simpa using h)
    rw [show (k + 1) * 2 = k * 2 + 2 by omega]
    simpa [pcells] using this
theorem pcells_free : ∀ (ps : List Pur) (k : Nat) (h : k < ps.length), (pcells ps)[k * 2 + 1]? = some (.int .i64 ps[k].free)
  | p :: r, 0, _ => rfl
  | p :: r, k + 1, h => by
    have := pcells_free r k (by simpa using h)
    rw [show (k + 1) * 2 + 1 = k * 2 + 1 + 2 by omega]
    simpa [pcells] using this
theorem Purs.at {w : World} {a : Option Addr} {ps : List Pur} (h : Purs w a ps) (k : Nat) (hk : k < ps.length) :
    ∃ b off, a = some ⟨b, off, none⟩ ∧ b < w.heap.size ∧ w.cell? ⟨b, off + k * 2, none⟩ = some (.string ps[k].name) ∧ w.cell? ⟨b, off + k * 2 + 1, none⟩ = some (.int .i64 ps[k].free) := by
  obtain ⟨b, off, e, hc⟩ := h _ _ (pcells_name ps k hk)
  obtain ⟨b', off', e', hc'⟩ := h _ _ (pcells_free ps k hk)
  rw [e] at e'; injection e' with e'; injection e' with e1 e2; subst e1; subst e2
  exact ⟨b, off, e, at_lt hc, hc, by rw [Nat.add_assoc]; exact hc'⟩
theorem Purs.below {w w' : World} {a : Option Addr} {ps : List Pur} (h : Purs w a ps) (hb : Below w.heap.size w w') : Purs w' a ps := Lies.below h hb

/-- Their names. -/
def pnames (ps : List Pur) : List ByteArray := ps.map Pur.name
theorem pnames_at {ps : List Pur} {k : Nat} (h : k < ps.length) : sat (pnames ps) k = ps[k].name := by
  rw [sat_eq (by simpa [pnames] using h)]; simp [pnames]

set_option maxHeartbeats 1000000 in
set_option maxRecDepth 100000 in
theorem l3Find_any {w : World} {a : Option Addr} {ps : List Pur} (cap : Nat) (s : ByteArray) (h : Purs w a ps) (hl : ps.length ≤ 9223372036854775807) :
    Calls Try.prog 49 #[.slice a ps.length cap, .string s] w fun e w' => e = .returned (.int .i64 (placeV (pnames ps) s)) ∧ w = w' := by
  have H := Lib.hid h
  clear h
  go_enter Try.func49, Try.ntmps49
  go_wp2
  go_loop [5] (fun i => ∃ k : Nat, k ≤ ps.length ∧ i = .int .i64 k ∧ Out (pnames ps) s k) (fun i => ps.length - (intOf i).toNat)
  case atStart => exact ⟨0, Nat.zero_le _, rfl, Out.zero _ s⟩
  case round =>
    obtain ⟨k, hk, rfl, hu⟩ := hrel
    have HU := Lib.hid hu
    clear hu
    by_cases hlt : k < ps.length
    · obtain ⟨b, off, rfl, _, hc, hc1⟩ := H.out.at k hlt
      have HA := Lib.hid (pnames_at hlt)
      cases hq : (ps[k].name.toList == s.toList)
      · have HN := Lib.hid (HU.out.succ (by rw [HA.out]; exact hq))
        go_wp2
        go_round
        case rel => exact ⟨k + 1, by omega, by go_num, HN.out⟩
        case measure => simp [intOf]; omega
      · have HN := Lib.hid (place_in (by simpa [pnames] using hlt) HU.out (by rw [HA.out]; exact hq))
        go_wp2
        go_ret
        exact ⟨by rw [HN.out]; rfl, rfl⟩
    · obtain rfl : k = ps.length := by omega
      have HN := Lib.hid (place_out (ss := pnames ps) (s := s) (by simpa [pnames] using HU.out))
      go_wp2
      go_ret
      exact ⟨by rw [HN.out]; rfl, rfl⟩
end Go.Proofs.Ytbgklakhelcgcaa
