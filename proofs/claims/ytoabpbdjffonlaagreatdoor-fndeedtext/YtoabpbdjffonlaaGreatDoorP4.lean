/-
  Texts joined: Draw6, RecDeed.
-/
import Derived.Test.YtoabpbdjffonlaaGreatDoorP1
import Derived.Test.YtoabpbdjffonlaaGreatDoorP3
import Derived.Deep.RegionWith
import Derived.StillTailTactics
import Derived.Deep.RegionHeld3
namespace Go.Proofs.YtoabpbdjffonlaaGreatDoor
open Go.ChangeShapes Go.WideShapes Go.ChangeAt Go.RowKit

/-- Between the draws: the result's block is as it was made. -/
structure MidW (C : Nat) (a : Option Addr) (len cap : Nat) (w : World) (W : World) : Prop where
  cur : Cur W C a len cap
  grown : w.grownBy W (some C)
  room : RecAt Wai.cs W w.heap.size wai0
  free : ∀ o, W.frozen? ⟨w.heap.size, o, none⟩ = false
  lt : w.heap.size < W.heap.size
section
variable {C : Nat} {a : Option Addr} {len cap : Nat} {w W W2 : World}
theorem MidW.draw (h : MidW C a len cap w W) (hC : C < w.heap.size) (hc : Cur W2 C a len cap) (hg : W.grownBy W2 (some C)) : MidW C a len cap w W2 where
  cur := hc
  grown := grown_step h.grown hg
  room := fun j v hj => kept_cell hg (h.room j v hj) (by omega)
  free := fun o => by
    rw [World.frozen?_of_block (a := ⟨w.heap.size, o, none⟩) (hg.block w.heap.size h.lt (by intro e; injection e with e; omega))]
    exact h.free o
  lt := Nat.lt_of_lt_of_le h.lt hg.size
theorem MidW.new (h : MidW C a len cap w W) (o : Obj) : MidW C a len cap w (W.alloc o) where
  cur := h.cur.kept (below_new _ _)
  grown := grown_new h.grown o
  room := h.room.below (below_new _ _)
  free := fun q => by rw [(below_new W o).frozen (p := ⟨w.heap.size, q, none⟩) h.lt]; exact h.free q
  lt := Nat.lt_of_lt_of_le h.lt (below_new W o).size
theorem MidW.start (h : Cur w C a len cap) : MidW C a len cap w (w.alloc (.cells #[.string ByteArray.empty, .string ByteArray.empty, .int .i64 0, .int .i64 0] 176)) where
  cur := h.kept (below_new _ _)
  grown := grown_new (grown_refl _ _) _
  room := RecAt.new Wai.cs w wai0 176
  free := free_new w _ _
  lt := by simp
/-- The number that is drawn of two, and the name of that number. -/
def TwoW (j : Nat) (pv : ByteArray) : Prop := (j : Int) < 2 ∧ pv.size ≤ 7 ∧ (#[Value.string ⟨#[97, 110, 110]⟩, .string ⟨#[109, 105, 97]⟩] : Array Value)[j]? = some (.string pv) ∧ ([Value.string ⟨#[97, 110, 110]⟩, .string ⟨#[109, 105, 97]⟩] : List Value)[j]? = some (.string pv)
theorem twoW_of {z : Int} (h : 0 ≤ z) (h2 : z < 2) : ∃ j : Nat, ∃ pv, z = j ∧ TwoW j pv := by
  obtain ⟨j, rfl⟩ : ∃ j : Nat, z = j := ⟨z.toNat, by omega⟩
  match j, h2 with
  | 0, h2 => exact ⟨0, _, rfl, h2, by decide, rfl, rfl⟩
  | 1, h2 => exact ⟨1, _, rfl, h2, by decide, rfl, rfl⟩
theorem TwoW.cell {j : Nat} {pv : ByteArray} (h : TwoW j pv) (w : World) : (w.alloc (.cells #[.string ⟨#[97, 110, 110]⟩, .string ⟨#[109, 105, 97]⟩] 9)).cell? ⟨w.heap.size, j, none⟩ = some (.string pv) := by
  simp only [World.cell?, heap_alloc_new]; exact h.2.2.1
end

end Go.Proofs.YtoabpbdjffonlaaGreatDoor
namespace Go.Proofs.YtoabpbdjffonlaaGreatDoor
open Go.ChangeShapes Go.WideShapes Go.ChangeAt Go.RowKit

/-- A Deed. -/
structure Dee where
  kind : Int
  who : ByteArray
  mill : ByteArray
  to : ByteArray
  n : Int
def Dee.cs (x : Dee) : List Value := [.int .i64 x.kind, .string x.who, .string x.mill, .string x.to, .int .i64 x.n]
theorem Dee.len (x : Dee) : x.cs.length = 5 := rfl
theorem Dee.one (x : Dee) : ∀ v ∈ x.cs, v.oneCell' = true := by
  intro v hv
  simp only [Dee.cs, List.mem_cons, List.not_mem_nil, or_false] at hv
  rcases hv with rfl | rfl | rfl | rfl | rfl <;> rfl
/-- The bytes of its strings. -/
def Dee.bytes (x : Dee) : Nat := x.who.size + x.mill.size + x.to.size
theorem Dee.at {w : World} {a : Option Addr} {xs : List Dee} (h : Recs Dee.cs w a xs) (k : Nat) (hk : k < xs.length) :
    ∃ b off, a = some ⟨b, off, none⟩ ∧ b < w.heap.size ∧ w.cell? ⟨b, off + k * 5, none⟩ = some (.int .i64 xs[k].kind) ∧ w.cell? ⟨b, off + k * 5 + 1, none⟩ = some (.string xs[k].who) ∧ w.cell? ⟨b, off + k * 5 + 2, none⟩ = some (.string xs[k].mill) ∧ w.cell? ⟨b, off + k * 5 + 3, none⟩ = some (.string xs[k].to) ∧ w.cell? ⟨b, off + k * 5 + 4, none⟩ = some (.int .i64 xs[k].n) := by
  obtain ⟨b, off, e, hb, hc⟩ := h.cell Dee.len (by omega) k hk
  exact ⟨b, off, e, hb, hc 0 _ rfl, hc 1 _ rfl, hc 2 _ rfl, hc 3 _ rfl, hc 4 _ rfl⟩

theorem info_Deed : (Tryz.prog.info? 25).map (fun i => (i.zero, i.size, i.bytes)) = some (some (.agg #[.int .i64 0, .string ByteArray.empty, .string ByteArray.empty, .string ByteArray.empty, .int .i64 0]), 5, 64) := by kernel_rfl

/-- What is left behind one: -1 where it is too much. -/
def Dee.left (x : Dee) (left : Int) : Int := if (x.bytes : Int) ≤ left then left - x.bytes else -1

/-- The record of marks from k on. -/
def Dee.mark (k : Nat) : Dee := ⟨((k : Nat) : Int), markB (k + 1), markB (k + 2), markB (k + 3), ((k + 4 : Nat) : Int)⟩

end Go.Proofs.YtoabpbdjffonlaaGreatDoor
