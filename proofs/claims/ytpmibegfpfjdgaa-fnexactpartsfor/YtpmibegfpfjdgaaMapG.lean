/-
  A map in memory that holds the members of a list, each under its own key: whatever the keys and the elements are. What is stored, looked up, struck, cleared and ranged over is told as what becomes of the list.
-/
import Derived.Test.YtpmibegfpfjdgaaMem
import Derived.Maps.RangeWalk
import Derived.Maps.OwnOps
namespace Go.Proofs.Ytpmibegfpfjdgaa
open Go.ChangeShapes Go.WideShapes Go.ChangeAt Go.RowKit
open Go.Maps (Keyed KeysOf)
open Go.WideElems (Fit rd rg rd_key rd_val rg_of)
open Go.ChangeMaps (setBlock heap_setBlock_same heap_setBlock_other putKey delKey notKey eq_of_perm_sorted)

section
variable {α : Type} {P : Program} {k : TypeId} {R : Value → Option (DataW Unit × List MemPlace)} {kl : α → Lit} {vd : α → DataW Unit}

/-- The entries of these. -/
def entsOf (kl : α → Lit) (vd : α → DataW Unit) (xs : List α) : List (Lit × DataW Unit) := xs.map fun x => (kl x, vd x)
/-- What a map of these reads as. -/
def datOf (kl : α → Lit) (vd : α → DataW Unit) (xs : List α) : DataW Unit := .map ((entsOf kl vd xs).foldr DataW.insert [])
/-- No key twice. -/
def Apart (kl : α → Lit) (xs : List α) : Prop := xs.Pairwise fun x y => kl x ≠ kl y
/-- Block b is a map that holds these. -/
structure MapIs (P : Program) (k : TypeId) (R : Value → Option (DataW Unit × List MemPlace)) (kl : α → Lit) (vd : α → DataW Unit) (w : World) (b : Nat) (xs : List α) : Prop where
  apart : Apart kl xs
  keys : ∀ x ∈ xs, KeysOf P k (kl x)
  own : w.ownsMap P k R b xs.length (datOf kl vd xs)
/-- All but those under that key. -/
def without (kl : α → Lit) (l : Lit) (xs : List α) : List α := xs.filter fun y => !(kl y).sameKey l
/-- The one under that key. -/
def under (kl : α → Lit) (l : Lit) (xs : List α) : Option α := xs.find? fun y => (kl y).sameKey l

theorem same_iff (K : Keyed P k) {a b : Lit} (ha : KeysOf P k a) : a.sameKey b = true ↔ a = b :=
  ⟨WideAt.sameKey_eq, fun e => by obtain ⟨v, hv⟩ := ha; rw [← e]; exact WideAt.sameKey_self (K.key hv)⟩
theorem without_sub (l : Lit) (xs : List α) : (without kl l xs).Sublist xs := List.filter_sublist
theorem mem_without (K : Keyed P k) {l : Lit} {xs : List α} (hk : ∀ x ∈ xs, KeysOf P k (kl x)) {x : α} : x ∈ without kl l xs ↔ x ∈ xs ∧ kl x ≠ l := by
  unfold without
  rw [List.mem_filter]
  constructor
  · rintro ⟨h1, h2⟩
    refine ⟨h1, fun e => ?_⟩
    rw [(same_iff K (hk x h1)).2 e] at h2; cases h2
  · rintro ⟨h1, h2⟩
    refine ⟨h1, ?_⟩
    cases h : (kl x).sameKey l
    · rfl
    · exact absurd (WideAt.sameKey_eq h) h2
theorem without_none (K : Keyed P k) {l : Lit} {xs : List α} (hk : ∀ x ∈ xs, KeysOf P k (kl x)) (h : ∀ x ∈ xs, kl x ≠ l) : without kl l xs = xs := by
  unfold without
  rw [List.filter_eq_self]
  intro x hx
  exact (List.mem_filter.1 ((mem_without K hk).2 ⟨hx, h x hx⟩)).2
/-- One of them stands for all that it parts from. -/
theorem without_perm (K : Keyed P k) : ∀ {xs : List α}, Apart kl xs → (∀ x ∈ xs, KeysOf P k (kl x)) → ∀ {x : α}, x ∈ xs → xs.Perm (x :: without kl (kl x) xs)
  | [], _, _, x, hx => by cases hx
  | y :: r, ha, hk, x, hx => by
    obtain ⟨h1, h2⟩ := List.pairwise_cons.1 ha
    have hkr : ∀ z ∈ r, KeysOf P k (kl z) := fun z hz => hk z (by simp [hz])
    rcases List.mem_cons.1 hx with rfl | hx
    · have e : without kl (kl x) (x :: r) = r := by
        rw [show without kl (kl x) (x :: r) = without kl (kl x) r by unfold without; rw [List.filter_cons, if_neg (by rw [(same_iff K (hk x (by simp))).2 rfl]; decide)]]
        exact without_none K hkr (fun z hz e => h1 z hz e.symm)
      rw [e]
    · have hne : kl y ≠ kl x := h1 x hx
      have e : without kl (kl x) (y :: r) = y :: without kl (kl x) r := by
        unfold without
        rw [List.filter_cons, if_pos]
        cases h : (kl y).sameKey (kl x)
        · rfl
        · exact absurd (WideAt.sameKey_eq h) hne
      rw [e]
      exact ((without_perm K h2 hkr hx).cons y).trans (List.Perm.swap _ _ _)
theorem Apart.sub {xs ys : List α} (h : Apart kl xs) (hs : ys.Sublist xs) : Apart kl ys := List.Pairwise.sublist hs h
theorem Apart.perm {xs ys : List α} (h : Apart kl xs) (hp : xs.Perm ys) : Apart kl ys := (hp.pairwise_iff (fun {a b} (h : kl a ≠ kl b) => h.symm)).1 h

theorem apart_one : ∀ {xs : List α}, Apart kl xs → ∀ {x y : α}, x ∈ xs → y ∈ xs → kl x = kl y → x = y
  | [], _, x, _, hx, _, _ => by cases hx
  | z :: r, h, x, y, hx, hy, e => by
    obtain ⟨h1, h2⟩ := List.pairwise_cons.1 h
    rcases List.mem_cons.1 hx with rfl | hx'
    · rcases List.mem_cons.1 hy with rfl | hy'
      · rfl
      · exact absurd e (h1 y hy')
    · rcases List.mem_cons.1 hy with rfl | hy'
      · exact absurd e.symm (h1 x hx')
      · exact apart_one h2 hx' hy' e

theorem ents_apart {xs : List α} (h : Apart kl xs) : (entsOf kl vd xs).Pairwise (fun p q => p.1 ≠ q.1) := by
  unfold entsOf
  rw [List.pairwise_map]
  exact h
theorem ents_keys {xs : List α} (h : ∀ x ∈ xs, KeysOf P k (kl x)) : Maps.Keys (KeysOf P k) (entsOf kl vd xs) := by
  intro p hp
  obtain ⟨x, hx, rfl⟩ := List.mem_map.1 hp
  exact h x hx
theorem datOf_perm (K : Keyed P k) {xs ys : List α} (ha : Apart kl xs) (hk : ∀ x ∈ xs, KeysOf P k (kl x)) (hp : xs.Perm ys) : datOf kl vd xs = datOf kl vd ys := by
  have hpe : (entsOf kl vd xs).Perm (entsOf kl vd ys) := hp.map _
  unfold datOf
  rw [eq_of_perm_sorted ((sorted_perm _).trans (hpe.trans (sorted_perm _).symm)) (Maps.sorted_sorted K.one _ (ents_keys hk) (ents_apart ha)) (Maps.sorted_sorted K.one _ (ents_keys fun x hx => hk x (hp.mem_iff.2 hx)) (ents_apart (ha.perm hp)))]
theorem datOf_put (K : Keyed P k) {xs : List α} (ha : Apart kl xs) (hk : ∀ x ∈ xs, KeysOf P k (kl x)) {x : α} (hx : KeysOf P k (kl x)) : (datOf kl vd xs).put (kl x) (vd x) = datOf kl vd (x :: without kl (kl x) xs) := by
  unfold datOf
  rw [DataW.put_eq, Maps.sorted_put K.one (E' := entsOf kl vd (x :: without kl (kl x) xs)) hx (ents_keys hk) (ents_apart ha)]
  unfold entsOf without
  rw [List.filter_map]
  exact List.Perm.refl _
theorem datOf_del (K : Keyed P k) {xs : List α} (ha : Apart kl xs) (hk : ∀ x ∈ xs, KeysOf P k (kl x)) (l : Lit) : (datOf kl vd xs).del l = datOf kl vd (without kl l xs) := by
  unfold datOf
  rw [DataW.del_eq, Maps.sorted_del K.one (E' := entsOf kl vd (without kl l xs)) (ents_keys hk) (ents_apart ha)]
  unfold entsOf without
  rw [List.filter_map]
  exact List.Perm.refl _
theorem datOf_at {xs : List α} (ha : Apart kl xs) (l : Lit) (zd : DataW Unit) : (datOf kl vd xs).atKey l zd = ((under kl l xs).map vd).getD zd := by
  have hmem : ∀ {q : Lit × DataW Unit}, q ∈ (entsOf kl vd xs).foldr DataW.insert [] ↔ ∃ x ∈ xs, (kl x, vd x) = q := fun {q} => by rw [mem_sorted]; unfold entsOf; rw [List.mem_map]
  unfold datOf DataW.atKey under
  cases h1 : xs.find? fun y => (kl y).sameKey l with
  | none =>
    have h2 : ((entsOf kl vd xs).foldr DataW.insert []).find? (fun p => p.1.sameKey l) = none := by
      rw [List.find?_eq_none] at h1 ⊢
      intro q hq
      obtain ⟨x, hx, rfl⟩ := hmem.1 hq
      exact h1 x hx
    simp only [h2]; rfl
  | some y =>
    have hy : y ∈ xs := List.mem_of_find?_eq_some h1
    have hs : (kl y).sameKey l = true := List.find?_some (p := fun y => (kl y).sameKey l) h1
    cases h2 : ((entsOf kl vd xs).foldr DataW.insert []).find? (fun p => p.1.sameKey l) with
    | none =>
      rw [List.find?_eq_none] at h2
      exact absurd hs (h2 (kl y, vd y) (hmem.2 ⟨y, hy, rfl⟩))
    | some q =>
      obtain ⟨x, hx, rfl⟩ := hmem.1 (List.mem_of_find?_eq_some h2)
      have hq := List.find?_some h2
      have e : kl x = kl y := (WideAt.sameKey_eq (by simpa using hq)).trans (WideAt.sameKey_eq hs).symm
      have : x = y := apart_one ha hx hy e
      subst this
      simp only [h2]; rfl
theorem size_datOf (xs : List α) : Maps.size (datOf kl vd xs) = xs.length := by simp [Maps.size, datOf, length_sorted, entsOf]
theorem has_datOf (K : Keyed P k) {xs : List α} (hk : ∀ x ∈ xs, KeysOf P k (kl x)) {x : α} (hx : x ∈ xs) : Maps.has (datOf kl vd xs) (kl x) = true :=
  List.any_eq_true.2 ⟨(kl x, vd x), mem_sorted.2 (List.mem_map.2 ⟨x, hx, rfl⟩), (same_iff K (hk x hx)).2 rfl⟩

variable {w : World} {b : Nat} {xs : List α}
theorem MapIs.lt (h : MapIs P k R kl vd w b xs) : b < w.heap.size := h.own.lt
theorem MapIs.made (w : World) : MapIs P k R kl vd (w.alloc (.map #[] 0)) w.heap.size [] :=
  ⟨List.Pairwise.nil, by simp, World.ownsMap_made w P k R⟩
theorem MapIs.perm (K : Keyed P k) {ys : List α} (h : MapIs P k R kl vd w b xs) (hp : xs.Perm ys) : MapIs P k R kl vd w b ys :=
  ⟨h.apart.perm hp, fun x hx => h.keys x (hp.mem_iff.2 hx), by rw [← datOf_perm K h.apart h.keys hp, ← hp.length_eq]; exact h.own⟩
theorem MapIs.block {w' : World} (h : MapIs P k R kl vd w b xs) (hb : w'.heap[b]? = w.heap[b]?) : MapIs P k R kl vd w' b xs := by
  refine ⟨h.apart, h.keys, ?_⟩
  obtain ⟨es, clock, h1, h2⟩ := h.own
  exact ⟨es, clock, hb.trans h1, h2⟩
theorem MapIs.below {w' : World} {B : Nat} (h : MapIs P k R kl vd w b xs) (hb : Below B w w') (hlt : b < B) : MapIs P k R kl vd w' b xs := h.block (hb.block b hlt)
theorem MapIs.grown {w' : World} {row : Option Nat} (h : MapIs P k R kl vd w b xs) (hg : w.grownBy w' row) (hne : some b ≠ row) : MapIs P k R kl vd w' b xs := h.block (hg.block b h.lt hne)
/-- So many as they are. -/
theorem owns_exact {n : Nat} (h : w.ownsMap P k R b n (datOf kl vd xs)) : w.ownsMap P k R b xs.length (datOf kl vd xs) := by
  obtain ⟨es, clock, h1, h2, h3, h4⟩ := h
  refine ⟨es, clock, h1, h2, ?_, h4⟩
  have := congrArg Maps.size h4
  rw [size_datOf] at this
  simp [Maps.size, length_sorted] at this
  omega

variable {t e : TypeId}
/-- m[k] = v -/
theorem MapIs.store (K : Keyed P k) (ht : P.underlying t = some (.map k e)) (h : MapIs P k R kl vd w b xs) (hn : xs.length < maxLen) {x : α} {key val : Value} {ps : List MemPlace} (hkey : keyOf P k key = some (kl x)) (hv : R val = some (vd x, ps)) :
    ∃ w', (Instr.mapUpdate t (.map (some b)) key val).run P w = .ok () w' ∧ MapIs P k R kl vd w' b (x :: without kl (kl x) xs) ∧ w.mapTurned w' b := by
  obtain ⟨w', hr, ho, ht'⟩ := h.own.store K ht hn hkey hv
  refine ⟨w', hr, ⟨?_, ?_, ?_⟩, ht'⟩
  · exact List.pairwise_cons.2 ⟨fun y hy => (((mem_without K h.keys).1 hy).2).symm, h.apart.sub (without_sub _ _)⟩
  · intro y hy
    rcases List.mem_cons.1 hy with rfl | hy
    · exact ⟨_, hkey⟩
    · exact h.keys y ((without_sub _ _).subset hy)
  · rw [datOf_put K h.apart h.keys ⟨_, hkey⟩] at ho
    exact owns_exact ho
/-- delete(m, k) -/
theorem MapIs.drop (K : Keyed P k) (ht : P.underlying t = some (.map k e)) (h : MapIs P k R kl vd w b xs) {l : Lit} {key : Value} (hkey : keyOf P k key = some l) (ty : TypeId) :
    ∃ w', (Builtin.delete_ #[t, k] ty #[.map (some b), key]).run P w = .ok (.tuple #[]) w' ∧ MapIs P k R kl vd w' b (without kl l xs) ∧ w.mapTurned w' b := by
  obtain ⟨w', hr, ho, ht'⟩ := h.own.drop K ht hkey ty
  refine ⟨w', hr, ⟨h.apart.sub (without_sub _ _), fun y hy => h.keys y ((without_sub _ _).subset hy), ?_⟩, ht'⟩
  rw [datOf_del K h.apart h.keys] at ho
  exact owns_exact ho
/-- m[k] -/
theorem MapIs.look (K : Keyed P k) (ht : P.underlying t = some (.map k e)) (h : MapIs P k R kl vd w b xs) {z : Value} (hz : (zeroValue e).run P w = .ok z w) {zd : DataW Unit} {zp : List MemPlace} (hzd : R z = some (zd, zp)) {l : Lit} {key : Value} (hkey : keyOf P k key = some l) :
    ∃ v ps, (Instr.lookup t (.map (some b)) key false).run P w = .ok v w ∧ R v = some (((under kl l xs).map vd).getD zd, ps) := by
  obtain ⟨v, ps, hr, hv⟩ := h.own.lookup K ht hz hzd hkey
  rw [datOf_at h.apart] at hv
  exact ⟨v, ps, hr, hv⟩
/-- len(m) -/
theorem MapIs.len (ht : P.underlying t = some (.map k e)) (h : MapIs P k R kl vd w b xs) (ty : TypeId) : (Builtin.len_ #[t] ty #[.map (some b)]).run P w = .ok (.int .i64 xs.length) w := by
  rw [h.own.len ht ty, size_datOf]
/-- clear(m) -/
theorem MapIs.clear (ht : P.underlying t = some (.map k e)) (h : MapIs P k R kl vd w b xs) (ty : TypeId) :
    ∃ w', (Builtin.clear_ #[t] ty #[.map (some b)]).run P w = .ok (.tuple #[]) w' ∧ MapIs P k R kl vd w' b [] ∧ w.mapTurned w' b := by
  obtain ⟨es, clock, hb, F, -⟩ := h.own
  refine ⟨setBlock w b (.map #[] clock), ?_, ⟨List.Pairwise.nil, by simp, ⟨#[], clock, heap_setBlock_same hb _, ⟨by simp, ?_, by simp⟩, Nat.le_refl _, rfl⟩⟩, ⟨es, clock, #[], clock, hb, rfl⟩⟩
  · simp [Builtin.clear_, run_underlying ht, MapKept.run_getObj_map hb, MapKept.run_setObj_map _ hb, Result.andThen, setBlock]
  · exact MapKept.stamped_empty _

/-- A range over it is under way: these are still to come. -/
structure RangeIs (P : Program) (k : TypeId) (R : Value → Option (DataW Unit × List MemPlace)) (kl : α → Lit) (vd : α → DataW Unit) (w : World) (b r : Nat) (xs todo : List α) : Prop where
  apart : Apart kl xs
  keys : ∀ x ∈ xs, KeysOf P k (kl x)
  under : ∃ left cnt, w.ranges P k R b r xs.length (datOf kl vd xs) left cnt ∧ todo = xs.filter fun x => left (kl x)
variable {r : Nat} {todo : List α}
theorem RangeIs.map (h : RangeIs P k R kl vd w b r xs todo) : MapIs P k R kl vd w b xs := by
  obtain ⟨left, cnt, hr, -⟩ := h.under
  exact ⟨h.apart, h.keys, hr.owns⟩
theorem RangeIs.ne (h : RangeIs P k R kl vd w b r xs todo) : r ≠ b := by
  obtain ⟨left, cnt, hr, -⟩ := h.under
  exact hr.ne
theorem RangeIs.lt (h : RangeIs P k R kl vd w b r xs todo) : r < w.heap.size := by
  obtain ⟨left, cnt, hr, -⟩ := h.under
  exact hr.lt
theorem RangeIs.sub (h : RangeIs P k R kl vd w b r xs todo) : todo.Sublist xs := by
  obtain ⟨left, cnt, -, e⟩ := h.under
  rw [e]; exact List.filter_sublist
/-- One that has come, and those that are still to come. -/
theorem RangeIs.part (K : Keyed P k) (h : RangeIs P k R kl vd w b r xs todo) {x : α} (hx : x ∈ todo) : todo.Perm (x :: without kl (kl x) todo) :=
  without_perm K (h.apart.sub h.sub) (fun y hy => h.keys y (h.sub.subset hy)) hx
theorem RangeIs.kept {w' : World} {row : Option Nat} (h : RangeIs P k R kl vd w b r xs todo) (hg : w.grownBy w' row) (hb' : some b ≠ row) (hr' : some r ≠ row) : RangeIs P k R kl vd w' b r xs todo := by
  obtain ⟨left, cnt, hr, e⟩ := h.under
  exact ⟨h.apart, h.keys, left, cnt, hr.kept hg hb' hr', e⟩
theorem RangeIs.left_kept {w' : World} {row : Option Nat} (h : RangeIs P k R kl vd w b r xs todo) (hg : w.grownBy w' row) (hb' : some b ≠ row) (hr' : some r ≠ row) : w'.rangeLeft b r = w.rangeLeft b r := by
  obtain ⟨left, cnt, hr, -⟩ := h.under
  rw [hr.left_eq, (hr.kept hg hb' hr').left_eq]
/-- range m -/
theorem MapIs.range (K : Keyed P k) (ht : P.underlying t = some (.map k e)) (h : MapIs P k R kl vd w b xs) :
    ∃ w', (Instr.range t (.map (some b))).run P w = .ok (.pointer (some ⟨w.heap.size, 0, none⟩)) w' ∧ RangeIs P k R kl vd w' b w.heap.size xs xs ∧ w.grownBy w' none ∧ w'.heap.size = w.heap.size + 1 := by
  obtain ⟨w', hr, hg, h1, h2⟩ := h.own.range K ht
  refine ⟨w', hr, ⟨h.apart, h.keys, _, _, hg, ?_⟩, h1, h2⟩
  exact (List.filter_eq_self.2 fun x hx => has_datOf K h.keys hx).symm
theorem filter_without (left : Lit → Bool) (l : Lit) (xs : List α) : xs.filter (fun x => left (kl x) && !(kl x).sameKey l) = without kl l (xs.filter fun x => left (kl x)) := by
  unfold without
  rw [List.filter_filter]
  congr 1
  funext x
  exact Bool.and_comm _ _
/-- The next one. -/
theorem RangeIs.next (K : Keyed P k) (h : RangeIs P k R kl vd w b r xs todo) (ty : TypeId) :
    (todo = [] ∧ (Instr.next (.pointer (some ⟨r, 0, none⟩)) false ty).run P w = .ok (.tuple #[.bool false]) w) ∨
    ∃ x key v ps w', x ∈ todo ∧ x ∈ xs ∧ keyOf P k key = some (kl x) ∧ R v = some (vd x, ps) ∧ (Instr.next (.pointer (some ⟨r, 0, none⟩)) false ty).run P w = .ok (.tuple #[.bool true, key, v]) w' ∧
      RangeIs P k R kl vd w' b r xs (without kl (kl x) todo) ∧ w'.rangeLeft b r < w.rangeLeft b r ∧ w.grownBy w' (some r) ∧ w'.heap.size = w.heap.size ∧ (Instr.entry (.pointer (some ⟨r, 0, none⟩))).run P w' = .ok (.tuple #[key, v]) w' := by
  obtain ⟨left, cnt, hr, et⟩ := h.under
  rcases hr.next K ty with ⟨-, hl, hrun⟩ | ⟨key, v, l, y, w', cnt', hkey, hlk, hv, hat, hrun, hr', hlt, hg, hs, hen⟩
  · refine .inl ⟨?_, hrun⟩
    rw [et, List.filter_eq_nil_iff]
    intro x _
    rw [hl]; decide
  · obtain ⟨x, hx, rfl⟩ : ∃ x ∈ xs, kl x = l := by
      obtain ⟨es, clock, since, seen, c0, -, F, -, hD, -, -, -, -, hl2, -⟩ := hr
      obtain ⟨z, hz, ez⟩ := hl2 l hlk
      have hm : rg P k R z ∈ (es.toList.map (rg P k R)).foldr DataW.insert [] := mem_sorted.2 (List.mem_map.2 ⟨z, hz, rfl⟩)
      have hD' : (es.toList.map (rg P k R)).foldr DataW.insert [] = (entsOf kl vd xs).foldr DataW.insert [] := by unfold datOf at hD; injection hD with hD; exact hD.symm
      rw [hD', mem_sorted] at hm
      obtain ⟨x, hx, ex⟩ := List.mem_map.1 hm
      exact ⟨x, hx, by rw [← ez, ← ex]⟩
    have hy : y.1 = vd x := by
      have := hat .nil
      rw [datOf_at h.apart] at this
      have hu : Go.Proofs.Ytpmibegfpfjdgaa.under kl (kl x) xs = some x := by
        unfold Go.Proofs.Ytpmibegfpfjdgaa.under
        cases hf : xs.find? fun y => (kl y).sameKey (kl x) with
        | none => rw [List.find?_eq_none] at hf; exact absurd ((same_iff K (h.keys x hx)).2 rfl) (hf x hx)
        | some z => rw [apart_one h.apart (List.mem_of_find?_eq_some hf) hx (WideAt.sameKey_eq (List.find?_some (p := fun y => (kl y).sameKey (kl x)) hf))]
      rw [hu] at this
      exact this.symm
    obtain ⟨yd, yp⟩ := y
    simp only at hy
    subst hy
    refine .inr ⟨x, key, v, yp, w', ?_, hx, hkey, hv, hrun, ⟨h.apart, h.keys, _, cnt', hr', ?_⟩, ?_, hg, hs, hen⟩
    · rw [et]; exact List.mem_filter.2 ⟨hx, hlk⟩
    · rw [et]; exact (filter_without left (kl x) xs).symm
    · rw [hr'.left_eq, hr.left_eq]; exact hlt
/-- delete(m, k), in the round. -/
theorem RangeIs.drop (K : Keyed P k) (ht : P.underlying t = some (.map k e)) (h : RangeIs P k R kl vd w b r xs todo) {l : Lit} {key : Value} (hkey : keyOf P k key = some l) (ty : TypeId) :
    ∃ w', (Builtin.delete_ #[t, k] ty #[.map (some b), key]).run P w = .ok (.tuple #[]) w' ∧ RangeIs P k R kl vd w' b r (without kl l xs) (without kl l todo) ∧ w'.rangeLeft b r ≤ w.rangeLeft b r ∧ w.mapTurned w' b := by
  obtain ⟨left, cnt, hr, et⟩ := h.under
  obtain ⟨w', cnt', hrun, hr', hle, htn⟩ := hr.drop K ht hkey ty
  refine ⟨w', hrun, ⟨h.apart.sub (without_sub _ _), fun y hy => h.keys y ((without_sub _ _).subset hy), (fun z => left z && !z.sameKey l), cnt', ?_, ?_⟩, ?_, htn⟩
  · rw [datOf_del K h.apart h.keys] at hr'
    obtain ⟨es, clock, since, seen, c0, h1, h2, h3, h4, h5⟩ := hr'
    refine ⟨es, clock, since, seen, c0, h1, h2, ?_, h4, h5⟩
    have := congrArg Maps.size h4
    rw [size_datOf] at this
    simp [Maps.size, length_sorted] at this
    omega
  · rw [filter_without, et]
    unfold without
    rw [List.filter_filter, List.filter_filter, List.filter_filter]
    congr 1
    funext x
    cases left (kl x) <;> cases (kl x).sameKey l <;> rfl
  · rw [hr'.left_eq, hr.left_eq]; exact hle
end
end Go.Proofs.Ytpmibegfpfjdgaa
