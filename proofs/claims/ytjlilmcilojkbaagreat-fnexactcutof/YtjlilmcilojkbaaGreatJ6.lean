/-
  Texts joined: SortP, PartK, PartE, PartA, PartH, PartJ, PartL, CmpI, WaitT, WaitR, WaitF, WaitJ, WaitK, BookI.
-/
import Derived.Test.YtjlilmcilojkbaaGreatJ5
import Derived.Deep.AppendLies
import Derived.Laws.MakeOwn
import Derived.Carry
import Derived.Deep.QuietTactic
import Derived.BigQuiet
namespace Go.Proofs.YtjlilmcilojkbaaGreat
open Go.ChangeShapes Go.WideShapes Go.ChangeAt Go.RowKit
open Go.Shelf Go.Lib
open Go.Sort (SWO PermIn SortedIn)

theorem bytes_same {a b : ByteArray} (h : a.toList = b.toList) : a = b := WideShapes.bytes_inj (by rw [ByteArray.toList_eq, ByteArray.toList_eq] at h; exact h)
theorem bytes_cases (a b : List UInt8) : a < b ∨ a = b ∨ b < a := by
  by_cases h : a < b
  · exact .inl h
  · by_cases e : a = b
    · exact .inr (.inl e)
    · exact .inr (.inr (bytes_gt h e))
theorem cmpS_cases (a b : ByteArray) : (a.toList < b.toList ∧ cmpS a b = -1) ∨ (a.toList = b.toList ∧ cmpS a b = 0) ∨ (b.toList < a.toList ∧ cmpS a b = 1) := by
  rcases bytes_cases a.toList b.toList with h | h | h
  · exact .inl ⟨h, cmpS_lt (by rw [bytesLess_lt, decide_eq_true_eq]; exact h)⟩
  · exact .inr (.inl ⟨h, cmpS_same (by simpa using h)⟩)
  · refine .inr (.inr ⟨h, cmpS_gt ?_ (by rw [bytesLess_lt, decide_eq_true_eq]; exact h)⟩)
    rw [bytesLess_lt, decide_eq_false_iff_not]
    exact fun h' => List.lt_irrefl _ (List.lt_trans h h')
theorem lt_cmp (p q : Par) : ltOf cmpP p q = lessB p q.who q.mill := by
  have h1 : (ltOf cmpP p q = true) ↔ cmpP p q < 0 := by simp [ltOf]
  have h2 : (lessB p q.who q.mill = true) ↔ cmpP p q < 0 := by
    rw [less_iff]
    unfold cmpP orI
    have nn : ∀ {x y : List UInt8}, x < y → ¬ x = y := fun h e => List.lt_irrefl _ (e ▸ h)
    have na : ∀ {x y : List UInt8}, x < y → ¬ y < x := fun h h' => List.lt_irrefl _ (List.lt_trans h h')
    rcases cmpS_cases p.who q.who with ⟨h, e⟩ | ⟨h, e⟩ | ⟨h, e⟩ <;> rcases cmpS_cases p.mill q.mill with ⟨k, e'⟩ | ⟨k, e'⟩ | ⟨k, e'⟩ <;> rw [e, e']
    all_goals simp [h, k, nn, na, List.lt_irrefl]
    all_goals first | exact fun e => absurd e.symm (nn h) | skip
  exact Bool.eq_iff_iff.2 (h1.trans h2.symm)
theorem key_cases (p q : Par) : KeyLt p q ∨ (p.who = q.who ∧ p.mill = q.mill) ∨ KeyLt q p := by
  unfold KeyLt
  rw [less_iff, less_iff]
  rcases bytes_cases p.who.toList q.who.toList with h | h | h
  · exact .inl (.inl h)
  · rcases bytes_cases p.mill.toList q.mill.toList with k | k | k
    · exact .inl (.inr ⟨h, k⟩)
    · exact .inr (.inl ⟨bytes_same h, bytes_same k⟩)
    · exact .inr (.inr (.inr ⟨h.symm, k⟩))
  · exact .inr (.inr (.inl h))
theorem KeyLt.irrefl (p : Par) : ¬ KeyLt p p := by
  unfold KeyLt
  rw [less_iff]
  rintro (h | ⟨_, h⟩) <;> exact List.lt_irrefl _ h
theorem KeyLt.of_key {p q p' q' : Par} (h : KeyLt p q) (h1 : p'.who = p.who ∧ p'.mill = p.mill) (h2 : q'.who = q.who ∧ q'.mill = q.mill) : KeyLt p' q' := by
  unfold KeyLt at *
  rw [less_iff] at *
  rw [h1.1, h1.2, h2.1, h2.2]; exact h
theorem swoP : SWO (ltOf cmpP) where
  irrefl x := by
    rw [lt_cmp]
    cases h : lessB x x.who x.mill
    · rfl
    · exact absurd h (KeyLt.irrefl x)
  trans x y z h1 h2 := by
    rw [lt_cmp] at *
    exact KeyLt.trans h1 h2
  ntrans x y z h1 h2 := by
    rw [lt_cmp] at *
    cases h : lessB x z.who z.mill
    · rfl
    · exfalso
      rcases key_cases x y with k | k | k
      · rw [show lessB x y.who y.mill = true from k] at h1; cases h1
      · rw [show lessB y z.who z.mill = true from KeyLt.of_key (show KeyLt x z from h) ⟨k.1.symm, k.2.symm⟩ ⟨rfl, rfl⟩] at h2; cases h2
      · rw [show lessB y z.who z.mill = true from KeyLt.trans k h] at h2; cases h2

/-- Two lists that rise and hold the same are one. -/
theorem up_one {xs ys : List Par} (hp : xs.Perm ys) (hx : xs.Pairwise KeyLt) (hy : ys.Pairwise KeyLt) : xs = ys := by
  refine hp.eq_of_pairwise ?_ hx hy
  intro a b _ _ h1 h2
  exact absurd (h1.trans h2) (KeyLt.irrefl a)
/-- What rises has no key twice. -/
theorem up_apart {xs : List Par} (hs : PSized xs) (hx : xs.Pairwise KeyLt) : Apart keyL xs := by
  rw [psized_mem] at hs
  refine List.Pairwise.imp_of_mem ?_ hx
  intro a b ha hb h e
  obtain ⟨e1, e2⟩ := keyAt_inj (hs a ha).1 (hs a ha).2 (hs b hb).1 (hs b hb).2 e
  exact KeyLt.irrefl b (KeyLt.of_key h ⟨e1.symm, e2.symm⟩ ⟨rfl, rfl⟩)
theorem key_same {p q : Par} (h : p.who = q.who ∧ p.mill = q.mill) : keyL p = keyL q := by unfold keyL; rw [h.1, h.2]

instance : Inhabited Par := ⟨par0⟩

theorem sorts_up {ps out : List Par} (ha : Apart keyL ps) (hp : PermIn 0 ps.toArray.size ps.toArray out.toArray) (hs : SortedIn (ltOf cmpP) 0 ps.toArray.size out.toArray) : out.Perm ps ∧ out.Pairwise KeyLt := by
  have hl : out.length = ps.length := by simpa using hp.1
  have hperm : out.Perm ps := by
    have := hp.2.2
    rw [List.extract_toArray, List.extract_toArray] at this
    simp only [List.size_toArray, List.extract_eq_take_drop, List.drop_zero, Nat.sub_zero] at this
    rw [List.take_of_length_le (by omega), List.take_of_length_le (by omega)] at this
    exact this
  refine ⟨hperm, ?_⟩
  have ha' := ha.perm hperm.symm
  rw [List.pairwise_iff_getElem]
  intro i j hi hj hij
  have h1 := hs i j (Nat.zero_le _) hij (by simpa [← hl] using hj)
  have h2 : lessB out[j] out[i].who out[i].mill = false := by
    rw [lt_cmp] at h1
    simpa [hi, hj] using h1
  rcases key_cases out[i] out[j] with k | k | k
  · exact k
  · exact absurd (key_same k) ((List.pairwise_iff_getElem.1 ha') i j hi hj hij)
  · rw [show lessB out[j] out[i].who out[i].mill = true from k] at h2; cases h2

theorem entersBy : ∀ args w, (callFunc 110 args).run Tryz.prog w = .ok (.enter 110 args) w := enters_of Tryz.func110 (by kernel_rfl) rfl

set_option maxHeartbeats 2000000 in
set_option maxRecDepth 100000 in
theorem iSort_any {W : World} {base g cap : Nat} {ps : List Par} (ho : W.ownsRow base 75 3 (.slice (some ⟨g, 0, none⟩) ps.length cap) ps.length (ps.flatMap Par.cs)) (ha : Apart keyL ps) (hl : ps.length ≤ 1048577) :
    Calls Tryz.prog 109 #[.slice (some ⟨g, 0, none⟩) ps.length cap, .func (.func 110) #[] #[]] W fun e w' => e = .returned (.tuple #[]) ∧ ∃ out : List Par, out.Perm ps ∧ out.Pairwise KeyLt ∧ w'.ownsRow base 75 3 (.slice (some ⟨g, 0, none⟩) out.length cap) out.length (out.flatMap Par.cs) ∧ W.grownBy w' (some g) := by
  have hcon := AnyQ.slices_SortFunc sortPart 3 Tryz.isAgg75 Tryz.sizeOf75 Par.cs Par.len Par.one cmpP swoP 110 #[] g 0 cap ps.toArray W entersBy (fun _ _ _ _ x y => iBy_any x y _) (row_holds Par.len ho) (own_some ho).2.2.2.2 (by simp; omega)
  change Calls Tryz.prog 109 _ _ _ at hcon
  simp only [List.size_toArray] at hcon
  refine hcon.mono ?_
  rintro e w' ⟨rfl, d', n, os, hp, hs, rfl⟩
  obtain ⟨out⟩ := d'
  obtain ⟨h1, h2⟩ := sorts_up ha (by simpa using hp) (by simpa using hs)
  exact ⟨rfl, out, h1, h2, sorted_row Par.len ho h1.length_eq, sorted_grown _⟩
end Go.Proofs.YtjlilmcilojkbaaGreat
namespace Go.Proofs.YtjlilmcilojkbaaGreat
open Go.ChangeShapes Go.WideShapes Go.ChangeAt Go.RowKit

theorem iKey_any (p : Par) (w : World) :
    Calls Tryz.prog 100 #[.agg #[.string p.who, .string p.mill, .int .i64 p.shares]] w fun e w' => e = .returned (.agg #[.string p.who, .string p.mill]) ∧ Below w.heap.size w w' := by
  go_enter Tryz.func100, Tryz.ntmps100
  go_wp2
  refine bodyPost_ret (v := .agg #[.string p.who, .string p.mill]) (by simp [results, Tryz.results100, go_sem]) rfl ⟨rfl, ?_⟩
  exact below_trans (below_new _ _) (below_new _ _)

theorem in_one (n : Int) : inB 1 1000000000 n = (decide (1 ≤ n) && inB 0 1000000000 n) := by
  unfold inB
  rw [← Bool.decide_and]
  congr 1
  apply propext
  omega

set_option maxHeartbeats 1000000 in
set_option maxRecDepth 100000 in
theorem pright_any (p : Par) (w : World) (hs : p.who.size ≤ maxLen ∧ p.mill.size ≤ maxLen) :
    Calls Tryz.prog 104 #[.agg #[.string p.who, .string p.mill, .int .i64 p.shares]] w fun e w' => e = .returned (.bool (partB p)) ∧ Below w.heap.size w w' := by
  have HN : Hid (partB p = (nameB p.who && (nameB p.mill && (decide (1 ≤ p.shares) && inB 0 1000000000 p.shares)))) := by unfold partB; rw [in_one]; rfl
  have HS := Lib.hid hs
  clear hs
  cases h1 : nameB p.who
  · go_enter Tryz.func104, Tryz.ntmps104
    go_wp2_with (go_at_call 91; with_reducible refine (iNameOk_any p.who _ HS.out.1).mono ?_; rintro e w' ⟨rfl, rfl⟩; rw [h1])
    go_ret
    exact ⟨by rw [HN.out, h1]; rfl, below_new _ _⟩
  cases h2 : nameB p.mill
  · go_enter Tryz.func104, Tryz.ntmps104
    go_wp2_with (go_at_call 91; first | (with_reducible refine (iNameOk_any p.who _ HS.out.1).mono ?_; rintro e w' ⟨rfl, rfl⟩; rw [h1]) | (with_reducible refine (iNameOk_any p.mill _ HS.out.2).mono ?_; rintro e w' ⟨rfl, rfl⟩; rw [h2]))
    go_ret
    exact ⟨by rw [HN.out, h1, h2]; rfl, below_new _ _⟩
  by_cases h3 : 1 ≤ p.shares
  · go_enter Tryz.func104, Tryz.ntmps104
    go_wp2_with (first | (go_at_call 91; first | (with_reducible refine (iNameOk_any p.who _ HS.out.1).mono ?_; rintro e w' ⟨rfl, rfl⟩; rw [h1]) | (with_reducible refine (iNameOk_any p.mill _ HS.out.2).mono ?_; rintro e w' ⟨rfl, rfl⟩; rw [h2])) | (go_at_call 108; refine (iSharesOk_any _ _).mono ?_; rintro e w' ⟨rfl, rfl⟩))
    go_ret
    exact ⟨by rw [HN.out, h1, h2, decide_eq_true h3]; simp, below_new _ _⟩
  · go_enter Tryz.func104, Tryz.ntmps104
    go_wp2_with (first | (go_at_call 91; first | (with_reducible refine (iNameOk_any p.who _ HS.out.1).mono ?_; rintro e w' ⟨rfl, rfl⟩; rw [h1]) | (with_reducible refine (iNameOk_any p.mill _ HS.out.2).mono ?_; rintro e w' ⟨rfl, rfl⟩; rw [h2])))
    go_ret
    exact ⟨by rw [HN.out, h1, h2, decide_eq_false (by omega)]; simp, below_new _ _⟩

/-- A list of the call's own: its row is known whole. -/
def ResRow (out : List Par) (w : World) (e : Ending) (w' : World) : Prop :=
  ∃ g cap, e = .returned (.slice (some ⟨g, 0, none⟩) out.length cap) ∧ w'.ownsRow w.heap.size 75 3 (.slice (some ⟨g, 0, none⟩) out.length cap) out.length (out.flatMap Par.cs) ∧ Below w.heap.size w w'

theorem key_at {p : Par} {key : Value} (hs : p.who.size ≤ maxLen ∧ p.mill.size ≤ maxLen) (h : keyOf Tryz.prog 131 key = some (keyL p)) : key = .agg #[.string p.who, .string p.mill] :=
  keyK.inj h (keyOf_par hs)
theorem range_row {w : World} {b r base : Nat} {ps todo : List Par} {T : TypeId} {c : Nat} {v : Value} {n : Nat} {xs : List Value} (h : Ranges5 w b r ps todo) (ho : w.ownsRow base T c v n xs) : ∀ g, v.ownBlock = some g → some g ≠ some r := by
  obtain ⟨left, cnt, hr, -⟩ := h.under
  obtain ⟨_, _, _, _, _, _, _, _, _, hit, _⟩ := hr
  rcases ho.2 with ⟨rfl, _⟩ | ⟨g, cap, cur, rfl, _, hb, _⟩
  · intro g hg; simp [Value.ownBlock] at hg
  · intro g' hg e
    have e1 : g = g' := by simpa [Value.ownBlock] using hg
    injection e with e
    subst e1; subst e
    rw [hit] at hb
    cases hb

/-- The loop's word. -/
def PartsRel (w : World) (b r : Nat) (ps : List Par) (v : Value) (wr : World) : Prop :=
  ∃ (acc todo : List Par) (g cap : Nat), v = .slice (some ⟨g, 0, none⟩) acc.length cap ∧ wr.ownsRow w.heap.size 75 3 (.slice (some ⟨g, 0, none⟩) acc.length cap) acc.length (acc.flatMap Par.cs) ∧ Ranges5 wr b r ps todo ∧ (acc ++ todo).Perm ps ∧ Below w.heap.size w wr

set_option maxHeartbeats 4000000 in
set_option maxRecDepth 100000 in
theorem iParts_any {w : World} {b : Nat} {ps : List Par} (h : Holds5 w b ps) (hs : PSized ps) (hl : ps.length ≤ 1048576) :
    Calls Tryz.prog 106 #[.map (some b)] w fun e w' => ∃ out : List Par, out.Perm ps ∧ out.Pairwise KeyLt ∧ ResRow out w e w' := by
  obtain ⟨i0, hi, hz0, hz1, hz2⟩ := info_parts info_Part
  have hlen := h.len Tryz.underlying124
  have hlt := h.lt
  obtain ⟨w1, hmk, ho1, hg1⟩ := run_make_own (P := Tryz.prog) w w.heap.size 32 75 i0 (.agg #[.string ByteArray.empty, .string ByteArray.empty, .int .i64 0]) 3 Tryz.underlying32 hi hz0 hz1 .i64 .i64 ps.length (by rw [hz2]; omega) (by unfold maxLen; omega) (Nat.le_refl _)
  have h1 : Holds5 w1 b ps := h.grown hg1 (by simp)
  obtain ⟨w2, hrg, hr2, hg2, hs2⟩ := h1.range keyK Tryz.underlying124
  have HB2 : Hid (Below w.heap.size w w2) := bgrown (bgrown (Below.refl _ _) (Nat.le_refl _) hg1 (by simp)) hg1.size hg2 (by simp)
  have HR0 : Hid (PartsRel w b w1.heap.size ps (.slice (some ⟨w.heap.size, 0, none⟩) 0 ps.length) w2) :=
    ⟨[], ps, w.heap.size, ps.length, rfl, ho1.kept hg2 (by simp [Value.ownBlock]), hr2, by simp, HB2.out⟩
  have HI := Lib.hid hi
  have HZ0 := Lib.hid hz0
  have HZ1 := Lib.hid hz1
  have HZ2 := Lib.hid hz2
  have HS := Lib.hid hs
  have HA := Lib.hid h.apart
  have hwlt : b < w1.heap.size := Nat.lt_of_lt_of_le hlt hg1.size
  have hw1 : w.heap.size ≤ w1.heap.size := hg1.size
  clear hi hz0 hz1 hz2 h1 ho1 hg1 hr2 hg2 hs2 hs h
  go_enter Tryz.func106, Tryz.ntmps106
  go_wp2
  clear hmk hlen hrg
  go_loopw [3] (fun v wr => PartsRel w b w1.heap.size ps v wr) (fun _ wr => wr.rangeLeft b w1.heap.size)
  case atStart => exact HR0.out
  case round =>
    clear HR0 HB2
    obtain ⟨acc, todo, g, cap, rfl, ho, hrg, hperm, hb⟩ := hrel
    have hlen : acc.length + todo.length = ps.length := by rw [← List.length_append]; exact hperm.length_eq
    rcases hrg.next keyK 0 with ⟨rfl, hrun⟩ | ⟨x, key, v, pl, w3, hx, hxp, hkey, hval, hrun, hrg3, hlt3, hg3, hs3, hen⟩
    · have hp : acc.Perm ps := by simpa using hperm
      have HP := Lib.hid hp
      have HAC := Lib.hid (HA.out.perm hp.symm)
      have HO := Lib.hid ho
      have HB := Lib.hid hb
      clear ho hb hperm hrg hp
      go_wp2_with fail
      refine (iSort_any HO.out HAC.out (by simp at hlen; omega)).mono ?_
      rintro e w4 ⟨rfl, out, hp4, hu4, ho4, hg4⟩
      have HN : Hid (∃ out : List Par, out.Perm ps ∧ out.Pairwise KeyLt ∧ ResRow out w (.returned (.slice (some ⟨g, 0, none⟩) acc.length cap)) w4) :=
        ⟨out, hp4.trans HP.out, hu4, g, cap, by rw [hp4.length_eq], ho4, bgrown HB.out HB.out.size hg4 (fun g' e => by injection e with e; subst e; exact (own_some ho4).2.2.2.1)⟩
      clear hp4 hu4 ho4 hg4
      go_wp2
      go_ret
      exact HN.out
    · obtain rfl := key_at (psized_mem.1 HS.out x hxp) hkey
      obtain rfl := sharesR_inv hval
      have hgb := (own_some ho).2.2.2.1
      have hgr : some g ≠ some w1.heap.size := range_row hrg ho g rfl
      have ho3 := ho.kept hg3 (.inr hgr)
      have HOW := Lib.hid ((ho3.alloc (.cells #[.string x.who, .string x.mill] 131)).alloc (.cells #[.string x.who, .string x.mill, .int .i64 x.shares] 75))
      have hr5 := (hrg3.kept (World.grownBy_alloc w3 (.cells #[.string x.who, .string x.mill] 131) none) (by simp) (by simp)).kept (World.grownBy_alloc _ (.cells #[.string x.who, .string x.mill, .int .i64 x.shares] 75) none) (by simp) (by simp)
      have hm5 : World.rangeLeft ((w3.alloc (.cells #[.string x.who, .string x.mill] 131)).alloc (.cells #[.string x.who, .string x.mill, .int .i64 x.shares] 75)) b w1.heap.size = w3.rangeLeft b w1.heap.size := by
        rw [(hrg3.kept (World.grownBy_alloc w3 (.cells #[.string x.who, .string x.mill] 131) none) (by simp) (by simp)).left_kept (World.grownBy_alloc _ _ none) (by simp) (by simp), hrg3.left_kept (World.grownBy_alloc _ _ none) (by simp) (by simp)]
      have hb5 := below_trans (below_trans (bgrown hb hb.size hg3 (fun g' e => by injection e with e; omega)) (below_new w3 (.cells #[.string x.who, .string x.mill] 131))) (below_new _ (.cells #[.string x.who, .string x.mill, .int .i64 x.shares] 75))
      have HR5 := Lib.hid hr5
      have HM5 := Lib.hid hm5
      have HB5 := Lib.hid hb5
      have HM3 := Lib.hid hlt3
      have HPM : Hid ((acc ++ [x] ++ without keyL (keyL x) todo).Perm ps) := by
        refine List.Perm.trans ?_ hperm
        rw [List.append_assoc]
        exact (List.Perm.append_left acc (hrg.part keyK hx)).symm
      have hle3 : w.heap.size ≤ w3.heap.size := by rw [hs3]; exact hb.size
      have hal : acc.length + 1 ≤ ps.length := by have := List.length_pos_of_mem hx; omega
      clear ho3 hr5 hm5 hb5 ho hrg hperm hb hrg3 hlt3 hg3 hs3 hkey hval hx hxp
      go_wp2_with (at_builtin; refine wpList_append_lies _ rfl _ _ 32 rfl w.heap.size 75 i0 (.agg #[.string ByteArray.empty, .string ByteArray.empty, .int .i64 0]) 3 40 Tryz.underlying32 HI.out HZ0.out HZ1.out HZ2.out rfl (by decide) _ _ _ rfl HOW.out ⟨w3.heap.size + 1, 0, none⟩ 1 1 ([x].flatMap Par.cs) rfl ?c0 ?c1 (flat_one Par.one _) (by decide) ?c3 ?c4 ?c5 _ rfl ?_)
      case c0 => rfl
      case c1 =>
        intro j u hj
        obtain ⟨b', off', e, hc⟩ := lies_new (w3.alloc (.cells #[.string x.who, .string x.mill] 131)) x.cs 75 j u (by simpa using hj)
        injection e with e; injection e with e1 e2; subst e1; subst e2
        rw [add_plain]
        have hsz : (w3.alloc (.cells #[.string x.who, .string x.mill] 131)).heap.size = w3.heap.size + 1 := by simp
        rw [hsz] at hc
        exact hc
      case c3 => unfold maxLen; omega
      case c4 => omega
      case c5 => simp; omega
      intro g6 c6 w6 hown6 hgrow hat hlt6
      have hw1b : b < g := by omega
      have HR : Hid (PartsRel w b w1.heap.size ps (.slice (some ⟨g6, 0, none⟩) (acc.length + 1) c6) w6 ∧ w6.rangeLeft b w1.heap.size < wr.rangeLeft b w1.heap.size) := by
        have hne1 : some b ≠ (Value.slice (some ⟨g, 0, none⟩) acc.length cap).ownBlock := by simp [Value.ownBlock]; omega
        have hne2 : some w1.heap.size ≠ (Value.slice (some ⟨g, 0, none⟩) acc.length cap).ownBlock := fun e => hgr (by simpa [Value.ownBlock] using e.symm)
        refine ⟨⟨acc ++ [x], without keyL (keyL x) todo, g6, c6, by simp, by rw [List.length_append, List.flatMap_append]; exact hown6, HR5.out.kept hgrow hne1 hne2, HPM.out, bgrown HB5.out (by simp; omega) hgrow (fun g' e => by simp [Value.ownBlock] at e; omega)⟩, ?_⟩
        rw [HR5.out.left_kept hgrow hne1 hne2, HM5.out]
        exact HM3.out
      clear hown6 hgrow hat hlt6
      go_wp2
      go_roundw
      case rel => exact HR.out.1
      case measure => exact HR.out.2
end Go.Proofs.YtjlilmcilojkbaaGreat
namespace Go.Proofs.YtjlilmcilojkbaaGreat
open Go.ChangeShapes Go.WideShapes Go.ChangeAt Go.RowKit
open Go.Shelf Go.Lib

/-- One and the same part. -/
def eqP (p q : Par) : Bool := (p.who.toList == q.who.toList) && ((p.mill.toList == q.mill.toList) && (p.shares == q.shares))
theorem eqP_iff {p q : Par} : eqP p q = true ↔ p = q := by
  unfold eqP
  simp only [Bool.and_eq_true, beq_iff_eq]
  constructor
  · rintro ⟨h1, h2, h3⟩
    obtain ⟨a, b, c⟩ := p
    obtain ⟨a', b', c'⟩ := q
    simp only at h1 h2 h3
    rw [bytes_same h1, bytes_same h2, h3]
  · rintro rfl; exact ⟨rfl, rfl, rfl⟩

theorem neqPart : NeqAt Tryz.prog 75 (fun x : Par => .agg x.cs.toArray) eqP := by
  refine ⟨fun x y w => ?_, GuardAt.agg _ (by kernel_rfl)⟩
  have u2 := Tryz.underlying2
  have u9 := Tryz.underlying9
  have a2 := Tryz.isAgg2
  have a9 := Tryz.isAgg9
  have z2 := Tryz.sizeOf2
  have z9 := Tryz.sizeOf9
  have hS : Tryz.prog.underlying 75 = some (.struct (Tryz.prog.fieldsOf 75)) := by kernel_rfl
  have hp : Tryz.prog.stoodInHeld 75 = false := by kernel_rfl
  simp only [Par.cs]
  rw [run_neq_struct, show (10000 : Nat) = 9999 + 1 from rfl, run_equalIn_agg w 9999 75 _ _ hS hp]
  simp only [Program.fieldsOf, Tryz.underlying75]
  go_simp
  unfold eqP
  cases h1 : (x.who.toList == y.who.toList) <;> cases h2 : (x.mill.toList == y.mill.toList) <;> cases h3 : (x.shares == y.shares) <;> simp_all

/-- Are they the same? -/
def sameP (xs ys : List Par) : Bool := Lib.allEq eqP xs ys
theorem sameP_iff : ∀ {xs ys : List Par}, sameP xs ys = true ↔ xs = ys
  | [], [] => by simp [sameP, Lib.allEq]
  | [], _ :: _ => by simp [sameP, Lib.allEq]
  | _ :: _, [] => by simp [sameP, Lib.allEq]
  | x :: xs, y :: ys => by
    have := sameP_iff (xs := xs) (ys := ys)
    unfold sameP at this ⊢
    simp only [Lib.allEq, Bool.and_eq_true, this, eqP_iff, List.cons.injEq]
theorem sameP_len {xs ys : List Par} (h : xs.length ≠ ys.length) : sameP xs ys = false := by
  cases hs : sameP xs ys
  · rfl
  · exact absurd (congrArg List.length (sameP_iff.1 hs)) h

set_option maxHeartbeats 1000000 in
set_option maxRecDepth 100000 in
theorem iEqual_any {w : World} {a : Option Addr} {g off : Nat} {ps qs : List Par} (cap cap' : Nat) (h : Recs Par.cs w a ps) (h' : Recs Par.cs w (some ⟨g, off, none⟩) qs) (hl : ps.length ≤ 9223372036854775807) (hl' : qs.length ≤ 9223372036854775807) :
    Calls Tryz.prog 105 #[.slice a ps.length cap, .slice (some ⟨g, off, none⟩) qs.length cap'] w fun e w' => e = .returned (.bool (sameP ps qs)) ∧ Below w.heap.size w w' := by
  have hcell : ∀ {b o : Nat} {xs : List Par}, Recs Par.cs w (some ⟨b, o, none⟩) xs → ∀ j, j < xs.length → ∀ i v, (xs[j]!).cs[i]? = some v → w.cell? ⟨b, o + j * 3 + i, none⟩ = some v := by
    intro b o xs hx j hj i v hv
    obtain ⟨b', o', e, -, hc⟩ := hx.cell Par.len (by omega) j hj
    injection e with e; injection e with e1 e2; subst e1; subst e2
    exact hc i v (by simpa [hj] using hv)
  cases a with
  | none =>
    have h0 : ps = [] := by
      cases ps with
      | nil => rfl
      | cons x r =>
        obtain ⟨b, o, e, -⟩ := h.cell Par.len (by omega) 0 (by simp)
        cases e
    subst h0
    cases qs with
    | nil =>
      clear h h' hcell
      go_enter Tryz.func105, Tryz.ntmps105
      go_wp2
      go_loop [13] (fun i => i = .int .i64 0) (fun _ => 0)
      case atStart => rfl
      case round =>
        subst hrel
        go_wp2
        go_ret
        exact ⟨rfl, Below.refl _ _⟩
    | cons x r =>
      have HN := Lib.hid (sameP_len (xs := []) (ys := x :: r) (by simp))
      have hne : ¬ ((0 : Int) = ((r.length : Int) + 1)) := by omega
      clear h h' hcell
      go_enter Tryz.func105, Tryz.ntmps105
      go_wp2
      go_ret
      exact ⟨by rw [HN.out]; rfl, Below.refl _ _⟩
  | some a =>
    by_cases h0 : 0 < ps.length
    · obtain ⟨b, o, e, -, -⟩ := h.cell Par.len (by omega) 0 h0
      injection e with e
      subst e
      have hc := AnyQ.slices_Equal equalPart 3 Tryz.isAgg75 Tryz.sizeOf75 Par.cs Par.len eqP neqPart b o ps.length cap g off qs.length cap' ps qs w (Nat.le_refl _) (Nat.le_refl _) hl hl' (hcell h) (hcell h')
      change Calls Tryz.prog 105 _ _ _ at hc
      refine hc.mono ?_
      rintro e w' ⟨rfl, q, rfl⟩
      exact ⟨by rw [List.take_length, List.take_length]; rfl, below_draws (Below.refl _ _) q⟩
    · have e0 : ps = [] := List.eq_nil_of_length_eq_zero (by omega)
      subst e0
      cases qs with
      | nil =>
        clear h h' hcell
        go_enter Tryz.func105, Tryz.ntmps105
        go_wp2
        go_loop [13] (fun i => i = .int .i64 0) (fun _ => 0)
        case atStart => rfl
        case round =>
          subst hrel
          go_wp2
          go_ret
          exact ⟨rfl, Below.refl _ _⟩
      | cons x r =>
        have HN := Lib.hid (sameP_len (xs := []) (ys := x :: r) (by simp))
        have hne : ¬ ((0 : Int) = ((r.length : Int) + 1)) := by omega
        clear h h' hcell
        go_enter Tryz.func105, Tryz.ntmps105
        go_wp2
        go_ret
        exact ⟨by rw [HN.out]; rfl, Below.refl _ _⟩
end Go.Proofs.YtjlilmcilojkbaaGreat
namespace Go.Proofs.YtjlilmcilojkbaaGreat
open Go.ChangeShapes Go.WideShapes Go.ChangeAt Go.RowKit

/-- What 'areOf' answers. -/
def AreOf (ps qs : List Par) (w : World) (e : Ending) (w' : World) : Prop :=
  ∃ r : Bool, e = .returned (.bool r) ∧ (r = true ↔ (∀ p ∈ ps, partB p = true) ∧ ps.Perm qs ∧ ps.Pairwise KeyLt) ∧ Below w.heap.size w w'

set_option maxHeartbeats 4000000 in
set_option maxRecDepth 100000 in
theorem iAreOf_any {w : World} {a : Option Addr} {b : Nat} {ps qs : List Par} (cap : Nat) (hq : Holds5 w b qs) (h : Recs Par.cs w a ps) (hs : PSized ps) (hsq : PSized qs) (hl : ps.length ≤ 1048576) (hlq : qs.length ≤ 1048576) :
    Calls Tryz.prog 101 #[.map (some b), .slice a ps.length cap] w (AreOf ps qs w) := by
  have H := Lib.hid h
  have HS := Lib.hid hs
  have HQ := Lib.hid hq
  have HSQ := Lib.hid hsq
  have hblt : b < w.heap.size := hq.lt
  clear h hs hq hsq
  go_enter Tryz.func101, Tryz.ntmps101
  go_wp2
  go_loopw [9] (fun i wr => ∃ k : Nat, k ≤ ps.length ∧ i = .int .i64 k ∧ Below w.heap.size w wr ∧ ∀ j (hj : j < ps.length), j < k → partB ps[j] = true) (fun i _ => ps.length - (intOf i).toNat)
  case atStart => exact ⟨0, Nat.zero_le _, rfl, Below.refl _ _, fun _ _ h => by omega⟩
  case round =>
    obtain ⟨k, hk, rfl, hb, hu⟩ := hrel
    have HB := Lib.hid hb
    have HU := Lib.hid hu
    clear hb hu
    by_cases hlt : k < ps.length
    · obtain ⟨b1, off, rfl, hlb, c0, c1, c2⟩ := Par.at (H.out.below HB.out) k hlt
      go_wp2_with fail
      refine (pright_any ps[k] _ (HS.out k hlt)).mono ?_
      rintro e w2 ⟨rfl, hb2⟩
      have HB2 := Lib.hid (below_trans (below_trans HB.out (below_new _ _)) hb2)
      clear hb2
      cases hp : partB ps[k]
      · have HN : Hid (AreOf ps qs w (.returned (.bool false)) w2) :=
          ⟨false, rfl, ⟨fun h => (by cases h), fun h => (by have := h.1 _ (List.getElem_mem hlt); rw [hp] at this; cases this)⟩, HB2.out⟩
        go_wp2
        go_ret
        exact HN.out
      · have HN : Hid (∀ j (hj : j < ps.length), j < k + 1 → partB ps[j] = true) := fun j hj hjk => by
          by_cases e : j = k
          · subst e; exact hp
          · exact HU.out j hj (by omega)
        go_wp2
        go_roundw
        case rel => exact ⟨k + 1, by omega, by go_num, HB2.out, HN.out⟩
        case measure => simp [intOf]; omega
    · obtain rfl : k = ps.length := by omega
      go_wp2_with fail
      refine (iParts_any (HQ.out.below HB.out hblt) HSQ.out hlq).mono ?_
      rintro e w2 ⟨out, hp2, hu2, g, c2, rfl, ho2, hb2⟩
      have HB2 := Lib.hid (below_trans HB.out hb2)
      obtain ⟨a3, c3, e3, hr3, -⟩ := ownR_of Par.len ho2
      injection e3 with e3 e4 e5
      subst e3; subst e5
      have hol : out.length ≤ 9223372036854775807 := by rw [hp2.length_eq]; omega
      have HE := Lib.hid (hr3.1)
      clear hr3
      go_wp2_with fail
      refine (iEqual_any _ _ (H.out.below HB2.out) HE.out (by omega) hol).mono ?_
      rintro e w3 ⟨rfl, hb3⟩
      have HN : Hid (AreOf ps qs w (.returned (.bool (sameP ps out))) w3) := by
        refine ⟨_, rfl, ?_, below_trans HB2.out hb3⟩
        rw [sameP_iff]
        constructor
        · rintro rfl
          exact ⟨fun p hp => by obtain ⟨j, hj, rfl⟩ := List.getElem_of_mem hp; exact HU.out j hj hj, hp2, hu2⟩
        · rintro ⟨-, h1, h2⟩
          exact up_one (h1.trans hp2.symm) h2 hu2
      clear hb3 hb2 ho2 hp2 hu2
      go_wp2
      go_ret
      exact HN.out
end Go.Proofs.YtjlilmcilojkbaaGreat
namespace Go.Proofs.YtjlilmcilojkbaaGreat
open Go.ChangeShapes Go.WideShapes Go.ChangeAt Go.RowKit

/-- What the map holds behind the first k. -/
noncomputable def accK (ps : List Par) : Nat → List Par
  | 0 => []
  | k + 1 => patn ps k :: without keyL (keyL (patn ps k)) (accK ps k)
theorem accK_sub (ps : List Par) : ∀ k, k ≤ ps.length → ∀ p ∈ accK ps k, p ∈ ps
  | 0, _, p, hp => by cases hp
  | k + 1, hk, p, hp => by
    rcases List.mem_cons.1 hp with rfl | hp
    · rw [patn_eq (by omega)]; exact List.getElem_mem _
    · exact accK_sub ps k (by omega) p ((without_sub _ _).subset hp)
theorem accK_len (ps : List Par) : ∀ k, (accK ps k).length ≤ k
  | 0 => Nat.le_refl _
  | k + 1 => by
    have h1 := accK_len ps k
    have h2 := (without_sub (kl := keyL) (keyL (patn ps k)) (accK ps k)).length_le
    simp only [accK, List.length_cons]
    omega
theorem accK_sized {ps : List Par} (hs : PSized ps) (k : Nat) (hk : k ≤ ps.length) : PSized (accK ps k) := by
  rw [psized_mem] at hs ⊢
  exact fun p hp => hs p (accK_sub ps k hk p hp)
theorem keys_of {ps : List Par} (hs : PSized ps) : ∀ p ∈ ps, Maps.KeysOf Tryz.prog 131 (keyL p) := fun p hp => ⟨_, keyOf_par (psized_mem.1 hs p hp)⟩
/-- Of a list that rises nothing is lost. -/
theorem accK_up {ps : List Par} (hs : PSized ps) (hu : ps.Pairwise KeyLt) : ∀ k, k ≤ ps.length → accK ps k = (ps.take k).reverse
  | 0, _ => by simp [accK]
  | k + 1, hk => by
    have hk' : k < ps.length := by omega
    have ih := accK_up hs hu k (by omega)
    have ha := up_apart hs hu
    rw [accK, patn_eq hk', without_none keyK (fun p hp => keys_of hs p (accK_sub ps k (by omega) p hp)), ih, List.take_succ_eq_append_getElem hk', List.reverse_append]
    · rfl
    · intro p hp e
      rw [ih, List.mem_reverse] at hp
      obtain ⟨j, hj, rfl⟩ := List.getElem_of_mem hp
      rw [List.length_take] at hj
      rw [List.getElem_take] at e
      exact (List.pairwise_iff_getElem.1 ha) j k (by omega) hk' (by omega) e

/-- What it holds. -/
noncomputable def heldL (ps : List Par) : List Par := if partsB ps = true then ps else []
theorem held_yes {ps : List Par} (h : partsB ps = true) : heldL ps = ps := by rw [heldL, if_pos h]
theorem held_no {ps : List Par} (h : partsB ps = false) : heldL ps = [] := by rw [heldL, if_neg (by rw [h]; decide)]
def HeldRes (ps : List Par) (w : World) (e : Ending) (w' : World) : Prop :=
  ∃ b, e = .returned (.tuple #[.map (some b), .bool (partsB ps)]) ∧ w.heap.size ≤ b ∧ Holds5 w' b (heldL ps) ∧ Below w.heap.size w w'

theorem store_step {W w4 : World} {b : Nat} {qs : List Par} {p : Par} (hm : Holds5 W b qs) (hb : Below W.heap.size W w4) (hs : p.who.size ≤ maxLen ∧ p.mill.size ≤ maxLen) (hn : qs.length < maxLen) :
    ∃ w5, (Instr.mapUpdate 124 (.map (some b)) (.agg #[.string p.who, .string p.mill]) (.int .i64 p.shares)).run Tryz.prog w4 = .ok () w5 ∧ Holds5 w5 b (p :: without keyL (keyL p) qs) ∧ w4.grownBy w5 (some b) := by
  obtain ⟨w5, h1, h2, h3⟩ := MapIs.store keyK Tryz.underlying124 (hm.below hb hm.lt) hn (x := p) (keyOf_par hs) (show sharesR (.int .i64 p.shares) = some (sharesD p, []) from rfl)
  exact ⟨w5, h1, h2, h3.grown⟩

set_option maxHeartbeats 4000000 in
set_option maxRecDepth 100000 in
theorem iHeld_any {w : World} {a : Option Addr} {ps : List Par} (cap : Nat) (h : Recs Par.cs w a ps) (hs : PSized ps) (hl : ps.length ≤ 9223372036854775807) :
    Calls Tryz.prog 93 #[.slice a ps.length cap] w (HeldRes ps w) := by
  have hmm := @run_makeMap Tryz.prog
  have H := Lib.hid h
  have HS := Lib.hid hs
  clear h hs
  by_cases h20 : ps.length ≤ 20
  · have HM0 := Lib.hid (MapIs.made (P := Tryz.prog) (k := 131) (R := sharesR) (kl := keyL) (vd := sharesD) w)
    go_enter Tryz.func93, Tryz.ntmps93
    go_wp2
    clear hmm
    go_loopw [14] (fun i wr => ∃ k : Nat, k ≤ ps.length ∧ i = .int .i64 k ∧ Holds5 wr w.heap.size (accK ps k) ∧ Below w.heap.size w wr) (fun i _ => ps.length - (intOf i).toNat)
    case atStart => exact ⟨0, Nat.zero_le _, rfl, HM0.out, below_new _ _⟩
    case round =>
      clear HM0
      obtain ⟨k, hk, rfl, hm, hb⟩ := hrel
      have HB := Lib.hid hb
      have HM := Lib.hid hm
      clear hb hm
      by_cases hlt : k < ps.length
      · obtain ⟨b1, off, rfl, hlb, c0, c1, c2⟩ := Par.at (H.out.below HB.out) k hlt
        go_wp2_with fail
        obtain ⟨W3, hW3⟩ : ∃ W3, wr.alloc (.cells #[.string ps[k].who, .string ps[k].mill, .int .i64 ps[k].shares] 75) = W3 := ⟨_, rfl⟩
        have hra := RecAt.new Par.cs wr ps[k] 75
        have d0 : W3.cell? ⟨wr.heap.size, 0, none⟩ = some (.string ps[k].who) := by rw [← hW3]; exact hra 0 _ rfl
        have d1 : W3.cell? ⟨wr.heap.size, 1, none⟩ = some (.string ps[k].mill) := by rw [← hW3]; exact hra 1 _ rfl
        have d2 : W3.cell? ⟨wr.heap.size, 2, none⟩ = some (.int .i64 ps[k].shares) := by rw [← hW3]; exact hra 2 _ rfl
        have HB3 : Hid (Below w.heap.size w W3.drew) := by rw [← hW3]; exact below_draws (below_trans HB.out (below_new _ _)) 1
        have HM3 : Hid (Holds5 W3.drew w.heap.size (accK ps k)) := by rw [← hW3]; exact HM.out.below (below_draws (below_new _ _) 1) HM.out.lt
        have HLT : Hid (wr.heap.size < W3.drew.heap.size) := by rw [← hW3]; show wr.heap.size < (wr.alloc _).heap.size; simp
        have HD2 : Hid (W3.drew.cell? ⟨wr.heap.size, 2, none⟩ = some (.int .i64 ps[k].shares)) := d2
        have HLN : Hid ((accK ps k).length < maxLen) := by have := accK_len ps k; unfold Hid maxLen; omega
        have HAK : Hid (ps[k] :: without keyL (keyL ps[k]) (accK ps k) = accK ps (k + 1)) := by unfold Hid; rw [accK, patn_eq hlt]
        rw [hW3]
        clear hW3 hra c0 c1 c2 HM HB
        go_region_with (first | (go_at_call 100; refine (iKey_any ps[k] _).mono ?_; rintro e w4 ⟨rfl, hb4⟩; obtain ⟨w5, hup, hm5, hg5⟩ := store_step HM3.out hb4 (HS.out k hlt) HLN.out; have e2 := (hb4.cell (p := ⟨wr.heap.size, 2, none⟩) HLT.out).trans HD2.out; have HR5 : Hid (Holds5 w5 w.heap.size (accK ps (k + 1)) ∧ Below w.heap.size w w5) := ⟨(by rw [← HAK.out]; exact hm5), bgrown (below_trans HB3.out hb4) (Nat.le_trans HB3.out.size hb4.size) hg5 (fun g e => (by injection e with e; omega))⟩; clear hb4 hm5 hg5))
        all_goals
          go_wp2
          go_roundw
          case rel => exact ⟨k + 1, by omega, by go_num, HR5.out.1, HR5.out.2⟩
          case measure => simp [intOf]; omega
      · obtain rfl : k = ps.length := by omega
        have HAL := Lib.hid (accK_len ps ps.length)
        go_wp2_with fail
        refine (iAreOf_any _ HM.out (H.out.below HB.out) HS.out (accK_sized HS.out _ (Nat.le_refl _)) (by omega) (by have := HAL.out; omega)).mono ?_
        rintro e w2 ⟨r, rfl, hr, hb2⟩
        have HB2 := Lib.hid (below_trans HB.out hb2)
        have HM2 := Lib.hid (HM.out.below hb2 HM.out.lt)
        have HRP : Hid (r = partsB ps) := by
          apply Bool.eq_iff_iff.2
          rw [hr, parts_pair]
          constructor
          · rintro ⟨h1, -, h2⟩; exact ⟨h20, h1, h2⟩
          · rintro ⟨-, h1, h2⟩
            refine ⟨h1, ?_, h2⟩
            rw [accK_up HS.out h2 _ (Nat.le_refl _), List.take_length]
            exact (List.reverse_perm ps).symm
        clear hr hb2 HM HB
        cases r
        · obtain ⟨w3, hcl, hm3, ht3⟩ := HM2.out.clear Tryz.underlying124 0
          have HN : Hid (HeldRes ps w (.returned (.tuple #[.map (some w.heap.size), .bool false])) w3) :=
            ⟨_, by rw [HRP.out], Nat.le_refl _, by rw [held_no HRP.out.symm]; exact hm3, bgrown HB2.out HB2.out.size ht3.grown (fun g e => by injection e with e; omega)⟩
          clear hm3 ht3
          go_wp2
          go_ret2
          exact HN.out
        · have HN : Hid (HeldRes ps w (.returned (.tuple #[.map (some w.heap.size), .bool true])) w2) := by
            refine ⟨_, by rw [HRP.out], Nat.le_refl _, ?_, HB2.out⟩
            rw [held_yes HRP.out.symm]
            refine HM2.out.perm keyK ?_
            rw [accK_up HS.out (parts_pair.1 HRP.out.symm).2.2 _ (Nat.le_refl _), List.take_length]
            exact List.reverse_perm ps
          go_wp2
          go_ret2
          exact HN.out
  · have HN : Hid (HeldRes ps w (.returned (.tuple #[.map (some w.heap.size), .bool false])) (w.alloc (.map #[] 0))) := by
      have hp := parts_long h20
      exact ⟨_, by rw [hp], Nat.le_refl _, by rw [held_no hp]; exact MapIs.made w, below_new _ _⟩
    have hgt : (20 : Int) < (ps.length : Int) := by omega
    go_enter Tryz.func93, Tryz.ntmps93
    go_wp2
    go_ret2
    exact HN.out
end Go.Proofs.YtjlilmcilojkbaaGreat
namespace Go.Proofs.YtjlilmcilojkbaaGreat
open Go.ChangeShapes Go.WideShapes Go.ChangeAt Go.RowKit

set_option maxHeartbeats 1000000 in
set_option maxRecDepth 100000 in
theorem iPartsOk_any {w : World} {a : Option Addr} {ps : List Par} (cap : Nat) (h : Recs Par.cs w a ps) (hl : ps.length ≤ 9223372036854775807) (hs : PSized ps) :
    Calls Tryz.prog 82 #[.slice a ps.length cap] w fun e w' => e = .returned (.bool (partsB ps)) ∧ Below w.heap.size w w' := by
  have H := Lib.hid h
  have HS := Lib.hid hs
  clear h hs
  go_enter Tryz.func82, Tryz.ntmps82
  go_wp2_with fail
  refine (iHeld_any _ H.out HS.out hl).mono ?_
  rintro e w1 ⟨b, rfl, hb, hm, hb1⟩
  have HB1 := Lib.hid hb1
  clear hb1 hm
  go_wp2
  go_ret
  exact ⟨rfl, HB1.out⟩

/-- Their key is that one just where they are that one's of that mill. -/
theorem same_is {p : Par} {who mill : ByteArray} (hp : p.who.size ≤ maxLen ∧ p.mill.size ≤ maxLen) (hw : who.size ≤ maxLen) (hm : mill.size ≤ maxLen) : (keyL p).sameKey (keyAt who mill) = isB p who mill := by
  apply Bool.eq_iff_iff.2
  rw [same_iff keyK ⟨_, keyOf_par hp⟩]
  constructor
  · intro h
    obtain ⟨e1, e2⟩ := keyAt_inj hp.1 hp.2 hw hm h
    simp [isB, e1, e2]
  · intro h
    obtain ⟨e1, e2⟩ := is_parts h
    unfold keyL
    rw [bytes_same e1, bytes_same e2]
/-- So many shares as lie under that key. -/
noncomputable def valP (ps : List Par) (who mill : ByteArray) : Int := ((under keyL (keyAt who mill) ps).map Par.shares).getD 0
theorem valP_of {ps : List Par} (hs : PSized ps) (hf : partsB ps = true) {who mill : ByteArray} (hw : who.size ≤ maxLen) (hm : mill.size ≤ maxLen) : valP ps who mill = sharesOfV ps who mill := by
  unfold valP under
  cases h : ps.find? fun y => (keyL y).sameKey (keyAt who mill) with
  | none =>
    rw [List.find?_eq_none] at h
    rw [sharesOf_none hf]
    · rfl
    · apply pfind_none
      intro p hp
      have := h p hp
      rw [same_is (psized_mem.1 hs p hp) hw hm] at this
      simpa using this
  | some p =>
    have hp := List.mem_of_find?_eq_some h
    have hq := List.find?_some (p := fun y => (keyL y).sameKey (keyAt who mill)) h
    rw [same_is (psized_mem.1 hs p hp) hw hm] at hq
    obtain ⟨k, hk, rfl⟩ := List.getElem_of_mem hp
    rw [sharesOf_hit hf (pfind_at (parts_pair.1 hf).2.2 hk hq) hk]
    rfl
theorem look_val {w : World} {b : Nat} {ps : List Par} (h : Holds5 w b ps) {who mill : ByteArray} (hw : who.size ≤ maxLen) (hm : mill.size ≤ maxLen) :
    (Instr.lookup 124 (.map (some b)) (.agg #[.string who, .string mill]) false).run Tryz.prog w = .ok (.int .i64 (valP ps who mill)) w := by
  obtain ⟨v, pl, hr, hv⟩ := h.look keyK Tryz.underlying124 (Tryz.zeroValue2 w) (show sharesR (.int .i64 0) = some (.lit (.int .i64 0), []) from rfl) (keyOf_pair hw hm)
  have e : ((under keyL (keyAt who mill) ps).map sharesD).getD (.lit (.int .i64 0)) = .lit (.int .i64 (valP ps who mill)) := by
    unfold valP
    cases under keyL (keyAt who mill) ps <;> rfl
  rw [e] at hv
  rw [hr, sharesR_inv hv]

theorem sum_bd {mill : ByteArray} : ∀ {acc : List Par}, (∀ p ∈ acc, partB p = true) → 0 ≤ (acc.map (valM mill)).sum ∧ (acc.map (valM mill)).sum ≤ 1000000000 * acc.length
  | [], _ => by simp
  | p :: r, h => by
    have h1 := sum_bd (mill := mill) (acc := r) (fun q hq => h q (by simp [hq]))
    have h2 := part_bd1 (h p (by simp))
    have h3 : 0 ≤ valM mill p ∧ valM mill p ≤ 1000000000 := by unfold valM; split <;> omega
    simp only [List.map_cons, List.sum_cons, List.length_cons]
    omega
theorem sum_perm {mill : ByteArray} {xs ys : List Par} (h : xs.Perm ys) : (xs.map (valM mill)).sum = (ys.map (valM mill)).sum := by
  induction h with
  | nil => rfl
  | cons x _ ih => simp [ih]
  | swap x y l => simp only [List.map_cons, List.sum_cons]; omega
  | trans _ _ h1 h2 => exact h1.trans h2

/-- The loop's word. -/
def SumRel (w : World) (b r : Nat) (ps : List Par) (mill : ByteArray) (v : Value) (wr : World) : Prop :=
  ∃ (acc todo : List Par), v = .int .i64 (acc.map (valM mill)).sum ∧ Ranges5 wr b r ps todo ∧ (acc ++ todo).Perm ps ∧ Below w.heap.size w wr

set_option maxHeartbeats 4000000 in
set_option maxRecDepth 100000 in
theorem iSharesIn_any {w : World} {a : Option Addr} {ps : List Par} (cap : Nat) (mill : ByteArray) (h : Recs Par.cs w a ps) (hl : ps.length ≤ 9223372036854775807) (hs : PSized ps) :
    Calls Tryz.prog 89 #[.slice a ps.length cap, .string mill] w fun e w' => e = .returned (.int .i64 (sharesInV ps mill)) ∧ Below w.heap.size w w' := by
  have H := Lib.hid h
  have HS := Lib.hid hs
  clear h hs
  go_enter Tryz.func89, Tryz.ntmps89
  go_wp2_with fail
  refine (iHeld_any _ H.out HS.out hl).mono ?_
  rintro e w1 ⟨b, rfl, hb, hm, hb1⟩
  have HB1 := Lib.hid hb1
  have HH := Lib.hid hm
  clear hb1 hm
  cases hf : partsB ps
  · have HN := Lib.hid (show sharesInV ps mill = -1 by simp [sharesInV, hf])
    go_wp2
    go_ret
    exact ⟨by rw [HN.out]; rfl, HB1.out⟩
  · have HN := Lib.hid (sharesIn_eq hf mill)
    have HP := Lib.hid (parts_pair.1 hf)
    have HH2 : Hid (Holds5 w1 b ps) := by have := HH.out; rw [held_yes hf] at this; exact this
    obtain ⟨w2, hrg, hr2, hg2, hs2⟩ := HH2.out.range keyK Tryz.underlying124
    have HR0 : Hid (SumRel w b w1.heap.size ps mill (.int .i64 0) w2) := ⟨[], ps, rfl, hr2, by simp, bgrown HB1.out HB1.out.size hg2 (by simp)⟩
    have hblt : b < w1.heap.size := HH2.out.lt
    have hwlt : w.heap.size ≤ w1.heap.size := HB1.out.size
    clear hr2 hg2 hs2 HH HH2 HB1 hf
    go_wp2
    clear hrg
    go_loopw [7] (fun v wr => SumRel w b w1.heap.size ps mill v wr) (fun _ wr => wr.rangeLeft b w1.heap.size)
    case atStart => exact HR0.out
    case round =>
      clear HR0
      obtain ⟨acc, todo, rfl, hrg, hperm, hb⟩ := hrel
      have HALL : Hid (∀ p ∈ acc, partB p = true) := fun p hp => HP.out.2.1 p (hperm.mem_iff.1 (List.mem_append_left _ hp))
      have hsb := sum_bd (mill := mill) HALL.out
      have hlen : acc.length + todo.length = ps.length := by rw [← List.length_append]; exact hperm.length_eq
      have h20 := HP.out.1
      obtain ⟨t, HT⟩ : ∃ t, Hid ((acc.map (valM mill)).sum = t) := ⟨_, Lib.hid rfl⟩
      rw [HT.out] at hsb ⊢
      rcases hrg.next keyK 0 with ⟨rfl, hrun⟩ | ⟨x, key, v, pl, w3, hx, hxp, hkey, hval, hrun, hrg3, hlt3, hg3, hs3, hen⟩
      · have HE : Hid (t = sharesInV ps mill) := by
          rw [← HT.out, HN.out]
          exact sum_perm (by simpa using hperm)
        have HB := Lib.hid hb
        clear hrg hperm hb
        go_wp2
        go_ret
        exact ⟨by rw [← HE.out]; rfl, HB.out⟩
      · obtain rfl := key_at (psized_mem.1 HS.out x hxp) hkey
        obtain rfl := sharesR_inv hval
        have hx1 := part_bd1 (HP.out.2.1 x hxp)
        have HPM : Hid ((acc ++ [x] ++ without keyL (keyL x) todo).Perm ps) := by
          refine List.Perm.trans ?_ hperm
          rw [List.append_assoc]
          exact (List.Perm.append_left acc (hrg.part keyK hx)).symm
        have HNEXT : Hid (∀ u, ((acc ++ [x]).map (valM mill)).sum = u → SumRel w b w1.heap.size ps mill (.int .i64 u) (w3.alloc (.cells #[.string x.who, .string x.mill] 131)) ∧ (w3.alloc (.cells #[.string x.who, .string x.mill] 131)).rangeLeft b w1.heap.size < wr.rangeLeft b w1.heap.size) := by
          intro u hu
          refine ⟨⟨acc ++ [x], without keyL (keyL x) todo, by rw [hu], hrg3.kept (World.grownBy_alloc w3 _ none) (by simp) (by simp), HPM.out, below_trans (bgrown hb hb.size hg3 (fun g' e => by injection e with e; omega)) (below_new _ _)⟩, ?_⟩
          rw [hrg3.left_kept (World.grownBy_alloc _ _ none) (by simp) (by simp)]
          exact hlt3
        have hal : acc.length + 1 ≤ ps.length := by have := List.length_pos_of_mem hx; omega
        clear hrg hperm hb hrg3 hlt3 hg3 hs3 hkey hval hx hxp
        cases hq : (x.mill.toList == mill.toList)
        · have HR := Lib.hid (HNEXT.out t (by simp [valM, hq, HT.out]))
          go_wp2
          go_roundw
          case rel => exact HR.out.1
          case measure => exact HR.out.2
        · have HR := Lib.hid (HNEXT.out (t + x.shares) (by simp [valM, hq, HT.out]))
          have hwr : IntKind.i64.wrap (t + x.shares) = t + x.shares := IntWalk.i64_in _ (by omega)
          go_wp2
          go_roundw
          case rel => exact HR.out.1
          case measure => exact HR.out.2
end Go.Proofs.YtjlilmcilojkbaaGreat
namespace Go.Proofs.YtjlilmcilojkbaaGreat
open Go.ChangeShapes Go.WideShapes Go.ChangeAt Go.RowKit

/-- The loop's word. -/
def DelRel (w : World) (b r : Nat) (ps : List Par) (who : ByteArray) (wr : World) : Prop :=
  ∃ (done todo cur : List Par), (done ++ todo).Perm ps ∧ Ranges5 wr b r cur todo ∧ cur.Perm (ofWho who done ++ todo) ∧ w.grownBy wr (some b) ∧ r < wr.heap.size
theorem without_twice (l : Lit) (xs : List Par) : without keyL l (without keyL l xs) = without keyL l xs := by
  unfold without
  rw [List.filter_filter]
  apply List.filter_congr
  intro y _
  cases (keyL y).sameKey l <;> rfl

end Go.Proofs.YtjlilmcilojkbaaGreat
namespace Go.Proofs.YtjlilmcilojkbaaGreat
open Go.ChangeShapes Go.WideShapes Go.ChangeAt Go.RowKit

/-- Three ways. -/
def cmpN (a b : Int) : Int := if a < b then -1 else if b < a then 1 else 0
theorem cmpN_lt {a b : Int} (h : a < b) : cmpN a b = -1 := by simp [cmpN, h]
theorem cmpN_gt {a b : Int} (h : b < a) : cmpN a b = 1 := by unfold cmpN; rw [if_neg (by omega), if_pos h]
theorem cmpN_eq {a b : Int} (h : ¬ a < b) (h' : ¬ b < a) : cmpN a b = 0 := by unfold cmpN; rw [if_neg h, if_neg h']

set_option maxHeartbeats 1000000 in
set_option maxRecDepth 100000 in
theorem iCmpL_any (a b : Int) (w : World) :
    Calls Tryz.prog 102 #[.int .i64 a, .int .i64 b] w fun e w' => e = .returned (.int .i64 (cmpN a b)) ∧ w = w' := by
  by_cases h1 : a < b
  · have HN := Lib.hid (cmpN_lt h1)
    go_enter Tryz.func102, Tryz.ntmps102
    go_wp2
    go_ret
    exact ⟨by rw [HN.out]; rfl, rfl⟩
  · by_cases h2 : b < a
    · have HN := Lib.hid (cmpN_gt h2)
      go_enter Tryz.func102, Tryz.ntmps102
      go_wp2
      go_ret
      exact ⟨by rw [HN.out]; rfl, rfl⟩
    · have HN := Lib.hid (cmpN_eq h1 h2)
      go_enter Tryz.func102, Tryz.ntmps102
      go_wp2
      go_ret
      exact ⟨by rw [HN.out]; rfl, rfl⟩

/-- The first that is not 0. -/
def orN (x y : Int) : Int := if x = 0 then y else x
set_option maxHeartbeats 1000000 in
set_option maxRecDepth 100000 in
theorem iOrN_any {w : World} {b : Nat} (x y : Int) (h0 : w.cell? ⟨b, 0, none⟩ = some (.int .i64 x)) (h1 : w.cell? ⟨b, 1, none⟩ = some (.int .i64 y)) :
    Calls Tryz.prog 113 #[.slice (some ⟨b, 0, none⟩) 2 2] w fun e w' => e = .returned (.int .i64 (orN x y)) ∧ w = w' := by
  go_enter Tryz.func113, Tryz.ntmps113
  go_wp2
  go_loop [8] (fun i => ∃ k : Nat, k ≤ 2 ∧ i = .int .i64 k ∧ (1 ≤ k → x = 0) ∧ (2 ≤ k → y = 0)) (fun i => 2 - (intOf i).toNat)
  case atStart => exact ⟨0, Nat.zero_le _, rfl, fun h => by omega, fun h => by omega⟩
  case round =>
    obtain ⟨k, hk, rfl, hx, hy⟩ := hrel
    match k, hk, hx, hy with
    | 0, _, _, _ =>
      by_cases hx : x = 0
      · subst hx
        go_wp2
        go_round
        case rel => exact ⟨1, by omega, by go_num, by simp, by simp⟩
        case measure => simp [intOf]
      · have HN := Lib.hid (show orN x y = x by simp [orN, hx])
        go_wp2
        go_ret
        exact ⟨by rw [HN.out]; rfl, rfl⟩
    | 1, _, hx, _ =>
      obtain rfl : x = 0 := hx (by omega)
      by_cases hy : y = 0
      · subst hy
        go_wp2
        go_round
        case rel => exact ⟨2, by omega, by go_num, by simp, by simp⟩
        case measure => simp [intOf]
      · have HN := Lib.hid (show orN 0 y = y by simp [orN])
        go_wp2
        go_ret
        exact ⟨by rw [HN.out]; rfl, rfl⟩
    | 2, _, hx, hy =>
      obtain rfl : x = 0 := hx (by omega)
      obtain rfl : y = 0 := hy (by omega)
      go_wp2
      go_ret
      exact ⟨rfl, rfl⟩

set_option maxHeartbeats 1000000 in
set_option maxRecDepth 100000 in
theorem iByRipe_any (p q : Wai) (w : World) :
    Calls Tryz.prog 96 #[.agg #[.string p.who, .string p.mill, .int .i64 p.amount, .int .i64 p.ripe], .agg #[.string q.who, .string q.mill, .int .i64 q.amount, .int .i64 q.ripe]] w fun e w' => e = .returned (.int .i64 (cmpN p.ripe q.ripe)) ∧ Below w.heap.size w w' := by
  go_enter Tryz.func96, Tryz.ntmps96
  go_wp2_with (go_at_call 102; refine (iCmpL_any _ _ _).mono ?_; rintro e w' ⟨rfl, rfl⟩)
  go_ret
  exact ⟨rfl, ((Below.refl _ _).alloc (Nat.le_refl _) _).alloc (by simp) _⟩
end Go.Proofs.YtjlilmcilojkbaaGreat
namespace Go.Proofs.YtjlilmcilojkbaaGreat
open Go.ChangeShapes Go.WideShapes Go.ChangeAt Go.RowKit

/-- How many are ripe no later. -/
def lowW : List Wai → Int → Nat
  | [], _ => 0
  | p :: r, x => if p.ripe ≤ x then lowW r x + 1 else 0
theorem lowW_le : ∀ (ps : List Wai) (x : Int), lowW ps x ≤ ps.length
  | [], _ => by simp [lowW]
  | p :: r, x => by
    have := lowW_le r x
    simp only [lowW, List.length_cons]
    split <;> omega
theorem lowW_is : ∀ (ps : List Wai) (x : Int) (k : Nat), k ≤ ps.length → (∀ j (h : j < ps.length), j < k → ps[j].ripe ≤ x) → (∀ h : k < ps.length, x < ps[k].ripe) → lowW ps x = k
  | [], _, k, hk, _, _ => by simp at hk; simp [lowW, hk]
  | p :: r, x, 0, _, _, h2 => by
    have := h2 (by simp)
    simp only [List.getElem_cons_zero] at this
    rw [lowW, if_neg (by omega)]
  | p :: r, x, k + 1, hk, h1, h2 => by
    have h0 := h1 0 (by simp) (by omega)
    simp only [List.getElem_cons_zero] at h0
    have := lowW_is r x k (by simpa using hk) (fun j h hj => by have := h1 (j + 1) (by simpa using h) (by omega); simpa using this) (fun h => by have := h2 (by simpa using h); simpa using this)
    rw [lowW, if_pos h0, this]
/-- With that one, behind all that are ripe no later. -/
def putW (ps : List Wai) (q : Wai) : List Wai := ps.take (lowW ps q.ripe) ++ [q] ++ ps.drop (lowW ps q.ripe)
noncomputable def waitingB (ps : List Wai) (q : Wai) : Bool := waitsB ps && waitsB (putW ps q)
noncomputable def waitingL (ps : List Wai) (q : Wai) : List Wai := if waitsB ps = true then (if waitingB ps q = true then putW ps q else ps) else []
section
variable {ps : List Wai} {q : Wai}
theorem waiting_no (h : waitsB ps = false) : waitingB ps q = false ∧ waitingL ps q = [] := by simp [waitingB, waitingL, h]
theorem waiting_keep (h : waitsB ps = true) (hb : waitingB ps q = false) : waitingL ps q = ps := by simp [waitingL, h, hb]
theorem waiting_not (h : waitsB (putW ps q) = false) : waitingB ps q = false := by simp [waitingB, h]
theorem waiting_yes (hf : waitsB ps = true) (h : waitsB (putW ps q) = true) : waitingB ps q = true ∧ waitingL ps q = putW ps q := by
  have h2 : waitingB ps q = true := by simp [waitingB, hf, h]
  exact ⟨h2, by rw [waitingL, if_pos hf, if_pos h2]⟩
end
theorem wsized_mem {ps : List Wai} : WSized ps ↔ ∀ p ∈ ps, p.who.size ≤ maxLen ∧ p.mill.size ≤ maxLen :=
  ⟨fun h p hp => by obtain ⟨k, hk, rfl⟩ := List.getElem_of_mem hp; exact h k hk, fun h k hk => h _ (List.getElem_mem hk)⟩
theorem wsized_put {ps : List Wai} (hs : WSized ps) {q : Wai} (hq : q.who.size ≤ maxLen ∧ q.mill.size ≤ maxLen) (k : Nat) : WSized (ps.take k ++ [q] ++ ps.drop k) := by
  rw [wsized_mem] at hs ⊢
  intro p hp
  simp only [List.mem_append, List.mem_singleton] at hp
  rcases hp with (hp | rfl) | hp
  · exact hs p (List.mem_of_mem_take hp)
  · exact hq
  · exact hs p (List.mem_of_mem_drop hp)
/-- 'WaitsOk' of a list that the call owns. -/
theorem okW_own {W : World} {base g c L : Nat} {out : List Wai} (ho : W.ownsRow base 77 4 (.slice (some ⟨g, 0, none⟩) L c) L (out.flatMap Wai.cs)) (hl : out.length = L) (hL : L ≤ 1048577) (hs : WSized out) :
    Calls Tryz.prog 57 #[.slice (some ⟨g, 0, none⟩) L c] W fun e w' => e = .returned (.bool (waitsB out)) ∧ Below W.heap.size W w' := by
  subst hl
  obtain ⟨a, cap, e, hr, -⟩ := ownR_of Wai.len ho
  injection e with e1 e2 e3
  subst e1; subst e3
  exact sWaitsOk_any _ hr.1 (by omega) hs
theorem rec_new (q : Wai) (w : World) : ∀ j u, q.cs[j]? = some u → (w.alloc (.cells #[.string q.who, .string q.mill, .int .i64 q.amount, .int .i64 q.ripe] 77)).cell? ((⟨w.heap.size, 0, none⟩ : Addr).add j) = some u := by
  intro j u hj
  rw [add_plain, Nat.zero_add]
  exact RecAt.new Wai.cs w q 77 j u hj
theorem rec_kept {w w' : World} {vs : List Value} {b : Nat} (h : ∀ j u, vs[j]? = some u → w.cell? ((⟨b, 0, none⟩ : Addr).add j) = some u) (hb : Below w.heap.size w w') : ∀ j u, vs[j]? = some u → w'.cell? ((⟨b, 0, none⟩ : Addr).add j) = some u := by
  intro j u hj
  have := h j u hj
  rw [add_plain] at this ⊢
  rw [hb.cell (p := ⟨b, 0 + j, none⟩) (at_lt this)]; exact this

section
variable {w wz : World} {b off k cap : Nat} {ps : List Wai} {q : Wai}
end

end Go.Proofs.YtjlilmcilojkbaaGreat
namespace Go.Proofs.YtjlilmcilojkbaaGreat
open Go.ChangeShapes Go.WideShapes Go.ChangeAt Go.RowKit

/-- Those that are ripe later, and those that are not. -/
def laterOf (season : Int) (ps : List Wai) : List Wai := ps.filter fun p => decide (season < p.ripe)
def ripeOf (season : Int) (ps : List Wai) : List Wai := ps.filter fun p => !decide (season < p.ripe)
noncomputable def laterV (ps : List Wai) (season : Int) : List Wai := if waitsB ps = true then laterOf season ps else []
noncomputable def ripeV (ps : List Wai) (season : Int) : List Wai := if waitsB ps = true then ripeOf season ps else []
theorem later_yes {ps : List Wai} {season : Int} {k : Nat} (h : k < ps.length) (hq : season < ps[k].ripe) : laterOf season (ps.take (k + 1)) = laterOf season (ps.take k) ++ [ps[k]] ∧ ripeOf season (ps.take (k + 1)) = ripeOf season (ps.take k) := by
  unfold laterOf ripeOf
  rw [List.take_succ_eq_append_getElem h, List.filter_append, List.filter_append]
  simp [hq]
theorem later_no {ps : List Wai} {season : Int} {k : Nat} (h : k < ps.length) (hq : ¬ season < ps[k].ripe) : laterOf season (ps.take (k + 1)) = laterOf season (ps.take k) ∧ ripeOf season (ps.take (k + 1)) = ripeOf season (ps.take k) ++ [ps[k]] := by
  unfold laterOf ripeOf
  rw [List.take_succ_eq_append_getElem h, List.filter_append, List.filter_append]
  simp [hq]
theorem later_le (season : Int) (ps : List Wai) : (laterOf season ps).length ≤ ps.length := List.length_filter_le _ _
theorem ripe_le (season : Int) (ps : List Wai) : (ripeOf season ps).length ≤ ps.length := List.length_filter_le _ _

/-- The loop's word. -/
def RipeRel (w : World) (ps : List Wai) (season : Int) (v u i : Value) (wr : World) : Prop :=
  ∃ k g1 c1 g2 c2 : Nat, k ≤ ps.length ∧ i = .int .i64 k ∧ v = .slice (some ⟨g1, 0, none⟩) (laterOf season (ps.take k)).length c1 ∧ u = .slice (some ⟨g2, 0, none⟩) (ripeOf season (ps.take k)).length c2 ∧ g1 ≠ g2 ∧
    wr.ownsRow w.heap.size 77 4 (.slice (some ⟨g1, 0, none⟩) (laterOf season (ps.take k)).length c1) (laterOf season (ps.take k)).length ((laterOf season (ps.take k)).flatMap Wai.cs) ∧
    wr.ownsRow w.heap.size 77 4 (.slice (some ⟨g2, 0, none⟩) (ripeOf season (ps.take k)).length c2) (ripeOf season (ps.take k)).length ((ripeOf season (ps.take k)).flatMap Wai.cs) ∧ Below w.heap.size w wr ∧ (k = 0 ∨ waitsB ps = true)
/-- Two lists of the call's own, apart, each in a block that is known. -/
def ResSS (o1 o2 : List Wai) (w : World) (e : Ending) (w' : World) : Prop :=
  ∃ g1 c1 g2 c2, e = .returned (.tuple #[.slice (some ⟨g1, 0, none⟩) o1.length c1, .slice (some ⟨g2, 0, none⟩) o2.length c2]) ∧ OwnR Wai.cs 4 w' w.heap.size (some ⟨g1, 0, none⟩) o1 ∧ OwnR Wai.cs 4 w' w.heap.size (some ⟨g2, 0, none⟩) o2 ∧ g1 ≠ g2 ∧ o1.length ≤ c1 ∧ o2.length ≤ c2 ∧ w.heap.size ≤ g1 ∧ w.heap.size ≤ g2 ∧ Below w.heap.size w w'
theorem resSS_oo {o1 o2 : List Wai} {w : World} {e : Ending} {w' : World} (h : ResSS o1 o2 w e w') : ResOO Wai.cs 4 o1 o2 w e w' := by
  obtain ⟨g1, c1, g2, c2, h1, h2, h3, hne, -, -, -, -, hb⟩ := h
  refine ⟨_, _, _, _, h1, h2, h3, ?_, hb⟩
  intro b1 b2 h1 h2 _ _
  injection h1 with h1; injection h1 with h1
  injection h2 with h2; injection h2 with h2
  omega
theorem resOO_of {w w' : World} {g1 c1 g2 c2 : Nat} {o1 o2 : List Wai} (h1 : w'.ownsRow w.heap.size 77 4 (.slice (some ⟨g1, 0, none⟩) o1.length c1) o1.length (o1.flatMap Wai.cs)) (h2 : w'.ownsRow w.heap.size 77 4 (.slice (some ⟨g2, 0, none⟩) o2.length c2) o2.length (o2.flatMap Wai.cs)) (hne : g1 ≠ g2) (hb : Below w.heap.size w w') :
    ResSS o1 o2 w (.returned (.tuple #[.slice (some ⟨g1, 0, none⟩) o1.length c1, .slice (some ⟨g2, 0, none⟩) o2.length c2])) w' := by
  have p1 := own_some h1
  have p2 := own_some h2
  obtain ⟨a1, k1, e1, r1, -⟩ := ownR_of Wai.len h1
  obtain ⟨a2, k2, e2, r2, -⟩ := ownR_of Wai.len h2
  injection e1 with e1 _ e3
  injection e2 with e2 _ e4
  subst e1; subst e3; subst e2; subst e4
  exact ⟨_, _, _, _, rfl, r1, r2, hne, p1.2.1, p2.2.1, p1.2.2.2.1, p2.2.2.2.1, hb⟩

end Go.Proofs.YtjlilmcilojkbaaGreat
namespace Go.Proofs.YtjlilmcilojkbaaGreat
open Go.ChangeShapes Go.WideShapes Go.ChangeAt Go.RowKit

theorem partV_bd {n p : Int} (h0 : 0 ≤ n) (h1 : n ≤ 1000000) (hp : inB 0 100 p = true) : 0 ≤ partV n p ∧ partV n p ≤ n := by
  have hb := inB_true hp
  rw [partV, if_pos (by rw [hp, inB_of h0 h1]; rfl)]
  have h2 : 0 ≤ n * p := Int.mul_nonneg h0 hb.1
  have h3 : n * p ≤ n * 100 := Int.mul_le_mul_of_nonneg_left hb.2 h0
  omega
/-- What is cut off of one. -/
def cutW (mill : ByteArray) (pc : Int) (p : Wai) : Int := if (p.mill.toList == mill.toList) = true then partV p.amount pc else 0
/-- One that is fined. -/
def fineW (mill : ByteArray) (pc : Int) (p : Wai) : Wai := ⟨p.who, p.mill, p.amount - cutW mill pc p, p.ripe⟩
def finOf (mill : ByteArray) (pc : Int) (ps : List Wai) : List Wai := (ps.map (fineW mill pc)).filter fun p => decide (0 < p.amount)
def finSum (mill : ByteArray) (pc : Int) (ps : List Wai) : Int := (ps.map (cutW mill pc)).sum
noncomputable def finedB (ps : List Wai) (pc : Int) : Bool := waitsB ps && inB 0 100 pc
noncomputable def finedL (ps : List Wai) (mill : ByteArray) (pc : Int) : List Wai := if finedB ps pc = true then finOf mill pc ps else []
noncomputable def finedN (ps : List Wai) (mill : ByteArray) (pc : Int) : Int := if finedB ps pc = true then finSum mill pc ps else -1
theorem finOf_le (mill : ByteArray) (pc : Int) (ps : List Wai) : (finOf mill pc ps).length ≤ ps.length := by
  unfold finOf
  exact Nat.le_trans (List.length_filter_le _ _) (by simp)
section
variable {ps : List Wai} {mill : ByteArray} {pc : Int} {k : Nat}
theorem fin_yes (h : k < ps.length) (hq : 0 < (fineW mill pc ps[k]).amount) : finOf mill pc (ps.take (k + 1)) = finOf mill pc (ps.take k) ++ [fineW mill pc ps[k]] := by
  unfold finOf
  rw [List.take_succ_eq_append_getElem h, List.map_append, List.filter_append]
  simp [hq]
theorem fin_no (h : k < ps.length) (hq : ¬ 0 < (fineW mill pc ps[k]).amount) : finOf mill pc (ps.take (k + 1)) = finOf mill pc (ps.take k) := by
  unfold finOf
  rw [List.take_succ_eq_append_getElem h, List.map_append, List.filter_append]
  simp [hq]
theorem sum_next (h : k < ps.length) : finSum mill pc (ps.take (k + 1)) = finSum mill pc (ps.take k) + cutW mill pc ps[k] := by
  unfold finSum
  rw [List.take_succ_eq_append_getElem h, List.map_append, List.sum_append]
  simp
theorem cut_bd {p : Wai} (h : waitB p = true) (hp : inB 0 100 pc = true) : 0 ≤ cutW mill pc p ∧ cutW mill pc p ≤ p.amount := by
  have h1 := wait_bd h
  unfold cutW
  split
  · exact partV_bd (by omega) (by omega) hp
  · omega
theorem fin_bd (h : WUp ps ps.length) (hp : inB 0 100 pc = true) : ∀ k, k ≤ ps.length → 0 ≤ finSum mill pc (ps.take k) ∧ finSum mill pc (ps.take k) ≤ 1000000 * k
  | 0, _ => by simp [finSum]
  | k + 1, hk => by
    have h1 := fin_bd h hp k (by omega)
    have h2 := wait_bd (h.1 k (by omega) (by omega))
    have h3 := cut_bd (mill := mill) (h.1 k (by omega) (by omega)) hp
    rw [sum_next (by omega)]
    omega
end

/-- The loop's word. -/
def FinRel (w : World) (ps : List Wai) (mill : ByteArray) (pc : Int) (v t i : Value) (wr : World) : Prop :=
  ∃ k g c : Nat, k ≤ ps.length ∧ i = .int .i64 k ∧ t = .int .i64 (finSum mill pc (ps.take k)) ∧ v = .slice (some ⟨g, 0, none⟩) (finOf mill pc (ps.take k)).length c ∧
    wr.ownsRow w.heap.size 77 4 (.slice (some ⟨g, 0, none⟩) (finOf mill pc (ps.take k)).length c) (finOf mill pc (ps.take k)).length ((finOf mill pc (ps.take k)).flatMap Wai.cs) ∧ Below w.heap.size w wr
/-- The same, in a block that is known. -/
def ResSI (out : List Wai) (n : Int) (w : World) (e : Ending) (w' : World) : Prop :=
  ∃ g cap, e = .returned (.tuple #[.slice (some ⟨g, 0, none⟩) out.length cap, .int .i64 n]) ∧ OwnR Wai.cs 4 w' w.heap.size (some ⟨g, 0, none⟩) out ∧ Below w.heap.size w w' ∧ out.length ≤ cap ∧ w.heap.size ≤ g
theorem resSI_own {out : List Wai} {n : Int} {w : World} {e : Ending} {w' : World} (h : ResSI out n w e w') : ResOI Wai.cs 4 out n w e w' := by
  obtain ⟨g, c, h1, h2, h3, h4, -⟩ := h
  exact ⟨_, c, h1, h2, h3, h4⟩
theorem resOI_of {w w' : World} {g c : Nat} {o : List Wai} {n : Int} (h : w'.ownsRow w.heap.size 77 4 (.slice (some ⟨g, 0, none⟩) o.length c) o.length (o.flatMap Wai.cs)) (hb : Below w.heap.size w w') :
    ResSI o n w (.returned (.tuple #[.slice (some ⟨g, 0, none⟩) o.length c, .int .i64 n])) w' := by
  have hg := (own_some h).2.2.2.1
  obtain ⟨a, k, e, r, -⟩ := ownR_of Wai.len h
  injection e with e1 _ e3
  subst e1; subst e3
  exact ⟨_, _, rfl, r, hb, (own_some h).2.1, hg⟩

theorem putW_le (ps : List Wai) (q : Wai) : (putW ps q).length ≤ ps.length + 1 := by
  have := lowW_le ps q.ripe
  unfold putW; simp; omega
theorem waitingL_le (ps : List Wai) (q : Wai) : (waitingL ps q).length ≤ 20 := by
  unfold waitingL
  split
  · rename_i hf
    split
    · rename_i hb
      simp only [waitingB, Bool.and_eq_true] at hb
      exact (waits_true hb.2).1
    · exact (waits_true hf).1
  · exact Nat.zero_le _
theorem waitsFor_le (ps : List Wai) (who : ByteArray) : (waitsForV ps who).length ≤ 20 := by
  unfold waitsForV
  split
  · rename_i hf
    exact Nat.le_trans (ofWhoW_le who ps) (waits_true hf).1
  · exact Nat.zero_le _
theorem finedL_le (ps : List Wai) (mill : ByteArray) (pc : Int) : (finedL ps mill pc).length ≤ 20 := by
  unfold finedL
  split
  · rename_i hf
    simp only [finedB, Bool.and_eq_true] at hf
    exact Nat.le_trans (finOf_le mill pc ps) (waits_true hf.1).1
  · exact Nat.zero_le _
theorem laterV_le (ps : List Wai) (season : Int) : (laterV ps season).length ≤ 20 := by
  unfold laterV
  split
  · rename_i hf
    exact Nat.le_trans (later_le season ps) (waits_true hf).1
  · exact Nat.zero_le _
theorem ripeV_le (ps : List Wai) (season : Int) : (ripeV ps season).length ≤ 20 := by
  unfold ripeV
  split
  · rename_i hf
    exact Nat.le_trans (ripe_le season ps) (waits_true hf).1
  · exact Nat.zero_le _
theorem sized_Wait {ps : List Wai} (hs : ∀ p ∈ ps, p.fits) : WSized ps :=
  wsized_mem.2 fun p hp => ⟨Nat.le_trans (hs p hp).1 (by unfold maxLen; omega), Nat.le_trans (hs p hp).2 (by unfold maxLen; omega)⟩
end Go.Proofs.YtjlilmcilojkbaaGreat
namespace Go.Proofs.YtjlilmcilojkbaaGreat
open Go.ChangeShapes Go.WideShapes Go.ChangeAt Go.RowKit

theorem wait_split (p : Wai) : waitB p = (nameB p.who && (nameB p.mill && (decide (1 ≤ p.amount) && (inB 0 1000000 p.amount && inB 0 1000 p.ripe)))) := by
  unfold waitB
  congr 1; congr 1
  rw [← Bool.and_assoc]; congr 1
  simp only [inB]
  rw [Bool.eq_iff_iff]; simp; omega

set_option maxHeartbeats 4000000 in
set_option maxRecDepth 100000 in
theorem iWaitRight_any (p : Wai) (w : World) (h1 : p.who.size ≤ maxLen) (h2 : p.mill.size ≤ maxLen) :
    Calls Tryz.prog 94 #[.agg #[.string p.who, .string p.mill, .int .i64 p.amount, .int .i64 p.ripe]] w fun e w' => e = .returned (.bool (waitB p)) ∧ Below w.heap.size w w' := by
  have HS1 := Lib.hid h1
  have HS2 := Lib.hid h2
  clear h1 h2
  have HN := Lib.hid (wait_split p)
  cases q1 : nameB p.who
  · go_enter Tryz.func94, Tryz.ntmps94
    go_wp2_with fail
    refine (iNameOk_any p.who _ HS1.out).mono ?_
    rintro e w' ⟨rfl, rfl⟩
    rw [q1]
    go_wp2
    go_ret
    exact ⟨by rw [HN.out, q1]; rfl, below_new _ _⟩
  cases q2 : nameB p.mill
  · go_enter Tryz.func94, Tryz.ntmps94
    go_wp2_with fail
    refine (iNameOk_any p.who _ HS1.out).mono ?_
    rintro e w' ⟨rfl, rfl⟩
    rw [q1]
    go_wp2_with fail
    refine (iNameOk_any p.mill _ HS2.out).mono ?_
    rintro e w' ⟨rfl, rfl⟩
    rw [q2]
    go_wp2
    go_ret
    exact ⟨by rw [HN.out, q1, q2]; rfl, below_new _ _⟩
  cases q3 : decide (1 ≤ p.amount)
  · go_enter Tryz.func94, Tryz.ntmps94
    go_wp2_with fail
    refine (iNameOk_any p.who _ HS1.out).mono ?_
    rintro e w' ⟨rfl, rfl⟩
    rw [q1]
    go_wp2_with fail
    refine (iNameOk_any p.mill _ HS2.out).mono ?_
    rintro e w' ⟨rfl, rfl⟩
    rw [q2]
    go_wp2
    go_ret
    exact ⟨by rw [HN.out, q1, q2, q3]; rfl, below_new _ _⟩
  cases q4 : inB 0 1000000 p.amount
  · go_enter Tryz.func94, Tryz.ntmps94
    go_wp2_with fail
    refine (iNameOk_any p.who _ HS1.out).mono ?_
    rintro e w' ⟨rfl, rfl⟩
    rw [q1]
    go_wp2_with fail
    refine (iNameOk_any p.mill _ HS2.out).mono ?_
    rintro e w' ⟨rfl, rfl⟩
    rw [q2]
    go_wp2_with fail
    refine (iAmountOk_any _ _).mono ?_
    rintro e w' ⟨rfl, rfl⟩
    rw [q4]
    go_wp2
    go_ret
    exact ⟨by rw [HN.out, q1, q2, q3, q4]; rfl, below_new _ _⟩
  cases q5 : inB 0 1000 p.ripe
  all_goals
    go_enter Tryz.func94, Tryz.ntmps94
    go_wp2_with fail
    refine (iNameOk_any p.who _ HS1.out).mono ?_
    rintro e w' ⟨rfl, rfl⟩
    rw [q1]
    go_wp2_with fail
    refine (iNameOk_any p.mill _ HS2.out).mono ?_
    rintro e w' ⟨rfl, rfl⟩
    rw [q2]
    go_wp2_with fail
    refine (iAmountOk_any _ _).mono ?_
    rintro e w' ⟨rfl, rfl⟩
    rw [q4]
    go_wp2_with fail
    refine (within_any _ _ _).mono ?_
    rintro e w' ⟨rfl, rfl⟩
    rw [q5]
    go_wp2
    go_ret
    exact ⟨by rw [HN.out, q1, q2, q3, q4, q5]; rfl, below_new _ _⟩

/-- From number k on none is ripe sooner than the one ahead of it. -/
def WFrom (ps : List Wai) (k : Nat) : Prop := ∀ j (h : j + 1 < ps.length), k ≤ j → ps[j].ripe ≤ ps[j + 1].ripe
noncomputable instance (ps : List Wai) : Decidable (WFrom ps 0) := Classical.propDecidable _
noncomputable def wsortB (ps : List Wai) : Bool := decide (WFrom ps 0)
theorem wsort_no {ps : List Wai} {k : Nat} (h : k + 1 < ps.length) (hq : ps[k + 1].ripe < ps[k].ripe) : wsortB ps = false := by
  simp only [wsortB, decide_eq_false_iff_not]
  intro hc; have := hc k h (Nat.zero_le _); omega
theorem wsort_yes {ps : List Wai} (h : WFrom ps 0) : wsortB ps = true := by simpa [wsortB] using h

set_option maxHeartbeats 4000000 in
set_option maxRecDepth 100000 in
theorem iSorted_any {w : World} {a : Option Addr} {ps : List Wai} (cap : Nat) (h : Recs Wai.cs w a ps) (hl : ps.length ≤ 1048576) :
    Calls Tryz.prog 95 #[.slice a ps.length cap, .func (Fn.func 96) #[] #[]] w fun e w' => e = .returned (.bool (wsortB ps)) ∧ Below w.heap.size w w' := by
  have H := Lib.hid h
  clear h
  go_enter Tryz.func95, Tryz.ntmps95
  go_wp2
  go_loopw [5] (fun i w' => ∃ (k : Int), -1 ≤ k ∧ k < ps.length ∧ i = .int .i64 k ∧ Below w.heap.size w w' ∧ WFrom ps k.toNat) (fun i _ => (intOf i).toNat)
  case atStart => exact ⟨(ps.length : Int) - 1, by omega, by omega, by go_num, Below.refl _ _, fun j hj hk => by omega⟩
  case round =>
    obtain ⟨k, hk0, hk, rfl, hb, hu⟩ := hrel
    have HB := Lib.hid hb
    have HU := Lib.hid hu
    clear hb hu
    by_cases h0 : 0 < k
    · obtain ⟨m, rfl⟩ : ∃ m : Nat, k = (m : Int) + 1 := ⟨k.toNat - 1, by omega⟩
      have hlt : m + 1 < ps.length := by omega
      obtain ⟨b, off, rfl, hlb, c0, c1, c2, c3⟩ := Wai.at (H.out.below HB.out) (m + 1) hlt
      obtain ⟨b', off', e', _, d0, d1, d2, d3⟩ := Wai.at (H.out.below HB.out) m (by omega)
      obtain ⟨rfl, rfl⟩ : b' = b ∧ off' = off := by injection e' with e'; injection e' with e1 e2; exact ⟨e1.symm, e2.symm⟩
      clear e'
      have e0 := Grow.cell c0
      have e1 := Grow.cell c1
      have e2 := Grow.cell c2
      have e3 := Grow.cell c3
      have f0 := Grow.cell d0
      have f1 := Grow.cell d1
      have f2 := Grow.cell d2
      have f3 := Grow.cell d3
      have ht : ((m : Int) + 1).toNat = m + 1 := by omega
      have hs1 : (m : Int) + 1 - 1 = m := by omega
      obtain ⟨x, HX⟩ : ∃ x, Hid (cmpN ps[m + 1].ripe ps[m].ripe = x) := ⟨_, Lib.hid rfl⟩
      go_wp2
      refine wp_region_grow (by kernel_rfl) (by kernel_rfl) ?_
      repeat (go_big_quiet_step ((go_at_call 96; exact grow_call (int_is HX.out) (iByRipe_any ps[m + 1] ps[m] _))))
      refine wpQuiet_nil ?_
      intro _ hw'
      obtain ⟨gq, rfl⟩ := hw'
      have HB2 := Lib.hid (below_trans HB.out gq.ok)
      by_cases hq : ps[m + 1].ripe < ps[m].ripe
      · have HN := Lib.hid (wsort_no hlt hq)
        have hx : x = -1 := by rw [← HX.out]; exact cmpN_lt hq
        subst hx
        go_wp2
        go_ret
        exact ⟨by rw [HN.out]; rfl, HB2.out⟩
      · have hx : ¬ x < 0 := by rw [← HX.out]; unfold cmpN; rw [if_neg hq]; split <;> omega
        have HN : Hid (WFrom ps m) := by
          intro j hj hmj
          by_cases e : j = m
          · subst e; omega
          · exact HU.out j hj (by omega)
        go_wp2
        go_roundw
        case rel => exact ⟨m, by omega, by omega, by go_num, HB2.out, HN.out⟩
        case measure => simp [intOf]
    · have HN := Lib.hid (wsort_yes (ps := ps) (fun j hj _ => HU.out j hj (by omega)))
      go_wp2
      go_ret
      exact ⟨by rw [HN.out]; rfl, HB.out⟩
end Go.Proofs.YtjlilmcilojkbaaGreat
namespace Go.Proofs.YtjlilmcilojkbaaGreat
open Go.ChangeShapes Go.WideShapes Go.ChangeAt Go.RowKit

theorem waits_all {ps : List Wai} (h20 : ps.length ≤ 20) (h : ∀ j (h : j < ps.length), waitB ps[j] = true) : waitsB ps = wsortB ps := by
  rw [Bool.eq_iff_iff]
  constructor
  · intro hw
    exact wsort_yes fun j hj _ => (waits_true hw).2.2 j hj hj
  · intro hs
    have hs' : WFrom ps 0 := by simpa [wsortB] using hs
    exact waits_yes h20 ⟨fun j hj _ => h j hj, fun j hj _ => hs' j hj (Nat.zero_le _)⟩

set_option maxHeartbeats 4000000 in
set_option maxRecDepth 100000 in
theorem iWaitsOk_any {w : World} {a : Option Addr} {ps : List Wai} (cap : Nat) (h : Recs Wai.cs w a ps) (hl : ps.length ≤ 9223372036854775807) (hs : WSized ps) :
    Calls Tryz.prog 83 #[.slice a ps.length cap] w fun e w' => e = .returned (.bool (waitsB ps)) ∧ Below w.heap.size w w' := by
  have H := Lib.hid h
  have HS := Lib.hid hs
  clear h hs
  by_cases h20 : ps.length ≤ 20
  case neg =>
    have HN := Lib.hid (waits_long h20)
    have hd : decide ((20 : Int) < (ps.length : Int)) = true := by simp; omega
    go_enter Tryz.func83, Tryz.ntmps83
    go_wp2
    go_ret
    exact ⟨by rw [HN.out]; rfl, Below.refl _ _⟩
  have hd : decide ((20 : Int) < (ps.length : Int)) = false := by simp; omega
  go_enter Tryz.func83, Tryz.ntmps83
  go_wp2
  go_loopw [10] (fun i w' => ∃ k : Nat, k ≤ ps.length ∧ i = .int .i64 k ∧ Below w.heap.size w w' ∧ ∀ j (h : j < ps.length), j < k → waitB ps[j] = true) (fun i _ => ps.length - (intOf i).toNat)
  case atStart => exact ⟨0, Nat.zero_le _, rfl, Below.refl _ _, fun _ _ h => by omega⟩
  case round =>
    obtain ⟨k, hk, rfl, hb, hu⟩ := hrel
    have HB := Lib.hid hb
    have HU := Lib.hid hu
    clear hb hu
    by_cases hlt : k < ps.length
    · obtain ⟨b, off, rfl, hlb, c0, c1, c2, c3⟩ := Wai.at (H.out.below HB.out) k hlt
      have hz1 := Lib.hid (HS.out k hlt).1
      have hz2 := Lib.hid (HS.out k hlt).2
      have HBN := Lib.hid (below_trans HB.out (below_new wr (.cells #[.string ps[k].who, .string ps[k].mill, .int .i64 ps[k].amount, .int .i64 ps[k].ripe] 77)))
      go_wp2_with fail
      refine (iWaitRight_any ps[k] _ hz1.out hz2.out).mono ?_
      rintro e w2 ⟨rfl, hb2⟩
      have HB2 := Lib.hid (below_trans HBN.out hb2)
      clear hb2 HBN
      cases hn : waitB ps[k]
      · have HN := Lib.hid (waits_not hlt hn)
        go_wp2
        go_ret
        exact ⟨by rw [HN.out]; rfl, HB2.out⟩
      · have HUN : Hid (∀ j (h : j < ps.length), j < k + 1 → waitB ps[j] = true) := by
          intro j h hj
          by_cases e : j = k
          · subst e; exact hn
          · exact HU.out j h (by omega)
        go_wp2
        go_roundw
        case rel => exact ⟨k + 1, by omega, by go_num, HB2.out, HUN.out⟩
        case measure => simp [intOf]; omega
    · obtain rfl : k = ps.length := by omega
      have HN := Lib.hid (waits_all h20 (fun j hj => HU.out j hj hj))
      go_wp2_with fail
      refine (iSorted_any _ (H.out.below HB.out) (by omega)).mono ?_
      rintro e w2 ⟨rfl, hb2⟩
      have HB2 := Lib.hid (below_trans HB.out hb2)
      clear hb2
      go_wp2
      go_ret
      exact ⟨by rw [HN.out]; rfl, HB2.out⟩

set_option maxHeartbeats 4000000 in
set_option maxRecDepth 100000 in
theorem iAmountIn_any {w : World} {a : Option Addr} {ps : List Wai} (cap : Nat) (h : Recs Wai.cs w a ps) (hl : ps.length ≤ 9223372036854775807) (hs : WSized ps) :
    Calls Tryz.prog 86 #[.slice a ps.length cap] w fun e w' => e = .returned (.int .i64 (amountInV ps)) ∧ Below w.heap.size w w' := by
  have H := Lib.hid h
  have HS := Lib.hid hs
  clear h hs
  go_enter Tryz.func86, Tryz.ntmps86
  go_wp2_with fail
  refine (iWaitsOk_any _ H.out hl HS.out).mono ?_
  rintro e w1 ⟨rfl, hb1⟩
  have HB1 := Lib.hid hb1
  clear hb1
  cases hf : waitsB ps
  · have HN := Lib.hid (show amountInV ps = -1 by simp [amountInV, hf])
    go_wp2
    go_ret
    exact ⟨by rw [HN.out]; rfl, HB1.out⟩
  · have HNN := Lib.hid (show amountInV ps = sumA ps ps.length by simp [amountInV, hf])
    obtain ⟨h20, hm⟩ := waits_true hf
    have HM := Lib.hid hm
    clear hm hf
    go_wp2_with fail
    go_loopw [3, 11] (fun t i w' => ∃ k : Nat, k ≤ ps.length ∧ i = .int .i64 k ∧ t = .int .i64 (sumA ps k) ∧ Below w.heap.size w w') (fun _ i _ => ps.length - (intOf i).toNat)
    case atStart => exact ⟨0, Nat.zero_le _, rfl, rfl, HB1.out⟩
    case round =>
      obtain ⟨k, hk, rfl, rfl, hb⟩ := hrel
      have HB := Lib.hid hb
      clear hb
      have hsb := sumA_bd HM.out k hk
      by_cases hlt : k < ps.length
      · obtain ⟨b, off, rfl, _, c0, c1, c2, c3⟩ := Wai.at (H.out.below HB.out) k hlt
        have HN := Lib.hid (show sumA ps (k + 1) = sumA ps k + ps[k].amount by simp only [sumA, watn_eq hlt])
        have hb3 := wait_bd (HM.out.1 k hlt hlt)
        have HBN := Lib.hid (below_trans HB.out (below_new wr (.cells #[.string ps[k].who, .string ps[k].mill, .int .i64 ps[k].amount, .int .i64 ps[k].ripe] 77)))
        go_wp2
        go_roundw
        case rel => exact ⟨k + 1, by omega, by go_num, by rw [HN.out], HBN.out⟩
        case measure => simp [intOf]; omega
      · obtain rfl : k = ps.length := by omega
        go_wp2
        go_ret
        exact ⟨by rw [HNN.out]; rfl, HB.out⟩

end Go.Proofs.YtjlilmcilojkbaaGreat
namespace Go.Proofs.YtjlilmcilojkbaaGreat
open Go.ChangeShapes Go.WideShapes Go.ChangeAt Go.RowKit

/-- A block holds a ledger whose lists lie. -/
structure BoxL (w : World) (B : Nat) (b : Bok) (s : Spots) : Prop where
  book : BookAt w b s
  c0 : w.cell? ⟨B, 0, none⟩ = some (.slice s.fa b.folk.length s.fc)
  c1 : w.cell? ⟨B, 1, none⟩ = some (.slice s.ma b.mills.length s.mc)
  c2 : w.cell? ⟨B, 2, none⟩ = some (.slice s.pa b.parts.length s.pc)
  c3 : w.cell? ⟨B, 3, none⟩ = some (.slice s.wa b.waits.length s.wc)
theorem BoxL.lt {w : World} {B : Nat} {b : Bok} {s : Spots} (h : BoxL w B b s) : B < w.heap.size := at_lt h.c0
theorem BoxL.below {w w' : World} {B : Nat} {b : Bok} {s : Spots} (h : BoxL w B b s) (hb : Below w.heap.size w w') : BoxL w' B b s := by
  have k : ∀ o v, w.cell? ⟨B, o, none⟩ = some v → w'.cell? ⟨B, o, none⟩ = some v := fun o v hc => (hb.cell (p := ⟨B, o, none⟩) h.lt).trans hc
  exact ⟨h.book.below hb, k _ _ h.c0, k _ _ h.c1, k _ _ h.c2, k _ _ h.c3⟩
theorem BoxL.new {w : World} {b : Bok} {s : Spots} (h : BookAt w b s) (T : TypeId) : BoxL (w.alloc (.cells #[.slice s.fa b.folk.length s.fc, .slice s.ma b.mills.length s.mc, .slice s.pa b.parts.length s.pc, .slice s.wa b.waits.length s.wc] T)) w.heap.size b s := by
  have k : ∀ (o : Nat) v, (#[.slice s.fa b.folk.length s.fc, .slice s.ma b.mills.length s.mc, .slice s.pa b.parts.length s.pc, .slice s.wa b.waits.length s.wc] : Array Value)[o]? = some v → (w.alloc (.cells #[.slice s.fa b.folk.length s.fc, .slice s.ma b.mills.length s.mc, .slice s.pa b.parts.length s.pc, .slice s.wa b.waits.length s.wc] T)).cell? ⟨w.heap.size, o, none⟩ = some v := fun o v hv => by
    simp only [World.cell?, heap_alloc_new]; exact hv
  exact ⟨h.below (below_new _ _), k _ _ rfl, k _ _ rfl, k _ _ rfl, k _ _ rfl⟩

set_option maxHeartbeats 2000000 in
set_option maxRecDepth 100000 in
theorem iLedger_any {w : World} {b : Bok} {s : Spots} :
    Calls Tryz.prog 42 #[.agg #[.int .i64 b.season, .int .i64 b.supply, .int .i64 b.burnt, .int .i64 b.pot, .slice s.fa b.folk.length s.fc, .slice s.ma b.mills.length s.mc, .slice s.pa b.parts.length s.pc, .slice s.wa b.waits.length s.wc]] w fun e w' => e = .returned (.agg #[.slice s.fa b.folk.length s.fc, .slice s.ma b.mills.length s.mc, .slice s.pa b.parts.length s.pc, .slice s.wa b.waits.length s.wc]) ∧ Below w.heap.size w w' := by
  go_enter Tryz.func42, Tryz.ntmps42
  go_wp2
  refine bodyPost_ret (v := .agg #[.slice s.fa b.folk.length s.fc, .slice s.ma b.mills.length s.mc, .slice s.pa b.parts.length s.pc, .slice s.wa b.waits.length s.wc]) (by simp [results, Tryz.results42, go_sem]) rfl ⟨rfl, ?_⟩
  exact ((Below.refl _ _).alloc (Nat.le_refl _) _).alloc (by simp) _

set_option maxHeartbeats 2000000 in
set_option maxRecDepth 100000 in
theorem allOfA_any (x y z : Int) (B : Nat) (w : World)
    (h0 : w.cell? ⟨B, 0, none⟩ = some (.int .i64 x)) (h1 : w.cell? ⟨B, 1, none⟩ = some (.int .i64 y)) (h2 : w.cell? ⟨B, 2, none⟩ = some (.int .i64 z)) :
    Calls Tryz.prog 66 #[.func (Fn.func 47) #[] #[], .slice (some ⟨B, 0, none⟩) 3 3] w fun e w' => e = .returned (.bool (inB 0 1000000 x && (inB 0 1000000 y && inB 0 1000000 z))) ∧ w = w' := by
  cases hx : inB 0 1000000 x
  · go_enter Tryz.func66, Tryz.ntmps66
    go_wp2
    refine wp_loop_rounds 4 ?_
    rw [rounds_succ]
    go_wp2_with (go_at_call 47; refine (iAmountOk_any _ _).mono ?_; rintro e w' ⟨rfl, rfl⟩; rw [hx])
    go_ret
    exact ⟨rfl, rfl⟩
  cases hy : inB 0 1000000 y
  · go_enter Tryz.func66, Tryz.ntmps66
    go_wp2
    refine wp_loop_rounds 4 ?_
    rw [rounds_succ]
    go_wp2_with (go_at_call 47; refine (iAmountOk_any _ _).mono ?_; rintro e w' ⟨rfl, rfl⟩; rw [hx])
    rw [rounds_succ]
    go_wp2_with (go_at_call 47; refine (iAmountOk_any _ _).mono ?_; rintro e w' ⟨rfl, rfl⟩; rw [hy])
    go_ret
    exact ⟨rfl, rfl⟩
  cases hz : inB 0 1000000 z
  · go_enter Tryz.func66, Tryz.ntmps66
    go_wp2
    refine wp_loop_rounds 4 ?_
    rw [rounds_succ]
    go_wp2_with (go_at_call 47; refine (iAmountOk_any _ _).mono ?_; rintro e w' ⟨rfl, rfl⟩; rw [hx])
    rw [rounds_succ]
    go_wp2_with (go_at_call 47; refine (iAmountOk_any _ _).mono ?_; rintro e w' ⟨rfl, rfl⟩; rw [hy])
    rw [rounds_succ]
    go_wp2_with (go_at_call 47; refine (iAmountOk_any _ _).mono ?_; rintro e w' ⟨rfl, rfl⟩; rw [hz])
    go_ret
    exact ⟨rfl, rfl⟩
  · go_enter Tryz.func66, Tryz.ntmps66
    go_wp2
    refine wp_loop_rounds 4 ?_
    rw [rounds_succ]
    go_wp2_with (go_at_call 47; refine (iAmountOk_any _ _).mono ?_; rintro e w' ⟨rfl, rfl⟩; rw [hx])
    rw [rounds_succ]
    go_wp2_with (go_at_call 47; refine (iAmountOk_any _ _).mono ?_; rintro e w' ⟨rfl, rfl⟩; rw [hy])
    rw [rounds_succ]
    go_wp2_with (go_at_call 47; refine (iAmountOk_any _ _).mono ?_; rintro e w' ⟨rfl, rfl⟩; rw [hz])
    rw [rounds_succ]
    go_wp2
    go_ret
    exact ⟨rfl, rfl⟩
theorem allOfA_new (a b c : Int) (w : World) :
    Calls Tryz.prog 66 #[.func (Fn.func 47) #[] #[], .slice (some ⟨w.heap.size, 0, none⟩) 3 3] (w.alloc (.cells #[.int .i64 a, .int .i64 b, .int .i64 c] 2)) fun e w' => e = .returned (.bool (inB 0 1000000 a && (inB 0 1000000 b && inB 0 1000000 c))) ∧ w.alloc (.cells #[.int .i64 a, .int .i64 b, .int .i64 c] 2) = w' :=
  allOfA_any a b c w.heap.size _ (by go_simp) (by go_simp) (by go_simp)

set_option maxHeartbeats 2000000 in
set_option maxRecDepth 100000 in
theorem iRange_any {w : World} {b : Bok} {s : Spots} (h : BookAt w b s) :
    Calls Tryz.prog 43 #[.agg #[.int .i64 b.season, .int .i64 b.supply, .int .i64 b.burnt, .int .i64 b.pot, .slice s.fa b.folk.length s.fc, .slice s.ma b.mills.length s.mc, .slice s.pa b.parts.length s.pc, .slice s.wa b.waits.length s.wc]] w fun e w' => e = .returned (.bool (rangeB b)) ∧ Below w.heap.size w w' := by
  obtain ⟨W, hW⟩ : ∃ W, w.alloc (.cells #[.int .i64 b.season, .int .i64 b.supply, .int .i64 b.burnt, .int .i64 b.pot, .slice s.fa b.folk.length s.fc, .slice s.ma b.mills.length s.mc, .slice s.pa b.parts.length s.pc, .slice s.wa b.waits.length s.wc] 35) = W := ⟨_, rfl⟩
  have X0 := Lib.hid (BoxB.new h 35)
  have B0 := Lib.hid (below_new w (.cells #[.int .i64 b.season, .int .i64 b.supply, .int .i64 b.burnt, .int .i64 b.pot, .slice s.fa b.folk.length s.fc, .slice s.ma b.mills.length s.mc, .slice s.pa b.parts.length s.pc, .slice s.wa b.waits.length s.wc] 35))
  rw [hW] at X0 B0
  clear h
  have HR : Hid (rangeB b = (inB 0 1000 b.season && (inB 0 1000000 b.supply && (inB 0 1000000 b.burnt && inB 0 1000000 b.pot)))) := rfl
  have c0 := X0.out.c0
  have c1 := X0.out.c1
  have c2 := X0.out.c2
  have c3 := X0.out.c3
  go_enter Tryz.func43, Tryz.ntmps43
  go_wp2_with fail
  refine (within_any _ _ _).mono ?_
  rintro e w1 ⟨rfl, rfl⟩
  cases h1 : inB 0 1000 b.season
  · have HN := Lib.hid (show rangeB b = false from HR.out.trans (by rw [h1]; rfl))
    go_wp2
    go_ret
    exact ⟨by rw [HN.out]; rfl, B0.out⟩
  go_wp2_with fail
  refine (allOfA_new _ _ _ _).mono ?_
  rintro e w2 ⟨rfl, hw2⟩
  have B2 := Lib.hid (below_trans B0.out (below_new W (.cells #[.int .i64 b.supply, .int .i64 b.burnt, .int .i64 b.pot] 2)))
  rw [hw2] at B2
  clear hw2
  have HN := Lib.hid (show rangeB b = (inB 0 1000000 b.supply && (inB 0 1000000 b.burnt && inB 0 1000000 b.pot)) from HR.out.trans (by rw [h1]; rfl))
  go_wp2
  go_ret
  exact ⟨by rw [HN.out]; rfl, B2.out⟩

set_option maxHeartbeats 4000000 in
set_option maxRecDepth 100000 in
theorem iRight_any {w : World} {b : Bok} {s : Spots} (h : BookAt w b s) (hl : BLen b) (hz : BSized b) :
    Calls Tryz.prog 67 #[.agg #[.slice s.fa b.folk.length s.fc, .slice s.ma b.mills.length s.mc, .slice s.pa b.parts.length s.pc, .slice s.wa b.waits.length s.wc]] w fun e w' => e = .returned (.bool (rightsB b)) ∧ Below w.heap.size w w' := by
  have X0 := Lib.hid (BoxL.new h 87)
  have B0 := Lib.hid (below_new w (.cells #[.slice s.fa b.folk.length s.fc, .slice s.ma b.mills.length s.mc, .slice s.pa b.parts.length s.pc, .slice s.wa b.waits.length s.wc] 87))
  have HL := Lib.hid hl
  have HZ := Lib.hid hz
  clear h hl hz
  have HR : Hid (rightsB b = (folkB b.folk && (millsB b.mills && (partsB b.parts && waitsB b.waits)))) := rfl
  go_enter Tryz.func67, Tryz.ntmps67
  go_wp2_with fail
  refine (iFolkOk_any _ X0.out.book.folk HL.out.fl HZ.out.fs).mono ?_
  rintro e w1 ⟨rfl, hb1⟩
  have X1 := Lib.hid (X0.out.below hb1)
  have B1 := Lib.hid (below_trans B0.out hb1)
  clear X0 B0 hb1
  cases h1 : folkB b.folk
  · have HN := Lib.hid (show rightsB b = false from HR.out.trans (by rw [h1]; rfl))
    go_wp2
    go_ret
    exact ⟨by rw [HN.out]; rfl, B1.out⟩
  have c1 := X1.out.c1
  go_wp2_with fail
  refine (iMillsOk_any _ X1.out.book.mills (by have := HL.out.ml; omega) HZ.out.ms).mono ?_
  rintro e w2 ⟨rfl, hb2⟩
  have X2 := Lib.hid (X1.out.below hb2)
  have B2 := Lib.hid (below_trans B1.out hb2)
  clear X1 B1 hb2 c1
  cases h2 : millsB b.mills
  · have HN := Lib.hid (show rightsB b = false from HR.out.trans (by rw [h1, h2]; rfl))
    go_wp2
    go_ret
    exact ⟨by rw [HN.out]; rfl, B2.out⟩
  have c2 := X2.out.c2
  go_wp2_with fail
  refine (iPartsOk_any _ X2.out.book.parts (by have := HL.out.pl; omega) HZ.out.ps).mono ?_
  rintro e w3 ⟨rfl, hb3⟩
  have X3 := Lib.hid (X2.out.below hb3)
  have B3 := Lib.hid (below_trans B2.out hb3)
  clear X2 B2 hb3 c2
  cases h3 : partsB b.parts
  · have HN := Lib.hid (show rightsB b = false from HR.out.trans (by rw [h1, h2, h3]; rfl))
    go_wp2
    go_ret
    exact ⟨by rw [HN.out]; rfl, B3.out⟩
  have c3 := X3.out.c3
  go_wp2_with fail
  refine (iWaitsOk_any _ X3.out.book.waits (by have := HL.out.wl; omega) HZ.out.ws).mono ?_
  rintro e w4 ⟨rfl, hb4⟩
  have B4 := Lib.hid (below_trans B3.out hb4)
  have HN := Lib.hid (show rightsB b = waitsB b.waits from HR.out.trans (by rw [h1, h2, h3]; rfl))
  clear X3 B3 hb4 c3
  go_wp2
  go_ret
  exact ⟨by rw [HN.out]; rfl, B4.out⟩
end Go.Proofs.YtjlilmcilojkbaaGreat
