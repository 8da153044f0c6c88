/-
  What the program's own words on parts answer: a part's key, whether it is right, and the list that is made of a map.
-/
import Derived.Test.YtpmibegfpfjdgaaSortP
import Derived.Test.YtpmibegfpfjdgaaBase
import Derived.Test.YtpmibegfpfjdgaaOwnRes
import Derived.Deep.AppendLies
import Derived.Laws.MakeOwn
namespace Go.Proofs.Ytpmibegfpfjdgaa
open Go.ChangeShapes Go.WideShapes Go.ChangeAt Go.RowKit

theorem iKey_any (p : Par) (w : World) :
    Calls Try.prog 56 #[.agg #[.string p.who, .string p.mill, .int .i64 p.shares]] w fun e w' => e = .returned (.agg #[.string p.who, .string p.mill]) ∧ Below w.heap.size w w' := by
  go_enter Try.func56, Try.ntmps56
  go_wp2
  refine bodyPost_ret (v := .agg #[.string p.who, .string p.mill]) (by simp [results, Try.results56, go_sem]) rfl ⟨rfl, ?_⟩
  exact below_trans (below_new _ _) (below_new _ _)

theorem in_one (n : Int) : inB 1 1000000000 n = (decide (1 ≤ n) && inB 0 1000000000 n) := by
  unfold inB
  rw [← Bool.decide_and]
  congr 1
  apply propext
  omega

set_option maxHeartbeats 1000000 in
set_option maxRecDepth 100000 in
theorem pright_any (p : Par) (w : World) (hs : p.who.size ≤ maxLen ∧ p.mill.size ≤ maxLen) :
    Calls Try.prog 61 #[.agg #[.string p.who, .string p.mill, .int .i64 p.shares]] w fun e w' => e = .returned (.bool (partB p)) ∧ Below w.heap.size w w' := by
  have HN : Hid (partB p = (nameB p.who && (nameB p.mill && (decide (1 ≤ p.shares) && inB 0 1000000000 p.shares)))) := by unfold partB; rw [in_one]; rfl
  have HS := Lib.hid hs
  clear hs
  cases h1 : nameB p.who
  · go_enter Try.func61, Try.ntmps61
    go_wp2_with (go_at_call 67; with_reducible refine (iNameOk_any p.who _ HS.out.1).mono ?_; rintro e w' ⟨rfl, rfl⟩; rw [h1])
    go_ret
    exact ⟨by rw [HN.out, h1]; rfl, below_new _ _⟩
  cases h2 : nameB p.mill
  · go_enter Try.func61, Try.ntmps61
    go_wp2_with (go_at_call 67; first | (with_reducible refine (iNameOk_any p.who _ HS.out.1).mono ?_; rintro e w' ⟨rfl, rfl⟩; rw [h1]) | (with_reducible refine (iNameOk_any p.mill _ HS.out.2).mono ?_; rintro e w' ⟨rfl, rfl⟩; rw [h2]))
    go_ret
    exact ⟨by rw [HN.out, h1, h2]; rfl, below_new _ _⟩
  by_cases h3 : 1 ≤ p.shares
  · go_enter Try.func61, Try.ntmps61
    go_wp2_with (first | (go_at_call 67; first | (with_reducible refine (iNameOk_any p.who _ HS.out.1).mono ?_; rintro e w' ⟨rfl, rfl⟩; rw [h1]) | (with_reducible refine (iNameOk_any p.mill _ HS.out.2).mono ?_; rintro e w' ⟨rfl, rfl⟩; rw [h2])) | (go_at_call 54; refine (iSharesOk_any _ _).mono ?_; rintro e w' ⟨rfl, rfl⟩))
    go_ret
    exact ⟨by rw [HN.out, h1, h2, decide_eq_true h3]; simp, below_new _ _⟩
  · go_enter Try.func61, Try.ntmps61
    go_wp2_with (first | (go_at_call 67; first | (with_reducible refine (iNameOk_any p.who _ HS.out.1).mono ?_; rintro e w' ⟨rfl, rfl⟩; rw [h1]) | (with_reducible refine (iNameOk_any p.mill _ HS.out.2).mono ?_; rintro e w' ⟨rfl, rfl⟩; rw [h2])))
    go_ret
    exact ⟨by rw [HN.out, h1, h2, decide_eq_false (by omega)]; simp, below_new _ _⟩

/-- A list of the call's own: its row is known whole. -/
def ResRow (out : List Par) (w : World) (e : Ending) (w' : World) : Prop :=
  ∃ g cap, e = .returned (.slice (some ⟨g, 0, none⟩) out.length cap) ∧ w'.ownsRow w.heap.size 37 3 (.slice (some ⟨g, 0, none⟩) out.length cap) out.length (out.flatMap Par.cs) ∧ Below w.heap.size w w'

theorem key_at {p : Par} {key : Value} (hs : p.who.size ≤ maxLen ∧ p.mill.size ≤ maxLen) (h : keyOf Try.prog 55 key = some (keyL p)) : key = .agg #[.string p.who, .string p.mill] :=
  keyK.inj h (keyOf_par hs)
theorem range_row {w : World} {b r base : Nat} {ps todo : List Par} {T : TypeId} {c : Nat} {v : Value} {n : Nat} {xs : List Value} (h : Ranges5 w b r ps todo) (ho : w.ownsRow base T c v n xs) : ∀ g, v.ownBlock = some g → some g ≠ some r := by
  obtain ⟨left, cnt, hr, -⟩ := h.under
  obtain ⟨_, _, _, _, _, _, _, _, _, hit, _⟩ := hr
  rcases ho.2 with ⟨rfl, _⟩ | ⟨g, cap, cur, rfl, _, hb, _⟩
  · intro g hg; simp [Value.ownBlock] at hg
  · intro g' hg e
    have e1 : g = g' := by simpa [Value.ownBlock] using hg
    injection e with e
    subst e1; subst e
    rw [hit] at hb
    cases hb

/-- The loop's word. -/
def PartsRel (w : World) (b r : Nat) (ps : List Par) (v : Value) (wr : World) : Prop :=
  ∃ (acc todo : List Par) (g cap : Nat), v = .slice (some ⟨g, 0, none⟩) acc.length cap ∧ wr.ownsRow w.heap.size 37 3 (.slice (some ⟨g, 0, none⟩) acc.length cap) acc.length (acc.flatMap Par.cs) ∧ Ranges5 wr b r ps todo ∧ (acc ++ todo).Perm ps ∧ Below w.heap.size w wr

set_option maxHeartbeats 4000000 in
set_option maxRecDepth 100000 in
theorem iParts_any {w : World} {b : Nat} {ps : List Par} (h : Holds5 w b ps) (hs : PSized ps) (hl : ps.length ≤ 1048576) :
    Calls Try.prog 43 #[.map (some b)] w fun e w' => ∃ out : List Par, out.Perm ps ∧ out.Pairwise KeyLt ∧ ResRow out w e w' := by
  obtain ⟨i0, hi, hz0, hz1, hz2⟩ := info_parts info_Part
  have hlen := h.len Try.underlying58
  have hlt := h.lt
  obtain ⟨w1, hmk, ho1, hg1⟩ := run_make_own (P := Try.prog) w w.heap.size 24 37 i0 (.agg #[.string ByteArray.empty, .string ByteArray.empty, .int .i64 0]) 3 Try.underlying24 hi hz0 hz1 .i64 .i64 ps.length (by rw [hz2]; omega) (by unfold maxLen; omega) (Nat.le_refl _)
  have h1 : Holds5 w1 b ps := h.grown hg1 (by simp)
  obtain ⟨w2, hrg, hr2, hg2, hs2⟩ := h1.range keyK Try.underlying58
  have HB2 : Hid (Below w.heap.size w w2) := bgrown (bgrown (Below.refl _ _) (Nat.le_refl _) hg1 (by simp)) hg1.size hg2 (by simp)
  have HR0 : Hid (PartsRel w b w1.heap.size ps (.slice (some ⟨w.heap.size, 0, none⟩) 0 ps.length) w2) :=
    ⟨[], ps, w.heap.size, ps.length, rfl, ho1.kept hg2 (by simp [Value.ownBlock]), hr2, by simp, HB2.out⟩
  have HI := Lib.hid hi
  have HZ0 := Lib.hid hz0
  have HZ1 := Lib.hid hz1
  have HZ2 := Lib.hid hz2
  have HS := Lib.hid hs
  have HA := Lib.hid h.apart
  have hwlt : b < w1.heap.size := Nat.lt_of_lt_of_le hlt hg1.size
  have hw1 : w.heap.size ≤ w1.heap.size := hg1.size
  clear hi hz0 hz1 hz2 h1 ho1 hg1 hr2 hg2 hs2 hs h
  go_enter Try.func43, Try.ntmps43
  go_wp2
  clear hmk hlen hrg
  go_loopw [3] (fun v wr => PartsRel w b w1.heap.size ps v wr) (fun _ wr => wr.rangeLeft b w1.heap.size)
  case atStart => exact HR0.out
  case round =>
    clear HR0 HB2
    obtain ⟨acc, todo, g, cap, rfl, ho, hrg, hperm, hb⟩ := hrel
    have hlen : acc.length + todo.length = ps.length := by rw [← List.length_append]; exact hperm.length_eq
    rcases hrg.next keyK 0 with ⟨rfl, hrun⟩ | ⟨x, key, v, pl, w3, hx, hxp, hkey, hval, hrun, hrg3, hlt3, hg3, hs3, hen⟩
    · have hp : acc.Perm ps := by simpa using hperm
      have HP := Lib.hid hp
      have HAC := Lib.hid (HA.out.perm hp.symm)
      have HO := Lib.hid ho
      have HB := Lib.hid hb
      clear ho hb hperm hrg hp
      go_wp2_with fail
      refine (iSort_any HO.out HAC.out (by simp at hlen; omega)).mono ?_
      rintro e w4 ⟨rfl, out, hp4, hu4, ho4, hg4⟩
      have HN : Hid (∃ out : List Par, out.Perm ps ∧ out.Pairwise KeyLt ∧ ResRow out w (.returned (.slice (some ⟨g, 0, none⟩) acc.length cap)) w4) :=
        ⟨out, hp4.trans HP.out, hu4, g, cap, by rw [hp4.length_eq], ho4, bgrown HB.out HB.out.size hg4 (fun g' e => by injection e with e; subst e; exact (own_some ho4).2.2.2.1)⟩
      clear hp4 hu4 ho4 hg4
      go_wp2
      go_ret
      exact HN.out
    · obtain rfl := key_at (psized_mem.1 HS.out x hxp) hkey
      obtain rfl := sharesR_inv hval
      have hgb := (own_some ho).2.2.2.1
      have hgr : some g ≠ some w1.heap.size := range_row hrg ho g rfl
      have ho3 := ho.kept hg3 (.inr hgr)
      have HOW := Lib.hid ((ho3.alloc (.cells #[.string x.who, .string x.mill] 55)).alloc (.cells #[.string x.who, .string x.mill, .int .i64 x.shares] 37))
      have hr5 := (hrg3.kept (World.grownBy_alloc w3 (.cells #[.string x.who, .string x.mill] 55) none) (by simp) (by simp)).kept (World.grownBy_alloc _ (.cells #[.string x.who, .string x.mill, .int .i64 x.shares] 37) none) (by simp) (by simp)
      have hm5 : World.rangeLeft ((w3.alloc (.cells #[.string x.who, .string x.mill] 55)).alloc (.cells #[.string x.who, .string x.mill, .int .i64 x.shares] 37)) b w1.heap.size = w3.rangeLeft b w1.heap.size := by
        rw [(hrg3.kept (World.grownBy_alloc w3 (.cells #[.string x.who, .string x.mill] 55) none) (by simp) (by simp)).left_kept (World.grownBy_alloc _ _ none) (by simp) (by simp), hrg3.left_kept (World.grownBy_alloc _ _ none) (by simp) (by simp)]
      have hb5 := below_trans (below_trans (bgrown hb hb.size hg3 (fun g' e => by injection e with e; omega)) (below_new w3 (.cells #[.string x.who, .string x.mill] 55))) (below_new _ (.cells #[.string x.who, .string x.mill, .int .i64 x.shares] 37))
      have HR5 := Lib.hid hr5
      have HM5 := Lib.hid hm5
      have HB5 := Lib.hid hb5
      have HM3 := Lib.hid hlt3
      have HPM : Hid ((acc ++ [x] ++ without keyL (keyL x) todo).Perm ps) := by
        refine List.Perm.trans ?_ hperm
        rw [List.append_assoc]
        exact (List.Perm.append_left acc (hrg.part keyK hx)).symm
      have hle3 : w.heap.size ≤ w3.heap.size := by rw [hs3]; exact hb.size
      have hal : acc.length + 1 ≤ ps.length := by have := List.length_pos_of_mem hx; omega
      clear ho3 hr5 hm5 hb5 ho hrg hperm hb hrg3 hlt3 hg3 hs3 hkey hval hx hxp
      go_wp2_with (at_builtin; refine wpList_append_lies _ rfl _ _ 24 rfl w.heap.size 37 i0 (.agg #[.string ByteArray.empty, .string ByteArray.empty, .int .i64 0]) 3 40 Try.underlying24 HI.out HZ0.out HZ1.out HZ2.out rfl (by decide) _ _ _ rfl HOW.out ⟨w3.heap.size + 1, 0, none⟩ 1 1 ([x].flatMap Par.cs) rfl ?c0 ?c1 (flat_one Par.one _) (by decide) ?c3 ?c4 ?c5 _ rfl ?_)
      case c0 => rfl
      case c1 =>
        intro j u hj
        obtain ⟨b', off', e, hc⟩ := lies_new (w3.alloc (.cells #[.string x.who, .string x.mill] 55)) x.cs 37 j u (by simpa using hj)
        injection e with e; injection e with e1 e2; subst e1; subst e2
        rw [add_plain]
        have hsz : (w3.alloc (.cells #[.string x.who, .string x.mill] 55)).heap.size = w3.heap.size + 1 := by simp
        rw [hsz] at hc
        exact hc
      case c3 => unfold maxLen; omega
      case c4 => omega
      case c5 => simp; omega
      intro g6 c6 w6 hown6 hgrow hat hlt6
      have hw1b : b < g := by omega
      have HR : Hid (PartsRel w b w1.heap.size ps (.slice (some ⟨g6, 0, none⟩) (acc.length + 1) c6) w6 ∧ w6.rangeLeft b w1.heap.size < wr.rangeLeft b w1.heap.size) := by
        have hne1 : some b ≠ (Value.slice (some ⟨g, 0, none⟩) acc.length cap).ownBlock := by simp [Value.ownBlock]; omega
        have hne2 : some w1.heap.size ≠ (Value.slice (some ⟨g, 0, none⟩) acc.length cap).ownBlock := fun e => hgr (by simpa [Value.ownBlock] using e.symm)
        refine ⟨⟨acc ++ [x], without keyL (keyL x) todo, g6, c6, by simp, by rw [List.length_append, List.flatMap_append]; exact hown6, HR5.out.kept hgrow hne1 hne2, HPM.out, bgrown HB5.out (by simp; omega) hgrow (fun g' e => by simp [Value.ownBlock] at e; omega)⟩, ?_⟩
        rw [HR5.out.left_kept hgrow hne1 hne2, HM5.out]
        exact HM3.out
      clear hown6 hgrow hat hlt6
      go_wp2
      go_roundw
      case rel => exact HR.out.1
      case measure => exact HR.out.2
end Go.Proofs.Ytpmibegfpfjdgaa
