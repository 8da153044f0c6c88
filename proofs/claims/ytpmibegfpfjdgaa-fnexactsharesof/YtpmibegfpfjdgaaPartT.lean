/-
  What chapter 5's Took answers, the model's: a list of the call's own.
-/
import Derived.Test.YtpmibegfpfjdgaaPartW
import Derived.Test.YtpmibegfpfjdgaaOwnRes
namespace Go.Proofs.Ytpmibegfpfjdgaa
open Go.ChangeShapes Go.WideShapes Go.ChangeAt Go.RowKit

/-- Shares of number k are v. -/
def setSh : List Par → Nat → Int → List Par
  | [], _, _ => []
  | p :: r, 0, v => ⟨p.who, p.mill, v⟩ :: r
  | p :: r, k + 1, v => p :: setSh r k v
theorem setSh_length : ∀ (ps : List Par) (k : Nat) (v : Int), (setSh ps k v).length = ps.length
  | [], _, _ => rfl
  | p :: r, 0, v => rfl
  | p :: r, k + 1, v => by simp [setSh, setSh_length r k v]
theorem setSh_cells : ∀ (ps : List Par) (k : Nat) (v : Int), k < ps.length → (setSh ps k v).flatMap Par.cs = (ps.flatMap Par.cs).set (k * 3 + 2) (.int .i64 v)
  | p :: r, 0, v, _ => by simp [setSh, Par.cs]
  | p :: r, k + 1, v, h => by
    rw [setSh, List.flatMap_cons, List.flatMap_cons, setSh_cells r k v (by simpa using h), show (k + 1) * 3 + 2 = k * 3 + 2 + 3 by omega]
    simp [Par.cs]
/-- Number k has n less; none where 0 are left. -/
def takeAt (ps : List Par) (k : Nat) (n : Int) : List Par := if (patn ps k).shares - n = 0 then ps.take k ++ ps.drop (k + 1) else setSh ps k ((patn ps k).shares - n)

/-- Is it took? -/
noncomputable def tookB (ps : List Par) (who mill : ByteArray) (n : Int) : Bool := partsB ps && (decide (0 ≤ pfindV ps who mill) && inB 1 (patn ps (pfindV ps who mill).toNat).shares n)
/-- What they are then. -/
noncomputable def tookL (ps : List Par) (who mill : ByteArray) (n : Int) : List Par :=
  if partsB ps = true then (if tookB ps who mill n = true then takeAt ps (pfindV ps who mill).toNat n else ps) else []
section
variable {ps : List Par} {who mill : ByteArray} {n : Int}
theorem took_no (h : partsB ps = false) : tookB ps who mill n = false ∧ tookL ps who mill n = [] := by simp [tookB, tookL, h]
theorem took_keep (h : partsB ps = true) (hb : tookB ps who mill n = false) : tookL ps who mill n = ps := by simp [tookL, h, hb]
theorem took_out (h : ¬ 0 ≤ pfindV ps who mill) : tookB ps who mill n = false := by simp [tookB, h]
theorem took_n {k : Nat} (e : pfindV ps who mill = k) (hk : k < ps.length) (h : inB 1 ps[k].shares n = false) : tookB ps who mill n = false := by
  have : patn ps (pfindV ps who mill).toNat = ps[k] := by rw [e]; exact patn_eq hk
  simp [tookB, this, h]
theorem took_yes {k : Nat} (hf : partsB ps = true) (e : pfindV ps who mill = k) (hk : k < ps.length) (h : inB 1 ps[k].shares n = true) : tookB ps who mill n = true ∧ tookL ps who mill n = takeAt ps k n := by
  have h1 : patn ps (pfindV ps who mill).toNat = ps[k] := by rw [e]; exact patn_eq hk
  have h2 : tookB ps who mill n = true := by unfold tookB; rw [h1, hf, h, e]; simp
  refine ⟨h2, ?_⟩
  rw [tookL, if_pos hf, if_pos h2, e]; rfl
end

/-- A copy of the first k. -/
theorem copy_take {w : World} {b off k : Nat} {ps : List Par} (cap : Nat) (h : Recs Par.cs w (some ⟨b, off, none⟩) ps) (hk : k ≤ ps.length) (hl : ps.length ≤ 1048576) : ∀ W, Below w.heap.size w W →
    Calls Try.prog 44 #[.slice (some ⟨b, off, none⟩) k cap] W fun e w' => ∃ g c, e = .returned (.slice (some ⟨g, 0, none⟩) k c) ∧ w'.ownsRow W.heap.size 37 3 (.slice (some ⟨g, 0, none⟩) k c) k ((ps.take k).flatMap Par.cs) ∧ Below W.heap.size W w' := by
  intro W hb
  have hlen : (ps.take k).length = k := by simp; omega
  have := l5Copy_any cap ((h.below hb).takeR Par.len k) (by omega)
  rw [hlen] at this
  refine this.mono ?_
  rintro e w' ⟨g, c, he, -, ho, hb'⟩
  rw [hlen] at he ho
  exact ⟨g, c, he, ho, hb'⟩
/-- Where those behind number k lie. -/
theorem drop_at {w : World} {b off k : Nat} {ps : List Par} (cap : Nat) (h : Recs Par.cs w (some ⟨b, off, none⟩) ps) (hk : k < ps.length) (hc : ps.length ≤ cap) :
    ∃ A, (if cap = k + 1 then some (⟨b, off, none⟩ : Addr) else some ⟨b, off + (k + 1) * 3, none⟩) = some A ∧ ∀ W, Below w.heap.size w W → ∀ j u, ((ps.drop (k + 1)).flatMap Par.cs)[j]? = some u → W.cell? (A.add j) = some u := by
  by_cases e : cap = k + 1
  · refine ⟨_, if_pos e, fun W _ j u hj => ?_⟩
    have : ps.drop (k + 1) = [] := List.drop_eq_nil_of_le (by omega)
    rw [this] at hj; simp at hj
  · refine ⟨_, if_neg e, fun W hb j u hj => ?_⟩
    rw [flat_drop Par.len, List.getElem?_drop] at hj
    obtain ⟨b', off', e', hc'⟩ := (h.below hb) _ u hj
    injection e' with e'; injection e' with e1 e2; subst e1; subst e2
    rw [add_plain, Nat.add_assoc]; exact hc'
/-- A list of the call's own comes back, and a word. -/
def ResB (out : List Par) (ok : Bool) (w : World) (e : Ending) (w' : World) : Prop :=
  ∃ b cap, e = .returned (.tuple #[.slice (some ⟨b, 0, none⟩) out.length cap, .bool ok]) ∧ w'.ownsRow w.heap.size 37 3 (.slice (some ⟨b, 0, none⟩) out.length cap) out.length (out.flatMap Par.cs) ∧ Below w.heap.size w w'
theorem resB_own {out : List Par} {ok : Bool} {w : World} {e : Ending} {w' : World} (h : ResB out ok w e w') : ResOB Par.cs 3 out ok w e w' := by
  obtain ⟨b, cap, he, ho, hb⟩ := h
  obtain ⟨a, c', e1, hr, -⟩ := ownR_of Par.len ho
  injection e1 with e1 e2 e3
  subst e1; subst e3
  exact ⟨_, _, he, hr, hb, (own_some ho).2.1⟩

set_option maxHeartbeats 4000000 in
set_option maxRecDepth 100000 in
theorem sTook_any {w : World} {b off : Nat} {ps : List Par} (cap : Nat) (who mill : ByteArray) (n : Int) (h : Recs Par.cs w (some ⟨b, off, none⟩) ps) (hc : ps.length ≤ cap) (hl : ps.length ≤ 1048576) (hs : PSized ps) :
    Calls Try.prog 26 #[.slice (some ⟨b, off, none⟩) ps.length cap, .string who, .string mill, .int .i64 n] w (ResB (tookL ps who mill n) (tookB ps who mill n) w) := by
  have H := Lib.hid h
  have HS := Lib.hid hs
  clear h hs
  obtain ⟨i0, hi, hz0, hz1, hz2⟩ := info_parts info_Part
  have HI := Lib.hid hi
  have HZ0 := Lib.hid hz0
  have HZ1 := Lib.hid hz1
  have HZ2 := Lib.hid hz2
  clear hi hz0 hz1 hz2
  go_enter Try.func26, Try.ntmps26
  go_wp2_with fail
  refine (sPartsOk_any _ H.out (by omega) HS.out).mono ?_
  rintro e w1 ⟨rfl, hb1⟩
  have HB1 := Lib.hid hb1
  have hle1 : w.heap.size ≤ w1.heap.size := hb1.size
  clear hb1
  cases hf : partsB ps
  · have HN := Lib.hid (show ResB (tookL ps who mill n) (tookB ps who mill n) w (.returned (.tuple #[.slice (some ⟨w1.heap.size, 0, none⟩) 0 0, .bool false])) (w1.alloc (.cells #[] 37)) from by
      rw [(took_no hf).1, (took_no hf).2]
      exact ⟨w1.heap.size, 0, rfl, ⟨rfl, .inr ⟨w1.heap.size, 0, #[], rfl, hle1, heap_alloc_new _ _, Nat.le_refl _, Nat.zero_le _, rfl, rfl⟩⟩, below_trans HB1.out (below_new _ _)⟩)
    go_wp2
    go_ret2
    exact HN.out
  go_wp2_with fail
  refine (l5Copy_any _ (H.out.below HB1.out) hl).mono ?_
  rintro e w2 ⟨g, c2, rfl, hr2, ho2, hb2⟩
  have HG2 := Lib.hid hr2
  have HB2 := Lib.hid (below_trans HB1.out hb2)
  have HO2 := Lib.hid ho2
  have HR2 := Lib.hid (H.out.below HB2.out)
  obtain ⟨-, hc2, -, hg1, hg2⟩ := own_some ho2
  clear hb2 ho2 hr2
  have HKK : Hid (tookB ps who mill n = false → ResB (tookL ps who mill n) (tookB ps who mill n) w (.returned (.tuple #[.slice (some ⟨g, 0, none⟩) ps.length c2, .bool false])) w2) := by
    intro hb
    rw [took_keep hf hb, hb]
    exact ⟨g, c2, rfl, own_down HO2.out hle1, HB2.out⟩
  go_wp2_with fail
  refine (l5Find_any _ _ _ HR2.out (by omega)).mono ?_
  rintro e w' ⟨rfl, rfl⟩
  by_cases hp : 0 ≤ pfindV ps who mill
  case neg =>
    have HN := Lib.hid (HKK.out (took_out hp))
    have hlo := pfind_lo ps who mill
    have hpe : pfindV ps who mill = -1 := by omega
    rw [hpe]
    clear hp hpe hlo
    go_wp2
    go_ret2
    exact HN.out
  obtain ⟨k, e, hk, -⟩ := pfind_hit hp
  have HE := Lib.hid e
  rw [e]
  clear hp e
  obtain ⟨b', off', e', hlb, c0, c1, c3⟩ := Par.at HR2.out k hk
  injection e' with e'; injection e' with e1 e2; subst e1; subst e2
  cases hn : inB 1 ps[k].shares n
  · have HN := Lib.hid (HKK.out (took_n HE.out hk hn))
    go_wp2_with (go_at_call 45; refine (l1In_any _ _ _ _).mono ?_; rintro e w' ⟨rfl, rfl⟩; rw [hn])
    go_ret2
    exact HN.out
  have hnb := inB_true hn
  have hpb := part_bd1 ((parts_true hf).2.1 k hk hk)
  have HTY := Lib.hid (took_yes hf HE.out hk hn)
  obtain ⟨hnb1, hnb2⟩ := hnb
  obtain ⟨hpb1, hpb2⟩ := hpb
  have hne : ¬ b = g := by have := (H.out.below HB1.out).old Par.len (by omega) b off rfl (by omega); omega
  obtain ⟨d0, d1, d3, hfr⟩ : w2.cell? ⟨g, k * 3, none⟩ = some (.string ps[k].who) ∧ w2.cell? ⟨g, k * 3 + 1, none⟩ = some (.string ps[k].mill) ∧ w2.cell? ⟨g, k * 3 + 2, none⟩ = some (.int .i64 ps[k].shares) ∧ w2.frozen? ⟨g, k * 3 + 2, none⟩ = false := by
    obtain ⟨b', off', e', -, d0, d1, d3⟩ := Par.at HG2.out.1 k hk
    injection e' with e'; injection e' with e1 e2; subst e1; subst e2
    rcases HG2.out.2 with h0 | ⟨b2, e2, -, -, hm⟩
    · subst h0; simp at hk
    · injection e2 with e2; injection e2 with e2; subst e2
      simp only [Nat.zero_add] at d0 d1 d3
      exact ⟨d0, d1, d3, hm.free _⟩
  have hne' : ¬ g = b := fun e => hne e.symm
  by_cases hz : ps[k].shares - n = 0
  · go_wp2_with (go_at_call 45; refine (l1In_any _ _ _ _).mono ?_; rintro e w' ⟨rfl, rfl⟩; rw [hn])
    have HB3 := Lib.hid (show Below w.heap.size w (w2.setCell ⟨g, k * 3 + 2, none⟩ (.int .i64 0)) from below_set HB2.out (by omega) _)
    have HR3 := Lib.hid (H.out.below HB3.out)
    clear HO2 HG2 HR2 HB2 HKK c0 c1 c3 d0 d1 d3 hfr
    generalize w2.setCell ⟨g, k * 3 + 2, none⟩ (.int .i64 0) = w3 at HR3 HB3 ⊢
    have HCP := copy_take cap HR3.out (show k ≤ ps.length by omega) hl
    have HL := Lib.hid HCP
    have HDN := drop_at cap HR3.out hk hc
    have hkc : k ≤ cap := by omega
    have hk0 : (0 : Int) ≤ (k : Int) + 1 := by omega
    have hk2 : (k : Int) + 1 ≤ (ps.length : Int) := by omega
    have hwr : IntKind.i64.wrap ((k : Int) + 1) = (k : Int) + 1 := IntWalk.i64_in _ (by omega)
    have htn : ((k : Int) + 1).toNat = k + 1 := by omega
    obtain ⟨A, HA, hnews⟩ := HDN
    have HNEW := Lib.hid hnews
    clear HCP hnews
    have HOUT : Hid (∀ g5 c5 w5, w5.ownsRow w.heap.size 37 3 (.slice (some ⟨g5, 0, none⟩) (k + (ps.length - (k + 1))) c5) (k + (ps.length - (k + 1))) ((ps.take k).flatMap Par.cs ++ (ps.drop (k + 1)).flatMap Par.cs) → Below w.heap.size w w5 → ResB (tookL ps who mill n) (tookB ps who mill n) w (.returned (.tuple #[.slice (some ⟨g5, 0, none⟩) (k + (ps.length - (k + 1))) c5, .bool true])) w5) := by
      intro g5 c5 w5 h5 hb5
      have hlen : (ps.take k ++ ps.drop (k + 1)).length = k + (ps.length - (k + 1)) := by simp; omega
      rw [HTY.out.1, HTY.out.2, takeAt, patn_eq hk, if_pos hz]
      exact ⟨g5, c5, by rw [hlen], by rw [hlen, List.flatMap_append]; exact h5, hb5⟩
    go_region_law (first
      | (refine step_append_some rfl (.tmp 55) (.tmp 59) 24 rfl w.heap.size 37 i0 (.agg #[.string ByteArray.empty, .string ByteArray.empty, .int .i64 0]) 3 40 Try.underlying24 HI.out HZ0.out HZ1.out HZ2.out rfl (by decide) g4 c4 k ((ps.take k).flatMap Par.cs) (by simp [Act.eval]) HO4.out A (ps.length - (k + 1)) (cap - (k + 1)) ((ps.drop (k + 1)).flatMap Par.cs) (by simp [Act.eval]) (by rw [flat_length Par.len]; simp) HNW.out (flat_one Par.one _) (by unfold maxLen; omega) (by omega) ?_; rintro g5 c5 w5 ⟨h5, h5g, h5b, h5l, h5x⟩; have HN := Lib.hid (HOUT.out g5 c5 w5 h5 (bgrown HB4.out (by omega) h5g (by intro z hz; injection hz with hz; omega))); clear h5 h5g h5b h5l h5x)
      | (go_simp; go_at_call 44; refine (HL.out _ (below_draws (Below.refl _ _) 1)).mono ?_; rintro e w4 ⟨g4, c4, rfl, ho4, hb4⟩; have HO4 := Lib.hid (own_down ho4 (show w.heap.size ≤ w3.heap.size from HB3.out.size)); have HNW := Lib.hid (HNEW.out w4 (below_trans (below_draws (Below.refl _ _) 1) hb4)); have HB4 := Lib.hid (below_trans HB3.out (below_trans (below_draws (Below.refl _ _) 1) hb4)); clear ho4 hb4))
    go_wp2
    go_ret2
    exact HN.out
  · have hz' : (ps[k].shares - n == 0) = false := by simpa using hz
    have HN := Lib.hid (show ResB (tookL ps who mill n) (tookB ps who mill n) w (.returned (.tuple #[.slice (some ⟨g, 0, none⟩) ps.length c2, .bool true])) (w2.setCell ⟨g, k * 3 + 2, none⟩ (.int .i64 (ps[k].shares - n))) from by
      rw [HTY.out.1, HTY.out.2, takeAt, patn_eq hk, if_neg hz]
      have ho := own_set HO2.out (j := k * 3 + 2) (.int .i64 (ps[k].shares - n))
      rw [← setSh_cells ps k _ hk] at ho
      refine ⟨g, c2, by rw [setSh_length], ?_, below_set HB2.out (by omega) _⟩
      rw [setSh_length]
      exact own_down ho hle1)
    go_wp2_with (go_at_call 45; refine (l1In_any _ _ _ _).mono ?_; rintro e w' ⟨rfl, rfl⟩; rw [hn])
    go_ret2
    exact HN.out
end Go.Proofs.Ytpmibegfpfjdgaa
