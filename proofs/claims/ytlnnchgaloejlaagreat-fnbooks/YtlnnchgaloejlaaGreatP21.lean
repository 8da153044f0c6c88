/-
  Texts joined: PartT, PartG.
-/
import Derived.Test.YtlnnchgaloejlaaGreatP4
import Derived.Test.YtlnnchgaloejlaaGreatP11
namespace Go.Proofs.YtlnnchgaloejlaaGreat
open Go.ChangeShapes Go.WideShapes Go.ChangeAt Go.RowKit

/-- Shares of number k are v. -/
def setSh : List Par → Nat → Int → List Par
  | [], _, _ => []
  | p :: r, 0, v => ⟨p.who, p.mill, v⟩ :: r
  | p :: r, k + 1, v => p :: setSh r k v
theorem setSh_length : ∀ (ps : List Par) (k : Nat) (v : Int), (setSh ps k v).length = ps.length
  | [], _, _ => rfl
  | p :: r, 0, v => rfl
  | p :: r, k + 1, v => by simp [setSh, setSh_length r k v]
theorem setSh_cells : ∀ (ps : List Par) (k : Nat) (v : Int), k < ps.length → (setSh ps k v).flatMap Par.cs = (ps.flatMap Par.cs).set (k * 3 + 2) (.int .i64 v)
  | p :: r, 0, v, _ => by simp [setSh, Par.cs]
  | p :: r, k + 1, v, h => by
    rw [setSh, List.flatMap_cons, List.flatMap_cons, setSh_cells r k v (by simpa using h), show (k + 1) * 3 + 2 = k * 3 + 2 + 3 by omega]
    simp [Par.cs]
/-- Number k has n less; none where 0 are left. -/
def takeAt (ps : List Par) (k : Nat) (n : Int) : List Par := if (patn ps k).shares - n = 0 then ps.take k ++ ps.drop (k + 1) else setSh ps k ((patn ps k).shares - n)

/-- Is it took? -/
noncomputable def tookB (ps : List Par) (who mill : ByteArray) (n : Int) : Bool := partsB ps && (decide (0 ≤ pfindV ps who mill) && inB 1 (patn ps (pfindV ps who mill).toNat).shares n)
/-- What they are then. -/
noncomputable def tookL (ps : List Par) (who mill : ByteArray) (n : Int) : List Par :=
  if partsB ps = true then (if tookB ps who mill n = true then takeAt ps (pfindV ps who mill).toNat n else ps) else []
section
variable {ps : List Par} {who mill : ByteArray} {n : Int}
theorem took_no (h : partsB ps = false) : tookB ps who mill n = false ∧ tookL ps who mill n = [] := by simp [tookB, tookL, h]
theorem took_keep (h : partsB ps = true) (hb : tookB ps who mill n = false) : tookL ps who mill n = ps := by simp [tookL, h, hb]
theorem took_out (h : ¬ 0 ≤ pfindV ps who mill) : tookB ps who mill n = false := by simp [tookB, h]
theorem took_n {k : Nat} (e : pfindV ps who mill = k) (hk : k < ps.length) (h : inB 1 ps[k].shares n = false) : tookB ps who mill n = false := by
  have : patn ps (pfindV ps who mill).toNat = ps[k] := by rw [e]; exact patn_eq hk
  simp [tookB, this, h]
theorem took_yes {k : Nat} (hf : partsB ps = true) (e : pfindV ps who mill = k) (hk : k < ps.length) (h : inB 1 ps[k].shares n = true) : tookB ps who mill n = true ∧ tookL ps who mill n = takeAt ps k n := by
  have h1 : patn ps (pfindV ps who mill).toNat = ps[k] := by rw [e]; exact patn_eq hk
  have h2 : tookB ps who mill n = true := by unfold tookB; rw [h1, hf, h, e]; simp
  refine ⟨h2, ?_⟩
  rw [tookL, if_pos hf, if_pos h2, e]; rfl
end

/-- A copy of the first k. -/
theorem copy_take {w : World} {b off k : Nat} {ps : List Par} (cap : Nat) (h : Recs Par.cs w (some ⟨b, off, none⟩) ps) (hk : k ≤ ps.length) (hl : ps.length ≤ 1048576) : ∀ W, Below w.heap.size w W →
    Calls Tryz.prog 132 #[.slice (some ⟨b, off, none⟩) k cap] W fun e w' => ∃ g c, e = .returned (.slice (some ⟨g, 0, none⟩) k c) ∧ w'.ownsRow W.heap.size 68 3 (.slice (some ⟨g, 0, none⟩) k c) k ((ps.take k).flatMap Par.cs) ∧ Below W.heap.size W w' := by
  intro W hb
  have hlen : (ps.take k).length = k := by simp; omega
  have := l5Copy_any cap ((h.below hb).takeR Par.len k) (by omega)
  rw [hlen] at this
  refine this.mono ?_
  rintro e w' ⟨g, c, he, -, ho, hb'⟩
  rw [hlen] at he ho
  exact ⟨g, c, he, ho, hb'⟩
/-- Where those behind number k lie. -/
theorem drop_at {w : World} {b off k : Nat} {ps : List Par} (cap : Nat) (h : Recs Par.cs w (some ⟨b, off, none⟩) ps) (hk : k < ps.length) (hc : ps.length ≤ cap) :
    ∃ A, (if cap = k + 1 then some (⟨b, off, none⟩ : Addr) else some ⟨b, off + (k + 1) * 3, none⟩) = some A ∧ ∀ W, Below w.heap.size w W → ∀ j u, ((ps.drop (k + 1)).flatMap Par.cs)[j]? = some u → W.cell? (A.add j) = some u := by
  by_cases e : cap = k + 1
  · refine ⟨_, if_pos e, fun W _ j u hj => ?_⟩
    have : ps.drop (k + 1) = [] := List.drop_eq_nil_of_le (by omega)
    rw [this] at hj; simp at hj
  · refine ⟨_, if_neg e, fun W hb j u hj => ?_⟩
    rw [flat_drop Par.len, List.getElem?_drop] at hj
    obtain ⟨b', off', e', hc'⟩ := (h.below hb) _ u hj
    injection e' with e'; injection e' with e1 e2; subst e1; subst e2
    rw [add_plain, Nat.add_assoc]; exact hc'
/-- A list of the call's own comes back, and a word. -/
def ResB (out : List Par) (ok : Bool) (w : World) (e : Ending) (w' : World) : Prop :=
  ∃ b cap, e = .returned (.tuple #[.slice (some ⟨b, 0, none⟩) out.length cap, .bool ok]) ∧ w'.ownsRow w.heap.size 68 3 (.slice (some ⟨b, 0, none⟩) out.length cap) out.length (out.flatMap Par.cs) ∧ Below w.heap.size w w'
set_option maxHeartbeats 4000000 in
set_option maxRecDepth 100000 in
theorem sTook_any {w : World} {b off : Nat} {ps : List Par} (cap : Nat) (who mill : ByteArray) (n : Int) (h : Recs Par.cs w (some ⟨b, off, none⟩) ps) (hc : ps.length ≤ cap) (hl : ps.length ≤ 1048576) (hs : PSized ps) :
    Calls Tryz.prog 172 #[.slice (some ⟨b, off, none⟩) ps.length cap, .string who, .string mill, .int .i64 n] w (ResB (tookL ps who mill n) (tookB ps who mill n) w) := by
  have H := Lib.hid h
  have HS := Lib.hid hs
  clear h hs
  obtain ⟨i0, hi, hz0, hz1, hz2⟩ := info_parts info_Part
  have HI := Lib.hid hi
  have HZ0 := Lib.hid hz0
  have HZ1 := Lib.hid hz1
  have HZ2 := Lib.hid hz2
  clear hi hz0 hz1 hz2
  go_enter Tryz.func172, Tryz.ntmps172
  go_wp2_with fail
  refine (sPartsOk_any _ H.out (by omega) HS.out).mono ?_
  rintro e w1 ⟨rfl, hb1⟩
  have HB1 := Lib.hid hb1
  have hle1 : w.heap.size ≤ w1.heap.size := hb1.size
  clear hb1
  cases hf : partsB ps
  · have HN := Lib.hid (show ResB (tookL ps who mill n) (tookB ps who mill n) w (.returned (.tuple #[.slice (some ⟨w1.heap.size, 0, none⟩) 0 0, .bool false])) (w1.alloc (.cells #[] 68)) from by
      rw [(took_no hf).1, (took_no hf).2]
      exact ⟨w1.heap.size, 0, rfl, ⟨rfl, .inr ⟨w1.heap.size, 0, #[], rfl, hle1, heap_alloc_new _ _, Nat.le_refl _, Nat.zero_le _, rfl, rfl⟩⟩, below_trans HB1.out (below_new _ _)⟩)
    go_wp2
    go_ret2
    exact HN.out
  go_wp2_with fail
  refine (l5Copy_any _ (H.out.below HB1.out) hl).mono ?_
  rintro e w2 ⟨g, c2, rfl, hr2, ho2, hb2⟩
  have HG2 := Lib.hid hr2
  have HB2 := Lib.hid (below_trans HB1.out hb2)
  have HO2 := Lib.hid ho2
  have HR2 := Lib.hid (H.out.below HB2.out)
  obtain ⟨-, hc2, -, hg1, hg2⟩ := own_some ho2
  clear hb2 ho2 hr2
  have HKK : Hid (tookB ps who mill n = false → ResB (tookL ps who mill n) (tookB ps who mill n) w (.returned (.tuple #[.slice (some ⟨g, 0, none⟩) ps.length c2, .bool false])) w2) := by
    intro hb
    rw [took_keep hf hb, hb]
    exact ⟨g, c2, rfl, own_down HO2.out hle1, HB2.out⟩
  go_wp2_with fail
  refine (l5Find_any _ _ _ HR2.out (by omega)).mono ?_
  rintro e w' ⟨rfl, rfl⟩
  by_cases hp : 0 ≤ pfindV ps who mill
  case neg =>
    have HN := Lib.hid (HKK.out (took_out hp))
    have hlo := pfind_lo ps who mill
    have hpe : pfindV ps who mill = -1 := by omega
    rw [hpe]
    clear hp hpe hlo
    go_wp2
    go_ret2
    exact HN.out
  obtain ⟨k, e, hk, -⟩ := pfind_hit hp
  have HE := Lib.hid e
  rw [e]
  clear hp e
  obtain ⟨b', off', e', hlb, c0, c1, c3⟩ := Par.at HR2.out k hk
  injection e' with e'; injection e' with e1 e2; subst e1; subst e2
  cases hn : inB 1 ps[k].shares n
  · have HN := Lib.hid (HKK.out (took_n HE.out hk hn))
    go_wp2_with (go_at_call 66; refine (l1In_any _ _ _ _).mono ?_; rintro e w' ⟨rfl, rfl⟩; rw [hn])
    go_ret2
    exact HN.out
  have hnb := inB_true hn
  have hpb := part_bd1 ((parts_true hf).2.1 k hk hk)
  have HTY := Lib.hid (took_yes hf HE.out hk hn)
  obtain ⟨hnb1, hnb2⟩ := hnb
  obtain ⟨hpb1, hpb2⟩ := hpb
  have hne : ¬ b = g := by have := (H.out.below HB1.out).old Par.len (by omega) b off rfl (by omega); omega
  obtain ⟨d0, d1, d3, hfr⟩ : w2.cell? ⟨g, k * 3, none⟩ = some (.string ps[k].who) ∧ w2.cell? ⟨g, k * 3 + 1, none⟩ = some (.string ps[k].mill) ∧ w2.cell? ⟨g, k * 3 + 2, none⟩ = some (.int .i64 ps[k].shares) ∧ w2.frozen? ⟨g, k * 3 + 2, none⟩ = false := by
    obtain ⟨b', off', e', -, d0, d1, d3⟩ := Par.at HG2.out.1 k hk
    injection e' with e'; injection e' with e1 e2; subst e1; subst e2
    rcases HG2.out.2 with h0 | ⟨b2, e2, -, -, hm⟩
    · subst h0; simp at hk
    · injection e2 with e2; injection e2 with e2; subst e2
      simp only [Nat.zero_add] at d0 d1 d3
      exact ⟨d0, d1, d3, hm.free _⟩
  have hne' : ¬ g = b := fun e => hne e.symm
  by_cases hz : ps[k].shares - n = 0
  · go_wp2_with (go_at_call 66; refine (l1In_any _ _ _ _).mono ?_; rintro e w' ⟨rfl, rfl⟩; rw [hn])
    have HB3 := Lib.hid (show Below w.heap.size w (w2.setCell ⟨g, k * 3 + 2, none⟩ (.int .i64 0)) from below_set HB2.out (by omega) _)
    have HR3 := Lib.hid (H.out.below HB3.out)
    clear HO2 HG2 HR2 HB2 HKK c0 c1 c3 d0 d1 d3 hfr
    generalize w2.setCell ⟨g, k * 3 + 2, none⟩ (.int .i64 0) = w3 at HR3 HB3 ⊢
    have HCP := copy_take cap HR3.out (show k ≤ ps.length by omega) hl
    have HL := Lib.hid HCP
    have HDN := drop_at cap HR3.out hk hc
    have hkc : k ≤ cap := by omega
    have hk0 : (0 : Int) ≤ (k : Int) + 1 := by omega
    have hk2 : (k : Int) + 1 ≤ (ps.length : Int) := by omega
    have hwr : IntKind.i64.wrap ((k : Int) + 1) = (k : Int) + 1 := IntWalk.i64_in _ (by omega)
    have htn : ((k : Int) + 1).toNat = k + 1 := by omega
    obtain ⟨A, HA, hnews⟩ := HDN
    have HNEW := Lib.hid hnews
    clear HCP hnews
    have HOUT : Hid (∀ g5 c5 w5, w5.ownsRow w.heap.size 68 3 (.slice (some ⟨g5, 0, none⟩) (k + (ps.length - (k + 1))) c5) (k + (ps.length - (k + 1))) ((ps.take k).flatMap Par.cs ++ (ps.drop (k + 1)).flatMap Par.cs) → Below w.heap.size w w5 → ResB (tookL ps who mill n) (tookB ps who mill n) w (.returned (.tuple #[.slice (some ⟨g5, 0, none⟩) (k + (ps.length - (k + 1))) c5, .bool true])) w5) := by
      intro g5 c5 w5 h5 hb5
      have hlen : (ps.take k ++ ps.drop (k + 1)).length = k + (ps.length - (k + 1)) := by simp; omega
      rw [HTY.out.1, HTY.out.2, takeAt, patn_eq hk, if_pos hz]
      exact ⟨g5, c5, by rw [hlen], by rw [hlen, List.flatMap_append]; exact h5, hb5⟩
    go_region_law (first
      | (refine step_append_some rfl (.tmp 55) (.tmp 59) 26 rfl w.heap.size 68 i0 (.agg #[.string ByteArray.empty, .string ByteArray.empty, .int .i64 0]) 3 40 Tryz.underlying26 HI.out HZ0.out HZ1.out HZ2.out rfl (by decide) g4 c4 k ((ps.take k).flatMap Par.cs) (by simp [Act.eval]) HO4.out A (ps.length - (k + 1)) (cap - (k + 1)) ((ps.drop (k + 1)).flatMap Par.cs) (by simp [Act.eval]) (by rw [flat_length Par.len]; simp) HNW.out (flat_one Par.one _) (by unfold maxLen; omega) (by omega) ?_; rintro g5 c5 w5 ⟨h5, h5g, h5b, h5l, h5x⟩; have HN := Lib.hid (HOUT.out g5 c5 w5 h5 (bgrown HB4.out (by omega) h5g (by intro z hz; injection hz with hz; omega))); clear h5 h5g h5b h5l h5x)
      | (go_simp; go_at_call 132; refine (HL.out _ (below_draws (Below.refl _ _) 1)).mono ?_; rintro e w4 ⟨g4, c4, rfl, ho4, hb4⟩; have HO4 := Lib.hid (own_down ho4 (show w.heap.size ≤ w3.heap.size from HB3.out.size)); have HNW := Lib.hid (HNEW.out w4 (below_trans (below_draws (Below.refl _ _) 1) hb4)); have HB4 := Lib.hid (below_trans HB3.out (below_trans (below_draws (Below.refl _ _) 1) hb4)); clear ho4 hb4))
    go_wp2
    go_ret2
    exact HN.out
  · have hz' : (ps[k].shares - n == 0) = false := by simpa using hz
    have HN := Lib.hid (show ResB (tookL ps who mill n) (tookB ps who mill n) w (.returned (.tuple #[.slice (some ⟨g, 0, none⟩) ps.length c2, .bool true])) (w2.setCell ⟨g, k * 3 + 2, none⟩ (.int .i64 (ps[k].shares - n))) from by
      rw [HTY.out.1, HTY.out.2, takeAt, patn_eq hk, if_neg hz]
      have ho := own_set HO2.out (j := k * 3 + 2) (.int .i64 (ps[k].shares - n))
      rw [← setSh_cells ps k _ hk] at ho
      refine ⟨g, c2, by rw [setSh_length], ?_, below_set HB2.out (by omega) _⟩
      rw [setSh_length]
      exact own_down ho hle1)
    go_wp2_with (go_at_call 66; refine (l1In_any _ _ _ _).mono ?_; rintro e w' ⟨rfl, rfl⟩; rw [hn])
    go_ret2
    exact HN.out
end Go.Proofs.YtlnnchgaloejlaaGreat
namespace Go.Proofs.YtlnnchgaloejlaaGreat
open Go.ChangeShapes Go.WideShapes Go.ChangeAt Go.RowKit

/-- How many are ahead of it. -/
noncomputable def lowAt : List Par → ByteArray → ByteArray → Nat
  | [], _, _ => 0
  | p :: r, who, mill => if lessB p who mill = true then lowAt r who mill + 1 else 0
theorem lowAt_le : ∀ (ps : List Par) (who mill : ByteArray), lowAt ps who mill ≤ ps.length
  | [], _, _ => by simp [lowAt]
  | p :: r, who, mill => by
    have := lowAt_le r who mill
    simp only [lowAt, List.length_cons]
    split <;> omega
theorem lowAt_is : ∀ (ps : List Par) (who mill : ByteArray) (k : Nat), k ≤ ps.length → (∀ j (h : j < ps.length), j < k → lessB ps[j] who mill = true) → (∀ h : k < ps.length, lessB ps[k] who mill = false) → lowAt ps who mill = k
  | [], _, _, k, hk, _, _ => by simp at hk; simp [lowAt, hk]
  | p :: r, who, mill, 0, _, _, h2 => by
    have := h2 (by simp)
    simp only [List.getElem_cons_zero] at this
    simp [lowAt, this]
  | p :: r, who, mill, k + 1, hk, h1, h2 => by
    have h0 := h1 0 (by simp) (by omega)
    simp only [List.getElem_cons_zero] at h0
    have := lowAt_is r who mill k (by simpa using hk) (fun j h hj => by have := h1 (j + 1) (by simpa using h) (by omega); simpa using this) (fun h => by have := h2 (by simpa using h); simpa using this)
    simp [lowAt, h0, this]
/-- n more of these, a new one where there is none. -/
noncomputable def giveAt (ps : List Par) (who mill : ByteArray) (n : Int) : List Par :=
  if 0 ≤ pfindV ps who mill then setSh ps (pfindV ps who mill).toNat ((patn ps (pfindV ps who mill).toNat).shares + n)
  else ps.take (lowAt ps who mill) ++ [⟨who, mill, n⟩] ++ ps.drop (lowAt ps who mill)
/-- Is it given? -/
noncomputable def gaveB (ps : List Par) (who mill : ByteArray) (n : Int) : Bool := partsB ps && (inB 1 1000000000 n && partsB (giveAt ps who mill n))
/-- What they are then. -/
noncomputable def gaveL (ps : List Par) (who mill : ByteArray) (n : Int) : List Par :=
  if partsB ps = true then (if gaveB ps who mill n = true then giveAt ps who mill n else ps) else []
section
variable {ps : List Par} {who mill : ByteArray} {n : Int}
theorem gave_no (h : partsB ps = false) : gaveB ps who mill n = false ∧ gaveL ps who mill n = [] := by simp [gaveB, gaveL, h]
theorem gave_keep (h : partsB ps = true) (hb : gaveB ps who mill n = false) : gaveL ps who mill n = ps := by simp [gaveL, h, hb]
theorem gave_n (h : inB 1 1000000000 n = false) : gaveB ps who mill n = false := by simp [gaveB, h]
theorem gave_not (h : partsB (giveAt ps who mill n) = false) : gaveB ps who mill n = false := by simp [gaveB, h]
theorem gave_yes (hf : partsB ps = true) (hn : inB 1 1000000000 n = true) (h : partsB (giveAt ps who mill n) = true) : gaveB ps who mill n = true ∧ gaveL ps who mill n = giveAt ps who mill n := by
  have h2 : gaveB ps who mill n = true := by simp [gaveB, hf, hn, h]
  exact ⟨h2, by rw [gaveL, if_pos hf, if_pos h2]⟩
end
theorem setSh_at : ∀ (ps : List Par) (k : Nat) (v : Int) (j : Nat) (h : j < (setSh ps k v).length), ((setSh ps k v)[j]).who = (patn ps j).who ∧ ((setSh ps k v)[j]).mill = (patn ps j).mill ∧ ((setSh ps k v)[j]).shares = if j = k then v else (patn ps j).shares
  | [], _, _, j, h => by simp [setSh] at h
  | p :: r, 0, v, 0, _ => by simp [setSh, patn]
  | p :: r, 0, v, j + 1, h => by
    have hj : j < r.length := by simpa [setSh] using h
    simp [setSh, patn, hj]
  | p :: r, k + 1, v, 0, _ => by simp [setSh, patn]
  | p :: r, k + 1, v, j + 1, h => by
    have := setSh_at r k v j (by simpa [setSh] using h)
    simpa [setSh, patn] using this
theorem psized_set {ps : List Par} (hs : PSized ps) (k : Nat) (v : Int) : PSized (setSh ps k v) := by
  intro j hj
  have hj' : j < ps.length := by rw [setSh_length] at hj; exact hj
  obtain ⟨e1, e2, -⟩ := setSh_at ps k v j hj
  rw [e1, e2, patn_eq hj']
  exact hs j hj'
theorem psized_mem {ps : List Par} : PSized ps ↔ ∀ p ∈ ps, p.who.size ≤ maxLen ∧ p.mill.size ≤ maxLen :=
  ⟨fun h p hp => by obtain ⟨k, hk, rfl⟩ := List.getElem_of_mem hp; exact h k hk, fun h k hk => h _ (List.getElem_mem hk)⟩
theorem psized_put {ps : List Par} (hs : PSized ps) {who mill : ByteArray} (hw : who.size ≤ maxLen) (hm : mill.size ≤ maxLen) (n : Int) (k : Nat) : PSized (ps.take k ++ [⟨who, mill, n⟩] ++ ps.drop k) := by
  rw [psized_mem] at hs ⊢
  intro p hp
  simp only [List.mem_append, List.mem_singleton] at hp
  rcases hp with (hp | rfl) | hp
  · exact hs p (List.mem_of_mem_take hp)
  · exact ⟨hw, hm⟩
  · exact hs p (List.mem_of_mem_drop hp)
/-- A copy of those from number k on. -/
theorem copy_drop {w : World} {b off k : Nat} {ps : List Par} (cap : Nat) (h : Recs Par.cs w (some ⟨b, off, none⟩) ps) (hk : k ≤ ps.length) (hc : ps.length ≤ cap) (hl : ps.length ≤ 1048576) :
    ∃ off', (if cap = k then some (⟨b, off, none⟩ : Addr) else some ⟨b, off + k * 3, none⟩) = some ⟨b, off', none⟩ ∧ ∀ W, Below w.heap.size w W →
    Calls Tryz.prog 132 #[.slice (some ⟨b, off', none⟩) (ps.length - k) (cap - k)] W fun e w' => ∃ g c, e = .returned (.slice (some ⟨g, 0, none⟩) (ps.length - k) c) ∧ w'.ownsRow W.heap.size 68 3 (.slice (some ⟨g, 0, none⟩) (ps.length - k) c) (ps.length - k) ((ps.drop k).flatMap Par.cs) ∧ Below W.heap.size W w' := by
  have hlen : (ps.drop k).length = ps.length - k := by simp
  obtain ⟨off', e, hr⟩ : ∃ off', (if cap = k then some (⟨b, off, none⟩ : Addr) else some ⟨b, off + k * 3, none⟩) = some ⟨b, off', none⟩ ∧ Recs Par.cs w (some ⟨b, off', none⟩) (ps.drop k) := by
    by_cases e : cap = k
    · exact ⟨_, if_pos e, by rw [List.drop_eq_nil_of_le (by omega)]; exact Recs.nil _ _⟩
    · refine ⟨_, if_neg e, fun j u hj => ?_⟩
      rw [flat_drop Par.len, List.getElem?_drop] at hj
      obtain ⟨b', off', e', hc'⟩ := h _ u hj
      injection e' with e'; injection e' with e1 e2; subst e1; subst e2
      exact ⟨b, off + k * 3, rfl, by rw [Nat.add_assoc]; exact hc'⟩
  refine ⟨off', e, fun W hb => ?_⟩
  have := l5Copy_any (cap - k) (hr.below hb) (by omega)
  rw [hlen] at this
  refine this.mono ?_
  rintro e w' ⟨g, c, he, -, ho, hb'⟩
  rw [hlen] at he ho
  exact ⟨g, c, he, ho, hb'⟩

/-- 'PartsOk' of a list that the call owns. -/
theorem ok_own {W : World} {base g c L : Nat} {out : List Par} (ho : W.ownsRow base 68 3 (.slice (some ⟨g, 0, none⟩) L c) L (out.flatMap Par.cs)) (hl : out.length = L) (hL : L ≤ 1048577) (hs : PSized out) :
    Calls Tryz.prog 64 #[.slice (some ⟨g, 0, none⟩) L c] W fun e w' => e = .returned (.bool (partsB out)) ∧ Below W.heap.size W w' := by
  subst hl
  obtain ⟨a, cap, e, hr, -⟩ := ownR_of Par.len ho
  injection e with e1 e2 e3
  subst e1; subst e3
  exact sPartsOk_any _ hr.1 (by omega) hs

set_option maxHeartbeats 4000000 in
set_option maxRecDepth 100000 in
theorem sGave_any {w : World} {b off : Nat} {ps : List Par} (cap : Nat) (who mill : ByteArray) (n : Int) (h : Recs Par.cs w (some ⟨b, off, none⟩) ps) (hc : ps.length ≤ cap) (hl : ps.length ≤ 1048576) (hs : PSized ps) (hsw : who.size ≤ maxLen) (hsm : mill.size ≤ maxLen) :
    Calls Tryz.prog 91 #[.slice (some ⟨b, off, none⟩) ps.length cap, .string who, .string mill, .int .i64 n] w (ResB (gaveL ps who mill n) (gaveB ps who mill n) w) := by
  have H := Lib.hid h
  have HS := Lib.hid hs
  have HSW := Lib.hid hsw
  have HSM := Lib.hid hsm
  clear h hs hsw hsm
  obtain ⟨i0, hi, hz0, hz1, hz2⟩ := info_parts info_Part
  have HI := Lib.hid hi
  have HZ0 := Lib.hid hz0
  have HZ1 := Lib.hid hz1
  have HZ2 := Lib.hid hz2
  clear hi hz0 hz1 hz2
  go_enter Tryz.func91, Tryz.ntmps91
  go_wp2_with fail
  refine (sPartsOk_any _ H.out (by omega) HS.out).mono ?_
  rintro e w1 ⟨rfl, hb1⟩
  have HB1 := Lib.hid hb1
  have hle1 : w.heap.size ≤ w1.heap.size := hb1.size
  clear hb1
  cases hf : partsB ps
  · have HN := Lib.hid (show ResB (gaveL ps who mill n) (gaveB ps who mill n) w (.returned (.tuple #[.slice (some ⟨w1.heap.size, 0, none⟩) 0 0, .bool false])) (w1.alloc (.cells #[] 68)) from by
      rw [(gave_no hf).1, (gave_no hf).2]
      exact ⟨w1.heap.size, 0, rfl, ⟨rfl, .inr ⟨w1.heap.size, 0, #[], rfl, hle1, heap_alloc_new _ _, Nat.le_refl _, Nat.zero_le _, rfl, rfl⟩⟩, below_trans HB1.out (below_new _ _)⟩)
    go_wp2
    go_ret2
    exact HN.out
  have h20 := (parts_true hf).1
  have HKK : Hid (gaveB ps who mill n = false → ∀ g c W, W.ownsRow w.heap.size 68 3 (.slice (some ⟨g, 0, none⟩) ps.length c) ps.length (ps.flatMap Par.cs) → Below w.heap.size w W → ResB (gaveL ps who mill n) (gaveB ps who mill n) w (.returned (.tuple #[.slice (some ⟨g, 0, none⟩) ps.length c, .bool false])) W) := by
    intro hb g c W ho hbw
    rw [gave_keep hf hb, hb]
    exact ⟨g, c, rfl, ho, hbw⟩
  go_wp2_with fail
  refine (l5Copy_any _ (H.out.below HB1.out) hl).mono ?_
  rintro e w2 ⟨g, c2, rfl, hr2, ho2, hb2⟩
  have HG2 := Lib.hid hr2
  have HB2 := Lib.hid (below_trans HB1.out hb2)
  have HO2 := Lib.hid (own_down ho2 hle1)
  have HR2 := Lib.hid (H.out.below HB2.out)
  obtain ⟨-, hc2, -, hg1, hg2⟩ := own_some ho2
  clear hb2 ho2 hr2
  cases hn : inB 1 1000000000 n
  · have HN := Lib.hid (HKK.out (gave_n hn) g c2 w2 HO2.out HB2.out)
    go_wp2_with (go_at_call 66; refine (l1In_any _ _ _ _).mono ?_; rintro e w' ⟨rfl, rfl⟩; rw [hn])
    go_ret2
    exact HN.out
  obtain ⟨hnb1, hnb2⟩ := inB_true hn
  have HT : Hid (∀ (out : List Par) (L g c : Nat) (W : World), out = giveAt ps who mill n → out.length = L → partsB out = true → W.ownsRow w.heap.size 68 3 (.slice (some ⟨g, 0, none⟩) L c) L (out.flatMap Par.cs) → Below w.heap.size w W → ResB (gaveL ps who mill n) (gaveB ps who mill n) w (.returned (.tuple #[.slice (some ⟨g, 0, none⟩) L c, .bool true])) W) := by
    rintro out L g c W rfl rfl ht ho hbw
    rw [(gave_yes hf hn ht).1, (gave_yes hf hn ht).2]
    exact ⟨g, c, rfl, ho, hbw⟩
  go_wp2_with (go_at_call 66; refine (l1In_any _ _ _ _).mono ?_; rintro e w' ⟨rfl, rfl⟩; rw [hn])
  refine (l5Find_any _ _ _ HR2.out (by omega)).mono ?_
  rintro e w' ⟨rfl, rfl⟩
  by_cases hp : 0 ≤ pfindV ps who mill
  · obtain ⟨k, e, hk, -⟩ := pfind_hit hp
    have HG : Hid (setSh ps k (ps[k].shares + n) = giveAt ps who mill n) := by
      show _ = _
      rw [giveAt, if_pos hp, e]; simp [patn_eq hk]
    rw [e]
    clear hp e
    obtain ⟨b', off', e', hlb, c0, c1, c3⟩ := Par.at HR2.out k hk
    injection e' with e'; injection e' with e1 e2; subst e1; subst e2
    obtain ⟨hpb1, hpb2⟩ := part_bd1 ((parts_true hf).2.1 k hk hk)
    have hne : ¬ b = g := by have := (H.out.below HB1.out).old Par.len (by omega) b off rfl (by omega); omega
    have hne' : ¬ g = b := fun e => hne e.symm
    obtain ⟨d3, hfr⟩ : w2.cell? ⟨g, k * 3 + 2, none⟩ = some (.int .i64 ps[k].shares) ∧ w2.frozen? ⟨g, k * 3 + 2, none⟩ = false := by
      obtain ⟨b', off', e', -, d0, d1, d3⟩ := Par.at HG2.out.1 k hk
      injection e' with e'; injection e' with e1 e2; subst e1; subst e2
      rcases HG2.out.2 with h0 | ⟨b2, e2, -, -, hm⟩
      · subst h0; simp at hk
      · injection e2 with e2; injection e2 with e2; subst e2
        simp only [Nat.zero_add] at d3
        exact ⟨d3, hm.free _⟩
    have HO3 := Lib.hid (show (w2.setCell ⟨g, k * 3 + 2, none⟩ (.int .i64 (ps[k].shares + n))).ownsRow w.heap.size 68 3 (.slice (some ⟨g, 0, none⟩) ps.length c2) ps.length ((setSh ps k (ps[k].shares + n)).flatMap Par.cs) from by
      rw [setSh_cells ps k _ hk]; exact own_set HO2.out _)
    have HB3 := Lib.hid (show Below w.heap.size w (w2.setCell ⟨g, k * 3 + 2, none⟩ (.int .i64 (ps[k].shares + n))) from below_set HB2.out (by omega) _)
    clear HO2 HG2
    go_wp2_with fail
    refine (ok_own HO3.out (setSh_length _ _ _) (by omega) (psized_set HS.out _ _)).mono ?_
    rintro e w4 ⟨rfl, hb4⟩
    have HO4 := Lib.hid (own_below HO3.out hb4)
    have HB4 := Lib.hid (below_trans HB3.out hb4)
    clear hb4 HO3 HB3
    cases ht : partsB (setSh ps k (ps[k].shares + n))
    · have HGN := Lib.hid (gave_not (n := n) (ps := ps) (who := who) (mill := mill) (by rw [← HG.out]; exact ht))
      go_wp2_with fail
      refine (l5Copy_any _ (H.out.below HB4.out) hl).mono ?_
      rintro e w5 ⟨g5, c5, rfl, -, ho5, hb5⟩
      have HN := Lib.hid (HKK.out HGN.out g5 c5 w5 (own_down ho5 HB4.out.size) (below_trans HB4.out hb5))
      clear ho5 hb5
      go_wp2
      go_ret2
      exact HN.out
    · have HN := Lib.hid (HT.out _ _ g c2 w4 HG.out (setSh_length _ _ _) ht HO4.out HB4.out)
      go_wp2
      go_ret2
      exact HN.out
  · have hlo := pfind_lo ps who mill
    have hpe : pfindV ps who mill = -1 := by omega
    have HG : Hid (∀ k, lowAt ps who mill = k → ps.take k ++ [⟨who, mill, n⟩] ++ ps.drop k = giveAt ps who mill n) := by
      rintro k rfl
      rw [giveAt, if_neg hp]
    rw [hpe]
    clear hp hpe hlo HO2 HG2 HR2
    have HB2' := HB2
    go_wp2_with fail
    go_loopw [11] (fun i w' => ∃ k : Nat, k ≤ ps.length ∧ i = .int .i64 k ∧ Below w.heap.size w w' ∧ ∀ j (h : j < ps.length), j < k → lessB ps[j] who mill = true) (fun i _ => ps.length - (intOf i).toNat)
    case atStart => exact ⟨0, Nat.zero_le _, rfl, HB2'.out, fun _ _ h => by omega⟩
    case round =>
      obtain ⟨k, hk, rfl, hb, hu⟩ := hrel
      have HB := Lib.hid hb
      have HU := Lib.hid hu
      clear hb hu HB2 HB2'
      have HEND : Hid ((∀ h : k < ps.length, lessB ps[k] who mill = false) → lowAt ps who mill = k) := fun h => lowAt_is ps who mill k hk HU.out h
      have HR3 := Lib.hid (H.out.below HB.out)
      obtain ⟨offd, hA, hcd⟩ := copy_drop cap HR3.out hk hc hl
      have HCD := Lib.hid hcd
      have HCT := Lib.hid (copy_take cap HR3.out hk hl)
      clear hcd
      have hkc : k ≤ cap := by omega
      by_cases hlt : k < ps.length
      · obtain ⟨b', off', e', hlb, c0, c1, c3⟩ := Par.at HR3.out k hlt
        injection e' with e'; injection e' with e1 e2; subst e1; subst e2
        cases hq : lessB ps[k] who mill
        · have HLO := Lib.hid (HEND.out (fun _ => hq))
          rw [if_neg (by omega)] at hA
          injection hA with hA
          injection hA with _ hA
          subst hA
          go_wp2_with (go_at_call 99; refine (l5Less_any ps[k] _ _ _).mono ?_; rintro e w3 ⟨rfl, hb3⟩; rw [hq]; have HBR := Lib.hid hb3; have HB3 := Lib.hid (below_trans HB.out hb3); clear hb3)
          refine (HCD.out _ HBR.out).mono ?_
          rintro e w4 ⟨g4, c4, rfl, ho4, hb4⟩
          obtain ⟨-, hc4, -, hg4, hl4⟩ := own_some ho4
          have HO4 := Lib.hid (own_down ho4 HB3.out.size)
          have HB4 := Lib.hid (below_trans HB3.out hb4)
          have HW4 := Lib.hid (below_trans HBR.out hb4)
          clear ho4 hb4
          go_wp2_with fail
          refine (HCT.out _ HW4.out).mono ?_
          rintro e w5 ⟨g5, c5, rfl, ho5, hb5⟩
          obtain ⟨-, hc5, -, hg5, hl5⟩ := own_some ho5
          have HO5 := Lib.hid ((own_down ho5 HB4.out.size).alloc (.cells #[.string who, .string mill, .int .i64 n] 68))
          have HQ5 := Lib.hid ((own_below HO4.out hb5).alloc (.cells #[.string who, .string mill, .int .i64 n] 68))
          have HB5 := Lib.hid (below_trans (below_trans HB4.out hb5) (below_new w5 (.cells #[.string who, .string mill, .int .i64 n] 68)))
          have hw5 : w.heap.size ≤ w5.heap.size := Nat.le_trans HB4.out.size hb5.size
          clear ho5 hb5
          go_wp2_with (at_builtin; refine wpList_append_some rfl _ _ 26 rfl w.heap.size 68 i0 (.agg #[.string ByteArray.empty, .string ByteArray.empty, .int .i64 0]) 3 40 Tryz.underlying26 HI.out HZ0.out HZ1.out HZ2.out rfl (by decide) g5 c5 k ((ps.take k).flatMap Par.cs) rfl HO5.out ⟨w5.heap.size, 0, none⟩ 1 1 (Par.cs ⟨who, mill, n⟩) rfl rfl ?c1 (Par.one _) ?c2 ?c3 ?_)
          case c1 =>
            intro j u hj
            rw [add_plain]
            have := RecAt.new Par.cs w5 (⟨who, mill, n⟩ : Par) 68 j u hj
            rw [Nat.zero_add]; exact this
          case c2 => unfold maxLen; omega
          case c3 => omega
          rintro g6 c6 w6 ⟨h6, h6g, h6b, h6l, h6x⟩
          have HO6 := Lib.hid h6
          have HQ6 := Lib.hid (HQ5.out.kept h6g (.inr (by intro e; injection e with e; simp at e; omega)))
          have HB6 := Lib.hid (bgrown HB5.out (by simp; omega) h6g (by intro z hz; injection hz with hz; omega))
          clear h6 h6g h6b h6l h6x HO5 HQ5 HB5
          go_wp2_with (at_builtin; refine wpList_append_some rfl _ _ 26 rfl w.heap.size 68 i0 (.agg #[.string ByteArray.empty, .string ByteArray.empty, .int .i64 0]) 3 40 Tryz.underlying26 HI.out HZ0.out HZ1.out HZ2.out rfl (by decide) g6 c6 (k + 1) ((ps.take k).flatMap Par.cs ++ Par.cs ⟨who, mill, n⟩) rfl HO6.out ⟨g4, 0, none⟩ (ps.length - k) c4 ((ps.drop k).flatMap Par.cs) rfl ?c1 ?c2 (flat_one Par.one _) ?c3 ?c4 ?_)
          case c1 => rw [flat_length Par.len]; simp
          case c2 => exact HQ6.out.cells rfl
          case c3 => unfold maxLen; omega
          case c4 => omega
          rintro g7 c7 w7 ⟨h7, h7g, h7b, h7l, h7x⟩
          have hlen : (ps.take k ++ [(⟨who, mill, n⟩ : Par)] ++ ps.drop k).length = k + 1 + (ps.length - k) := by simp; omega
          have HLEN := Lib.hid hlen
          have HO7 := Lib.hid (show w7.ownsRow w.heap.size 68 3 (.slice (some ⟨g7, 0, none⟩) (k + 1 + (ps.length - k)) c7) (k + 1 + (ps.length - k)) ((ps.take k ++ [(⟨who, mill, n⟩ : Par)] ++ ps.drop k).flatMap Par.cs) from by
            rw [List.flatMap_append, List.flatMap_append, List.flatMap_singleton, List.append_assoc]; exact h7)
          have HB7 := Lib.hid (bgrown HB6.out (Nat.le_of_lt (Nat.lt_of_le_of_lt h7b h7l)) h7g (by intro z hz; injection hz with hz; omega))
          clear hlen h7 h7g h7b h7l h7x HO6 HQ6 HB6
          go_wp2_with fail
          refine (ok_own HO7.out HLEN.out (by omega) (psized_put HS.out HSW.out HSM.out n k)).mono ?_
          rintro e w8 ⟨rfl, hb8⟩
          have HO8 := Lib.hid (own_below HO7.out hb8)
          have HB8 := Lib.hid (below_trans HB7.out hb8)
          clear hb8 HO7 HB7
          have HGK := Lib.hid (HG.out k HLO.out)
          cases ht : partsB (ps.take k ++ [⟨who, mill, n⟩] ++ ps.drop k)
          · have HGN := Lib.hid (gave_not (n := n) (ps := ps) (who := who) (mill := mill) (by rw [← HGK.out]; exact ht))
            go_wp2_with fail
            refine (l5Copy_any _ (H.out.below HB8.out) hl).mono ?_
            rintro e w9 ⟨g9, c9, rfl, -, ho9, hb9⟩
            have HN := Lib.hid (HKK.out HGN.out g9 c9 w9 (own_down ho9 HB8.out.size) (below_trans HB8.out hb9))
            clear ho9 hb9
            go_wp2
            go_ret2
            exact HN.out
          · have HN := Lib.hid (HT.out _ _ g7 c7 w8 HGK.out HLEN.out ht HO8.out HB8.out)
            go_wp2
            go_ret2
            exact HN.out
        · have HUN : Hid (∀ j (h : j < ps.length), j < k + 1 → lessB ps[j] who mill = true) := by
            intro j h hj
            by_cases e : j = k
            · subst e; exact hq
            · exact HU.out j h (by omega)
          go_wp2_with (go_at_call 99; refine (l5Less_any ps[k] _ _ _).mono ?_; rintro e w3 ⟨rfl, hb3⟩; rw [hq]; have HB3 := Lib.hid (below_trans HB.out hb3); clear hb3)
          go_roundw
          case rel => exact ⟨k + 1, by omega, by go_num, HB3.out, HUN.out⟩
          case measure => simp [intOf]; omega
      · have HLO := Lib.hid (HEND.out (fun h => absurd h hlt))
        go_wp2_with fail
        refine (HCD.out _ (Below.refl _ _)).mono ?_
        rintro e w4 ⟨g4, c4, rfl, ho4, hb4⟩
        obtain ⟨-, hc4, -, hg4, hl4⟩ := own_some ho4
        have HO4 := Lib.hid (own_down ho4 HB.out.size)
        have HB4 := Lib.hid (below_trans HB.out hb4)
        have HW4 := Lib.hid (below_trans (Below.refl _ _) hb4)
        clear ho4 hb4
        go_wp2_with fail
        refine (HCT.out _ HW4.out).mono ?_
        rintro e w5 ⟨g5, c5, rfl, ho5, hb5⟩
        obtain ⟨-, hc5, -, hg5, hl5⟩ := own_some ho5
        have HO5 := Lib.hid ((own_down ho5 HB4.out.size).alloc (.cells #[.string who, .string mill, .int .i64 n] 68))
        have HQ5 := Lib.hid ((own_below HO4.out hb5).alloc (.cells #[.string who, .string mill, .int .i64 n] 68))
        have HB5 := Lib.hid (below_trans (below_trans HB4.out hb5) (below_new w5 (.cells #[.string who, .string mill, .int .i64 n] 68)))
        have hw5 : w.heap.size ≤ w5.heap.size := Nat.le_trans HB4.out.size hb5.size
        clear ho5 hb5
        go_wp2_with (at_builtin; refine wpList_append_some rfl _ _ 26 rfl w.heap.size 68 i0 (.agg #[.string ByteArray.empty, .string ByteArray.empty, .int .i64 0]) 3 40 Tryz.underlying26 HI.out HZ0.out HZ1.out HZ2.out rfl (by decide) g5 c5 k ((ps.take k).flatMap Par.cs) rfl HO5.out ⟨w5.heap.size, 0, none⟩ 1 1 (Par.cs ⟨who, mill, n⟩) rfl rfl ?c1 (Par.one _) ?c2 ?c3 ?_)
        case c1 =>
          intro j u hj
          rw [add_plain]
          have := RecAt.new Par.cs w5 (⟨who, mill, n⟩ : Par) 68 j u hj
          rw [Nat.zero_add]; exact this
        case c2 => unfold maxLen; omega
        case c3 => omega
        rintro g6 c6 w6 ⟨h6, h6g, h6b, h6l, h6x⟩
        have HO6 := Lib.hid h6
        have HQ6 := Lib.hid (HQ5.out.kept h6g (.inr (by intro e; injection e with e; simp at e; omega)))
        have HB6 := Lib.hid (bgrown HB5.out (by simp; omega) h6g (by intro z hz; injection hz with hz; omega))
        clear h6 h6g h6b h6l h6x HO5 HQ5 HB5
        go_wp2_with (at_builtin; refine wpList_append_some rfl _ _ 26 rfl w.heap.size 68 i0 (.agg #[.string ByteArray.empty, .string ByteArray.empty, .int .i64 0]) 3 40 Tryz.underlying26 HI.out HZ0.out HZ1.out HZ2.out rfl (by decide) g6 c6 (k + 1) ((ps.take k).flatMap Par.cs ++ Par.cs ⟨who, mill, n⟩) rfl HO6.out ⟨g4, 0, none⟩ (ps.length - k) c4 ((ps.drop k).flatMap Par.cs) rfl ?c1 ?c2 (flat_one Par.one _) ?c3 ?c4 ?_)
        case c1 => rw [flat_length Par.len]; simp
        case c2 => exact HQ6.out.cells rfl
        case c3 => unfold maxLen; omega
        case c4 => omega
        rintro g7 c7 w7 ⟨h7, h7g, h7b, h7l, h7x⟩
        have hlen : (ps.take k ++ [(⟨who, mill, n⟩ : Par)] ++ ps.drop k).length = k + 1 + (ps.length - k) := by simp; omega
        have HLEN := Lib.hid hlen
        have HO7 := Lib.hid (show w7.ownsRow w.heap.size 68 3 (.slice (some ⟨g7, 0, none⟩) (k + 1 + (ps.length - k)) c7) (k + 1 + (ps.length - k)) ((ps.take k ++ [(⟨who, mill, n⟩ : Par)] ++ ps.drop k).flatMap Par.cs) from by
          rw [List.flatMap_append, List.flatMap_append, List.flatMap_singleton, List.append_assoc]; exact h7)
        have HB7 := Lib.hid (bgrown HB6.out (Nat.le_of_lt (Nat.lt_of_le_of_lt h7b h7l)) h7g (by intro z hz; injection hz with hz; omega))
        clear hlen h7 h7g h7b h7l h7x HO6 HQ6 HB6
        go_wp2_with fail
        refine (ok_own HO7.out HLEN.out (by omega) (psized_put HS.out HSW.out HSM.out n k)).mono ?_
        rintro e w8 ⟨rfl, hb8⟩
        have HO8 := Lib.hid (own_below HO7.out hb8)
        have HB8 := Lib.hid (below_trans HB7.out hb8)
        clear hb8 HO7 HB7
        have HGK := Lib.hid (HG.out k HLO.out)
        cases ht : partsB (ps.take k ++ [⟨who, mill, n⟩] ++ ps.drop k)
        · have HGN := Lib.hid (gave_not (n := n) (ps := ps) (who := who) (mill := mill) (by rw [← HGK.out]; exact ht))
          go_wp2_with fail
          refine (l5Copy_any _ (H.out.below HB8.out) hl).mono ?_
          rintro e w9 ⟨g9, c9, rfl, -, ho9, hb9⟩
          have HN := Lib.hid (HKK.out HGN.out g9 c9 w9 (own_down ho9 HB8.out.size) (below_trans HB8.out hb9))
          clear ho9 hb9
          go_wp2
          go_ret2
          exact HN.out
        · have HN := Lib.hid (HT.out _ _ g7 c7 w8 HGK.out HLEN.out ht HO8.out HB8.out)
          go_wp2
          go_ret2
          exact HN.out

theorem giveAt_le (ps : List Par) (who mill : ByteArray) (n : Int) : (giveAt ps who mill n).length ≤ ps.length + 1 := by
  unfold giveAt
  split
  · rw [setSh_length]; omega
  · have := lowAt_le ps who mill
    simp; omega
theorem gaveL_le (ps : List Par) (who mill : ByteArray) (n : Int) : (gaveL ps who mill n).length ≤ 20 := by
  unfold gaveL
  split
  · rename_i hf
    split
    · rename_i hb
      simp only [gaveB, Bool.and_eq_true] at hb
      exact (parts_true hb.2.2).1
    · exact (parts_true hf).1
  · exact Nat.zero_le _
theorem takeAt_le {ps : List Par} {k : Nat} (hk : k < ps.length) (n : Int) : (takeAt ps k n).length ≤ ps.length := by
  unfold takeAt
  split
  · simp; omega
  · rw [setSh_length]; exact Nat.le_refl _
theorem tookL_le (ps : List Par) (who mill : ByteArray) (n : Int) : (tookL ps who mill n).length ≤ 20 := by
  unfold tookL
  split
  · rename_i hf
    have h20 := (parts_true hf).1
    split
    · rename_i hb
      simp only [tookB, Bool.and_eq_true, decide_eq_true_eq] at hb
      obtain ⟨k, e, hk, -⟩ := pfind_hit hb.2.1
      have := takeAt_le hk n
      rw [e]
      exact Nat.le_trans this h20
    · exact h20
  · exact Nat.zero_le _
end Go.Proofs.YtlnnchgaloejlaaGreat
