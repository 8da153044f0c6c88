/-
  Texts joined: WaitT, WaitR.
-/
import Derived.Test.YtlnnchgaloejlaaGreatP4
import Derived.Test.YtlnnchgaloejlaaGreatP11
import Derived.Deep.QuietTactic
import Derived.BigQuiet
namespace Go.Proofs.YtlnnchgaloejlaaGreat
open Go.ChangeShapes Go.WideShapes Go.ChangeAt Go.RowKit

/-- How many are ripe no later. -/
def lowW : List Wai → Int → Nat
  | [], _ => 0
  | p :: r, x => if p.ripe ≤ x then lowW r x + 1 else 0
theorem lowW_le : ∀ (ps : List Wai) (x : Int), lowW ps x ≤ ps.length
  | [], _ => by simp [lowW]
  | p :: r, x => by
    have := lowW_le r x
    simp only [lowW, List.length_cons]
    split <;> omega
theorem lowW_is : ∀ (ps : List Wai) (x : Int) (k : Nat), k ≤ ps.length → (∀ j (h : j < ps.length), j < k → ps[j].ripe ≤ x) → (∀ h : k < ps.length, x < ps[k].ripe) → lowW ps x = k
  | [], _, k, hk, _, _ => by simp at hk; simp [lowW, hk]
  | p :: r, x, 0, _, _, h2 => by
    have := h2 (by simp)
    simp only [List.getElem_cons_zero] at this
    rw [lowW, if_neg (by omega)]
  | p :: r, x, k + 1, hk, h1, h2 => by
    have h0 := h1 0 (by simp) (by omega)
    simp only [List.getElem_cons_zero] at h0
    have := lowW_is r x k (by simpa using hk) (fun j h hj => by have := h1 (j + 1) (by simpa using h) (by omega); simpa using this) (fun h => by have := h2 (by simpa using h); simpa using this)
    rw [lowW, if_pos h0, this]
/-- With that one, behind all that are ripe no later. -/
def putW (ps : List Wai) (q : Wai) : List Wai := ps.take (lowW ps q.ripe) ++ [q] ++ ps.drop (lowW ps q.ripe)
noncomputable def waitingB (ps : List Wai) (q : Wai) : Bool := waitsB ps && waitsB (putW ps q)
noncomputable def waitingL (ps : List Wai) (q : Wai) : List Wai := if waitsB ps = true then (if waitingB ps q = true then putW ps q else ps) else []
section
variable {ps : List Wai} {q : Wai}
theorem waiting_no (h : waitsB ps = false) : waitingB ps q = false ∧ waitingL ps q = [] := by simp [waitingB, waitingL, h]
theorem waiting_keep (h : waitsB ps = true) (hb : waitingB ps q = false) : waitingL ps q = ps := by simp [waitingL, h, hb]
theorem waiting_not (h : waitsB (putW ps q) = false) : waitingB ps q = false := by simp [waitingB, h]
theorem waiting_yes (hf : waitsB ps = true) (h : waitsB (putW ps q) = true) : waitingB ps q = true ∧ waitingL ps q = putW ps q := by
  have h2 : waitingB ps q = true := by simp [waitingB, hf, h]
  exact ⟨h2, by rw [waitingL, if_pos hf, if_pos h2]⟩
end
theorem wsized_mem {ps : List Wai} : WSized ps ↔ ∀ p ∈ ps, p.who.size ≤ maxLen ∧ p.mill.size ≤ maxLen :=
  ⟨fun h p hp => by obtain ⟨k, hk, rfl⟩ := List.getElem_of_mem hp; exact h k hk, fun h k hk => h _ (List.getElem_mem hk)⟩
theorem wsized_put {ps : List Wai} (hs : WSized ps) {q : Wai} (hq : q.who.size ≤ maxLen ∧ q.mill.size ≤ maxLen) (k : Nat) : WSized (ps.take k ++ [q] ++ ps.drop k) := by
  rw [wsized_mem] at hs ⊢
  intro p hp
  simp only [List.mem_append, List.mem_singleton] at hp
  rcases hp with (hp | rfl) | hp
  · exact hs p (List.mem_of_mem_take hp)
  · exact hq
  · exact hs p (List.mem_of_mem_drop hp)
/-- A copy of the first k. -/
theorem copyW_take {w : World} {b off k : Nat} {ps : List Wai} (cap : Nat) (h : Recs Wai.cs w (some ⟨b, off, none⟩) ps) (hk : k ≤ ps.length) (hl : ps.length ≤ 1048576) : ∀ W, Below w.heap.size w W →
    Calls Tryz.prog 134 #[.slice (some ⟨b, off, none⟩) k cap] W fun e w' => ∃ g c, e = .returned (.slice (some ⟨g, 0, none⟩) k c) ∧ w'.ownsRow W.heap.size 74 4 (.slice (some ⟨g, 0, none⟩) k c) k ((ps.take k).flatMap Wai.cs) ∧ Below W.heap.size W w' := by
  intro W hb
  have hlen : (ps.take k).length = k := by simp; omega
  have := l6Copy_any cap ((h.below hb).takeR Wai.len k) (by omega)
  rw [hlen] at this
  refine this.mono ?_
  rintro e w' ⟨g, c, he, -, ho, hb'⟩
  rw [hlen] at he ho
  exact ⟨g, c, he, ho, hb'⟩
/-- 'WaitsOk' of a list that the call owns. -/
theorem okW_own {W : World} {base g c L : Nat} {out : List Wai} (ho : W.ownsRow base 74 4 (.slice (some ⟨g, 0, none⟩) L c) L (out.flatMap Wai.cs)) (hl : out.length = L) (hL : L ≤ 1048577) (hs : WSized out) :
    Calls Tryz.prog 65 #[.slice (some ⟨g, 0, none⟩) L c] W fun e w' => e = .returned (.bool (waitsB out)) ∧ Below W.heap.size W w' := by
  subst hl
  obtain ⟨a, cap, e, hr, -⟩ := ownR_of Wai.len ho
  injection e with e1 e2 e3
  subst e1; subst e3
  exact sWaitsOk_any _ hr.1 (by omega) hs
theorem rec_new (q : Wai) (w : World) : ∀ j u, q.cs[j]? = some u → (w.alloc (.cells #[.string q.who, .string q.mill, .int .i64 q.amount, .int .i64 q.ripe] 74)).cell? ((⟨w.heap.size, 0, none⟩ : Addr).add j) = some u := by
  intro j u hj
  rw [add_plain, Nat.zero_add]
  exact RecAt.new Wai.cs w q 74 j u hj
theorem rec_kept {w w' : World} {vs : List Value} {b : Nat} (h : ∀ j u, vs[j]? = some u → w.cell? ((⟨b, 0, none⟩ : Addr).add j) = some u) (hb : Below w.heap.size w w') : ∀ j u, vs[j]? = some u → w'.cell? ((⟨b, 0, none⟩ : Addr).add j) = some u := by
  intro j u hj
  have := h j u hj
  rw [add_plain] at this ⊢
  rw [hb.cell (p := ⟨b, 0 + j, none⟩) (at_lt this)]; exact this

section
variable {w wz : World} {b off k cap : Nat} {ps : List Wai} {q : Wai}
/-- The copy first, the literal behind it. -/
theorem waitA (h : Recs Wai.cs w (some ⟨b, off, none⟩) ps) (hk : k ≤ ps.length) (hl : ps.length ≤ 1048576) (hb : Below w.heap.size w wz) (hx : RecAt Wai.cs wz w.heap.size q) :
    Calls Tryz.prog 134 #[.slice (some ⟨b, off, none⟩) k cap] wz.drew fun e w4 => ∃ g4 c4, e = .returned (.slice (some ⟨g4, 0, none⟩) k c4) ∧ (w4.alloc (.cells #[.string q.who, .string q.mill, .int .i64 q.amount, .int .i64 q.ripe] 74)).ownsRow w.heap.size 74 4 (.slice (some ⟨g4, 0, none⟩) k c4) k ((ps.take k).flatMap Wai.cs) ∧ Below w.heap.size w (w4.alloc (.cells #[.string q.who, .string q.mill, .int .i64 q.amount, .int .i64 q.ripe] 74)) ∧ w.heap.size ≤ w4.heap.size ∧ RecAt Wai.cs w4 w.heap.size q := by
  refine (copyW_take cap (h.below hb) hk hl wz.drew (below_draws (Below.refl _ _) 1)).mono ?_
  rintro e w4 ⟨g4, c4, rfl, ho4, hb4⟩
  have hb5 := below_trans hb (below_trans (below_draws (Below.refl wz.heap.size wz) 1) hb4)
  exact ⟨g4, c4, rfl, (own_down ho4 hb.size).alloc _, below_trans hb5 (below_new _ _), hb5.size, hx.below (below_trans (below_draws (Below.refl wz.heap.size wz) 1) hb4)⟩
/-- The literal first, the copy behind it. -/
theorem waitB' (h : Recs Wai.cs w (some ⟨b, off, none⟩) ps) (hk : k ≤ ps.length) (hl : ps.length ≤ 1048576) (hb : Below w.heap.size w wz) :
    Calls Tryz.prog 134 #[.slice (some ⟨b, off, none⟩) k cap] (wz.alloc (.cells #[.string q.who, .string q.mill, .int .i64 q.amount, .int .i64 q.ripe] 74)).drew fun e w4 => ∃ g4 c4, e = .returned (.slice (some ⟨g4, 0, none⟩) k c4) ∧ w4.ownsRow w.heap.size 74 4 (.slice (some ⟨g4, 0, none⟩) k c4) k ((ps.take k).flatMap Wai.cs) ∧ Below w.heap.size w w4 ∧ w.heap.size ≤ w4.heap.size ∧ ∀ j u, q.cs[j]? = some u → w4.cell? ((⟨wz.heap.size, 0, none⟩ : Addr).add j) = some u := by
  have hb1 : Below wz.heap.size wz (wz.alloc (.cells #[.string q.who, .string q.mill, .int .i64 q.amount, .int .i64 q.ripe] 74)).drew := below_draws (below_new _ _) 1
  refine (copyW_take cap (h.below hb) hk hl _ hb1).mono ?_
  rintro e w4 ⟨g4, c4, rfl, ho4, hb4⟩
  have hb5 := below_trans (below_trans hb hb1) hb4
  exact ⟨g4, c4, rfl, own_down ho4 (Nat.le_trans hb.size hb1.size), hb5, hb5.size, rec_kept (w := (wz.alloc (.cells #[.string q.who, .string q.mill, .int .i64 q.amount, .int .i64 q.ripe] 74)).drew) (rec_new q wz) hb4⟩
end

set_option maxHeartbeats 8000000 in
set_option maxRecDepth 100000 in
theorem sWaiting_any {w : World} {b off : Nat} {ps : List Wai} (cap : Nat) (q : Wai) (h : Recs Wai.cs w (some ⟨b, off, none⟩) ps) (hc : ps.length ≤ cap) (hl : ps.length ≤ 1048576) (hs : WSized ps) (hq : q.who.size ≤ maxLen ∧ q.mill.size ≤ maxLen) :
    Calls Tryz.prog 93 #[.slice (some ⟨b, off, none⟩) ps.length cap, .agg #[.string q.who, .string q.mill, .int .i64 q.amount, .int .i64 q.ripe]] w (ResRB Wai.cs 4 74 (waitingL ps q) (waitingB ps q) w) := by
  have H := Lib.hid h
  have HS := Lib.hid hs
  have HQS := Lib.hid hq
  clear h hs hq
  obtain ⟨i0, hi, hz0, hz1, hz2⟩ := info_parts info_Wait
  have HI := Lib.hid hi
  have HZ0 := Lib.hid hz0
  have HZ1 := Lib.hid hz1
  have HZ2 := Lib.hid hz2
  clear hi hz0 hz1 hz2
  have HB0 := Lib.hid (below_new w (.cells #[.string q.who, .string q.mill, .int .i64 q.amount, .int .i64 q.ripe] 74))
  have HX0 := Lib.hid (show RecAt Wai.cs (w.alloc (.cells #[.string q.who, .string q.mill, .int .i64 q.amount, .int .i64 q.ripe] 74)) w.heap.size q from RecAt.new Wai.cs w q 74)
  go_enter Tryz.func93, Tryz.ntmps93
  go_wp2_with fail
  refine (sWaitsOk_any _ (H.out.below HB0.out) (by omega) HS.out).mono ?_
  rintro e w1 ⟨rfl, hb1⟩
  have HB1 := Lib.hid (below_trans HB0.out hb1)
  have HX1 := Lib.hid (HX0.out.below hb1)
  have hle1 : w.heap.size ≤ w1.heap.size := HB1.out.size
  clear hb1 HB0 HX0
  cases hf : waitsB ps
  · have HN := Lib.hid (show ResRB Wai.cs 4 74 (waitingL ps q) (waitingB ps q) w (.returned (.tuple #[.slice (some ⟨w1.heap.size, 0, none⟩) 0 0, .bool false])) (w1.alloc (.cells #[] 74)) from by
      rw [(waiting_no hf).1, (waiting_no hf).2]
      exact ⟨w1.heap.size, 0, rfl, ⟨rfl, .inr ⟨w1.heap.size, 0, #[], rfl, hle1, heap_alloc_new _ _, Nat.le_refl _, Nat.zero_le _, rfl, rfl⟩⟩, below_trans HB1.out (below_new _ _)⟩)
    go_wp2
    go_ret2
    exact HN.out
  have h20 := (waits_true hf).1
  have HKK : Hid (waitingB ps q = false → ∀ g c W, W.ownsRow w.heap.size 74 4 (.slice (some ⟨g, 0, none⟩) ps.length c) ps.length (ps.flatMap Wai.cs) → Below w.heap.size w W → ResRB Wai.cs 4 74 (waitingL ps q) (waitingB ps q) w (.returned (.tuple #[.slice (some ⟨g, 0, none⟩) ps.length c, .bool false])) W) := by
    intro hb g c W ho hbw
    rw [waiting_keep hf hb, hb]
    exact ⟨g, c, rfl, ho, hbw⟩
  have HT : Hid (∀ (out : List Wai) (L g c : Nat) (W : World), out = putW ps q → out.length = L → waitsB out = true → W.ownsRow w.heap.size 74 4 (.slice (some ⟨g, 0, none⟩) L c) L (out.flatMap Wai.cs) → Below w.heap.size w W → ResRB Wai.cs 4 74 (waitingL ps q) (waitingB ps q) w (.returned (.tuple #[.slice (some ⟨g, 0, none⟩) L c, .bool true])) W) := by
    rintro out L g c W rfl rfl ht ho hbw
    rw [(waiting_yes hf ht).1, (waiting_yes hf ht).2]
    exact ⟨g, c, rfl, ho, hbw⟩
  go_wp2_with fail
  go_loopw [6] (fun i w' => ∃ k : Nat, k ≤ ps.length ∧ i = .int .i64 k ∧ Below w.heap.size w w' ∧ RecAt Wai.cs w' w.heap.size q ∧ ∀ j (h : j < ps.length), j < k → ps[j].ripe ≤ q.ripe) (fun i _ => ps.length - (intOf i).toNat)
  case atStart => exact ⟨0, Nat.zero_le _, rfl, HB1.out, HX1.out, fun _ _ h => by omega⟩
  case round =>
    obtain ⟨k, hk, rfl, hb, hx, hu⟩ := hrel
    have HBr := Lib.hid hb
    have HXr := Lib.hid hx
    have HU := Lib.hid hu
    clear hb hx hu HB1 HX1
    have HEND : Hid ((∀ h : k < ps.length, q.ripe < ps[k].ripe) → lowW ps q.ripe = k) := fun h => lowW_is ps q.ripe k hk HU.out h
    have y3 := HXr.out 3 _ rfl
    by_cases hlt : k < ps.length
    · obtain ⟨b', off', e', hlb, c0, c1, c2, c3⟩ := Wai.at (H.out.below HBr.out) k hlt
      injection e' with e'; injection e' with e1 e2; subst e1; subst e2
      by_cases hq : ps[k].ripe ≤ q.ripe
      · have HUN : Hid (∀ j (h : j < ps.length), j < k + 1 → ps[j].ripe ≤ q.ripe) := by
          intro j h hj
          by_cases e : j = k
          · subst e; exact hq
          · exact HU.out j h (by omega)
        go_wp2_with fail
        go_quiet (fail)
        go_wp2
        go_roundw
        case rel => exact ⟨k + 1, by omega, by go_num, below_draws HBr.out _, HXr.out, HUN.out⟩
        case measure => simp [intOf]; omega
      · have HLO := Lib.hid (HEND.out (fun _ => by omega))
        obtain ⟨AD, hA, hnw⟩ := from_at Wai.len cap H.out hk hc
        have HNW := Lib.hid hnw
        clear hnw
        have hq' : decide (ps[k].ripe ≤ q.ripe) = false := by simpa using hq
        go_wp2_with fail
        go_quiet (fail)
        have HB := Lib.hid (below_draws HBr.out nq)
        have HBOX := Lib.hid (show RecAt Wai.cs (wr.drewN nq) w.heap.size q from HXr.out)
        clear HBr HXr y3 c0 c1 c2 c3
        generalize wr.drewN nq = wz at HB HBOX ⊢
        have HCA := Lib.hid (waitA (cap := cap) H.out hk hl HB.out HBOX.out)
        have HCB := Lib.hid (waitB' (cap := cap) (q := q) H.out hk hl HB.out)
        have HGK := Lib.hid (show ps.take k ++ [q] ++ ps.drop k = putW ps q by rw [putW, HLO.out])
        have HLEN := Lib.hid (show (ps.take k ++ [q] ++ ps.drop k).length = k + 1 + (ps.length - k) by simp; omega)
        have HPUT : Hid (∀ (g6 c6 : Nat) (w6 : World), w6.ownsRow w.heap.size 74 4 (.slice (some ⟨g6, 0, none⟩) (k + 1 + (ps.length - k)) c6) (k + 1 + (ps.length - k)) ((ps.take k).flatMap Wai.cs ++ q.cs ++ (ps.drop k).flatMap Wai.cs) → w6.ownsRow w.heap.size 74 4 (.slice (some ⟨g6, 0, none⟩) (k + 1 + (ps.length - k)) c6) (k + 1 + (ps.length - k)) ((ps.take k ++ [q] ++ ps.drop k).flatMap Wai.cs)) := by
          intro g6 c6 w6 h6
          rw [List.flatMap_append, List.flatMap_append, List.flatMap_singleton]; exact h6
        have z0 := HBOX.out 0 _ rfl
        have z1 := HBOX.out 1 _ rfl
        have z2 := HBOX.out 2 _ rfl
        have z3 := HBOX.out 3 _ rfl
        have hkc : k ≤ cap := by omega
        have hwz : w.heap.size ≤ wz.heap.size := HB.out.size
        go_wp2_with fail
        go_region_law (first
          | (refine step_append_some rfl (.tmp 31) (.tmp 33) 27 rfl w.heap.size 74 i0 (.agg #[.string ByteArray.empty, .string ByteArray.empty, .int .i64 0, .int .i64 0]) 4 48 Tryz.underlying27 HI.out HZ0.out HZ1.out HZ2.out rfl (by decide) g4 c4 k ((ps.take k).flatMap Wai.cs) (by simp [Act.eval]) HO4b.out ⟨w4.heap.size, 0, none⟩ 1 1 q.cs (by simp [Act.eval]) rfl HN4b.out (Wai.one _) (by unfold maxLen; omega) (by omega) ?_; rintro g5 c5 w5 ⟨h5, h5g, h5b, h5l, h5x⟩; have HO5 := Lib.hid h5; have HB5 := Lib.hid (bgrown HB4b.out (by omega) h5g (by intro z hz; injection hz with hz; omega)); clear h5 h5g h5b h5l h5x)
          | (refine step_append_some rfl (.tmp 31) (.tmp 33) 27 rfl w.heap.size 74 i0 (.agg #[.string ByteArray.empty, .string ByteArray.empty, .int .i64 0, .int .i64 0]) 4 48 Tryz.underlying27 HI.out HZ0.out HZ1.out HZ2.out rfl (by decide) g4 c4 k ((ps.take k).flatMap Wai.cs) (by simp [Act.eval]) HO4.out ⟨wz.heap.size, 0, none⟩ 1 1 q.cs (by simp [Act.eval]) rfl HN4.out (Wai.one _) (by unfold maxLen; omega) (by omega) ?_; rintro g5 c5 w5 ⟨h5, h5g, h5b, h5l, h5x⟩; have HO5 := Lib.hid h5; have HB5 := Lib.hid (bgrown HB4.out (by omega) h5g (by intro z hz; injection hz with hz; omega)); clear h5 h5g h5b h5l h5x)
          | (refine step_append_some rfl (.tmp 34) (.tmp 37) 27 rfl w.heap.size 74 i0 (.agg #[.string ByteArray.empty, .string ByteArray.empty, .int .i64 0, .int .i64 0]) 4 48 Tryz.underlying27 HI.out HZ0.out HZ1.out HZ2.out rfl (by decide) g5 c5 (k + 1) ((ps.take k).flatMap Wai.cs ++ q.cs) (by simp [Act.eval]) HO5.out AD (ps.length - k) (cap - k) ((ps.drop k).flatMap Wai.cs) (by simp [Act.eval]) (by rw [flat_length Wai.len]; simp) (HNW.out _ HB5.out) (flat_one Wai.one _) (by unfold maxLen; omega) (by omega) ?_; rintro g6 c6 w6 ⟨h6, h6g, h6b, h6l, h6x⟩; have HO6 := Lib.hid (HPUT.out g6 c6 w6 h6); have HB6 := Lib.hid (bgrown HB5.out (by omega) h6g (by intro z hz; injection hz with hz; omega)); clear h6 h6g h6b h6l h6x)
          | (go_simp; go_at_call 134; first
            | ((with_reducible refine (HCA.out).mono ?_); rintro e w4 ⟨g4, c4, rfl, ho4, hb4, hw4, hx4⟩; have HO4b := Lib.hid ho4; have HB4b := Lib.hid hb4; have HN4b := Lib.hid (rec_new q w4); have x0 := hx4 0 _ rfl; have x1 := hx4 1 _ rfl; have x2 := hx4 2 _ rfl; have x3 := hx4 3 _ rfl; clear ho4 hb4 hx4)
            | ((with_reducible refine (HCB.out).mono ?_); rintro e w4 ⟨g4, c4, rfl, ho4, hb4, hw4, hn4⟩; have HO4 := Lib.hid ho4; have HB4 := Lib.hid hb4; have HN4 := Lib.hid hn4; clear ho4 hb4 hn4)))
        all_goals
          go_wp2_with fail
          refine (okW_own HO6.out HLEN.out (by omega) (wsized_put HS.out HQS.out k)).mono ?_
          rintro e w8 ⟨rfl, hb8⟩
          have HO8 := Lib.hid (own_below HO6.out hb8)
          have HB8 := Lib.hid (below_trans HB6.out hb8)
          clear hb8
          cases ht : waitsB (ps.take k ++ [q] ++ ps.drop k)
          · have HGN := Lib.hid (waiting_not (ps := ps) (q := q) (by rw [← HGK.out]; exact ht))
            go_wp2_with fail
            refine (l6Copy_any _ (H.out.below HB8.out) hl).mono ?_
            rintro e w9 ⟨g9, c9, rfl, -, ho9, hb9⟩
            have HN := Lib.hid (HKK.out HGN.out g9 c9 w9 (own_down ho9 HB8.out.size) (below_trans HB8.out hb9))
            clear ho9 hb9
            go_wp2
            go_ret2
            exact HN.out
          · have HN := Lib.hid (HT.out _ _ g6 c6 w8 HGK.out HLEN.out ht HO8.out HB8.out)
            go_wp2
            go_ret2
            exact HN.out
    · have HLO := Lib.hid (HEND.out (fun h => absurd h hlt))
      obtain ⟨AD, hA, hnw⟩ := from_at Wai.len cap H.out hk hc
      have HNW := Lib.hid hnw
      clear hnw
      have hd : decide ((k : Int) < (ps.length : Int)) = false := by simp; omega
      go_wp2_with fail
      go_quiet (fail)
      have HB := Lib.hid (below_draws HBr.out nq)
      have HBOX := Lib.hid (show RecAt Wai.cs (wr.drewN nq) w.heap.size q from HXr.out)
      clear HBr HXr y3 
      generalize wr.drewN nq = wz at HB HBOX ⊢
      have HCA := Lib.hid (waitA (cap := cap) H.out hk hl HB.out HBOX.out)
      have HCB := Lib.hid (waitB' (cap := cap) (q := q) H.out hk hl HB.out)
      have HGK := Lib.hid (show ps.take k ++ [q] ++ ps.drop k = putW ps q by rw [putW, HLO.out])
      have HLEN := Lib.hid (show (ps.take k ++ [q] ++ ps.drop k).length = k + 1 + (ps.length - k) by simp; omega)
      have HPUT : Hid (∀ (g6 c6 : Nat) (w6 : World), w6.ownsRow w.heap.size 74 4 (.slice (some ⟨g6, 0, none⟩) (k + 1 + (ps.length - k)) c6) (k + 1 + (ps.length - k)) ((ps.take k).flatMap Wai.cs ++ q.cs ++ (ps.drop k).flatMap Wai.cs) → w6.ownsRow w.heap.size 74 4 (.slice (some ⟨g6, 0, none⟩) (k + 1 + (ps.length - k)) c6) (k + 1 + (ps.length - k)) ((ps.take k ++ [q] ++ ps.drop k).flatMap Wai.cs)) := by
        intro g6 c6 w6 h6
        rw [List.flatMap_append, List.flatMap_append, List.flatMap_singleton]; exact h6
      have z0 := HBOX.out 0 _ rfl
      have z1 := HBOX.out 1 _ rfl
      have z2 := HBOX.out 2 _ rfl
      have z3 := HBOX.out 3 _ rfl
      have hkc : k ≤ cap := by omega
      have hwz : w.heap.size ≤ wz.heap.size := HB.out.size
      go_wp2_with fail
      go_region_law (first
        | (refine step_append_some rfl (.tmp 31) (.tmp 33) 27 rfl w.heap.size 74 i0 (.agg #[.string ByteArray.empty, .string ByteArray.empty, .int .i64 0, .int .i64 0]) 4 48 Tryz.underlying27 HI.out HZ0.out HZ1.out HZ2.out rfl (by decide) g4 c4 k ((ps.take k).flatMap Wai.cs) (by simp [Act.eval]) HO4b.out ⟨w4.heap.size, 0, none⟩ 1 1 q.cs (by simp [Act.eval]) rfl HN4b.out (Wai.one _) (by unfold maxLen; omega) (by omega) ?_; rintro g5 c5 w5 ⟨h5, h5g, h5b, h5l, h5x⟩; have HO5 := Lib.hid h5; have HB5 := Lib.hid (bgrown HB4b.out (by omega) h5g (by intro z hz; injection hz with hz; omega)); clear h5 h5g h5b h5l h5x)
        | (refine step_append_some rfl (.tmp 31) (.tmp 33) 27 rfl w.heap.size 74 i0 (.agg #[.string ByteArray.empty, .string ByteArray.empty, .int .i64 0, .int .i64 0]) 4 48 Tryz.underlying27 HI.out HZ0.out HZ1.out HZ2.out rfl (by decide) g4 c4 k ((ps.take k).flatMap Wai.cs) (by simp [Act.eval]) HO4.out ⟨wz.heap.size, 0, none⟩ 1 1 q.cs (by simp [Act.eval]) rfl HN4.out (Wai.one _) (by unfold maxLen; omega) (by omega) ?_; rintro g5 c5 w5 ⟨h5, h5g, h5b, h5l, h5x⟩; have HO5 := Lib.hid h5; have HB5 := Lib.hid (bgrown HB4.out (by omega) h5g (by intro z hz; injection hz with hz; omega)); clear h5 h5g h5b h5l h5x)
        | (refine step_append_some rfl (.tmp 34) (.tmp 37) 27 rfl w.heap.size 74 i0 (.agg #[.string ByteArray.empty, .string ByteArray.empty, .int .i64 0, .int .i64 0]) 4 48 Tryz.underlying27 HI.out HZ0.out HZ1.out HZ2.out rfl (by decide) g5 c5 (k + 1) ((ps.take k).flatMap Wai.cs ++ q.cs) (by simp [Act.eval]) HO5.out AD (ps.length - k) (cap - k) ((ps.drop k).flatMap Wai.cs) (by simp [Act.eval]) (by rw [flat_length Wai.len]; simp) (HNW.out _ HB5.out) (flat_one Wai.one _) (by unfold maxLen; omega) (by omega) ?_; rintro g6 c6 w6 ⟨h6, h6g, h6b, h6l, h6x⟩; have HO6 := Lib.hid (HPUT.out g6 c6 w6 h6); have HB6 := Lib.hid (bgrown HB5.out (by omega) h6g (by intro z hz; injection hz with hz; omega)); clear h6 h6g h6b h6l h6x)
        | (go_simp; go_at_call 134; first
          | ((with_reducible refine (HCA.out).mono ?_); rintro e w4 ⟨g4, c4, rfl, ho4, hb4, hw4, hx4⟩; have HO4b := Lib.hid ho4; have HB4b := Lib.hid hb4; have HN4b := Lib.hid (rec_new q w4); have x0 := hx4 0 _ rfl; have x1 := hx4 1 _ rfl; have x2 := hx4 2 _ rfl; have x3 := hx4 3 _ rfl; clear ho4 hb4 hx4)
          | ((with_reducible refine (HCB.out).mono ?_); rintro e w4 ⟨g4, c4, rfl, ho4, hb4, hw4, hn4⟩; have HO4 := Lib.hid ho4; have HB4 := Lib.hid hb4; have HN4 := Lib.hid hn4; clear ho4 hb4 hn4)))
      all_goals
        go_wp2_with fail
        refine (okW_own HO6.out HLEN.out (by omega) (wsized_put HS.out HQS.out k)).mono ?_
        rintro e w8 ⟨rfl, hb8⟩
        have HO8 := Lib.hid (own_below HO6.out hb8)
        have HB8 := Lib.hid (below_trans HB6.out hb8)
        clear hb8
        cases ht : waitsB (ps.take k ++ [q] ++ ps.drop k)
        · have HGN := Lib.hid (waiting_not (ps := ps) (q := q) (by rw [← HGK.out]; exact ht))
          go_wp2_with fail
          refine (l6Copy_any _ (H.out.below HB8.out) hl).mono ?_
          rintro e w9 ⟨g9, c9, rfl, -, ho9, hb9⟩
          have HN := Lib.hid (HKK.out HGN.out g9 c9 w9 (own_down ho9 HB8.out.size) (below_trans HB8.out hb9))
          clear ho9 hb9
          go_wp2
          go_ret2
          exact HN.out
        · have HN := Lib.hid (HT.out _ _ g6 c6 w8 HGK.out HLEN.out ht HO8.out HB8.out)
          go_wp2
          go_ret2
          exact HN.out
end Go.Proofs.YtlnnchgaloejlaaGreat
namespace Go.Proofs.YtlnnchgaloejlaaGreat
open Go.ChangeShapes Go.WideShapes Go.ChangeAt Go.RowKit

/-- Those that are ripe later, and those that are not. -/
def laterOf (season : Int) (ps : List Wai) : List Wai := ps.filter fun p => decide (season < p.ripe)
def ripeOf (season : Int) (ps : List Wai) : List Wai := ps.filter fun p => !decide (season < p.ripe)
noncomputable def laterV (ps : List Wai) (season : Int) : List Wai := if waitsB ps = true then laterOf season ps else []
noncomputable def ripeV (ps : List Wai) (season : Int) : List Wai := if waitsB ps = true then ripeOf season ps else []
theorem later_yes {ps : List Wai} {season : Int} {k : Nat} (h : k < ps.length) (hq : season < ps[k].ripe) : laterOf season (ps.take (k + 1)) = laterOf season (ps.take k) ++ [ps[k]] ∧ ripeOf season (ps.take (k + 1)) = ripeOf season (ps.take k) := by
  unfold laterOf ripeOf
  rw [List.take_succ_eq_append_getElem h, List.filter_append, List.filter_append]
  simp [hq]
theorem later_no {ps : List Wai} {season : Int} {k : Nat} (h : k < ps.length) (hq : ¬ season < ps[k].ripe) : laterOf season (ps.take (k + 1)) = laterOf season (ps.take k) ∧ ripeOf season (ps.take (k + 1)) = ripeOf season (ps.take k) ++ [ps[k]] := by
  unfold laterOf ripeOf
  rw [List.take_succ_eq_append_getElem h, List.filter_append, List.filter_append]
  simp [hq]
theorem later_le (season : Int) (ps : List Wai) : (laterOf season ps).length ≤ ps.length := List.length_filter_le _ _
theorem ripe_le (season : Int) (ps : List Wai) : (ripeOf season ps).length ≤ ps.length := List.length_filter_le _ _

/-- The loop's word. -/
def RipeRel (w : World) (ps : List Wai) (season : Int) (v u i : Value) (wr : World) : Prop :=
  ∃ k g1 c1 g2 c2 : Nat, k ≤ ps.length ∧ i = .int .i64 k ∧ v = .slice (some ⟨g1, 0, none⟩) (laterOf season (ps.take k)).length c1 ∧ u = .slice (some ⟨g2, 0, none⟩) (ripeOf season (ps.take k)).length c2 ∧ g1 ≠ g2 ∧
    wr.ownsRow w.heap.size 74 4 (.slice (some ⟨g1, 0, none⟩) (laterOf season (ps.take k)).length c1) (laterOf season (ps.take k)).length ((laterOf season (ps.take k)).flatMap Wai.cs) ∧
    wr.ownsRow w.heap.size 74 4 (.slice (some ⟨g2, 0, none⟩) (ripeOf season (ps.take k)).length c2) (ripeOf season (ps.take k)).length ((ripeOf season (ps.take k)).flatMap Wai.cs) ∧ Below w.heap.size w wr ∧ (k = 0 ∨ waitsB ps = true)
/-- Two lists of the call's own, apart, each in a block that is known. -/
def ResSS (o1 o2 : List Wai) (w : World) (e : Ending) (w' : World) : Prop :=
  ∃ g1 c1 g2 c2, e = .returned (.tuple #[.slice (some ⟨g1, 0, none⟩) o1.length c1, .slice (some ⟨g2, 0, none⟩) o2.length c2]) ∧ OwnR Wai.cs 4 w' w.heap.size (some ⟨g1, 0, none⟩) o1 ∧ OwnR Wai.cs 4 w' w.heap.size (some ⟨g2, 0, none⟩) o2 ∧ g1 ≠ g2 ∧ o1.length ≤ c1 ∧ o2.length ≤ c2 ∧ w.heap.size ≤ g1 ∧ w.heap.size ≤ g2 ∧ Below w.heap.size w w'
theorem resOO_of {w w' : World} {g1 c1 g2 c2 : Nat} {o1 o2 : List Wai} (h1 : w'.ownsRow w.heap.size 74 4 (.slice (some ⟨g1, 0, none⟩) o1.length c1) o1.length (o1.flatMap Wai.cs)) (h2 : w'.ownsRow w.heap.size 74 4 (.slice (some ⟨g2, 0, none⟩) o2.length c2) o2.length (o2.flatMap Wai.cs)) (hne : g1 ≠ g2) (hb : Below w.heap.size w w') :
    ResSS o1 o2 w (.returned (.tuple #[.slice (some ⟨g1, 0, none⟩) o1.length c1, .slice (some ⟨g2, 0, none⟩) o2.length c2])) w' := by
  have p1 := own_some h1
  have p2 := own_some h2
  obtain ⟨a1, k1, e1, r1, -⟩ := ownR_of Wai.len h1
  obtain ⟨a2, k2, e2, r2, -⟩ := ownR_of Wai.len h2
  injection e1 with e1 _ e3
  injection e2 with e2 _ e4
  subst e1; subst e3; subst e2; subst e4
  exact ⟨_, _, _, _, rfl, r1, r2, hne, p1.2.1, p2.2.1, p1.2.2.2.1, p2.2.2.2.1, hb⟩

set_option maxHeartbeats 4000000 in
set_option maxRecDepth 100000 in
theorem sRipeAt_sol {w : World} {a : Option Addr} {ps : List Wai} (cap : Nat) (season : Int) (h : Recs Wai.cs w a ps) (hl : ps.length ≤ 1048576) (hs : WSized ps) :
    Calls Tryz.prog 158 #[.slice a ps.length cap, .int .i64 season] w (ResSS (laterV ps season) (ripeV ps season) w) := by
  have H := Lib.hid h
  have HS := Lib.hid hs
  clear h hs
  obtain ⟨i0, hi, hz0, hz1, hz2⟩ := info_parts info_Wait
  have HI := Lib.hid hi
  have HZ0 := Lib.hid hz0
  have HZ1 := Lib.hid hz1
  have HZ2 := Lib.hid hz2
  clear hi hz0 hz1 hz2
  have HR0 : Hid (RipeRel w ps season (.slice (some ⟨w.heap.size, 0, none⟩) 0 0) (.slice (some ⟨w.heap.size + 1, 0, none⟩) 0 0) (.int .i64 0) ((w.alloc (.cells #[] 74)).alloc (.cells #[] 74))) := by
    have o1 : (w.alloc (.cells #[] 74)).ownsRow w.heap.size 74 4 (.slice (some ⟨w.heap.size, 0, none⟩) 0 0) 0 [] := ⟨rfl, .inr ⟨w.heap.size, 0, #[], rfl, Nat.le_refl _, heap_alloc_new _ _, Nat.le_refl _, Nat.zero_le _, rfl, rfl⟩⟩
    have o2 : ((w.alloc (.cells #[] 74)).alloc (.cells #[] 74)).ownsRow w.heap.size 74 4 (.slice (some ⟨(w.alloc (.cells #[] 74)).heap.size, 0, none⟩) 0 0) 0 [] := ⟨rfl, .inr ⟨_, 0, #[], rfl, by simp, heap_alloc_new _ _, Nat.le_refl _, Nat.zero_le _, rfl, rfl⟩⟩
    refine ⟨0, w.heap.size, 0, w.heap.size + 1, 0, Nat.zero_le _, rfl, by simp [laterOf], by simp [ripeOf], by omega, by simpa [laterOf] using o1.alloc _, by simpa [ripeOf] using o2, below_trans (below_new _ _) (below_new _ _), .inl rfl⟩
  go_enter Tryz.func158, Tryz.ntmps158
  go_wp2_with fail
  go_loopw [6, 7, 8] (fun v u i wr => RipeRel w ps season v u i wr) (fun _ _ i _ => ps.length - (intOf i).toNat)
  case atStart => exact HR0.out
  case round =>
    clear HR0
    obtain ⟨k, g1, c1, g2, c2, hk, rfl, rfl, rfl, hne, ho1, ho2, hb, hor⟩ := hrel
    have HO1 := Lib.hid ho1
    have HO2 := Lib.hid ho2
    have HB := Lib.hid hb
    have HOR := Lib.hid hor
    clear ho1 ho2 hb hor
    by_cases hlt : k < ps.length
    · go_wp2_with fail
      refine (sWaitsOk_any _ (H.out.below HB.out) (by omega) HS.out).mono ?_
      rintro e w2 ⟨rfl, hb2⟩
      have HP1 := Lib.hid (own_below HO1.out hb2)
      have HP2 := Lib.hid (own_below HO2.out hb2)
      have HB2 := Lib.hid (below_trans HB.out hb2)
      clear hb2 HO1 HO2 HB
      cases hf : waitsB ps
      · have HK := Lib.hid (show k = 0 from by rcases HOR.out with h | h; exact h; rw [h] at hf; cases hf)
        have HD : Hid (ResSS (laterV ps season) (ripeV ps season) w (.returned (.tuple #[.slice (some ⟨g1, 0, none⟩) (laterOf season (ps.take k)).length c1, .slice (some ⟨g2, 0, none⟩) (ripeOf season (ps.take k)).length c2])) w2) := by
          have h1 := HP1.out
          have h2 := HP2.out
          have e1 : laterV ps season = laterOf season (ps.take k) := by rw [HK.out]; simp [laterV, hf, laterOf]
          have e2 : ripeV ps season = ripeOf season (ps.take k) := by rw [HK.out]; simp [ripeV, hf, ripeOf]
          rw [e1, e2]
          exact resOO_of h1 h2 hne HB2.out
        go_wp2
        go_ret2
        exact HD.out
      · obtain ⟨b, off, rfl, hlb, d0, d1, d2, d3⟩ := Wai.at (H.out.below HB2.out) k hlt
        have hle2 : w.heap.size ≤ w2.heap.size := HB2.out.size
        obtain ⟨-, -, -, hg1, hx1⟩ := own_some HP1.out
        obtain ⟨-, -, -, hg2, hx2⟩ := own_some HP2.out
        have hlk : (ps.take k).length = k := by simp; omega
        have HN1 := Lib.hid (rec_new ps[k] w2)
        have HA1 := Lib.hid (HP1.out.alloc (.cells #[.string ps[k].who, .string ps[k].mill, .int .i64 ps[k].amount, .int .i64 ps[k].ripe] 74))
        have HA2 := Lib.hid (HP2.out.alloc (.cells #[.string ps[k].who, .string ps[k].mill, .int .i64 ps[k].amount, .int .i64 ps[k].ripe] 74))
        have HBN := Lib.hid (below_trans HB2.out (below_new w2 (.cells #[.string ps[k].who, .string ps[k].mill, .int .i64 ps[k].amount, .int .i64 ps[k].ripe] 74)))
        have hl1 := later_le season (ps.take k)
        have hl2 := ripe_le season (ps.take k)
        rw [hlk] at hl1 hl2
        by_cases hq : season < ps[k].ripe
        · have HY := Lib.hid (later_yes hlt hq)
          go_wp2_with (at_builtin; refine wpList_append_some rfl _ _ 27 rfl w.heap.size 74 i0 (.agg #[.string ByteArray.empty, .string ByteArray.empty, .int .i64 0, .int .i64 0]) 4 48 Tryz.underlying27 HI.out HZ0.out HZ1.out HZ2.out rfl (by decide) g1 c1 _ _ rfl HA1.out ⟨w2.heap.size, 0, none⟩ 1 1 ps[k].cs rfl rfl HN1.out (Wai.one _) ?c2 ?c3 ?_)
          case c2 => unfold maxLen; omega
          case c3 => omega
          rintro g6 c6 w6 ⟨h6, h6g, h6b, h6l, h6x, h6y⟩
          have HR : Hid (RipeRel w ps season (.slice (some ⟨g6, 0, none⟩) ((laterOf season (ps.take k)).length + 1) c6) (.slice (some ⟨g2, 0, none⟩) (ripeOf season (ps.take k)).length c2) (.int .i64 ((k : Int) + 1)) w6) := by
            have hne6 : g6 ≠ g2 := by
              rcases h6y with e | e
              · omega
              · simp at e; omega
            refine ⟨k + 1, g6, c6, g2, c2, by omega, by go_num, ?_, ?_, hne6, ?_, ?_, bgrown HBN.out (by simp; omega) h6g (by intro z hz; injection hz with hz; omega), .inr hf⟩
            · rw [HY.out.1, List.length_append]; rfl
            · rw [HY.out.2]
            · rw [HY.out.1, List.length_append, List.flatMap_append, List.flatMap_singleton]; exact h6
            · rw [HY.out.2]; exact HA2.out.kept h6g (.inr (by intro e; injection e with e; exact hne e.symm))
          clear h6 h6g h6b h6l h6x h6y
          go_wp2
          go_roundw
          case rel => first | exact HR.out | (have := HR.out; simpa using this)
          case measure => simp [intOf]; omega
        · have HY := Lib.hid (later_no hlt hq)
          go_wp2_with (at_builtin; refine wpList_append_some rfl _ _ 27 rfl w.heap.size 74 i0 (.agg #[.string ByteArray.empty, .string ByteArray.empty, .int .i64 0, .int .i64 0]) 4 48 Tryz.underlying27 HI.out HZ0.out HZ1.out HZ2.out rfl (by decide) g2 c2 _ _ rfl HA2.out ⟨w2.heap.size, 0, none⟩ 1 1 ps[k].cs rfl rfl HN1.out (Wai.one _) ?c2 ?c3 ?_)
          case c2 => unfold maxLen; omega
          case c3 => omega
          rintro g6 c6 w6 ⟨h6, h6g, h6b, h6l, h6x, h6y⟩
          have HR : Hid (RipeRel w ps season (.slice (some ⟨g1, 0, none⟩) (laterOf season (ps.take k)).length c1) (.slice (some ⟨g6, 0, none⟩) ((ripeOf season (ps.take k)).length + 1) c6) (.int .i64 ((k : Int) + 1)) w6) := by
            have hne6 : g1 ≠ g6 := by
              rcases h6y with e | e
              · omega
              · simp at e; omega
            refine ⟨k + 1, g1, c1, g6, c6, by omega, by go_num, ?_, ?_, hne6, ?_, ?_, bgrown HBN.out (by simp; omega) h6g (by intro z hz; injection hz with hz; omega), .inr hf⟩
            · rw [HY.out.1]
            · rw [HY.out.2, List.length_append]; rfl
            · rw [HY.out.1]; exact HA1.out.kept h6g (.inr (by intro e; injection e with e; exact hne e))
            · rw [HY.out.2, List.length_append, List.flatMap_append, List.flatMap_singleton]; exact h6
          clear h6 h6g h6b h6l h6x h6y
          go_wp2
          go_roundw
          case rel => first | exact HR.out | (have := HR.out; simpa using this)
          case measure => simp [intOf]; omega
    · obtain rfl : k = ps.length := by omega
      have HD : Hid (ResSS (laterV ps season) (ripeV ps season) w (.returned (.tuple #[.slice (some ⟨g1, 0, none⟩) (laterOf season (ps.take ps.length)).length c1, .slice (some ⟨g2, 0, none⟩) (ripeOf season (ps.take ps.length)).length c2])) wr) := by
        have e1 : laterV ps season = laterOf season (ps.take ps.length) := by
          rcases HOR.out with h0 | h1
          · have : ps = [] := List.eq_nil_of_length_eq_zero h0
            subst this; simp [laterV, laterOf]
          · simp [laterV, h1]
        have e2 : ripeV ps season = ripeOf season (ps.take ps.length) := by
          rcases HOR.out with h0 | h1
          · have : ps = [] := List.eq_nil_of_length_eq_zero h0
            subst this; simp [ripeV, ripeOf]
          · simp [ripeV, h1]
        rw [e1, e2]
        exact resOO_of HO1.out HO2.out hne HB.out
      go_wp2
      go_ret2
      exact HD.out
end Go.Proofs.YtlnnchgaloejlaaGreat
