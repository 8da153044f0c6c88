/-
  What chapter 3's Paid and Spent answer, the model's and the program's: a list of the call's own.
-/
import Derived.Test.YtoejbeppegannaaFolkF
import Derived.Maps.AppendAt
namespace Go.Proofs.Ytoejbeppegannaa
open Go.ChangeShapes Go.WideShapes Go.ChangeAt Go.RowKit

/-- Free of number k is v. -/
def setFree : List Pur → Nat → Int → List Pur
  | [], _, _ => []
  | p :: r, 0, v => ⟨p.name, v⟩ :: r
  | p :: r, k + 1, v => p :: setFree r k v
theorem setFree_length : ∀ (ps : List Pur) (k : Nat) (v : Int), (setFree ps k v).length = ps.length
  | [], _, _ => rfl
  | p :: r, 0, v => rfl
  | p :: r, k + 1, v => by simp [setFree, setFree_length r k v]
theorem setFree_cells : ∀ (ps : List Pur) (k : Nat) (v : Int), k < ps.length → pcells (setFree ps k v) = (pcells ps).set (k * 2 + 1) (.int .i64 v)
  | p :: r, 0, v, _ => by simp [setFree, pcells]
  | p :: r, k + 1, v, h => by
    rw [setFree, pcells, pcells, setFree_cells r k v (by simpa using h), show (k + 1) * 2 + 1 = k * 2 + 1 + 2 by omega]
    simp

/-- Is it paid? -/
def payB (ps : List Pur) (s : ByteArray) (n d : Int) : Bool := folkB ps && (decide (0 ≤ placeV (pnames ps) s) && (inB 0 1000000 n && inB 0 1000000 (pfree ps (placeV (pnames ps) s).toNat + d)))
/-- What they are then. -/
def payL (ps : List Pur) (s : ByteArray) (n d : Int) : List Pur :=
  if folkB ps = true then (if payB ps s n d = true then setFree ps (placeV (pnames ps) s).toNat (pfree ps (placeV (pnames ps) s).toNat + d) else ps) else []
section
variable {ps : List Pur} {s : ByteArray} {n d : Int}
theorem pay_no (h : folkB ps = false) : payB ps s n d = false ∧ payL ps s n d = [] := by simp [payB, payL, h]
theorem pay_keep (h : folkB ps = true) (hb : payB ps s n d = false) : payL ps s n d = ps := by simp [payL, h, hb]
theorem pay_out (h : ¬ 0 ≤ placeV (pnames ps) s) : payB ps s n d = false := by simp [payB, h]
theorem pay_n (h : inB 0 1000000 n = false) : payB ps s n d = false := by simp [payB, h]
theorem pay_over {k : Nat} (e : placeV (pnames ps) s = k) (hk : k < ps.length) (h : inB 0 1000000 (ps[k].free + d) = false) : payB ps s n d = false := by
  have : pfree ps (placeV (pnames ps) s).toNat = ps[k].free := by rw [e]; exact pfree_eq hk
  simp [payB, this, h]
theorem pay_yes {k : Nat} (hf : folkB ps = true) (e : placeV (pnames ps) s = k) (hk : k < ps.length) (hn : inB 0 1000000 n = true) (h : inB 0 1000000 (ps[k].free + d) = true) :
    payB ps s n d = true ∧ payL ps s n d = setFree ps k (ps[k].free + d) := by
  have h1 : pfree ps (placeV (pnames ps) s).toNat = ps[k].free := by rw [e]; exact pfree_eq hk
  have h2 : payB ps s n d = true := by unfold payB; rw [h1, hf, hn, h, e]; simp
  refine ⟨h2, ?_⟩
  rw [payL, if_pos hf, if_pos h2, h1, e]; rfl
end

/-- A list of the call's own comes back, and a word. -/
def PayRes (out : List Pur) (ok : Bool) (w : World) (e : Ending) (w' : World) : Prop :=
  ∃ a cap, e = .returned (.tuple #[.slice a out.length cap, .bool ok]) ∧ Purs w' a out ∧ (out = [] ∨ ∃ b, a = some ⟨b, 0, none⟩ ∧ w.heap.size ≤ b ∧ b < w'.heap.size ∧ Mine w' b 0 (out.length * 2)) ∧ Below w.heap.size w w'

theorem Lies.set {w : World} {b off j : Nat} {xs : List Value} (h : Lies w (some ⟨b, off, none⟩) xs) (v : Value) : Lies (w.setCell ⟨b, off + j, none⟩ v) (some ⟨b, off, none⟩) (xs.set j v) := by
  intro k u hk
  refine ⟨b, off, rfl, ?_⟩
  have hkl : k < xs.length := by have := (List.getElem?_eq_some_iff.1 hk).1; simpa using this
  obtain ⟨b', off', e, hc⟩ := h k xs[k] (List.getElem?_eq_getElem hkl)
  injection e with e; injection e with e1 e2; subst e1; subst e2
  by_cases e : j = k
  · subst e
    rw [List.getElem?_set_self hkl] at hk
    injection hk with hk
    subst hk
    rw [World.cell?_setCell_same _ _ _ hc]
  · rw [List.getElem?_set_ne e, List.getElem?_eq_getElem hkl] at hk
    injection hk with hk
    subst hk
    rw [World.cell?_setCell_other _ _ _ _ (by intro q; injection q with _ q; exact e (by omega))]
    exact hc

theorem mine_of_lies {w : World} {b : Nat} {xs : List Value} {n : Nat} (h : Lies w (some ⟨b, 0, none⟩) xs) (hn : xs.length = n) (hf : ∀ o, w.frozen? ⟨b, o, none⟩ = false) : Mine w b 0 n where
  all := fun j hj => by
    obtain ⟨b', off', e, hc⟩ := h j xs[j] (List.getElem?_eq_getElem (by omega))
    injection e with e; injection e with e1 e2; subst e1; subst e2
    exact ⟨_, hc⟩
  free := hf

set_option maxHeartbeats 2000000 in
theorem moved_any {w : World} {a : Option Addr} {ps : List Pur} (cap : Nat) (s : ByteArray) (n d sign : Int) (hd : sign = 1 ∧ d = n ∨ sign = -1 ∧ d = -n) (h : Purs w a ps) (hl : ps.length ≤ 1048576) (hs : Sized (pnames ps)) :
    Calls Try.prog 32 #[.slice a ps.length cap, .string s, .int .i64 n, .int .i64 sign] w (PayRes (payL ps s n d) (payB ps s n d) w) := by
  have H := Lib.hid h
  have HS := Lib.hid hs
  have HD := Lib.hid hd
  clear h hs hd
  go_enter Try.func32, Try.ntmps32
  go_wp2_with fail
  refine (iFolkOk_any _ H.out hl HS.out).mono ?_
  rintro e w1 ⟨rfl, hb1⟩
  have HB1 := Lib.hid hb1
  clear hb1
  cases hf : folkB ps
  · have HN := Lib.hid (show PayRes (payL ps s n d) (payB ps s n d) w (.returned (.tuple #[.slice none 0 0, .bool false])) w1 from by
      rw [(pay_no (ps := ps) (s := s) (n := n) (d := d) hf).1, (pay_no (ps := ps) (s := s) (n := n) (d := d) hf).2]
      exact ⟨none, 0, rfl, Lies.nil _ _, .inl rfl, HB1.out⟩)
    go_wp2
    go_ret2
    exact HN.out
  · go_wp2_with fail
    refine (copied_any _ (H.out.below HB1.out) hl).mono ?_
    rintro e w2 ⟨rfl, e2⟩
    have hp2 : Purs w2 (some ⟨w1.heap.size, 0, none⟩) ps := by rw [e2]; exact lies_new _ _ _
    have hm2 : Mine w2 w1.heap.size 0 (ps.length * 2) := mine_of_lies hp2 (pcells_length ps) (by intro o; rw [e2]; exact free_new _ _ _ o)
    have hb2 : Below w1.heap.size w1 w2 := by rw [e2]; exact below_new _ _
    have hlt2 : w1.heap.size < w2.heap.size := by rw [e2]; simp
    clear e2
    have hlt1 : w.heap.size ≤ w1.heap.size := HB1.out.size
    have HP2 := Lib.hid hp2
    have HM2 := Lib.hid hm2
    have HB2 := Lib.hid (below_trans HB1.out hb2)
    clear hp2 hm2 hb2
    go_wp2_with fail
    refine (place_any _ _ HP2.out hl).mono ?_
    rintro e w3 ⟨rfl, hb3⟩
    have hp3 := HP2.out.below hb3
    have hm3 := HM2.out.below hlt2 hb3
    have hlt3 : w1.heap.size < w3.heap.size := Nat.lt_of_lt_of_le hlt2 hb3.size
    have HB3 := Lib.hid (below_trans HB2.out hb3)
    have HK := fun (hb : payB ps s n d = false) => Lib.hid (show PayRes (payL ps s n d) (payB ps s n d) w (.returned (.tuple #[.slice (some ⟨w1.heap.size, 0, none⟩) ps.length ps.length, .bool false])) w3 from by
      rw [pay_keep hf hb, hb]
      exact ⟨_, _, rfl, hp3, .inr ⟨_, rfl, hlt1, hlt3, hm3⟩, HB3.out⟩)
    have HKK := Lib.hid HK
    have HP3 := Lib.hid hp3
    have HM3 := Lib.hid hm3
    clear hp3 hm3 hb3 HK HP2 HM2 HB2
    by_cases hp : 0 ≤ placeV (pnames ps) s
    · obtain ⟨k, e, hk, hq⟩ := place_hit hp
      have hk' : k < ps.length := by rw [len_pn] at hk; exact hk
      have HE := Lib.hid e
      rw [e]
      clear hp e hk hq
      cases hn : inB 0 1000000 n
      · have HN := HKK.out (pay_n hn)
        go_wp2_with (go_at_call 49; refine (iAmountOk_any _ _).mono ?_; rintro e w' ⟨rfl, rfl⟩; rw [hn])
        go_ret2
        exact HN.out
      · have hnb := inB_bd hn
        obtain ⟨-, hm, -⟩ := folk_true hf
        have hfb := inB_bd (hm k hk' hk')
        clear hm
        obtain ⟨b', off', e', _, hc, hc1⟩ := HP3.out.at k hk'
        injection e' with e'; injection e' with e1 e2; subst e1; subst e2
        simp only [Nat.zero_add] at hc hc1
        have hfr := HM3.out.free (k * 2 + 1)
        cases hv : inB 0 1000000 (ps[k].free + d)
        · have HN := HKK.out (pay_over HE.out hk' hv)
          rcases HD.out with ⟨rfl, rfl⟩ | ⟨rfl, rfl⟩
          all_goals
            go_wp2_with (go_at_call 49; refine (iAmountOk_any _ _).mono ?_; rintro e w' ⟨rfl, rfl⟩; first | rw [hn] | rw [hv])
            go_ret2
            exact HN.out
        · have HN := Lib.hid (show PayRes (payL ps s n d) (payB ps s n d) w (.returned (.tuple #[.slice (some ⟨w1.heap.size, 0, none⟩) ps.length ps.length, .bool true])) (w3.setCell ⟨w1.heap.size, k * 2 + 1, none⟩ (.int .i64 (ps[k].free + d))) from by
            rw [(pay_yes hf HE.out hk' hn hv).1, (pay_yes hf HE.out hk' hn hv).2]
            refine ⟨_, _, by rw [setFree_length], ?_, .inr ⟨_, rfl, hlt1, by simpa [World.setCell] using hlt3, by rw [setFree_length]; exact HM3.out.set _ _⟩, HB3.out.setCell hlt1 _⟩
            have := Lies.set (j := k * 2 + 1) HP3.out (.int .i64 (ps[k].free + d))
            rw [← setFree_cells ps k _ hk', Nat.zero_add] at this
            exact this)
          rcases HD.out with ⟨rfl, rfl⟩ | ⟨rfl, rfl⟩
          all_goals
            go_wp2_with (go_at_call 49; refine (iAmountOk_any _ _).mono ?_; rintro e w' ⟨rfl, rfl⟩; first | rw [hn] | rw [hv])
            go_ret2
            exact HN.out
    · have hlo := place_lo (pnames ps) s
      have hpe : placeV (pnames ps) s = -1 := by omega
      have HN := HKK.out (pay_out hp)
      rw [hpe]
      clear hp hpe hlo
      go_wp2
      go_ret2
      exact HN.out

theorem iPaid_any {w : World} {a : Option Addr} {ps : List Pur} (cap : Nat) (s : ByteArray) (n : Int) (h : Purs w a ps) (hl : ps.length ≤ 1048576) (hs : Sized (pnames ps)) :
    Calls Try.prog 11 #[.slice a ps.length cap, .string s, .int .i64 n] w (PayRes (payL ps s n n) (payB ps s n n) w) := by
  go_enter Try.func11, Try.ntmps11
  go_wp2_with fail
  refine (moved_any _ _ n n 1 (.inl ⟨rfl, rfl⟩) h hl hs).mono ?_
  rintro e w' ⟨b, c, rfl, hr⟩
  have HR := Lib.hid hr
  clear hr
  go_wp2
  go_ret2
  exact ⟨b, c, rfl, HR.out⟩

theorem iSpent_any {w : World} {a : Option Addr} {ps : List Pur} (cap : Nat) (s : ByteArray) (n : Int) (h : Purs w a ps) (hl : ps.length ≤ 1048576) (hs : Sized (pnames ps)) :
    Calls Try.prog 12 #[.slice a ps.length cap, .string s, .int .i64 n] w (PayRes (payL ps s n (-n)) (payB ps s n (-n)) w) := by
  go_enter Try.func12, Try.ntmps12
  go_wp2_with fail
  refine (moved_any _ _ n (-n) (-1) (.inr ⟨rfl, rfl⟩) h hl hs).mono ?_
  rintro e w' ⟨b, c, rfl, hr⟩
  have HR := Lib.hid hr
  clear hr
  go_wp2
  go_ret2
  exact ⟨b, c, rfl, HR.out⟩

theorem own_at (n : Nat) : ∀ g, (Value.slice (some ⟨n, 0, none⟩) 0 0).ownBlock = some g → n ≤ g := by
  intro g hg
  have : n = g := by simpa [Value.ownBlock] using hg
  omega

/-- A copy of the call's own. -/
def CopyRes (ps : List Pur) (w : World) (e : Ending) (w' : World) : Prop :=
  ∃ b cap, e = .returned (.slice (some ⟨b, 0, none⟩) ps.length cap) ∧ Purs w' (some ⟨b, 0, none⟩) ps ∧ w.heap.size ≤ b ∧ b < w'.heap.size ∧ Mine w' b 0 (ps.length * 2) ∧ Below w.heap.size w w'

theorem copyRes_of {w w' : World} {v : Value} {ps : List Pur} (h : w'.ownsRow w.heap.size 49 2 v ps.length (pcells ps)) (hn : ¬ v = .slice none 0 0) (hb : Below w.heap.size w w') : CopyRes ps w (.returned v) w' := by
  rcases h.2 with ⟨h0, _⟩ | ⟨g, cap, cur, rfl, hg, hh, hle, hm, hs, ht⟩
  · exact absurd h0 hn
  · have hlies : Lies w' (some ⟨g, 0, none⟩) (pcells ps) := by
      intro k v hk
      have hlt := (List.getElem?_eq_some_iff.1 hk).1
      refine ⟨g, 0, rfl, ?_⟩
      rw [← ht, List.getElem?_take_of_lt (by rw [pcells_length] at hlt; exact hlt)] at hk
      simpa [World.cell?, hh] using hk
    have hlt : g < w'.heap.size := (Array.getElem?_eq_some_iff.1 hh).1
    exact ⟨g, cap, rfl, hlies, hg, hlt, mine_of_lies hlies (pcells_length ps) (fun o => by simp [World.frozen?, hh]), hb⟩

set_option maxHeartbeats 1000000 in
theorem l3Copy_any {w : World} {b off : Nat} {ps : List Pur} (cap : Nat) (h : Purs w (some ⟨b, off, none⟩) ps) (hl : ps.length ≤ 1048576) :
    Calls Try.prog 50 #[.slice (some ⟨b, off, none⟩) ps.length cap] w (CopyRes ps w) := by
  have H := Lib.hid h
  clear h
  obtain ⟨i0, hi, hz0, hz1, hz2⟩ := info_parts info_purse2
  have HI := Lib.hid hi
  have HZ0 := Lib.hid hz0
  have HZ1 := Lib.hid hz1
  have HZ2 := Lib.hid hz2
  clear hi hz0 hz1 hz2
  go_enter Try.func50, Try.ntmps50
  go_wp2_with (at_builtin; refine wpList_append_own_at _ rfl _ _ 24 rfl w.heap.size 49 i0 (.agg #[.string ByteArray.empty, .int .i64 0]) 2 24 Try.underlying24 HI.out HZ0.out HZ1.out HZ2.out rfl (by decide) (.slice (some ⟨w.heap.size, 0, none⟩) 0 0) 0 [] rfl ?c0 ⟨b, off, none⟩ ps.length cap (pcells ps) rfl (pcells_length ps) ?c1 (pcells_one ps) ?c2 ?c3 ?c4 ?_)
  case c0 => exact ⟨by simp, .inr ⟨w.heap.size, 0, #[], rfl, Nat.le_refl _, heap_alloc_new _ _, Nat.le_refl _, Nat.zero_le _, by simp, by simp⟩⟩
  case c1 =>
    intro j u hj
    obtain ⟨b', off', e, hc⟩ := (Lies.below H.out (below_new w (.cells #[] 49))) j u hj
    injection e with e; injection e with e1 e2; subst e1; subst e2
    rw [add_plain]; exact hc
  case c2 => unfold maxLen; omega
  case c3 => omega
  case c4 => simp
  intro v' w' hown hgrow hnil hat
  have HR := Lib.hid (copyRes_of hown hnil (bgrown (below_new w (.cells #[] 49)) (by simp) hgrow (own_at w.heap.size)))
  clear hown hgrow hnil hat
  go_wp2
  go_ret
  exact HR.out

set_option maxHeartbeats 2000000 in
theorem l3Pay_any {w : World} {b off : Nat} {ps : List Pur} (cap : Nat) (s : ByteArray) (n d sign : Int) (hd : sign = 1 ∧ d = n ∨ sign = -1 ∧ d = -n) (h : Purs w (some ⟨b, off, none⟩) ps) (hl : ps.length ≤ 1048576) (hs : Sized (pnames ps)) :
    Calls Try.prog 33 #[.slice (some ⟨b, off, none⟩) ps.length cap, .string s, .int .i64 n, .int .i64 sign] w (PayRes (payL ps s n d) (payB ps s n d) w) := by
  have H := Lib.hid h
  have HS := Lib.hid hs
  have HD := Lib.hid hd
  clear h hs hd
  go_enter Try.func33, Try.ntmps33
  go_wp2_with fail
  refine (sFolkOk_any _ H.out (by omega) HS.out).mono ?_
  rintro e w1 ⟨rfl, n1, rfl⟩
  have HB1 := Lib.hid (below_draws (Below.refl w.heap.size w) n1)
  cases hf : folkB ps
  · have HN := Lib.hid (show PayRes (payL ps s n d) (payB ps s n d) w (.returned (.tuple #[.slice (some ⟨w.heap.size, 0, none⟩) 0 0, .bool false])) ((w.drewN n1).alloc (.cells #[] 49)) from by
      rw [(pay_no (ps := ps) (s := s) (n := n) (d := d) hf).1, (pay_no (ps := ps) (s := s) (n := n) (d := d) hf).2]
      exact ⟨_, 0, rfl, Lies.nil _ _, .inl rfl, below_trans HB1.out (below_new _ _)⟩)
    go_wp2
    go_ret2
    exact HN.out
  · go_wp2_with fail
    refine (l3Copy_any _ (show Purs (w.drewN n1) (some ⟨b, off, none⟩) ps from H.out) hl).mono ?_
    rintro e w3 ⟨g, c, rfl, hp3, hg0, hlt3, hm3, hb3⟩
    have hlt1 : w.heap.size ≤ g := hg0
    have HB3 := Lib.hid (below_trans HB1.out hb3)
    have HL := Lib.hid (H.out.below HB3.out)
    have HK := fun (hb : payB ps s n d = false) => Lib.hid (show PayRes (payL ps s n d) (payB ps s n d) w (.returned (.tuple #[.slice (some ⟨g, 0, none⟩) ps.length c, .bool false])) w3 from by
      rw [pay_keep hf hb, hb]
      exact ⟨_, _, rfl, hp3, .inr ⟨_, rfl, hlt1, hlt3, hm3⟩, HB3.out⟩)
    have HKK := Lib.hid HK
    have HP3 := Lib.hid hp3
    have HM3 := Lib.hid hm3
    clear hp3 hm3 hb3 HK hg0
    go_wp2_with fail
    refine (l3Find_any _ _ HL.out (by omega)).mono ?_
    rintro e w' ⟨rfl, rfl⟩
    by_cases hp : 0 ≤ placeV (pnames ps) s
    · obtain ⟨k, e, hk, hq⟩ := place_hit hp
      have hk' : k < ps.length := by rw [len_pn] at hk; exact hk
      have HE := Lib.hid e
      rw [e]
      clear hp e hk hq
      cases hn : inB 0 1000000 n
      · have HN := HKK.out (pay_n hn)
        go_wp2_with (go_at_call 36; refine (sAmountOk_any _ _).mono ?_; rintro e w' ⟨rfl, rfl⟩; rw [hn])
        go_ret2
        exact HN.out
      · have hnb := inB_bd hn
        obtain ⟨-, hm, -⟩ := folk_true hf
        have hfb := inB_bd (hm k hk' hk')
        clear hm
        obtain ⟨b', off', e', _, hc, hc1⟩ := HL.out.at k hk'
        injection e' with e'; injection e' with e1 e2; subst e1; subst e2
        obtain ⟨u, hu⟩ := HM3.out.all (k * 2 + 1) (by omega)
        rw [Nat.zero_add] at hu
        have hfr := HM3.out.free (k * 2 + 1)
        cases hv : inB 0 1000000 (ps[k].free + d)
        · have HN := HKK.out (pay_over HE.out hk' hv)
          rcases HD.out with ⟨rfl, rfl⟩ | ⟨rfl, rfl⟩
          all_goals
            go_wp2_with (go_at_call 36; refine (sAmountOk_any _ _).mono ?_; rintro e w' ⟨rfl, rfl⟩; first | rw [hn] | rw [hv])
            go_ret2
            exact HN.out
        · have HN := Lib.hid (show PayRes (payL ps s n d) (payB ps s n d) w (.returned (.tuple #[.slice (some ⟨g, 0, none⟩) ps.length c, .bool true])) (w3.setCell ⟨g, k * 2 + 1, none⟩ (.int .i64 (ps[k].free + d))) from by
            rw [(pay_yes hf HE.out hk' hn hv).1, (pay_yes hf HE.out hk' hn hv).2]
            refine ⟨_, _, by rw [setFree_length], ?_, .inr ⟨_, rfl, hlt1, by simpa [World.setCell] using hlt3, by rw [setFree_length]; exact HM3.out.set _ _⟩, HB3.out.setCell hlt1 _⟩
            have := Lies.set (j := k * 2 + 1) HP3.out (.int .i64 (ps[k].free + d))
            rw [← setFree_cells ps k _ hk', Nat.zero_add] at this
            exact this)
          rcases HD.out with ⟨rfl, rfl⟩ | ⟨rfl, rfl⟩
          all_goals
            go_wp2_with (go_at_call 36; refine (sAmountOk_any _ _).mono ?_; rintro e w' ⟨rfl, rfl⟩; first | rw [hn] | rw [hv])
            go_ret2
            exact HN.out
    · have hlo := place_lo (pnames ps) s
      have hpe : placeV (pnames ps) s = -1 := by omega
      have HN := HKK.out (pay_out hp)
      rw [hpe]
      clear hp hpe hlo
      go_wp2
      go_ret2
      exact HN.out

theorem sPaid_any {w : World} {b off : Nat} {ps : List Pur} (cap : Nat) (s : ByteArray) (n : Int) (h : Purs w (some ⟨b, off, none⟩) ps) (hl : ps.length ≤ 1048576) (hs : Sized (pnames ps)) :
    Calls Try.prog 14 #[.slice (some ⟨b, off, none⟩) ps.length cap, .string s, .int .i64 n] w (PayRes (payL ps s n n) (payB ps s n n) w) := by
  go_enter Try.func14, Try.ntmps14
  go_wp2_with fail
  refine (l3Pay_any _ _ n n 1 (.inl ⟨rfl, rfl⟩) h hl hs).mono ?_
  rintro e w' ⟨b, c, rfl, hr⟩
  have HR := Lib.hid hr
  clear hr
  go_wp2
  go_ret2
  exact ⟨b, c, rfl, HR.out⟩

theorem sSpent_any {w : World} {b off : Nat} {ps : List Pur} (cap : Nat) (s : ByteArray) (n : Int) (h : Purs w (some ⟨b, off, none⟩) ps) (hl : ps.length ≤ 1048576) (hs : Sized (pnames ps)) :
    Calls Try.prog 22 #[.slice (some ⟨b, off, none⟩) ps.length cap, .string s, .int .i64 n] w (PayRes (payL ps s n (-n)) (payB ps s n (-n)) w) := by
  go_enter Try.func22, Try.ntmps22
  go_wp2_with fail
  refine (l3Pay_any _ _ n (-n) (-1) (.inr ⟨rfl, rfl⟩) h hl hs).mono ?_
  rintro e w' ⟨b, c, rfl, hr⟩
  have HR := Lib.hid hr
  clear hr
  go_wp2
  go_ret2
  exact ⟨b, c, rfl, HR.out⟩
end Go.Proofs.Ytoejbeppegannaa
