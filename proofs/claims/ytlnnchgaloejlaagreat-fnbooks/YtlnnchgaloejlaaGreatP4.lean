/-
  Texts joined: Pay, Own, Step, OwnRes, Book.
-/
import Derived.Test.YtlnnchgaloejlaaGreatP1
import Derived.Test.YtlnnchgaloejlaaGreatP2
import Derived.Test.YtlnnchgaloejlaaGreatP3
import Derived.Maps.AppendAt
import Derived.Deep.RegionLaw
namespace Go.Proofs.YtlnnchgaloejlaaGreat
open Go.ChangeShapes Go.WideShapes Go.ChangeAt Go.RowKit

/-- Free of number k is v. -/
def setFree : List Pur → Nat → Int → List Pur
  | [], _, _ => []
  | p :: r, 0, v => ⟨p.name, v⟩ :: r
  | p :: r, k + 1, v => p :: setFree r k v
theorem setFree_length : ∀ (ps : List Pur) (k : Nat) (v : Int), (setFree ps k v).length = ps.length
  | [], _, _ => rfl
  | p :: r, 0, v => rfl
  | p :: r, k + 1, v => by simp [setFree, setFree_length r k v]
theorem setFree_cells : ∀ (ps : List Pur) (k : Nat) (v : Int), k < ps.length → pcells (setFree ps k v) = (pcells ps).set (k * 2 + 1) (.int .i64 v)
  | p :: r, 0, v, _ => by simp [setFree, pcells]
  | p :: r, k + 1, v, h => by
    rw [setFree, pcells, pcells, setFree_cells r k v (by simpa using h), show (k + 1) * 2 + 1 = k * 2 + 1 + 2 by omega]
    simp

/-- Is it paid? -/
def payB (ps : List Pur) (s : ByteArray) (n d : Int) : Bool := folkB ps && (decide (0 ≤ placeV (pnames ps) s) && (inB 0 1000000 n && inB 0 1000000 (pfree ps (placeV (pnames ps) s).toNat + d)))
/-- What they are then. -/
def payL (ps : List Pur) (s : ByteArray) (n d : Int) : List Pur :=
  if folkB ps = true then (if payB ps s n d = true then setFree ps (placeV (pnames ps) s).toNat (pfree ps (placeV (pnames ps) s).toNat + d) else ps) else []
section
variable {ps : List Pur} {s : ByteArray} {n d : Int}
theorem pay_no (h : folkB ps = false) : payB ps s n d = false ∧ payL ps s n d = [] := by simp [payB, payL, h]
theorem pay_keep (h : folkB ps = true) (hb : payB ps s n d = false) : payL ps s n d = ps := by simp [payL, h, hb]
theorem pay_out (h : ¬ 0 ≤ placeV (pnames ps) s) : payB ps s n d = false := by simp [payB, h]
theorem pay_n (h : inB 0 1000000 n = false) : payB ps s n d = false := by simp [payB, h]
theorem pay_over {k : Nat} (e : placeV (pnames ps) s = k) (hk : k < ps.length) (h : inB 0 1000000 (ps[k].free + d) = false) : payB ps s n d = false := by
  have : pfree ps (placeV (pnames ps) s).toNat = ps[k].free := by rw [e]; exact pfree_eq hk
  simp [payB, this, h]
theorem pay_yes {k : Nat} (hf : folkB ps = true) (e : placeV (pnames ps) s = k) (hk : k < ps.length) (hn : inB 0 1000000 n = true) (h : inB 0 1000000 (ps[k].free + d) = true) :
    payB ps s n d = true ∧ payL ps s n d = setFree ps k (ps[k].free + d) := by
  have h1 : pfree ps (placeV (pnames ps) s).toNat = ps[k].free := by rw [e]; exact pfree_eq hk
  have h2 : payB ps s n d = true := by unfold payB; rw [h1, hf, hn, h, e]; simp
  refine ⟨h2, ?_⟩
  rw [payL, if_pos hf, if_pos h2, h1, e]; rfl
end

theorem Lies.set {w : World} {b off j : Nat} {xs : List Value} (h : Lies w (some ⟨b, off, none⟩) xs) (v : Value) : Lies (w.setCell ⟨b, off + j, none⟩ v) (some ⟨b, off, none⟩) (xs.set j v) := by
  intro k u hk
  refine ⟨b, off, rfl, ?_⟩
  have hkl : k < xs.length := by have := (List.getElem?_eq_some_iff.1 hk).1; simpa using this
  obtain ⟨b', off', e, hc⟩ := h k xs[k] (List.getElem?_eq_getElem hkl)
  injection e with e; injection e with e1 e2; subst e1; subst e2
  by_cases e : j = k
  · subst e
    rw [List.getElem?_set_self hkl] at hk
    injection hk with hk
    subst hk
    rw [World.cell?_setCell_same _ _ _ hc]
  · rw [List.getElem?_set_ne e, List.getElem?_eq_getElem hkl] at hk
    injection hk with hk
    subst hk
    rw [World.cell?_setCell_other _ _ _ _ (by intro q; injection q with _ q; exact e (by omega))]
    exact hc

theorem mine_of_lies {w : World} {b : Nat} {xs : List Value} {n : Nat} (h : Lies w (some ⟨b, 0, none⟩) xs) (hn : xs.length = n) (hf : ∀ o, w.frozen? ⟨b, o, none⟩ = false) : Mine w b 0 n where
  all := fun j hj => by
    obtain ⟨b', off', e, hc⟩ := h j xs[j] (List.getElem?_eq_getElem (by omega))
    injection e with e; injection e with e1 e2; subst e1; subst e2
    exact ⟨_, hc⟩
  free := hf

theorem own_at (n : Nat) : ∀ g, (Value.slice (some ⟨n, 0, none⟩) 0 0).ownBlock = some g → n ≤ g := by
  intro g hg
  have : n = g := by simpa [Value.ownBlock] using hg
  omega

/-- A copy of the call's own. -/
def CopyRes (ps : List Pur) (w : World) (e : Ending) (w' : World) : Prop :=
  ∃ b cap, e = .returned (.slice (some ⟨b, 0, none⟩) ps.length cap) ∧ Purs w' (some ⟨b, 0, none⟩) ps ∧ w.heap.size ≤ b ∧ b < w'.heap.size ∧ Mine w' b 0 (ps.length * 2) ∧ Below w.heap.size w w' ∧ ps.length ≤ cap ∧ w'.ownsRow w.heap.size 41 2 (.slice (some ⟨b, 0, none⟩) ps.length cap) ps.length (pcells ps)

theorem copyRes_of {w w' : World} {v : Value} {ps : List Pur} (h : w'.ownsRow w.heap.size 41 2 v ps.length (pcells ps)) (hn : ¬ v = .slice none 0 0) (hb : Below w.heap.size w w') : CopyRes ps w (.returned v) w' := by
  have hrow := h
  rcases h.2 with ⟨h0, _⟩ | ⟨g, cap, cur, rfl, hg, hh, hle, hm, hs, ht⟩
  · exact absurd h0 hn
  · have hlies : Lies w' (some ⟨g, 0, none⟩) (pcells ps) := by
      intro k v hk
      have hlt := (List.getElem?_eq_some_iff.1 hk).1
      refine ⟨g, 0, rfl, ?_⟩
      rw [← ht, List.getElem?_take_of_lt (by rw [pcells_length] at hlt; exact hlt)] at hk
      simpa [World.cell?, hh] using hk
    have hlt : g < w'.heap.size := (Array.getElem?_eq_some_iff.1 hh).1
    exact ⟨g, cap, rfl, hlies, hg, hlt, mine_of_lies hlies (pcells_length ps) (fun o => by simp [World.frozen?, hh]), hb, hle, hrow⟩

set_option maxHeartbeats 1000000 in
set_option maxRecDepth 100000 in
theorem l3Copy_any {w : World} {b off : Nat} {ps : List Pur} (cap : Nat) (h : Purs w (some ⟨b, off, none⟩) ps) (hl : ps.length ≤ 1048576) :
    Calls Tryz.prog 24 #[.slice (some ⟨b, off, none⟩) ps.length cap] w (CopyRes ps w) := by
  have H := Lib.hid h
  clear h
  obtain ⟨i0, hi, hz0, hz1, hz2⟩ := info_parts info_purse2
  have HI := Lib.hid hi
  have HZ0 := Lib.hid hz0
  have HZ1 := Lib.hid hz1
  have HZ2 := Lib.hid hz2
  clear hi hz0 hz1 hz2
  go_enter Tryz.func24, Tryz.ntmps24
  go_wp2_with (at_builtin; refine wpList_append_own_at _ rfl _ _ 24 rfl w.heap.size 41 i0 (.agg #[.string ByteArray.empty, .int .i64 0]) 2 24 Tryz.underlying24 HI.out HZ0.out HZ1.out HZ2.out rfl (by decide) (.slice (some ⟨w.heap.size, 0, none⟩) 0 0) 0 [] rfl ?c0 ⟨b, off, none⟩ ps.length cap (pcells ps) rfl (pcells_length ps) ?c1 (pcells_one ps) ?c2 ?c3 ?c4 ?_)
  case c0 => exact ⟨by simp, .inr ⟨w.heap.size, 0, #[], rfl, Nat.le_refl _, heap_alloc_new _ _, Nat.le_refl _, Nat.zero_le _, by simp, by simp⟩⟩
  case c1 =>
    intro j u hj
    obtain ⟨b', off', e, hc⟩ := (Lies.below H.out (below_new w (.cells #[] 41))) j u hj
    injection e with e; injection e with e1 e2; subst e1; subst e2
    rw [add_plain]; exact hc
  case c2 => unfold maxLen; omega
  case c3 => omega
  case c4 => simp
  intro v' w' hown hgrow hnil hat
  have HR := Lib.hid (copyRes_of hown hnil (bgrown (below_new w (.cells #[] 41)) (by simp) hgrow (own_at w.heap.size)))
  clear hown hgrow hnil hat
  go_wp2
  go_ret
  exact HR.out

/-- The same, and it has room for them. -/
def PayCap (out : List Pur) (ok : Bool) (w : World) (e : Ending) (w' : World) : Prop :=
  ∃ a cap, e = .returned (.tuple #[.slice a out.length cap, .bool ok]) ∧ Purs w' a out ∧ (out = [] ∨ ∃ b, a = some ⟨b, 0, none⟩ ∧ w.heap.size ≤ b ∧ b < w'.heap.size ∧ Mine w' b 0 (out.length * 2)) ∧ Below w.heap.size w w' ∧ out.length ≤ cap
set_option maxHeartbeats 2000000 in
set_option maxRecDepth 100000 in
theorem l3Pay_any {w : World} {b off : Nat} {ps : List Pur} (cap : Nat) (s : ByteArray) (n d sign : Int) (hd : sign = 1 ∧ d = n ∨ sign = -1 ∧ d = -n) (h : Purs w (some ⟨b, off, none⟩) ps) (hl : ps.length ≤ 1048576) (hs : Sized (pnames ps)) :
    Calls Tryz.prog 170 #[.slice (some ⟨b, off, none⟩) ps.length cap, .string s, .int .i64 n, .int .i64 sign] w (PayCap (payL ps s n d) (payB ps s n d) w) := by
  have H := Lib.hid h
  have HS := Lib.hid hs
  have HD := Lib.hid hd
  clear h hs hd
  go_enter Tryz.func170, Tryz.ntmps170
  go_wp2_with fail
  refine (sFolkOk_any _ H.out (by omega) HS.out).mono ?_
  rintro e w1 ⟨rfl, n1, rfl⟩
  have HB1 := Lib.hid (below_draws (Below.refl w.heap.size w) n1)
  cases hf : folkB ps
  · have HN := Lib.hid (show PayCap (payL ps s n d) (payB ps s n d) w (.returned (.tuple #[.slice (some ⟨w.heap.size, 0, none⟩) 0 0, .bool false])) ((w.drewN n1).alloc (.cells #[] 41)) from by
      rw [(pay_no (ps := ps) (s := s) (n := n) (d := d) hf).1, (pay_no (ps := ps) (s := s) (n := n) (d := d) hf).2]
      exact ⟨_, 0, rfl, Lies.nil _ _, .inl rfl, below_trans HB1.out (below_new _ _), Nat.le_refl 0⟩)
    go_wp2
    go_ret2
    exact HN.out
  · go_wp2_with fail
    refine (l3Copy_any _ (show Purs (w.drewN n1) (some ⟨b, off, none⟩) ps from H.out) hl).mono ?_
    rintro e w3 ⟨g, c, rfl, hp3, hg0, hlt3, hm3, hb3, hcc, -⟩
    have hlt1 : w.heap.size ≤ g := hg0
    have HB3 := Lib.hid (below_trans HB1.out hb3)
    have HL := Lib.hid (H.out.below HB3.out)
    have HK := fun (hb : payB ps s n d = false) => Lib.hid (show PayCap (payL ps s n d) (payB ps s n d) w (.returned (.tuple #[.slice (some ⟨g, 0, none⟩) ps.length c, .bool false])) w3 from by
      rw [pay_keep hf hb, hb]
      exact ⟨_, _, rfl, hp3, .inr ⟨_, rfl, hlt1, hlt3, hm3⟩, HB3.out, hcc⟩)
    have HKK := Lib.hid HK
    have HP3 := Lib.hid hp3
    have HM3 := Lib.hid hm3
    have HCC := Lib.hid hcc
    clear hp3 hm3 hb3 HK hg0 hcc
    go_wp2_with fail
    refine (l3Find_any _ _ HL.out (by omega)).mono ?_
    rintro e w' ⟨rfl, rfl⟩
    by_cases hp : 0 ≤ placeV (pnames ps) s
    · obtain ⟨k, e, hk, hq⟩ := place_hit hp
      have hk' : k < ps.length := by rw [len_pn] at hk; exact hk
      have HE := Lib.hid e
      rw [e]
      clear hp e hk hq
      cases hn : inB 0 1000000 n
      · have HN := HKK.out (pay_n hn)
        go_wp2_with (go_at_call 67; refine (sAmountOk_any _ _).mono ?_; rintro e w' ⟨rfl, rfl⟩; rw [hn])
        go_ret2
        exact HN.out
      · have hnb := inB_bd hn
        obtain ⟨-, hm, -⟩ := folk_true hf
        have hfb := inB_bd (hm k hk' hk')
        clear hm
        obtain ⟨b', off', e', _, hc, hc1⟩ := HL.out.at k hk'
        injection e' with e'; injection e' with e1 e2; subst e1; subst e2
        obtain ⟨u, hu⟩ := HM3.out.all (k * 2 + 1) (by omega)
        rw [Nat.zero_add] at hu
        have hfr := HM3.out.free (k * 2 + 1)
        cases hv : inB 0 1000000 (ps[k].free + d)
        · have HN := HKK.out (pay_over HE.out hk' hv)
          rcases HD.out with ⟨rfl, rfl⟩ | ⟨rfl, rfl⟩
          all_goals
            go_wp2_with (go_at_call 67; refine (sAmountOk_any _ _).mono ?_; rintro e w' ⟨rfl, rfl⟩; first | rw [hn] | rw [hv])
            go_ret2
            exact HN.out
        · have HN := Lib.hid (show PayCap (payL ps s n d) (payB ps s n d) w (.returned (.tuple #[.slice (some ⟨g, 0, none⟩) ps.length c, .bool true])) (w3.setCell ⟨g, k * 2 + 1, none⟩ (.int .i64 (ps[k].free + d))) from by
            rw [(pay_yes hf HE.out hk' hn hv).1, (pay_yes hf HE.out hk' hn hv).2]
            refine ⟨_, _, by rw [setFree_length], ?_, .inr ⟨_, rfl, hlt1, by simpa [World.setCell] using hlt3, by rw [setFree_length]; exact HM3.out.set _ _⟩, HB3.out.setCell hlt1 _, by rw [setFree_length]; exact HCC.out⟩
            have := Lies.set (j := k * 2 + 1) HP3.out (.int .i64 (ps[k].free + d))
            rw [← setFree_cells ps k _ hk', Nat.zero_add] at this
            exact this)
          rcases HD.out with ⟨rfl, rfl⟩ | ⟨rfl, rfl⟩
          all_goals
            go_wp2_with (go_at_call 67; refine (sAmountOk_any _ _).mono ?_; rintro e w' ⟨rfl, rfl⟩; first | rw [hn] | rw [hv])
            go_ret2
            exact HN.out
    · have hlo := place_lo (pnames ps) s
      have hpe : placeV (pnames ps) s = -1 := by omega
      have HN := HKK.out (pay_out hp)
      rw [hpe]
      clear hp hpe hlo
      go_wp2
      go_ret2
      exact HN.out

theorem sPaid_cap {w : World} {b off : Nat} {ps : List Pur} (cap : Nat) (s : ByteArray) (n : Int) (h : Purs w (some ⟨b, off, none⟩) ps) (hl : ps.length ≤ 1048576) (hs : Sized (pnames ps)) :
    Calls Tryz.prog 157 #[.slice (some ⟨b, off, none⟩) ps.length cap, .string s, .int .i64 n] w (PayCap (payL ps s n n) (payB ps s n n) w) := by
  go_enter Tryz.func157, Tryz.ntmps157
  go_wp2_with fail
  refine (l3Pay_any _ _ n n 1 (.inl ⟨rfl, rfl⟩) h hl hs).mono ?_
  rintro e w' ⟨b, c, rfl, hr⟩
  have HR := Lib.hid hr
  clear hr
  go_wp2
  go_ret2
  exact ⟨b, c, rfl, HR.out⟩

theorem sSpent_cap {w : World} {b off : Nat} {ps : List Pur} (cap : Nat) (s : ByteArray) (n : Int) (h : Purs w (some ⟨b, off, none⟩) ps) (hl : ps.length ≤ 1048576) (hs : Sized (pnames ps)) :
    Calls Tryz.prog 150 #[.slice (some ⟨b, off, none⟩) ps.length cap, .string s, .int .i64 n] w (PayCap (payL ps s n (-n)) (payB ps s n (-n)) w) := by
  go_enter Tryz.func150, Tryz.ntmps150
  go_wp2_with fail
  refine (l3Pay_any _ _ n (-n) (-1) (.inr ⟨rfl, rfl⟩) h hl hs).mono ?_
  rintro e w' ⟨b, c, rfl, hr⟩
  have HR := Lib.hid hr
  clear hr
  go_wp2
  go_ret2
  exact ⟨b, c, rfl, HR.out⟩

end Go.Proofs.YtlnnchgaloejlaaGreat
namespace Go.Proofs.YtlnnchgaloejlaaGreat
open Go.ChangeShapes Go.WideShapes Go.ChangeAt Go.RowKit

/-- A list that lies in a block of its own, from block B on, and may be written. -/
def OwnP (w : World) (B : Nat) (a : Option Addr) (ps : List Pur) : Prop :=
  Purs w a ps ∧ (ps = [] ∨ ∃ b, a = some ⟨b, 0, none⟩ ∧ B ≤ b ∧ b < w.heap.size ∧ Mine w b 0 (ps.length * 2))
theorem OwnP.below {w w' : World} {B : Nat} {a : Option Addr} {ps : List Pur} (h : OwnP w B a ps) (hb : Below w.heap.size w w') : OwnP w' B a ps := by
  refine ⟨h.1.below hb, ?_⟩
  rcases h.2 with h0 | ⟨b, e, h1, h2, hm⟩
  · exact .inl h0
  · exact .inr ⟨b, e, h1, Nat.lt_of_lt_of_le h2 hb.size, hm.below h2 hb⟩
theorem OwnP.grown {w w' : World} {B x : Nat} {a : Option Addr} {ps : List Pur} (h : OwnP w B a ps) (hg : w.grownBy w' (some x)) (hx : x < B) : OwnP w' B a ps := by
  rcases h.2 with rfl | ⟨b, rfl, h1, h2, hm⟩
  · exact ⟨Lies.nil _ _, .inl rfl⟩
  · have hne : some b ≠ some x := by intro e; injection e with e; omega
    refine ⟨?_, .inr ⟨b, rfl, h1, Nat.lt_of_lt_of_le h2 hg.size, hm.grown h2 hg hne⟩⟩
    intro k v hk
    obtain ⟨b', off, e, hc⟩ := h.1 k v hk
    injection e with e; injection e with e1 e2; subst e1; subst e2
    exact ⟨b, 0, rfl, by rw [grown_keeps hg h2 hne]; exact hc⟩
theorem OwnP.mono {w : World} {B B' : Nat} {a : Option Addr} {ps : List Pur} (h : OwnP w B a ps) (hB : B' ≤ B) : OwnP w B' a ps := by
  refine ⟨h.1, ?_⟩
  rcases h.2 with h0 | ⟨b, e, h1, h2, hm⟩
  · exact .inl h0
  · exact .inr ⟨b, e, by omega, h2, hm⟩
theorem Purs.under {w w' : World} {B : Nat} {a : Option Addr} {ps : List Pur} (h : Purs w a ps) (hb : Below B w w') (hB : ∀ b off, a = some ⟨b, off, none⟩ → 0 < ps.length → b < B) : Purs w' a ps :=
  Lies.under h hb (fun b off e hl => hB b off e (by rw [pcells_length] at hl; omega))
theorem Purs.old {w : World} {a : Option Addr} {ps : List Pur} (h : Purs w a ps) : ∀ b off, a = some ⟨b, off, none⟩ → 0 < ps.length → b < w.heap.size :=
  fun b off e hl => Lies.old h b off e (by rw [pcells_length]; omega)

end Go.Proofs.YtlnnchgaloejlaaGreat
namespace Go.Proofs.YtlnnchgaloejlaaGreat
open Go.ChangeShapes Go.WideShapes Go.ChangeAt Go.RowKit

/-- What append leaves. -/
def Appended (w : World) (base : Nat) (e : TypeId) (size g n : Nat) (xs : List Value) (g' c' : Nat) (w' : World) : Prop :=
  w'.ownsRow base e size (.slice (some ⟨g', 0, none⟩) n c') n xs ∧ w.grownBy w' (some g) ∧ base ≤ g ∧ g < w.heap.size ∧ g' < w'.heap.size ∧ (g' = g ∨ g' = w.heap.size)
section
variable {P : Program} {w : World}
/-- append onto a row of the call's own, of which the address is known. -/
theorem run_append_some (base : Nat) (t ty e : TypeId) (i : TypeInfo) (z : Value) (size bytes : Nat) (ht : P.underlying t = some (.slice e)) (hi : P.info? e = some i) (hz : i.zero = some z)
    (hsize : i.size = size) (hby : i.bytes = bytes) (hzs : z.cells.size = size) (hsz : 0 < size)
    (g c0 n : Nat) (xs : List Value) (hown : w.ownsRow base e size (.slice (some ⟨g, 0, none⟩) n c0) n xs)
    (ad : Addr) (m c : Nat) (news : List Value) (hl : news.length = m * size) (hnews : ∀ j u, news[j]? = some u → w.cell? (ad.add j) = some u) (h1 : ∀ u ∈ news, u.oneCell' = true)
    (h63 : n + m ≤ maxLen) (hbytes : (n + m) * bytes ≤ 140737488355328) :
    ∃ g' c' w', (Builtin.append_ #[t, t] ty #[.slice (some ⟨g, 0, none⟩) n c0, .slice (some ad) m c]).run P w = .ok (.slice (some ⟨g', 0, none⟩) (n + m) c') w' ∧
      w'.ownsRow base e size (.slice (some ⟨g', 0, none⟩) (n + m) c') (n + m) (xs ++ news) ∧ w.grownBy w' (some g) ∧ base ≤ g ∧ g < w.heap.size ∧ g' < w'.heap.size ∧ (g' = g ∨ g' = w.heap.size) := by
  obtain ⟨hb, hlt⟩ := hown.lt g rfl
  obtain ⟨v', w', hr, ho, hgr, hn, hat⟩ := run_append_own_at (P := P) w base t ty e i z size bytes ht hi hz hsize hby hzs hsz _ n xs hown ad m c news hl hnews h1 h63 hbytes (by omega)
  rcases ho.2 with ⟨rfl, -⟩ | ⟨g', c', cur, rfl, -, hh, -⟩
  · exact absurd (hn.1 rfl).1 (by simp)
  · exact ⟨g', c', w', hr, ho, hgr, hb, hlt, (Array.getElem?_eq_some_iff.1 hh).1, by simpa [Value.ownBlock] using hat⟩

theorem wp_append_some {o : Oper} {a : Act} {K : Act → World → Prop} {Q : Exit → Act → World → Prop} (s x : Operand) (t : TypeId)
    (ho : o.op = .call { callee := .builtin .append, args := #[s, x], argTypes := #[t, t] })
    (base : Nat) (e : TypeId) (i : TypeInfo) (z : Value) (size bytes : Nat) (ht : P.underlying t = some (.slice e)) (hi : P.info? e = some i) (hz : i.zero = some z)
    (hsize : i.size = size) (hby : i.bytes = bytes) (hzs : z.cells.size = size) (hsz : 0 < size)
    (g c0 n : Nat) (xs : List Value) (hs : a.eval s = .slice (some ⟨g, 0, none⟩) n c0) (hown : w.ownsRow base e size (.slice (some ⟨g, 0, none⟩) n c0) n xs)
    (ad : Addr) (m c : Nat) (news : List Value) (hx : a.eval x = .slice (some ad) m c) (hl : news.length = m * size) (hnews : ∀ j u, news[j]? = some u → w.cell? (ad.add j) = some u) (h1 : ∀ u ∈ news, u.oneCell' = true)
    (h63 : n + m ≤ maxLen) (hbytes : (n + m) * bytes ≤ 140737488355328)
    (h : ∀ g' c' w', Appended w base e size g (n + m) (xs ++ news) g' c' w' → K (a.put o.dst (.slice (some ⟨g', 0, none⟩) (n + m) c')) w') : o.wp P a w K Q := by
  obtain ⟨g', c', w', hr, h2, h3, h4, h5, h6⟩ := run_append_some (P := P) (w := w) base t o.type e i z size bytes ht hi hz hsize hby hzs hsz g c0 n xs hown ad m c news hl hnews h1 h63 hbytes
  unfold Oper.wp execOp
  simp only [ho, resolve, invoke, builtin, Sem.run_bind, Sem.run_pure, Result.andThen_ok, List.map_toArray, List.map_cons, List.map_nil, hs, hx, hr]
  exact h g' c' w' ⟨h2, h3, h4, h5, h6⟩

theorem wpList_append_some {ops : Array Oper} {rest : List Oper} {o : Oper} {a : Act} {Q : Exit → Act → World → Prop} (hgd : o.guard = none) (s x : Operand) (t : TypeId)
    (ho : o.op = .call { callee := .builtin .append, args := #[s, x], argTypes := #[t, t] })
    (base : Nat) (e : TypeId) (i : TypeInfo) (z : Value) (size bytes : Nat) (ht : P.underlying t = some (.slice e)) (hi : P.info? e = some i) (hz : i.zero = some z)
    (hsize : i.size = size) (hby : i.bytes = bytes) (hzs : z.cells.size = size) (hsz : 0 < size)
    (g c0 n : Nat) (xs : List Value) (hs : a.eval s = .slice (some ⟨g, 0, none⟩) n c0) (hown : w.ownsRow base e size (.slice (some ⟨g, 0, none⟩) n c0) n xs)
    (ad : Addr) (m c : Nat) (news : List Value) (hx : a.eval x = .slice (some ad) m c) (hl : news.length = m * size) (hnews : ∀ j u, news[j]? = some u → w.cell? (ad.add j) = some u) (h1 : ∀ u ∈ news, u.oneCell' = true)
    (h63 : n + m ≤ maxLen) (hbytes : (n + m) * bytes ≤ 140737488355328)
    (h : ∀ g' c' w', Appended w base e size g (n + m) (xs ++ news) g' c' w' → wpList P ops Q rest (a.put o.dst (.slice (some ⟨g', 0, none⟩) (n + m) c')) w') : wpList P ops Q (o :: rest) a w :=
  wpList_plain hgd fun _ hK => wp_append_some s x t ho base e i z size bytes ht hi hz hsize hby hzs hsz g c0 n xs hs hown ad m c news hx hl hnews h1 h63 hbytes fun g' c' w' h2 => hK _ _ (h g' c' w' h2)

theorem step_append_some {ops : Array Oper} {o : Oper} {a : Act} {K : Act → World → Prop} {Q : Exit → Act → World → Prop} {E : Prop} (hgd : o.guard = none) (s x : Operand) (t : TypeId)
    (ho : o.op = .call { callee := .builtin .append, args := #[s, x], argTypes := #[t, t] })
    (base : Nat) (e : TypeId) (i : TypeInfo) (z : Value) (size bytes : Nat) (ht : P.underlying t = some (.slice e)) (hi : P.info? e = some i) (hz : i.zero = some z)
    (hsize : i.size = size) (hby : i.bytes = bytes) (hzs : z.cells.size = size) (hsz : 0 < size)
    (g c0 n : Nat) (xs : List Value) (hs : a.eval s = .slice (some ⟨g, 0, none⟩) n c0) (hown : w.ownsRow base e size (.slice (some ⟨g, 0, none⟩) n c0) n xs)
    (ad : Addr) (m c : Nat) (news : List Value) (hx : a.eval x = .slice (some ad) m c) (hl : news.length = m * size) (hnews : ∀ j u, news[j]? = some u → w.cell? (ad.add j) = some u) (h1 : ∀ u ∈ news, u.oneCell' = true)
    (h63 : n + m ≤ maxLen) (hbytes : (n + m) * bytes ≤ 140737488355328)
    (h : ∀ g' c' w', Appended w base e size g (n + m) (xs ++ news) g' c' w' → K (a.put o.dst (.slice (some ⟨g', 0, none⟩) (n + m) c')) w') :
    if Region.wanted o (yielded ops a.tmps) = true then Oper.wp P o a w K Q else E := by
  have hw : Region.wanted o (yielded ops a.tmps) = true := by simp [Region.wanted, hgd]
  rw [if_pos hw]
  exact wp_append_some s x t ho base e i z size bytes ht hi hz hsize hby hzs hsz g c0 n xs hs hown ad m c news hx hl hnews h1 h63 hbytes h
end

theorem heap_set (w : World) (g j : Nat) (v : Value) {c : Array Value} {e : TypeId} {fz : Nat × Nat} (h : w.heap[g]? = some (.cells c e fz)) : (w.setCell ⟨g, j, none⟩ v).heap[g]? = some (.cells (c.setIfInBounds j v) e fz) := by
  simp [World.setCell, Array.getElem?_modify, h]
/-- One cell of such a row is written. -/
theorem own_set {w : World} {base : Nat} {e : TypeId} {c g n cap j : Nat} {xs : List Value} (h : w.ownsRow base e c (.slice (some ⟨g, 0, none⟩) n cap) n xs) (v : Value) :
    (w.setCell ⟨g, j, none⟩ v).ownsRow base e c (.slice (some ⟨g, 0, none⟩) n cap) n (xs.set j v) := by
  refine ⟨by rw [List.length_set]; exact h.1, ?_⟩
  rcases h.2 with ⟨h0, -⟩ | ⟨g', cap', cur, hv, hg, hh, hle, hm, hs, ht⟩
  · simp at h0
  · injection hv with e1 _ e3
    injection e1 with e1
    injection e1 with e1
    subst e1; subst e3
    have hl := h.1
    refine .inr ⟨g, cap, cur.setIfInBounds j v, rfl, hg, heap_set w g j v hh, hle, hm, by rw [Array.size_setIfInBounds]; exact hs, ?_⟩
    rw [Array.toList_setIfInBounds, List.take_set, ht]
theorem own_some {w : World} {base : Nat} {e : TypeId} {c g n cap m : Nat} {xs : List Value} (h : w.ownsRow base e c (.slice (some ⟨g, 0, none⟩) n cap) m xs) : n = m ∧ n ≤ cap ∧ cap ≤ maxLen ∧ base ≤ g ∧ g < w.heap.size := by
  rcases h.2 with ⟨h0, -⟩ | ⟨g', cap', cur, hv, hg, hh, hle, hm, hs, ht⟩
  · simp at h0
  · injection hv with e1 e2 e3
    injection e1 with e1
    injection e1 with e1
    subst e1; subst e2; subst e3
    exact ⟨rfl, hle, hm, hg, (Array.getElem?_eq_some_iff.1 hh).1⟩
theorem own_down {w : World} {base base' : Nat} {e : TypeId} {c n : Nat} {v : Value} {xs : List Value} (h : w.ownsRow base e c v n xs) (hb : base' ≤ base) : w.ownsRow base' e c v n xs := by
  refine ⟨h.1, ?_⟩
  rcases h.2 with h0 | ⟨g, cap, cur, hv, hg, hr⟩
  · exact .inl h0
  · exact .inr ⟨g, cap, cur, hv, by omega, hr⟩
/-- A cell that is there is written over: what was below stays. -/
theorem below_set {w w' : World} {B : Nat} (h : Below B w w') {g j : Nat} (hg : B ≤ g) (v : Value) : Below B w (w'.setCell ⟨g, j, none⟩ v) := h.setCell hg _
end Go.Proofs.YtlnnchgaloejlaaGreat
namespace Go.Proofs.YtlnnchgaloejlaaGreat
open Go.ChangeShapes Go.WideShapes Go.ChangeAt Go.RowKit

section
variable {α : Type}
/-- A list of the call's own. -/
def ResO (f : α → List Value) (c : Nat) (out : List α) (w : World) (e : Ending) (w' : World) : Prop :=
  ∃ a cap, e = .returned (.slice a out.length cap) ∧ OwnR f c w' w.heap.size a out ∧ Below w.heap.size w w'
/-- The same, of a row that is known whole. -/
def ResRB (f : α → List Value) (c : Nat) (T : TypeId) (out : List α) (ok : Bool) (w : World) (e : Ending) (w' : World) : Prop :=
  ∃ b cap, e = .returned (.tuple #[.slice (some ⟨b, 0, none⟩) out.length cap, .bool ok]) ∧ w'.ownsRow w.heap.size T c (.slice (some ⟨b, 0, none⟩) out.length cap) out.length (out.flatMap f) ∧ Below w.heap.size w w'
/-- Where those from number k on lie. -/
theorem from_at {f : α → List Value} {c : Nat} (hf : ∀ x, (f x).length = c) {w : World} {b off k : Nat} {ps : List α} (cap : Nat) (h : Recs f w (some ⟨b, off, none⟩) ps) (hk : k ≤ ps.length) (hc : ps.length ≤ cap) :
    ∃ A, (if cap = k then some (⟨b, off, none⟩ : Addr) else some ⟨b, off + k * c, none⟩) = some A ∧ ∀ W, Below w.heap.size w W → ∀ j u, ((ps.drop k).flatMap f)[j]? = some u → W.cell? (A.add j) = some u := by
  by_cases e : cap = k
  · refine ⟨_, if_pos e, fun W _ j u hj => ?_⟩
    have : ps.drop k = [] := List.drop_eq_nil_of_le (by omega)
    rw [this] at hj; simp at hj
  · refine ⟨_, if_neg e, fun W hb j u hj => ?_⟩
    rw [flat_drop hf, List.getElem?_drop] at hj
    obtain ⟨b', off', e', hc'⟩ := (h.below hb) _ u hj
    injection e' with e'; injection e' with e1 e2; subst e1; subst e2
    rw [add_plain, Nat.add_assoc]; exact hc'
end
theorem RecAt.under {α : Type} {f : α → List Value} {w w' : World} {B B0 : Nat} {x : α} (h : RecAt f w B x) (hb : Below B0 w w') (hlt : B < B0) : RecAt f w' B x :=
  fun j v hj => by rw [hb.cell (p := ⟨B, j, none⟩) hlt]; exact h j v hj
end Go.Proofs.YtlnnchgaloejlaaGreat
namespace Go.Proofs.YtlnnchgaloejlaaGreat
open Go.ChangeShapes Go.WideShapes Go.ChangeAt Go.RowKit

/-- A book. -/
structure Bok where
  season : Int
  supply : Int
  burnt : Int
  pot : Int
  folk : List Pur
  mills : List Mil
  parts : List Par
  waits : List Wai
/-- Where its lists lie, and each one's room. -/
structure Spots where
  fa : Option Addr
  fc : Nat
  ma : Option Addr
  mc : Nat
  pa : Option Addr
  pc : Nat
  wa : Option Addr
  wc : Nat
/-- Its lists lie there. -/
structure BookAt (w : World) (b : Bok) (s : Spots) : Prop where
  folk : Purs w s.fa b.folk
  mills : Recs Mil.cs w s.ma b.mills
  parts : Recs Par.cs w s.pa b.parts
  waits : Recs Wai.cs w s.wa b.waits
theorem BookAt.below {w w' : World} {b : Bok} {s : Spots} (h : BookAt w b s) (hb : Below w.heap.size w w') : BookAt w' b s :=
  ⟨h.folk.below hb, h.mills.below hb, h.parts.below hb, h.waits.below hb⟩
theorem BookAt.draws {w : World} {b : Bok} {s : Spots} (h : BookAt w b s) (n : Nat) : BookAt (w.drewN n) b s :=
  ⟨h.folk, h.mills, h.parts, h.waits⟩
/-- Its lists are lists of a machine. -/
structure BFits (b : Bok) : Prop where
  fl : b.folk.length ≤ 9223372036854775807
  ml : b.mills.length ≤ 9223372036854775807
  pl : b.parts.length ≤ 9223372036854775807
  wl : b.waits.length ≤ 9223372036854775807
  fs : ∀ p ∈ b.folk, p.name.size ≤ 9223372036854775807
  ms : ∀ p ∈ b.mills, p.fits
  ps : ∀ p ∈ b.parts, p.fits
  ws : ∀ p ∈ b.waits, p.fits
/-- Its lists are not long. -/
structure BLen (b : Bok) : Prop where
  fl : b.folk.length ≤ 1048576
  ml : b.mills.length ≤ 1048576
  pl : b.parts.length ≤ 1048576
  wl : b.waits.length ≤ 1048576
/-- A block holds a book whose lists lie. -/
structure BoxB (w : World) (B : Nat) (b : Bok) (s : Spots) : Prop where
  book : BookAt w b s
  c0 : w.cell? ⟨B, 0, none⟩ = some (.int .i64 b.season)
  c1 : w.cell? ⟨B, 1, none⟩ = some (.int .i64 b.supply)
  c2 : w.cell? ⟨B, 2, none⟩ = some (.int .i64 b.burnt)
  c3 : w.cell? ⟨B, 3, none⟩ = some (.int .i64 b.pot)
  c4 : w.cell? ⟨B, 4, none⟩ = some (.slice s.fa b.folk.length s.fc)
  c5 : w.cell? ⟨B, 5, none⟩ = some (.slice s.ma b.mills.length s.mc)
  c6 : w.cell? ⟨B, 6, none⟩ = some (.slice s.pa b.parts.length s.pc)
  c7 : w.cell? ⟨B, 7, none⟩ = some (.slice s.wa b.waits.length s.wc)
theorem BoxB.lt {w : World} {B : Nat} {b : Bok} {s : Spots} (h : BoxB w B b s) : B < w.heap.size := at_lt h.c0
theorem BoxB.below {w w' : World} {B : Nat} {b : Bok} {s : Spots} (h : BoxB w B b s) (hb : Below w.heap.size w w') : BoxB w' B b s := by
  have k : ∀ o v, w.cell? ⟨B, o, none⟩ = some v → w'.cell? ⟨B, o, none⟩ = some v := fun o v hc => (hb.cell (p := ⟨B, o, none⟩) h.lt).trans hc
  exact ⟨h.book.below hb, k _ _ h.c0, k _ _ h.c1, k _ _ h.c2, k _ _ h.c3, k _ _ h.c4, k _ _ h.c5, k _ _ h.c6, k _ _ h.c7⟩
theorem BoxB.draws {w : World} {B : Nat} {b : Bok} {s : Spots} (h : BoxB w B b s) (n : Nat) : BoxB (w.drewN n) B b s :=
  ⟨h.book.draws n, h.c0, h.c1, h.c2, h.c3, h.c4, h.c5, h.c6, h.c7⟩
theorem BoxB.new {w : World} {b : Bok} {s : Spots} (h : BookAt w b s) (T : TypeId) :
    BoxB (w.alloc (.cells #[.int .i64 b.season, .int .i64 b.supply, .int .i64 b.burnt, .int .i64 b.pot, .slice s.fa b.folk.length s.fc, .slice s.ma b.mills.length s.mc, .slice s.pa b.parts.length s.pc, .slice s.wa b.waits.length s.wc] T)) w.heap.size b s := by
  have k : ∀ (o : Nat) v, (#[.int .i64 b.season, .int .i64 b.supply, .int .i64 b.burnt, .int .i64 b.pot, .slice s.fa b.folk.length s.fc, .slice s.ma b.mills.length s.mc, .slice s.pa b.parts.length s.pc, .slice s.wa b.waits.length s.wc] : Array Value)[o]? = some v → (w.alloc (.cells #[.int .i64 b.season, .int .i64 b.supply, .int .i64 b.burnt, .int .i64 b.pot, .slice s.fa b.folk.length s.fc, .slice s.ma b.mills.length s.mc, .slice s.pa b.parts.length s.pc, .slice s.wa b.waits.length s.wc] T)).cell? ⟨w.heap.size, o, none⟩ = some v := fun o v hv => by
    simp only [World.cell?, heap_alloc_new]; exact hv
  exact ⟨h.below (below_new _ _), k _ _ rfl, k _ _ rfl, k _ _ rfl, k _ _ rfl, k _ _ rfl, k _ _ rfl, k _ _ rfl, k _ _ rfl⟩

/-- Two lists that lie apart. -/
def ApartN (a1 a2 : Option Addr) (n1 n2 : Nat) : Prop := ∀ b1 b2, a1 = some ⟨b1, 0, none⟩ → a2 = some ⟨b2, 0, none⟩ → 0 < n1 → 0 < n2 → b1 ≠ b2
theorem ApartN.symm {a1 a2 : Option Addr} {n1 n2 : Nat} (h : ApartN a1 a2 n1 n2) : ApartN a2 a1 n2 n1 := fun b1 b2 e1 e2 h1 h2 e => h b2 b1 e2 e1 h2 h1 e.symm
theorem ApartN.lt {x y n1 n2 : Nat} (h : x < y) : ApartN (some ⟨x, 0, none⟩) (some ⟨y, 0, none⟩) n1 n2 := by
  intro b1 b2 e1 e2 _ _ e
  injection e1 with e1; injection e1 with e1; injection e2 with e2; injection e2 with e2
  omega
theorem ApartN.none2 {a : Option Addr} {b : Option Addr} {n : Nat} : ApartN a b n 0 := fun _ _ _ _ _ h => by omega
theorem ApartN.none1 {a : Option Addr} {b : Option Addr} {n : Nat} : ApartN a b 0 n := fun _ _ _ _ h => by omega
/-- A list's place: none at all, or the head of a block. -/
def Rooted (a : Option Addr) (cap : Nat) : Prop := (a = none ∧ cap = 0) ∨ ∃ x, a = some ⟨x, 0, none⟩
/-- Each list's place, and its room. -/
structure Roots (b : Bok) (s : Spots) : Prop where
  f : Rooted s.fa s.fc
  m : Rooted s.ma s.mc
  p : Rooted s.pa s.pc
  w : Rooted s.wa s.wc
  cf : b.folk.length ≤ s.fc
  cm : b.mills.length ≤ s.mc
  cp : b.parts.length ≤ s.pc
  cw : b.waits.length ≤ s.wc
/-- A book of the call's own: each list in a block of its own, from B on, no two in one. -/
structure OwnB (w : World) (B : Nat) (b : Bok) (s : Spots) : Prop where
  folk : OwnP w B s.fa b.folk
  mills : OwnR Mil.cs 5 w B s.ma b.mills
  parts : OwnR Par.cs 3 w B s.pa b.parts
  waits : OwnR Wai.cs 4 w B s.wa b.waits
  fm : ApartN s.fa s.ma b.folk.length b.mills.length
  fp : ApartN s.fa s.pa b.folk.length b.parts.length
  fw : ApartN s.fa s.wa b.folk.length b.waits.length
  mp : ApartN s.ma s.pa b.mills.length b.parts.length
  mw : ApartN s.ma s.wa b.mills.length b.waits.length
  pw : ApartN s.pa s.wa b.parts.length b.waits.length
  rt : Roots b s
theorem OwnB.at {w : World} {B : Nat} {b : Bok} {s : Spots} (h : OwnB w B b s) : BookAt w b s := ⟨h.folk.1, h.mills.1, h.parts.1, h.waits.1⟩
theorem OwnB.below {w w' : World} {B : Nat} {b : Bok} {s : Spots} (h : OwnB w B b s) (hb : Below w.heap.size w w') : OwnB w' B b s :=
  ⟨h.folk.below hb, h.mills.below hb, h.parts.below hb, h.waits.below hb, h.fm, h.fp, h.fw, h.mp, h.mw, h.pw, h.rt⟩

/-- Values in block O, from its head on, that may be written. -/
structure OutV (w : World) (O : Nat) (vs : List Value) : Prop where
  has : ∀ j v, vs[j]? = some v → w.cell? ⟨O, j, none⟩ = some v
  free : ∀ o, w.frozen? ⟨O, o, none⟩ = false
  lt : O < w.heap.size
theorem OutV.below {w w' : World} {O : Nat} {vs : List Value} (h : OutV w O vs) (hb : Below w.heap.size w w') : OutV w' O vs :=
  ⟨fun j v hj => (hb.cell (p := ⟨O, j, none⟩) h.lt).trans (h.has j v hj), fun o => (hb.frozen (p := ⟨O, o, none⟩) h.lt).trans (h.free o), Nat.lt_of_lt_of_le h.lt hb.size⟩
theorem OutV.set {w : World} {O : Nat} {vs : List Value} (h : OutV w O vs) (k : Nat) (v : Value) : OutV (w.setCell ⟨O, k, none⟩ v) O (vs.set k v) where
  has := fun j u hj => by
    have hlt : j < vs.length := by have := (List.getElem?_eq_some_iff.1 hj).1; simpa using this
    have hu := h.has j vs[j] (List.getElem?_eq_getElem hlt)
    by_cases e : j = k
    · subst e
      rw [List.getElem?_set_self hlt] at hj
      injection hj with hj; subst hj
      rw [World.cell?_setCell_same _ _ _ hu]
    · rw [List.getElem?_set_ne (by omega)] at hj
      rw [World.cell?_setCell_other _ _ _ _ (by intro q; injection q with _ q; exact e q.symm)]
      exact h.has j u hj
  free := fun o => by have := h.free o; go_simp
  lt := by have := h.lt; simpa [World.setCell] using this
theorem OutV.new (w : World) (vs : List Value) (T : TypeId) : OutV (w.alloc (.cells vs.toArray T)) w.heap.size vs :=
  ⟨fun j v hj => by simp only [World.cell?, heap_alloc_new]; simpa using hj, free_new _ _ _, by simp⟩

/-- What 'toBook' leaves: the same book, of the call's own. -/
def ToB (b : Bok) (w : World) (e : Ending) (w' : World) : Prop :=
  ∃ s : Spots, e = .returned (.agg #[.int .i64 b.season, .int .i64 b.supply, .int .i64 b.burnt, .int .i64 b.pot, .slice s.fa b.folk.length s.fc, .slice s.ma b.mills.length s.mc, .slice s.pa b.parts.length s.pc, .slice s.wa b.waits.length s.wc]) ∧ OwnB w' w.heap.size b s ∧ Below w.heap.size w w'

end Go.Proofs.YtlnnchgaloejlaaGreat
