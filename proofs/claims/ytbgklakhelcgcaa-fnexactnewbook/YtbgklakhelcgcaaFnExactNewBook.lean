/-
  At every list of purses the program's NewBook answers as the model's, leaves its argument alone and gives back a book of its own: the law FnExactNewBook returns true and its argument reads as before. No condition.
-/
import Derived.Test.YtbgklakhelcgcaaBookN
import Derived.Test.YtbgklakhelcgcaaArgPurs
namespace Go.Proofs.Ytbgklakhelcgcaa.fnExactNewBook
open Go.ChangeShapes Go.WideShapes Go.ChangeAt Go.RowKit
open Go.ChangeMaps (open_string shut_string)
set_option linter.unusedVariables false

theorem sized_of {ps : List Pur} (hs : ∀ p ∈ ps, p.name.size ≤ 9223372036854775807) : Sized (pnames ps) :=
  Sized.of (n := 9223372036854775807) (fun s h => by obtain ⟨p, hp, rfl⟩ := List.mem_map.1 h; exact hs p hp) (by unfold maxLen; omega)
theorem new_short (ps : List Pur) : (newL ps).folk.length ≤ 8 ∧ (newL ps).mills.length = 0 ∧ (newL ps).parts.length = 0 ∧ (newL ps).waits.length = 0 := by
  cases h : newB ps
  · rw [newL_no h]; simp [bok0]
  · rw [newL_yes h]
    have hf : folkB ps = true := by
      cases hf : folkB ps
      · have h1 : freeInV ps = -1 := by simp [freeInV, hf]
        rw [newB, h1] at h; exact absurd h (by decide)
      · rfl
    simp [bokOf, (folk_true hf).1]

set_option maxRecDepth 100000 in
set_option maxHeartbeats 8000000 in
theorem walk {w : World} {a : Option Addr} {ps : List Pur} (cap : Nat) (h : Purs w a ps) (hl : ps.length ≤ 9223372036854775807) (hs : ∀ p ∈ ps, p.name.size ≤ 9223372036854775807) :
    Calls Try.prog 3 #[.slice a ps.length cap] w fun e w' => e = .returned (.bool true) ∧ Below w.heap.size w w' := by
  have HH := Lib.hid h
  have HS := Lib.hid hs
  have HZ := Lib.hid (sized_of hs)
  clear h hs
  by_cases hz : szV (pnames ps) 1048576 < 0
  · go_enter Try.func3, Try.ntmps3
    go_wp2_with (go_at_call 4; refine (szPurseS_any _ _ HH.out (by omega) HS.out (by omega) (by omega)).mono ?_; rintro e w' ⟨rfl, hb0⟩)
    go_ret
    exact ⟨rfl, hb0⟩
  obtain ⟨hlen, -⟩ := szV_small hz
  rw [pnames_length] at hlen
  obtain ⟨h8, hm0, hp0, hw0⟩ := new_short ps
  obtain ⟨nb, HNB⟩ : ∃ x, Hid (newL ps = x) := ⟨_, Lib.hid rfl⟩
  obtain ⟨ok, HOK⟩ : ∃ x, Hid (newB ps = x) := ⟨_, Lib.hid rfl⟩
  rw [HNB.out] at h8 hm0 hp0 hw0
  have HL := Lib.hid (show BLen nb from ⟨by omega, by omega, by omega, by omega⟩)
  have l1 : nb.folk.length ≤ 262144 := by omega
  have l2 : nb.mills.length ≤ 262144 := by omega
  have l3 : nb.parts.length ≤ 262144 := by omega
  have l4 : nb.waits.length ≤ 262144 := by omega
  clear h8 hm0 hp0 hw0
  have hme := markEnd_pos ps.length
  have hmo := numI_pos nb.marks
  go_enter Try.func3, Try.ntmps3
  go_wp2_with fail
  refine (szPurseS_any _ _ HH.out (by omega) HS.out (by omega) (by omega)).mono ?_
  rintro e w0 ⟨rfl, hb0⟩
  have B0 := Lib.hid hb0; clear hb0
  go_wp2_with fail
  refine (toPurseS_any _ (HH.out.below B0.out) hlen).mono ?_
  rintro e w1 ⟨rfl, hs1, hb1, -⟩
  have H1 := Lib.hid hs1; have B1 := Lib.hid (below_trans B0.out hb1); clear hs1 hb1
  go_wp2_with fail
  refine (sNewBook_any _ H1.out hlen HZ.out).mono ?_
  rw [HNB.out, HOK.out]
  rintro e w2 ⟨sW, rfl, ho2, hb2⟩
  have B2 := Lib.hid (below_trans B1.out hb2)
  have A2 := Lib.hid ho2.at
  clear ho2 hb2 H1
  go_wp2_with fail
  obtain ⟨V2, hV2⟩ : ∃ V, w2.alloc (.cells #[.int .i64 nb.season, .int .i64 nb.supply, .int .i64 nb.burnt, .int .i64 nb.pot, .slice sW.fa nb.folk.length sW.fc, .slice sW.ma nb.mills.length sW.mc, .slice sW.pa nb.parts.length sW.pc, .slice sW.wa nb.waits.length sW.wc] 29) = V := ⟨_, rfl⟩
  have hbV := below_new w2 (.cells #[.int .i64 nb.season, .int .i64 nb.supply, .int .i64 nb.burnt, .int .i64 nb.pot, .slice sW.fa nb.folk.length sW.fc, .slice sW.ma nb.mills.length sW.mc, .slice sW.pa nb.parts.length sW.pc, .slice sW.wa nb.waits.length sW.wc] 29)
  have C2 := Lib.hid (CellB.new w2 nb sW 29)
  rw [hV2] at hbV C2
  rw [hV2]
  have BV2 := Lib.hid (below_trans B2.out hbV)
  have OS := Lib.hid (show w.heap.size ≤ V2.heap.size from BV2.out.size)
  have AV2 := Lib.hid (A2.out.below hbV)
  have OW := Lib.hid (A2.out.below hbV).bold
  clear hV2 hbV B2 A2
  have hltW := C2.out.lt
  refine (toPurseS_any _ (HH.out.below BV2.out) hlen).mono ?_
  rintro e w3 ⟨rfl, hs3, hb3, hf3, hx3⟩
  have H3 := Lib.hid hs3
  have HM3 := Lib.hid (mine_of_lies hs3 (pcells_length ps) hf3)
  have B3 := Lib.hid (below_trans BV2.out hb3)
  have A3 := Lib.hid (AV2.out.below hb3)
  have C3 := Lib.hid (C2.out.below hb3)
  clear hs3 hf3 hb3 BV2 AV2 C2
  go_wp2_with fail
  refine (iNewBook_any _ H3.out hlen HZ.out).mono ?_
  rw [HNB.out, HOK.out]
  rintro e w4 ⟨sG, rfl, ho4, hb4⟩
  have B4 := Lib.hid (below_trans B3.out hb4)
  have A4 := Lib.hid (A3.out.below hb4)
  have C4 := Lib.hid (C3.out.below hb4)
  have G4 := Lib.hid ho4
  have H4 := Lib.hid (H3.out.below hb4)
  have HM4 := Lib.hid (HM3.out.below hx3 hb4)
  have hx4 := Nat.lt_of_lt_of_le hx3 hb4.size
  have h34 := hb4.size
  clear ho4 hb4 B3 A3 C3 H3 HM3
  obtain ⟨V4, hV4⟩ : ∃ V, w4.alloc (.cells #[.int .i64 nb.season, .int .i64 nb.supply, .int .i64 nb.burnt, .int .i64 nb.pot, .slice sG.fa nb.folk.length sG.fc, .slice sG.ma nb.mills.length sG.mc, .slice sG.pa nb.parts.length sG.pc, .slice sG.wa nb.waits.length sG.wc] 29) = V := ⟨_, rfl⟩
  have hbV := below_new w4 (.cells #[.int .i64 nb.season, .int .i64 nb.supply, .int .i64 nb.burnt, .int .i64 nb.pot, .slice sG.fa nb.folk.length sG.fc, .slice sG.ma nb.mills.length sG.mc, .slice sG.pa nb.parts.length sG.pc, .slice sG.wa nb.waits.length sG.wc] 29)
  have D5 := Lib.hid (CellB.new w4 nb sG 29)
  rw [hV4] at hbV D5
  have B5 := Lib.hid (below_trans B4.out hbV)
  have A5 := Lib.hid (A4.out.below hbV)
  have C5 := Lib.hid (C4.out.below hbV)
  have G5 := Lib.hid (G4.out.below hbV)
  have H5 := Lib.hid (H4.out.below hbV)
  have HM5 := Lib.hid (HM4.out.below hx4 hbV)
  have hx5 := Nat.lt_of_lt_of_le hx4 hbV.size
  have OG := Lib.hid (G4.out.at.bold.notIn (Nat.le_refl _))
  clear hbV B4 A4 C4 G4 H4 HM4
  have c0 := C5.out.c0
  have c1 := C5.out.c1
  have c2 := C5.out.c2
  have c3 := C5.out.c3
  have c4 := C5.out.c4
  have c5 := C5.out.c5
  have c6 := C5.out.c6
  have c7 := C5.out.c7
  have d0 := D5.out.c0
  have d1 := D5.out.c1
  have d2 := D5.out.c2
  have d3 := D5.out.c3
  have d4 := D5.out.c4
  have d5 := D5.out.c5
  have d6 := D5.out.c6
  have d7 := D5.out.c7
  go_wp2_with fail
  refine (eqBook_same (s := sG) (s' := sW) G5.out.at A5.out HL.out).mono ?_
  rintro e w6 ⟨rfl, hb6⟩
  clear c0 c1 c2 c3 c4 c5 c6 c7
  clear d0 d1 d2 d3 d4 d5 d6 d7
  have B6 := Lib.hid (below_trans B5.out hb6)
  have A6 := Lib.hid (A5.out.below hb6)
  have C6 := Lib.hid (C5.out.below hb6)
  have D6 := Lib.hid (D5.out.below hb6)
  have G6 := Lib.hid (G5.out.below hb6)
  have H6 := Lib.hid (H5.out.below hb6)
  have HM6 := Lib.hid (HM5.out.below hx5 hb6)
  have hx6 := Nat.lt_of_lt_of_le hx5 hb6.size
  clear hb6 B5 A5 C5 D5 G5 H5 HM5
  go_wp2_with fail
  refine (toPurseS_any _ (HH.out.below B6.out) hlen).mono ?_
  rintro e w7 ⟨rfl, hs7, hb7, -⟩
  have T7 := Lib.hid hs7
  clear hs7
  have B7 := Lib.hid (below_trans B6.out hb7)
  have A7 := Lib.hid (A6.out.below hb7)
  have C7 := Lib.hid (C6.out.below hb7)
  have D7 := Lib.hid (D6.out.below hb7)
  have G7 := Lib.hid (G6.out.below hb7)
  have H7 := Lib.hid (H6.out.below hb7)
  have HM7 := Lib.hid (HM6.out.below hx6 hb7)
  have hx7 := Nat.lt_of_lt_of_le hx6 hb7.size
  clear hb7 B6 A6 C6 D6 G6 H6 HM6
  go_wp2_with fail
  refine (eqPurseS_same _ _ H7.out T7.out hlen).mono ?_
  rintro e w8 ⟨rfl, hb8⟩
  clear T7
  have B8 := Lib.hid (below_trans B7.out hb8)
  have A8 := Lib.hid (A7.out.below hb8)
  have C8 := Lib.hid (C7.out.below hb8)
  have D8 := Lib.hid (D7.out.below hb8)
  have G8 := Lib.hid (G7.out.below hb8)
  have H8 := Lib.hid (H7.out.below hb8)
  have HM8 := Lib.hid (HM7.out.below hx7 hb8)
  have hx8 := Nat.lt_of_lt_of_le hx7 hb8.size
  clear hb8 B7 A7 C7 D7 G7 H7 HM7
  go_wp2_with fail
  refine (mark_first _ HM8.out hx8 hlen).mono ?_
  rintro e w9 ⟨rfl, hg9⟩
  have hbx : Below V2.heap.size w8 w9 := ⟨hg9.os, hg9.tape, hg9.output, hg9.size, fun i hi => hg9.block i (by omega) (by intro e; injection e with e; omega)⟩
  have B9 := Lib.hid (B8.out.trans (hbx.mono OS.out))
  have A9 := Lib.hid (A8.out.under hbx OW.out)
  have C9 := Lib.hid (C8.out.under hbx hltW)
  have G9 := Lib.hid (G8.out.grown hg9 hx3)
  have D9 := Lib.hid (D8.out.grown hg9 (by omega))
  clear hg9 hbx B8 A8 C8 G8 D8 H8 HM8
  have c0 := C9.out.c0
  have c1 := C9.out.c1
  have c2 := C9.out.c2
  have c3 := C9.out.c3
  have c4 := C9.out.c4
  have c5 := C9.out.c5
  have c6 := C9.out.c6
  have c7 := C9.out.c7
  have d0 := D9.out.c0
  have d1 := D9.out.c1
  have d2 := D9.out.c2
  have d3 := D9.out.c3
  have d4 := D9.out.c4
  have d5 := D9.out.c5
  have d6 := D9.out.c6
  have d7 := D9.out.c7
  go_wp2_with fail
  refine (eqBook_same (s := sG) (s' := sW) G9.out.at A9.out HL.out).mono ?_
  rintro e wa ⟨rfl, hba⟩
  clear c0 c1 c2 c3 c4 c5 c6 c7
  clear d0 d1 d2 d3 d4 d5 d6 d7
  have Ba := Lib.hid (below_trans B9.out hba)
  have Aa := Lib.hid (A9.out.below hba)
  have Ca := Lib.hid (C9.out.below hba)
  have Ga := Lib.hid (G9.out.below hba)
  have Da := Lib.hid (D9.out.below hba)
  clear hba B9 A9 C9 G9 D9
  have d0 := Da.out.c0
  have d1 := Da.out.c1
  have d2 := Da.out.c2
  have d3 := Da.out.c3
  have d4 := Da.out.c4
  have d5 := Da.out.c5
  have d6 := Da.out.c6
  have d7 := Da.out.c7
  go_wp2_with fail
  refine (markBook_any (s := sG) Ga.out (by have := Da.out.lt; omega) l1 l2 l3 l4).mono ?_
  rintro e wb ⟨rfl, hob, hbb, hkb⟩
  clear d0 d1 d2 d3 d4 d5 d6 d7
  have Bb := Lib.hid (Ba.out.trans (hbb.mono (by have := OS.out; omega)))
  have Ab := Lib.hid (Aa.out.under hbb (OW.out.mono (by omega)))
  have Cb := Lib.hid (Ca.out.under hbb (by omega))
  have Mb := Lib.hid hob.at
  have Db := Lib.hid (Da.out.keep fun o => hkb _ o Da.out.lt OG.out)
  clear hob hbb hkb Ba Aa Ca Ga Da
  have d0 := Db.out.c0
  have d1 := Db.out.c1
  have d2 := Db.out.c2
  have d3 := Db.out.c3
  have d4 := Db.out.c4
  have d5 := Db.out.c5
  have d6 := Db.out.c6
  have d7 := Db.out.c7
  go_wp2_with fail
  refine (heldBook_any (s := sG) Mb.out l1 l2 l3 l4).mono ?_
  rintro e wc ⟨rfl, hbc⟩
  clear d0 d1 d2 d3 d4 d5 d6 d7
  have Bc := Lib.hid (below_trans Bb.out hbc)
  have Ac := Lib.hid (Ab.out.below hbc)
  have Cc := Lib.hid (Cb.out.below hbc)
  have Dc := Lib.hid (Db.out.below hbc)
  have Mc := Lib.hid (Mb.out.below hbc)
  clear hbc Bb Ab Cb Db Mb
  go_wp2_with fail
  refine (toPurseS_any _ (HH.out.below Bc.out) hlen).mono ?_
  rintro e wd ⟨rfl, hsd, hbd, -⟩
  have Td := Lib.hid hsd
  clear hsd
  have Bd := Lib.hid (below_trans Bc.out hbd)
  have Ad := Lib.hid (Ac.out.below hbd)
  have Cd := Lib.hid (Cc.out.below hbd)
  have Dd := Lib.hid (Dc.out.below hbd)
  have Md := Lib.hid (Mc.out.below hbd)
  clear hbd Bc Ac Cc Dc Mc
  go_wp2_with fail
  refine (iNewBook_any _ Td.out hlen HZ.out).mono ?_
  rw [HNB.out, HOK.out]
  rintro e we ⟨sH, rfl, hoe, hbe⟩
  have Ne := Lib.hid hoe.at
  clear hoe Td
  have Be := Lib.hid (below_trans Bd.out hbe)
  have Ae := Lib.hid (Ad.out.below hbe)
  have Ce := Lib.hid (Cd.out.below hbe)
  have De := Lib.hid (Dd.out.below hbe)
  have Me := Lib.hid (Md.out.below hbe)
  clear hbe Bd Ad Cd Dd Md
  obtain ⟨Vf, hVf⟩ : ∃ V, we.alloc (.cells #[.int .i64 nb.season, .int .i64 nb.supply, .int .i64 nb.burnt, .int .i64 nb.pot, .slice sH.fa nb.folk.length sH.fc, .slice sH.ma nb.mills.length sH.mc, .slice sH.pa nb.parts.length sH.pc, .slice sH.wa nb.waits.length sH.wc] 29) = V := ⟨_, rfl⟩
  have hbf := below_new we (.cells #[.int .i64 nb.season, .int .i64 nb.supply, .int .i64 nb.burnt, .int .i64 nb.pot, .slice sH.fa nb.folk.length sH.fc, .slice sH.ma nb.mills.length sH.mc, .slice sH.pa nb.parts.length sH.pc, .slice sH.wa nb.waits.length sH.wc] 29)
  have Ef := Lib.hid (CellB.new we nb sH 29)
  rw [hVf] at hbf Ef
  have Nf := Lib.hid (Ne.out.below hbf)
  clear Ne
  have Bf := Lib.hid (below_trans Be.out hbf)
  have Af := Lib.hid (Ae.out.below hbf)
  have Cf := Lib.hid (Ce.out.below hbf)
  have Df := Lib.hid (De.out.below hbf)
  have Mf := Lib.hid (Me.out.below hbf)
  clear hbf Be Ae Ce De Me
  have c0 := Cf.out.c0
  have c1 := Cf.out.c1
  have c2 := Cf.out.c2
  have c3 := Cf.out.c3
  have c4 := Cf.out.c4
  have c5 := Cf.out.c5
  have c6 := Cf.out.c6
  have c7 := Cf.out.c7
  have d0 := Ef.out.c0
  have d1 := Ef.out.c1
  have d2 := Ef.out.c2
  have d3 := Ef.out.c3
  have d4 := Ef.out.c4
  have d5 := Ef.out.c5
  have d6 := Ef.out.c6
  have d7 := Ef.out.c7
  go_wp2_with fail
  refine (eqBook_same (s := sH) (s' := sW) Nf.out Af.out HL.out).mono ?_
  rintro e wg ⟨rfl, hbg⟩
  clear c0 c1 c2 c3 c4 c5 c6 c7
  clear d0 d1 d2 d3 d4 d5 d6 d7
  clear Nf Ef
  have Bg := Lib.hid (below_trans Bf.out hbg)
  have Ag := Lib.hid (Af.out.below hbg)
  have Cg := Lib.hid (Cf.out.below hbg)
  have Dg := Lib.hid (Df.out.below hbg)
  have Mg := Lib.hid (Mf.out.below hbg)
  clear hbg Bf Af Cf Df Mf
  have d0 := Dg.out.c0
  have d1 := Dg.out.c1
  have d2 := Dg.out.c2
  have d3 := Dg.out.c3
  have d4 := Dg.out.c4
  have d5 := Dg.out.c5
  have d6 := Dg.out.c6
  have d7 := Dg.out.c7
  go_wp2_with fail
  refine (heldBook_any (s := sG) Mg.out l1 l2 l3 l4).mono ?_
  rintro e wh ⟨rfl, hbh⟩
  clear d0 d1 d2 d3 d4 d5 d6 d7
  have Bh := Lib.hid (below_trans Bg.out hbh)
  clear hbh
  go_wp2
  go_ret
  exact ⟨rfl, Bh.out⟩

set_option maxRecDepth 100000 in
theorem lifted (os : Os) (started : os.Started) (H : Type) (enc : TypeId × Value → H) :
    ReturnsInHanded {} Try.checked os 3 .any (Rows.fnExactNewBookSpec.pre6 enc Try.prog Try.f3 Rows.fnExactNewBookRow.domain false) (Rows.fnExactNewBookSpec.post enc Try.prog Try.f3 false true false false) := by
  refine returnsInHanded_of_change (C := Try.checked) ownKnobNone started (by kernel_rfl) Try.func3
    (ChangeSpec.witness6 (enc := enc) (C := Try.checked) false ⟨#[], #[.slice none 0 0], []⟩ 8 (by kernel_rfl) (by kernel_rfl) (by kernel_rfl) (by kernel_rfl)) ?_
  intro W base args ds gs before hval0 hW hcnd _
  have hval : ∀ (j : Nat) t v, Try.f3.params[j]? = some t → args[j]? = some v → Value.okWide Try.prog W .any base t v := hval0
  have hW' := hW
  obtain ⟨p, q, hA0, hV, rfl, hfz, hnd⟩ := hW
  have hA : DataW.TrodAll enc Try.prog W 0 (fun _ => true) true Try.f3.params.toList args.toList ds p := hA0
  rw [Try.params3] at hA hval
  obtain ⟨v0, vs0, d0, ds0, p0, q0, hargs, rfl, rfl, h0, r0⟩ := trodAll_cons hA
  obtain ⟨rfl, rfl, rfl⟩ := trodAll_nil r0
  obtain rfl : args = #[v0] := by cases args; simp_all
  obtain ⟨rfl, rfl⟩ := trodVars_none hV
  have lt0 : ∀ x ∈ p0, x.block < W.heap.size := by obtain ⟨m, hm⟩ := h0; exact DataW.trod_lt m _ _ _ hm
  have o0 := hval 0 22 v0 rfl rfl
  clear hA0 hval0 hval
  have hwalk : Calls Try.prog 3 #[v0] W fun e w' => e = .returned (.bool true) ∧ Below W.heap.size W w' := by
    clear hW' hfz hnd hcnd lt0
    obtain ⟨a, cap, ps, rfl, hst, hl, hs⟩ := arg_purs o0 h0
    exact walk cap hst hl hs
  refine hwalk.mono fun e W' ⟨he, bel⟩ => ?_
  subst he
  exact ⟨_, rfl, _, _, _, [], _, [], hW', trodAll_mk1 (shut_bool Try.underlying4 _), (trodAll_cons_mk (Below.trod laidOut (by kernel_rfl) (of_decide_eq_true (by kernel_rfl)) h0 bel lt0) trodAll_mk0), rfl, bel.frame _, fun h => by cases h⟩

theorem over : Rows.fnExactNewBookRow.holds Try.pinned (OpenSpec.ofChange Rows.fnExactNewBookSpec) :=
  OpenClaim.holds_of_wide 3 Try.f3 rfl rfl rfl rfl rfl rfl rfl ⟨rfl, rfl, rfl, rfl, rfl⟩ rfl rfl rfl rfl rfl (by kernel_rfl) Try.func3 (by kernel_rfl)
    (of_decide_eq_true (by kernel_rfl)) (by unfold Func.isWrapper; first | (rw [if_pos (by decide +kernel)]; kernel_rfl) | (rw [if_neg (by decide +kernel)]; exact ⟨rfl, rfl⟩))
    (fun os started H enc _ => lifted os started H enc)

/-- THE STATEMENT -/
theorem proved : Rows.FnExactNewBookSaid := over
#print axioms proved
end Go.Proofs.Ytbgklakhelcgcaa.fnExactNewBook
