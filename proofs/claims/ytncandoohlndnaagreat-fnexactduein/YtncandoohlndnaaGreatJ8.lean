/-
  Texts joined: PartJ, PartL, BookI, BookJ, BookK, BookX, DueI, ArgStrs, ArgPurs, ArgRecs, ArgMill, ArgPart, ArgWait, ArgBook.
-/
import Derived.Test.YtncandoohlndnaaGreatJ7
import Derived.SliceStrings
import Derived.ShutString
import Derived.ChangeOld
import Derived.Carry
import Derived.Deep.SlicePairs
import Derived.Deep.Slices
import Derived.Deep.Fields
namespace Go.Proofs.YtncandoohlndnaaGreat
open Go.ChangeShapes Go.WideShapes Go.ChangeAt Go.RowKit

set_option maxHeartbeats 1000000 in
set_option maxRecDepth 100000 in
theorem iPartsOk_any {w : World} {a : Option Addr} {ps : List Par} (cap : Nat) (h : Recs Par.cs w a ps) (hl : ps.length ≤ 9223372036854775807) (hs : PSized ps) :
    Calls Tryz.prog 85 #[.slice a ps.length cap] w fun e w' => e = .returned (.bool (partsB ps)) ∧ Below w.heap.size w w' := by
  have H := Lib.hid h
  have HS := Lib.hid hs
  clear h hs
  go_enter Tryz.func85, Tryz.ntmps85
  go_wp2_with fail
  refine (iHeld_any _ H.out HS.out hl).mono ?_
  rintro e w1 ⟨b, rfl, hb, hm, hb1⟩
  have HB1 := Lib.hid hb1
  clear hb1 hm
  go_wp2
  go_ret
  exact ⟨rfl, HB1.out⟩

/-- Their key is that one just where they are that one's of that mill. -/
theorem same_is {p : Par} {who mill : ByteArray} (hp : p.who.size ≤ maxLen ∧ p.mill.size ≤ maxLen) (hw : who.size ≤ maxLen) (hm : mill.size ≤ maxLen) : (keyL p).sameKey (keyAt who mill) = isB p who mill := by
  apply Bool.eq_iff_iff.2
  rw [same_iff keyK ⟨_, keyOf_par hp⟩]
  constructor
  · intro h
    obtain ⟨e1, e2⟩ := keyAt_inj hp.1 hp.2 hw hm h
    simp [isB, e1, e2]
  · intro h
    obtain ⟨e1, e2⟩ := is_parts h
    unfold keyL
    rw [bytes_same e1, bytes_same e2]
/-- So many shares as lie under that key. -/
noncomputable def valP (ps : List Par) (who mill : ByteArray) : Int := ((under keyL (keyAt who mill) ps).map Par.shares).getD 0
theorem valP_of {ps : List Par} (hs : PSized ps) (hf : partsB ps = true) {who mill : ByteArray} (hw : who.size ≤ maxLen) (hm : mill.size ≤ maxLen) : valP ps who mill = sharesOfV ps who mill := by
  unfold valP under
  cases h : ps.find? fun y => (keyL y).sameKey (keyAt who mill) with
  | none =>
    rw [List.find?_eq_none] at h
    rw [sharesOf_none hf]
    · rfl
    · apply pfind_none
      intro p hp
      have := h p hp
      rw [same_is (psized_mem.1 hs p hp) hw hm] at this
      simpa using this
  | some p =>
    have hp := List.mem_of_find?_eq_some h
    have hq := List.find?_some (p := fun y => (keyL y).sameKey (keyAt who mill)) h
    rw [same_is (psized_mem.1 hs p hp) hw hm] at hq
    obtain ⟨k, hk, rfl⟩ := List.getElem_of_mem hp
    rw [sharesOf_hit hf (pfind_at (parts_pair.1 hf).2.2 hk hq) hk]
    rfl
theorem look_val {w : World} {b : Nat} {ps : List Par} (h : Holds5 w b ps) {who mill : ByteArray} (hw : who.size ≤ maxLen) (hm : mill.size ≤ maxLen) :
    (Instr.lookup 138 (.map (some b)) (.agg #[.string who, .string mill]) false).run Tryz.prog w = .ok (.int .i64 (valP ps who mill)) w := by
  obtain ⟨v, pl, hr, hv⟩ := h.look keyK Tryz.underlying138 (Tryz.zeroValue2 w) (show sharesR (.int .i64 0) = some (.lit (.int .i64 0), []) from rfl) (keyOf_pair hw hm)
  have e : ((under keyL (keyAt who mill) ps).map sharesD).getD (.lit (.int .i64 0)) = .lit (.int .i64 (valP ps who mill)) := by
    unfold valP
    cases under keyL (keyAt who mill) ps <;> rfl
  rw [e] at hv
  rw [hr, sharesR_inv hv]

theorem sum_bd {mill : ByteArray} : ∀ {acc : List Par}, (∀ p ∈ acc, partB p = true) → 0 ≤ (acc.map (valM mill)).sum ∧ (acc.map (valM mill)).sum ≤ 1000000000 * acc.length
  | [], _ => by simp
  | p :: r, h => by
    have h1 := sum_bd (mill := mill) (acc := r) (fun q hq => h q (by simp [hq]))
    have h2 := part_bd1 (h p (by simp))
    have h3 : 0 ≤ valM mill p ∧ valM mill p ≤ 1000000000 := by unfold valM; split <;> omega
    simp only [List.map_cons, List.sum_cons, List.length_cons]
    omega
theorem sum_perm {mill : ByteArray} {xs ys : List Par} (h : xs.Perm ys) : (xs.map (valM mill)).sum = (ys.map (valM mill)).sum := by
  induction h with
  | nil => rfl
  | cons x _ ih => simp [ih]
  | swap x y l => simp only [List.map_cons, List.sum_cons]; omega
  | trans _ _ h1 h2 => exact h1.trans h2

/-- The loop's word. -/
def SumRel (w : World) (b r : Nat) (ps : List Par) (mill : ByteArray) (v : Value) (wr : World) : Prop :=
  ∃ (acc todo : List Par), v = .int .i64 (acc.map (valM mill)).sum ∧ Ranges5 wr b r ps todo ∧ (acc ++ todo).Perm ps ∧ Below w.heap.size w wr

set_option maxHeartbeats 4000000 in
set_option maxRecDepth 100000 in
theorem iSharesIn_any {w : World} {a : Option Addr} {ps : List Par} (cap : Nat) (mill : ByteArray) (h : Recs Par.cs w a ps) (hl : ps.length ≤ 9223372036854775807) (hs : PSized ps) :
    Calls Tryz.prog 89 #[.slice a ps.length cap, .string mill] w fun e w' => e = .returned (.int .i64 (sharesInV ps mill)) ∧ Below w.heap.size w w' := by
  have H := Lib.hid h
  have HS := Lib.hid hs
  clear h hs
  go_enter Tryz.func89, Tryz.ntmps89
  go_wp2_with fail
  refine (iHeld_any _ H.out HS.out hl).mono ?_
  rintro e w1 ⟨b, rfl, hb, hm, hb1⟩
  have HB1 := Lib.hid hb1
  have HH := Lib.hid hm
  clear hb1 hm
  cases hf : partsB ps
  · have HN := Lib.hid (show sharesInV ps mill = -1 by simp [sharesInV, hf])
    go_wp2
    go_ret
    exact ⟨by rw [HN.out]; rfl, HB1.out⟩
  · have HN := Lib.hid (sharesIn_eq hf mill)
    have HP := Lib.hid (parts_pair.1 hf)
    have HH2 : Hid (Holds5 w1 b ps) := by have := HH.out; rw [held_yes hf] at this; exact this
    obtain ⟨w2, hrg, hr2, hg2, hs2⟩ := HH2.out.range keyK Tryz.underlying138
    have HR0 : Hid (SumRel w b w1.heap.size ps mill (.int .i64 0) w2) := ⟨[], ps, rfl, hr2, by simp, bgrown HB1.out HB1.out.size hg2 (by simp)⟩
    have hblt : b < w1.heap.size := HH2.out.lt
    have hwlt : w.heap.size ≤ w1.heap.size := HB1.out.size
    clear hr2 hg2 hs2 HH HH2 HB1 hf
    go_wp2
    clear hrg
    go_loopw [7] (fun v wr => SumRel w b w1.heap.size ps mill v wr) (fun _ wr => wr.rangeLeft b w1.heap.size)
    case atStart => exact HR0.out
    case round =>
      clear HR0
      obtain ⟨acc, todo, rfl, hrg, hperm, hb⟩ := hrel
      have HALL : Hid (∀ p ∈ acc, partB p = true) := fun p hp => HP.out.2.1 p (hperm.mem_iff.1 (List.mem_append_left _ hp))
      have hsb := sum_bd (mill := mill) HALL.out
      have hlen : acc.length + todo.length = ps.length := by rw [← List.length_append]; exact hperm.length_eq
      have h20 := HP.out.1
      obtain ⟨t, HT⟩ : ∃ t, Hid ((acc.map (valM mill)).sum = t) := ⟨_, Lib.hid rfl⟩
      rw [HT.out] at hsb ⊢
      rcases hrg.next keyK 0 with ⟨rfl, hrun⟩ | ⟨x, key, v, pl, w3, hx, hxp, hkey, hval, hrun, hrg3, hlt3, hg3, hs3, hen⟩
      · have HE : Hid (t = sharesInV ps mill) := by
          rw [← HT.out, HN.out]
          exact sum_perm (by simpa using hperm)
        have HB := Lib.hid hb
        clear hrg hperm hb
        go_wp2
        go_ret
        exact ⟨by rw [← HE.out]; rfl, HB.out⟩
      · obtain rfl := key_at (psized_mem.1 HS.out x hxp) hkey
        obtain rfl := sharesR_inv hval
        have hx1 := part_bd1 (HP.out.2.1 x hxp)
        have HPM : Hid ((acc ++ [x] ++ without keyL (keyL x) todo).Perm ps) := by
          refine List.Perm.trans ?_ hperm
          rw [List.append_assoc]
          exact (List.Perm.append_left acc (hrg.part keyK hx)).symm
        have HNEXT : Hid (∀ u, ((acc ++ [x]).map (valM mill)).sum = u → SumRel w b w1.heap.size ps mill (.int .i64 u) (w3.alloc (.cells #[.string x.who, .string x.mill] 144)) ∧ (w3.alloc (.cells #[.string x.who, .string x.mill] 144)).rangeLeft b w1.heap.size < wr.rangeLeft b w1.heap.size) := by
          intro u hu
          refine ⟨⟨acc ++ [x], without keyL (keyL x) todo, by rw [hu], hrg3.kept (World.grownBy_alloc w3 _ none) (by simp) (by simp), HPM.out, below_trans (bgrown hb hb.size hg3 (fun g' e => by injection e with e; omega)) (below_new _ _)⟩, ?_⟩
          rw [hrg3.left_kept (World.grownBy_alloc _ _ none) (by simp) (by simp)]
          exact hlt3
        have hal : acc.length + 1 ≤ ps.length := by have := List.length_pos_of_mem hx; omega
        clear hrg hperm hb hrg3 hlt3 hg3 hs3 hkey hval hx hxp
        cases hq : (x.mill.toList == mill.toList)
        · have HR := Lib.hid (HNEXT.out t (by simp [valM, hq, HT.out]))
          go_wp2
          go_roundw
          case rel => exact HR.out.1
          case measure => exact HR.out.2
        · have HR := Lib.hid (HNEXT.out (t + x.shares) (by simp [valM, hq, HT.out]))
          have hwr : IntKind.i64.wrap (t + x.shares) = t + x.shares := IntWalk.i64_in _ (by omega)
          go_wp2
          go_roundw
          case rel => exact HR.out.1
          case measure => exact HR.out.2
end Go.Proofs.YtncandoohlndnaaGreat
namespace Go.Proofs.YtncandoohlndnaaGreat
open Go.ChangeShapes Go.WideShapes Go.ChangeAt Go.RowKit

/-- The loop's word. -/
def DelRel (w : World) (b r : Nat) (ps : List Par) (who : ByteArray) (wr : World) : Prop :=
  ∃ (done todo cur : List Par), (done ++ todo).Perm ps ∧ Ranges5 wr b r cur todo ∧ cur.Perm (ofWho who done ++ todo) ∧ w.grownBy wr (some b) ∧ r < wr.heap.size
theorem without_twice (l : Lit) (xs : List Par) : without keyL l (without keyL l xs) = without keyL l xs := by
  unfold without
  rw [List.filter_filter]
  apply List.filter_congr
  intro y _
  cases (keyL y).sameKey l <;> rfl

end Go.Proofs.YtncandoohlndnaaGreat
namespace Go.Proofs.YtncandoohlndnaaGreat
open Go.ChangeShapes Go.WideShapes Go.ChangeAt Go.RowKit

/-- A block holds a ledger whose lists lie. -/
structure BoxL (w : World) (B : Nat) (b : Bok) (s : Spots) : Prop where
  book : BookAt w b s
  c0 : w.cell? ⟨B, 0, none⟩ = some (.slice s.fa b.folk.length s.fc)
  c1 : w.cell? ⟨B, 1, none⟩ = some (.slice s.ma b.mills.length s.mc)
  c2 : w.cell? ⟨B, 2, none⟩ = some (.slice s.pa b.parts.length s.pc)
  c3 : w.cell? ⟨B, 3, none⟩ = some (.slice s.wa b.waits.length s.wc)
theorem BoxL.lt {w : World} {B : Nat} {b : Bok} {s : Spots} (h : BoxL w B b s) : B < w.heap.size := at_lt h.c0
theorem BoxL.below {w w' : World} {B : Nat} {b : Bok} {s : Spots} (h : BoxL w B b s) (hb : Below w.heap.size w w') : BoxL w' B b s := by
  have k : ∀ o v, w.cell? ⟨B, o, none⟩ = some v → w'.cell? ⟨B, o, none⟩ = some v := fun o v hc => (hb.cell (p := ⟨B, o, none⟩) h.lt).trans hc
  exact ⟨h.book.below hb, k _ _ h.c0, k _ _ h.c1, k _ _ h.c2, k _ _ h.c3⟩
theorem BoxL.new {w : World} {b : Bok} {s : Spots} (h : BookAt w b s) (T : TypeId) : BoxL (w.alloc (.cells #[.slice s.fa b.folk.length s.fc, .slice s.ma b.mills.length s.mc, .slice s.pa b.parts.length s.pc, .slice s.wa b.waits.length s.wc] T)) w.heap.size b s := by
  have k : ∀ (o : Nat) v, (#[.slice s.fa b.folk.length s.fc, .slice s.ma b.mills.length s.mc, .slice s.pa b.parts.length s.pc, .slice s.wa b.waits.length s.wc] : Array Value)[o]? = some v → (w.alloc (.cells #[.slice s.fa b.folk.length s.fc, .slice s.ma b.mills.length s.mc, .slice s.pa b.parts.length s.pc, .slice s.wa b.waits.length s.wc] T)).cell? ⟨w.heap.size, o, none⟩ = some v := fun o v hv => by
    simp only [World.cell?, heap_alloc_new]; exact hv
  exact ⟨h.below (below_new _ _), k _ _ rfl, k _ _ rfl, k _ _ rfl, k _ _ rfl⟩

set_option maxHeartbeats 2000000 in
set_option maxRecDepth 100000 in
theorem iLedger_any {w : World} {b : Bok} {s : Spots} :
    Calls Tryz.prog 20 #[.agg #[.int .i64 b.season, .int .i64 b.supply, .int .i64 b.burnt, .int .i64 b.pot, .slice s.fa b.folk.length s.fc, .slice s.ma b.mills.length s.mc, .slice s.pa b.parts.length s.pc, .slice s.wa b.waits.length s.wc]] w fun e w' => e = .returned (.agg #[.slice s.fa b.folk.length s.fc, .slice s.ma b.mills.length s.mc, .slice s.pa b.parts.length s.pc, .slice s.wa b.waits.length s.wc]) ∧ Below w.heap.size w w' := by
  go_enter Tryz.func20, Tryz.ntmps20
  go_wp2
  refine bodyPost_ret (v := .agg #[.slice s.fa b.folk.length s.fc, .slice s.ma b.mills.length s.mc, .slice s.pa b.parts.length s.pc, .slice s.wa b.waits.length s.wc]) (by simp [results, Tryz.results20, go_sem]) rfl ⟨rfl, ?_⟩
  exact ((Below.refl _ _).alloc (Nat.le_refl _) _).alloc (by simp) _

set_option maxHeartbeats 2000000 in
set_option maxRecDepth 100000 in
theorem allOfA_any (x y z : Int) (B : Nat) (w : World)
    (h0 : w.cell? ⟨B, 0, none⟩ = some (.int .i64 x)) (h1 : w.cell? ⟨B, 1, none⟩ = some (.int .i64 y)) (h2 : w.cell? ⟨B, 2, none⟩ = some (.int .i64 z)) :
    Calls Tryz.prog 64 #[.func (Fn.func 65) #[] #[], .slice (some ⟨B, 0, none⟩) 3 3] w fun e w' => e = .returned (.bool (inB 0 1000000 x && (inB 0 1000000 y && inB 0 1000000 z))) ∧ w = w' := by
  cases hx : inB 0 1000000 x
  · go_enter Tryz.func64, Tryz.ntmps64
    go_wp2
    refine wp_loop_rounds 4 ?_
    rw [rounds_succ]
    go_wp2_with (go_at_call 65; refine (iAmountOk_any _ _).mono ?_; rintro e w' ⟨rfl, rfl⟩; rw [hx])
    go_ret
    exact ⟨rfl, rfl⟩
  cases hy : inB 0 1000000 y
  · go_enter Tryz.func64, Tryz.ntmps64
    go_wp2
    refine wp_loop_rounds 4 ?_
    rw [rounds_succ]
    go_wp2_with (go_at_call 65; refine (iAmountOk_any _ _).mono ?_; rintro e w' ⟨rfl, rfl⟩; rw [hx])
    rw [rounds_succ]
    go_wp2_with (go_at_call 65; refine (iAmountOk_any _ _).mono ?_; rintro e w' ⟨rfl, rfl⟩; rw [hy])
    go_ret
    exact ⟨rfl, rfl⟩
  cases hz : inB 0 1000000 z
  · go_enter Tryz.func64, Tryz.ntmps64
    go_wp2
    refine wp_loop_rounds 4 ?_
    rw [rounds_succ]
    go_wp2_with (go_at_call 65; refine (iAmountOk_any _ _).mono ?_; rintro e w' ⟨rfl, rfl⟩; rw [hx])
    rw [rounds_succ]
    go_wp2_with (go_at_call 65; refine (iAmountOk_any _ _).mono ?_; rintro e w' ⟨rfl, rfl⟩; rw [hy])
    rw [rounds_succ]
    go_wp2_with (go_at_call 65; refine (iAmountOk_any _ _).mono ?_; rintro e w' ⟨rfl, rfl⟩; rw [hz])
    go_ret
    exact ⟨rfl, rfl⟩
  · go_enter Tryz.func64, Tryz.ntmps64
    go_wp2
    refine wp_loop_rounds 4 ?_
    rw [rounds_succ]
    go_wp2_with (go_at_call 65; refine (iAmountOk_any _ _).mono ?_; rintro e w' ⟨rfl, rfl⟩; rw [hx])
    rw [rounds_succ]
    go_wp2_with (go_at_call 65; refine (iAmountOk_any _ _).mono ?_; rintro e w' ⟨rfl, rfl⟩; rw [hy])
    rw [rounds_succ]
    go_wp2_with (go_at_call 65; refine (iAmountOk_any _ _).mono ?_; rintro e w' ⟨rfl, rfl⟩; rw [hz])
    rw [rounds_succ]
    go_wp2
    go_ret
    exact ⟨rfl, rfl⟩
theorem allOfA_new (a b c : Int) (w : World) :
    Calls Tryz.prog 64 #[.func (Fn.func 65) #[] #[], .slice (some ⟨w.heap.size, 0, none⟩) 3 3] (w.alloc (.cells #[.int .i64 a, .int .i64 b, .int .i64 c] 2)) fun e w' => e = .returned (.bool (inB 0 1000000 a && (inB 0 1000000 b && inB 0 1000000 c))) ∧ w.alloc (.cells #[.int .i64 a, .int .i64 b, .int .i64 c] 2) = w' :=
  allOfA_any a b c w.heap.size _ (by go_simp) (by go_simp) (by go_simp)

set_option maxHeartbeats 2000000 in
set_option maxRecDepth 100000 in
theorem iRange_any {w : World} {b : Bok} {s : Spots} (h : BookAt w b s) :
    Calls Tryz.prog 40 #[.agg #[.int .i64 b.season, .int .i64 b.supply, .int .i64 b.burnt, .int .i64 b.pot, .slice s.fa b.folk.length s.fc, .slice s.ma b.mills.length s.mc, .slice s.pa b.parts.length s.pc, .slice s.wa b.waits.length s.wc]] w fun e w' => e = .returned (.bool (rangeB b)) ∧ Below w.heap.size w w' := by
  obtain ⟨W, hW⟩ : ∃ W, w.alloc (.cells #[.int .i64 b.season, .int .i64 b.supply, .int .i64 b.burnt, .int .i64 b.pot, .slice s.fa b.folk.length s.fc, .slice s.ma b.mills.length s.mc, .slice s.pa b.parts.length s.pc, .slice s.wa b.waits.length s.wc] 35) = W := ⟨_, rfl⟩
  have X0 := Lib.hid (BoxB.new h 35)
  have B0 := Lib.hid (below_new w (.cells #[.int .i64 b.season, .int .i64 b.supply, .int .i64 b.burnt, .int .i64 b.pot, .slice s.fa b.folk.length s.fc, .slice s.ma b.mills.length s.mc, .slice s.pa b.parts.length s.pc, .slice s.wa b.waits.length s.wc] 35))
  rw [hW] at X0 B0
  clear h
  have HR : Hid (rangeB b = (inB 0 1000 b.season && (inB 0 1000000 b.supply && (inB 0 1000000 b.burnt && inB 0 1000000 b.pot)))) := rfl
  have c0 := X0.out.c0
  have c1 := X0.out.c1
  have c2 := X0.out.c2
  have c3 := X0.out.c3
  go_enter Tryz.func40, Tryz.ntmps40
  go_wp2_with fail
  refine (within_any _ _ _).mono ?_
  rintro e w1 ⟨rfl, rfl⟩
  cases h1 : inB 0 1000 b.season
  · have HN := Lib.hid (show rangeB b = false from HR.out.trans (by rw [h1]; rfl))
    go_wp2
    go_ret
    exact ⟨by rw [HN.out]; rfl, B0.out⟩
  go_wp2_with fail
  refine (allOfA_new _ _ _ _).mono ?_
  rintro e w2 ⟨rfl, hw2⟩
  have B2 := Lib.hid (below_trans B0.out (below_new W (.cells #[.int .i64 b.supply, .int .i64 b.burnt, .int .i64 b.pot] 2)))
  rw [hw2] at B2
  clear hw2
  have HN := Lib.hid (show rangeB b = (inB 0 1000000 b.supply && (inB 0 1000000 b.burnt && inB 0 1000000 b.pot)) from HR.out.trans (by rw [h1]; rfl))
  go_wp2
  go_ret
  exact ⟨by rw [HN.out]; rfl, B2.out⟩

set_option maxHeartbeats 4000000 in
set_option maxRecDepth 100000 in
theorem iRight_any {w : World} {b : Bok} {s : Spots} (h : BookAt w b s) (hl : BLen b) (hz : BSized b) :
    Calls Tryz.prog 66 #[.agg #[.slice s.fa b.folk.length s.fc, .slice s.ma b.mills.length s.mc, .slice s.pa b.parts.length s.pc, .slice s.wa b.waits.length s.wc]] w fun e w' => e = .returned (.bool (rightsB b)) ∧ Below w.heap.size w w' := by
  have X0 := Lib.hid (BoxL.new h 56)
  have B0 := Lib.hid (below_new w (.cells #[.slice s.fa b.folk.length s.fc, .slice s.ma b.mills.length s.mc, .slice s.pa b.parts.length s.pc, .slice s.wa b.waits.length s.wc] 56))
  have HL := Lib.hid hl
  have HZ := Lib.hid hz
  clear h hl hz
  have HR : Hid (rightsB b = (folkB b.folk && (millsB b.mills && (partsB b.parts && waitsB b.waits)))) := rfl
  go_enter Tryz.func66, Tryz.ntmps66
  go_wp2_with fail
  refine (iFolkOk_any _ X0.out.book.folk HL.out.fl HZ.out.fs).mono ?_
  rintro e w1 ⟨rfl, hb1⟩
  have X1 := Lib.hid (X0.out.below hb1)
  have B1 := Lib.hid (below_trans B0.out hb1)
  clear X0 B0 hb1
  cases h1 : folkB b.folk
  · have HN := Lib.hid (show rightsB b = false from HR.out.trans (by rw [h1]; rfl))
    go_wp2
    go_ret
    exact ⟨by rw [HN.out]; rfl, B1.out⟩
  have c1 := X1.out.c1
  go_wp2_with fail
  refine (iMillsOk_any _ X1.out.book.mills (by have := HL.out.ml; omega) HZ.out.ms).mono ?_
  rintro e w2 ⟨rfl, hb2⟩
  have X2 := Lib.hid (X1.out.below hb2)
  have B2 := Lib.hid (below_trans B1.out hb2)
  clear X1 B1 hb2 c1
  cases h2 : millsB b.mills
  · have HN := Lib.hid (show rightsB b = false from HR.out.trans (by rw [h1, h2]; rfl))
    go_wp2
    go_ret
    exact ⟨by rw [HN.out]; rfl, B2.out⟩
  have c2 := X2.out.c2
  go_wp2_with fail
  refine (iPartsOk_any _ X2.out.book.parts (by have := HL.out.pl; omega) HZ.out.ps).mono ?_
  rintro e w3 ⟨rfl, hb3⟩
  have X3 := Lib.hid (X2.out.below hb3)
  have B3 := Lib.hid (below_trans B2.out hb3)
  clear X2 B2 hb3 c2
  cases h3 : partsB b.parts
  · have HN := Lib.hid (show rightsB b = false from HR.out.trans (by rw [h1, h2, h3]; rfl))
    go_wp2
    go_ret
    exact ⟨by rw [HN.out]; rfl, B3.out⟩
  have c3 := X3.out.c3
  go_wp2_with fail
  refine (iWaitsOk_any _ X3.out.book.waits (by have := HL.out.wl; omega) HZ.out.ws).mono ?_
  rintro e w4 ⟨rfl, hb4⟩
  have B4 := Lib.hid (below_trans B3.out hb4)
  have HN := Lib.hid (show rightsB b = waitsB b.waits from HR.out.trans (by rw [h1, h2, h3]; rfl))
  clear X3 B3 hb4 c3
  go_wp2
  go_ret
  exact ⟨by rw [HN.out]; rfl, B4.out⟩
end Go.Proofs.YtncandoohlndnaaGreat
namespace Go.Proofs.YtncandoohlndnaaGreat
open Go.ChangeShapes Go.WideShapes Go.ChangeAt Go.RowKit

set_option maxHeartbeats 1000000 in
set_option maxRecDepth 100000 in
theorem iFree_any {w : World} {a : Option Addr} {ps : List Pur} (cap : Nat) (h : Purs w a ps) (hl : ps.length ≤ 1048576) (hs : Sized (pnames ps)) :
    Calls Tryz.prog 67 #[.slice a ps.length cap] w fun e w' => e = .returned (.int .i64 (freeInV ps)) ∧ Below w.heap.size w w' := by
  have H := Lib.hid h
  have HS := Lib.hid hs
  clear h hs
  go_enter Tryz.func67, Tryz.ntmps67
  go_wp2_with (go_at_call 86; refine (iFreeIn_any _ H.out hl HS.out).mono ?_; rintro e w1 ⟨rfl, hb1⟩)
  go_ret
  exact ⟨rfl, hb1⟩

set_option maxHeartbeats 1000000 in
set_option maxRecDepth 100000 in
theorem iStaked_any {w : World} {a : Option Addr} {ps : List Mil} (cap : Nat) (h : Recs Mil.cs w a ps) (hl : ps.length ≤ 9223372036854775807) (hs : Sized (mnames ps)) :
    Calls Tryz.prog 68 #[.slice a ps.length cap] w fun e w' => e = .returned (.int .i64 (stakesV ps)) ∧ Below w.heap.size w w' := by
  have H := Lib.hid h
  have HS := Lib.hid hs
  clear h hs
  go_enter Tryz.func68, Tryz.ntmps68
  go_wp2_with (go_at_call 87; refine (iStakesIn_any _ H.out hl HS.out).mono ?_; rintro e w1 ⟨rfl, hb1⟩)
  go_ret
  exact ⟨rfl, hb1⟩

set_option maxHeartbeats 1000000 in
set_option maxRecDepth 100000 in
theorem iWaitingM_any {w : World} {a : Option Addr} {ps : List Wai} (cap : Nat) (h : Recs Wai.cs w a ps) (hl : ps.length ≤ 9223372036854775807) (hs : WSized ps) :
    Calls Tryz.prog 69 #[.slice a ps.length cap] w fun e w' => e = .returned (.int .i64 (amountInV ps)) ∧ Below w.heap.size w w' := by
  have H := Lib.hid h
  have HS := Lib.hid hs
  clear h hs
  go_enter Tryz.func69, Tryz.ntmps69
  go_wp2_with (go_at_call 24; refine (iAmountIn_any _ H.out hl HS.out).mono ?_; rintro e w1 ⟨rfl, hb1⟩)
  go_ret
  exact ⟨rfl, hb1⟩

set_option maxHeartbeats 1000000 in
set_option maxRecDepth 100000 in
theorem iSharesInM_any {w : World} {a : Option Addr} {ps : List Par} (cap : Nat) (mill : ByteArray) (h : Recs Par.cs w a ps) (hl : ps.length ≤ 9223372036854775807) (hs : PSized ps) :
    Calls Tryz.prog 71 #[.slice a ps.length cap, .string mill] w fun e w' => e = .returned (.int .i64 (sharesInV ps mill)) ∧ Below w.heap.size w w' := by
  have H := Lib.hid h
  have HS := Lib.hid hs
  clear h hs
  go_enter Tryz.func71, Tryz.ntmps71
  go_wp2_with (go_at_call 89; refine (iSharesIn_any _ _ H.out hl HS.out).mono ?_; rintro e w1 ⟨rfl, hb1⟩)
  go_ret
  exact ⟨rfl, hb1⟩

theorem has_free {ps : List Pur} (s : ByteArray) (hf : folkB ps = true) : (freeOfV ps s < 0) = (placeV (pnames ps) s < 0) := by
  by_cases hp : 0 ≤ placeV (pnames ps) s
  · obtain ⟨k, e, hk, -⟩ := place_hit hp
    rw [len_pn] at hk
    have h1 := freeOf_in hf e hk
    have h2 := inB_bd ((folk_true hf).2.1 k hk hk)
    rw [h1, e]
    simp only [eq_iff_iff]
    omega
  · rw [freeOf_out hp]
    simp only [eq_iff_iff]
    omega

set_option maxHeartbeats 1000000 in
set_option maxRecDepth 100000 in
theorem iHasPurse_any {w : World} {a : Option Addr} {ps : List Pur} (cap : Nat) (s : ByteArray) (h : Purs w a ps) (hl : ps.length ≤ 1048576) (hs : Sized (pnames ps)) (hf : folkB ps = true) :
    Calls Tryz.prog 21 #[.slice a ps.length cap, .string s] w fun e w' => e = .returned (.bool (decide (0 ≤ placeV (pnames ps) s))) ∧ Below w.heap.size w w' := by
  have H := Lib.hid h
  have HS := Lib.hid hs
  have HF := Lib.hid (has_free s hf)
  clear h hs hf
  go_enter Tryz.func21, Tryz.ntmps21
  go_wp2_with fail
  refine (iFreeOf_any _ _ H.out hl HS.out).mono ?_
  rintro e w1 ⟨rfl, hb1⟩
  obtain ⟨q, hq⟩ : ∃ q, placeV (pnames ps) s = q := ⟨_, rfl⟩
  obtain ⟨v, hv⟩ : ∃ v, freeOfV ps s = v := ⟨_, rfl⟩
  rw [hq, hv] at HF
  have HQ := Lib.hid hq
  rw [hv]
  clear hq hv
  have HD := Lib.hid (show decide (0 ≤ q) = decide (0 ≤ v) by have := HF.out; rw [eq_iff_iff] at this; exact decide_eq_decide.2 (by omega))
  go_wp2
  go_ret
  exact ⟨by rw [HQ.out, HD.out]; rfl, hb1⟩

set_option maxHeartbeats 1000000 in
set_option maxRecDepth 100000 in
theorem iHasMill_any {w : World} {a : Option Addr} {ms : List Mil} (cap : Nat) (s : ByteArray) (h : Recs Mil.cs w a ms) (hl : ms.length ≤ 9223372036854775807) (hs : Sized (mnames ms)) :
    Calls Tryz.prog 88 #[.slice a ms.length cap, .string s] w fun e w' => e = .returned (.bool (millInB ms s)) ∧ Below w.heap.size w w' := by
  have H := Lib.hid h
  have HS := Lib.hid hs
  clear h hs
  obtain ⟨m, HM⟩ : ∃ x, Hid (millInV ms s = x) := ⟨_, Lib.hid rfl⟩
  go_enter Tryz.func88, Tryz.ntmps88
  go_wp2_with fail
  refine (iMillIn_any _ _ H.out hl HS.out).mono ?_
  rw [HM.out]
  rintro e w1 ⟨rfl, hb1⟩
  have B1 := Lib.hid hb1
  clear hb1
  go_wp2
  go_ret
  exact ⟨rfl, below_trans B1.out (below_new _ _)⟩

set_option maxHeartbeats 2000000 in
set_option maxRecDepth 100000 in
theorem iKnows_any {w : World} {b : Bok} {s : Spots} (who mill : ByteArray) (h : BookAt w b s) (hl : BLen b) (hz : BSized b) (hf : folkB b.folk = true) (hm : millsB b.mills = true) :
    Calls Tryz.prog 70 #[.agg #[.slice s.fa b.folk.length s.fc, .slice s.ma b.mills.length s.mc, .slice s.pa b.parts.length s.pc, .slice s.wa b.waits.length s.wc], .string who, .string mill] w fun e w' => e = .returned (.bool (knownB b who mill)) ∧ Below w.heap.size w w' := by
  have X0 := Lib.hid (BoxL.new h 56)
  have B0 := Lib.hid (below_new w (.cells #[.slice s.fa b.folk.length s.fc, .slice s.ma b.mills.length s.mc, .slice s.pa b.parts.length s.pc, .slice s.wa b.waits.length s.wc] 56))
  have HL := Lib.hid hl
  have HZ := Lib.hid hz
  have HF := Lib.hid hf
  have HK : Hid (knownB b who mill = (decide (0 ≤ placeV (pnames b.folk) who) && millInB b.mills mill)) := by
    simp [Hid, knownB, millInB, hm]
  clear h hl hz hf hm
  go_enter Tryz.func70, Tryz.ntmps70
  go_wp2_with fail
  refine (iHasPurse_any _ _ X0.out.book.folk HL.out.fl HZ.out.fs HF.out).mono ?_
  rintro e w1 ⟨rfl, hb1⟩
  have X1 := Lib.hid (X0.out.below hb1)
  have B1 := Lib.hid (below_trans B0.out hb1)
  clear X0 B0 hb1
  obtain ⟨d, hd⟩ : ∃ d, decide (0 ≤ placeV (pnames b.folk) who) = d := ⟨_, rfl⟩
  rw [hd] at HK
  rw [hd]
  clear hd
  cases d
  · go_wp2
    go_ret
    exact ⟨by rw [HK.out]; rfl, B1.out⟩
  have c1 := X1.out.c1
  go_wp2_with fail
  refine (iHasMill_any _ _ X1.out.book.mills (by have := HL.out.ml; omega) HZ.out.ms).mono ?_
  rintro e w2 ⟨rfl, hb2⟩
  have B2 := Lib.hid (below_trans B1.out hb2)
  clear X1 B1 hb2 c1
  go_wp2
  go_ret
  exact ⟨by rw [HK.out]; rfl, B2.out⟩

/-- All that are named are there. -/
noncomputable def knowsB (b : Bok) : Bool := @decide (KnowsP b b.parts.length ∧ KnowsW b b.waits.length) (Classical.propDecidable _)
theorem knows_true {b : Bok} (h : knowsB b = true) : KnowsP b b.parts.length ∧ KnowsW b b.waits.length := by
  unfold knowsB at h; exact @of_decide_eq_true _ (Classical.propDecidable _) h
theorem knows_yes {b : Bok} (h1 : KnowsP b b.parts.length) (h2 : KnowsW b b.waits.length) : knowsB b = true := by
  unfold knowsB; exact @decide_eq_true _ (Classical.propDecidable _) ⟨h1, h2⟩
theorem knows_no {b : Bok} (h : ¬ (KnowsP b b.parts.length ∧ KnowsW b b.waits.length)) : knowsB b = false := by
  unfold knowsB; exact @decide_eq_false _ (Classical.propDecidable _) h
theorem knows_p {b : Bok} {k : Nat} (hk : k < b.parts.length) (h : knownB b b.parts[k].who b.parts[k].mill = false) : knowsB b = false :=
  knows_no fun ⟨h1, _⟩ => by rw [h1 k hk hk] at h; cases h
theorem knows_w {b : Bok} {k : Nat} (hk : k < b.waits.length) (h : knownB b b.waits[k].who b.waits[k].mill = false) : knowsB b = false :=
  knows_no fun ⟨_, h1⟩ => by rw [h1 k hk hk] at h; cases h
/-- All shares are held. -/
noncomputable def heldB (b : Bok) : Bool := @decide (HeldM b b.mills.length) (Classical.propDecidable _)
theorem heldM_true {b : Bok} (h : heldB b = true) : HeldM b b.mills.length := by
  unfold heldB at h; exact @of_decide_eq_true _ (Classical.propDecidable _) h
theorem heldM_yes {b : Bok} (h1 : HeldM b b.mills.length) : heldB b = true := by
  unfold heldB; exact @decide_eq_true _ (Classical.propDecidable _) h1
theorem heldM_no {b : Bok} {k : Nat} (hk : k < b.mills.length) (h : sharesInV b.parts b.mills[k].name ≠ b.mills[k].shares) : heldB b = false := by
  unfold heldB; exact @decide_eq_false _ (Classical.propDecidable _) (fun h1 => h (h1 k hk hk))
theorem there_both (b : Bok) : thereB b = (knowsB b && heldB b) := by
  cases h1 : knowsB b
  · cases h2 : thereB b
    · rfl
    · have := there_true h2
      rw [knows_yes this.1 this.2.1] at h1; cases h1
  · cases h3 : heldB b
    · cases h2 : thereB b
      · rfl
      · have := there_true h2
        rw [heldM_yes this.2.2] at h3; cases h3
    · have a := knows_true h1
      rw [there_yes a.1 a.2 (heldM_true h3)]; rfl

set_option maxHeartbeats 8000000 in
set_option maxRecDepth 100000 in
theorem iKnowsAll_any {w : World} {b : Bok} {s : Spots} (h : BookAt w b s) (hl : BLen b) (hz : BSized b) (hf : folkB b.folk = true) (hm : millsB b.mills = true) :
    Calls Tryz.prog 42 #[.agg #[.slice s.fa b.folk.length s.fc, .slice s.ma b.mills.length s.mc, .slice s.pa b.parts.length s.pc, .slice s.wa b.waits.length s.wc]] w fun e w' => e = .returned (.bool (knowsB b)) ∧ Below w.heap.size w w' := by
  obtain ⟨W, hW⟩ : ∃ W, w.alloc (.cells #[.slice s.fa b.folk.length s.fc, .slice s.ma b.mills.length s.mc, .slice s.pa b.parts.length s.pc, .slice s.wa b.waits.length s.wc] 56) = W := ⟨_, rfl⟩
  have X0 := Lib.hid (BoxL.new h 56)
  have B0 := Lib.hid (below_new w (.cells #[.slice s.fa b.folk.length s.fc, .slice s.ma b.mills.length s.mc, .slice s.pa b.parts.length s.pc, .slice s.wa b.waits.length s.wc] 56))
  rw [hW] at X0 B0
  have HL := Lib.hid hl
  have HZ := Lib.hid hz
  have HF := Lib.hid hf
  have HM := Lib.hid hm
  have l3 := hl.pl
  have l4 := hl.wl
  clear h hl hz hf hm
  have c2 := X0.out.c2
  cases s with | mk fa fc ma mc pa pc wa wc =>
  dsimp only at c2 hW ⊢
  go_enter Tryz.func42, Tryz.ntmps42
  go_wp2
  clear c2
  go_loopw [10] (fun i w' => ∃ k : Nat, k ≤ b.parts.length ∧ i = .int .i64 k ∧ Below W.heap.size W w' ∧ KnowsP b k) (fun i _ => b.parts.length - (intOf i).toNat)
  case atStart => exact ⟨0, Nat.zero_le _, rfl, Below.refl _ _, KnowsP.zero _⟩
  case round =>
    obtain ⟨k, hk, rfl, hb, hu⟩ := hrel
    have X := Lib.hid (X0.out.below hb)
    have BB := Lib.hid (below_trans B0.out hb)
    have HB := Lib.hid hb
    have HU := Lib.hid hu
    clear hb hu
    by_cases hlt : k < b.parts.length
    · obtain ⟨p, off, ep, hlb, d0, d1, d2⟩ := Par.at X.out.book.parts k hlt
      dsimp only at ep
      subst ep
      obtain ⟨V, hV⟩ : ∃ V, wr.alloc (.cells #[.string b.parts[k].who, .string b.parts[k].mill, .int .i64 b.parts[k].shares] 83) = V := ⟨_, rfl⟩
      have BV := Lib.hid (below_new wr (.cells #[.string b.parts[k].who, .string b.parts[k].mill, .int .i64 b.parts[k].shares] 83))
      have RV := Lib.hid (RecAt.new Par.cs wr b.parts[k] 83)
      rw [hV] at BV
      rw [show wr.alloc (.cells (b.parts[k].cs).toArray 83) = V from hV] at RV
      have XV := Lib.hid (X.out.below BV.out)
      have HBV := Lib.hid (below_trans HB.out BV.out)
      have BBV := Lib.hid (below_trans BB.out BV.out)
      have r0 := RV.out 0 _ rfl
      have r1 := RV.out 1 _ rfl
      have x0 := XV.out.c0
      have x1 := XV.out.c1
      have x2 := XV.out.c2
      have x3 := XV.out.c3
      dsimp only at x0 x1 x2 x3
      clear hlb
      go_wp2_with fail
      refine (iKnows_any _ _ XV.out.book HL.out HZ.out HF.out HM.out).mono ?_
      rintro e w3 ⟨rfl, hb3⟩
      cases hq : knownB b b.parts[k].who b.parts[k].mill
      · have HN := Lib.hid (knows_p hlt hq)
        have HB3 := Lib.hid (below_trans BBV.out hb3)
        clear hb3
        go_wp2
        go_ret
        exact ⟨by rw [HN.out]; rfl, HB3.out⟩
      have HN := Lib.hid (HU.out.succ hlt hq)
      have HB3 := Lib.hid (below_trans HBV.out hb3)
      clear hb3
      go_wp2
      go_roundw
      case rel => exact ⟨k + 1, by omega, by go_num, HB3.out, HN.out⟩
      case measure => simp [intOf]; omega
    obtain rfl : k = b.parts.length := by omega
    have KP := HU
    have x3 := X.out.c3
    dsimp only at x3
    clear HU hlt
    go_wp2
    go_loopw [25] (fun i w' => ∃ k : Nat, k ≤ b.waits.length ∧ i = .int .i64 k ∧ Below W.heap.size W w' ∧ KnowsW b k) (fun i _ => b.waits.length - (intOf i).toNat)
    case atStart => exact ⟨0, Nat.zero_le _, rfl, HB.out, KnowsW.zero _⟩
    case round =>
      obtain ⟨k, hk, rfl, hb, hu⟩ := hrel
      clear X HB BB x3
      have X := Lib.hid (X0.out.below hb)
      have BB := Lib.hid (below_trans B0.out hb)
      have HB := Lib.hid hb
      have HU := Lib.hid hu
      clear hb hu
      by_cases hlt : k < b.waits.length
      · obtain ⟨p, off, ep, hlb, d0, d1, d2, d3⟩ := Wai.at X.out.book.waits k hlt
        dsimp only at ep
        subst ep
        obtain ⟨V, hV⟩ : ∃ V, wr.alloc (.cells #[.string b.waits[k].who, .string b.waits[k].mill, .int .i64 b.waits[k].amount, .int .i64 b.waits[k].ripe] 46) = V := ⟨_, rfl⟩
        have BV := Lib.hid (below_new wr (.cells #[.string b.waits[k].who, .string b.waits[k].mill, .int .i64 b.waits[k].amount, .int .i64 b.waits[k].ripe] 46))
        have RV := Lib.hid (RecAt.new Wai.cs wr b.waits[k] 46)
        rw [hV] at BV
        rw [show wr.alloc (.cells (b.waits[k].cs).toArray 46) = V from hV] at RV
        have XV := Lib.hid (X.out.below BV.out)
        have HBV := Lib.hid (below_trans HB.out BV.out)
        have BBV := Lib.hid (below_trans BB.out BV.out)
        have r0 := RV.out 0 _ rfl
        have r1 := RV.out 1 _ rfl
        have x0 := XV.out.c0
        have x1 := XV.out.c1
        have x2 := XV.out.c2
        have x3 := XV.out.c3
        dsimp only at x0 x1 x2 x3
        clear hlb
        go_wp2_with fail
        refine (iKnows_any _ _ XV.out.book HL.out HZ.out HF.out HM.out).mono ?_
        rintro e w3 ⟨rfl, hb3⟩
        cases hq : knownB b b.waits[k].who b.waits[k].mill
        · have HN := Lib.hid (knows_w hlt hq)
          have HB3 := Lib.hid (below_trans BBV.out hb3)
          clear hb3
          go_wp2
          go_ret
          exact ⟨by rw [HN.out]; rfl, HB3.out⟩
        have HN := Lib.hid (HU.out.succ hlt hq)
        have HB3 := Lib.hid (below_trans HBV.out hb3)
        clear hb3
        go_wp2
        go_roundw
        case rel => exact ⟨k + 1, by omega, by go_num, HB3.out, HN.out⟩
        case measure => simp [intOf]; omega
      obtain rfl : k = b.waits.length := by omega
      have HN := Lib.hid (knows_yes KP.out HU.out)
      go_wp2
      go_ret
      exact ⟨by rw [HN.out]; rfl, BB.out⟩
end Go.Proofs.YtncandoohlndnaaGreat
namespace Go.Proofs.YtncandoohlndnaaGreat
open Go.ChangeShapes Go.WideShapes Go.ChangeAt Go.RowKit

set_option maxHeartbeats 8000000 in
set_option maxRecDepth 100000 in
theorem iAllHeld_any {w : World} {b : Bok} {s : Spots} (h : BookAt w b s) (hl : BLen b) (hz : BSized b) :
    Calls Tryz.prog 43 #[.agg #[.slice s.fa b.folk.length s.fc, .slice s.ma b.mills.length s.mc, .slice s.pa b.parts.length s.pc, .slice s.wa b.waits.length s.wc]] w fun e w' => e = .returned (.bool (heldB b)) ∧ Below w.heap.size w w' := by
  obtain ⟨W, hW⟩ : ∃ W, w.alloc (.cells #[.slice s.fa b.folk.length s.fc, .slice s.ma b.mills.length s.mc, .slice s.pa b.parts.length s.pc, .slice s.wa b.waits.length s.wc] 56) = W := ⟨_, rfl⟩
  have X0 := Lib.hid (BoxL.new h 56)
  have B0 := Lib.hid (below_new w (.cells #[.slice s.fa b.folk.length s.fc, .slice s.ma b.mills.length s.mc, .slice s.pa b.parts.length s.pc, .slice s.wa b.waits.length s.wc] 56))
  rw [hW] at X0 B0
  have HL := Lib.hid hl
  have HZ := Lib.hid hz
  have l2 := hl.ml
  have l3 := hl.pl
  clear h hl hz
  have c1 := X0.out.c1
  cases s with | mk fa fc ma mc pa pc wa wc =>
  dsimp only at c1 hW ⊢
  go_enter Tryz.func43, Tryz.ntmps43
  go_wp2
  clear c1
  go_loopw [8] (fun i w' => ∃ k : Nat, k ≤ b.mills.length ∧ i = .int .i64 k ∧ Below W.heap.size W w' ∧ HeldM b k) (fun i _ => b.mills.length - (intOf i).toNat)
  case atStart => exact ⟨0, Nat.zero_le _, rfl, Below.refl _ _, HeldM.zero _⟩
  case round =>
    obtain ⟨k, hk, rfl, hb, hu⟩ := hrel
    have X := Lib.hid (X0.out.below hb)
    have BB := Lib.hid (below_trans B0.out hb)
    have HB := Lib.hid hb
    have HU := Lib.hid hu
    clear hb hu
    by_cases hlt : k < b.mills.length
    · obtain ⟨p, off, ep, hlb, d0, d1, d2, d3, d4⟩ := Mil.at X.out.book.mills k hlt
      dsimp only at ep
      subst ep
      obtain ⟨V, hV⟩ : ∃ V, wr.alloc (.cells #[.string b.mills[k].name, .int .i64 b.mills[k].stake, .int .i64 b.mills[k].shares, .int .i64 b.mills[k].cut, .bool b.mills[k].shut] 81) = V := ⟨_, rfl⟩
      have BV := Lib.hid (below_new wr (.cells #[.string b.mills[k].name, .int .i64 b.mills[k].stake, .int .i64 b.mills[k].shares, .int .i64 b.mills[k].cut, .bool b.mills[k].shut] 81))
      have RV := Lib.hid (RecAt.new Mil.cs wr b.mills[k] 81)
      rw [hV] at BV
      rw [show wr.alloc (.cells (b.mills[k].cs).toArray 81) = V from hV] at RV
      have XV := Lib.hid (X.out.below BV.out)
      have HBV := Lib.hid (below_trans HB.out BV.out)
      have BBV := Lib.hid (below_trans BB.out BV.out)
      have g0 := Grow.cell (RV.out 0 _ rfl)
      have g2 := Grow.cell (RV.out 2 _ rfl)
      have x2 := XV.out.c2
      dsimp only at x2
      have e2 := Grow.cell x2
      clear hlb x2
      obtain ⟨v, hv⟩ : ∃ q, sharesInV b.parts b.mills[k].name = q := ⟨_, rfl⟩
      by_cases n1 : b.mills[k].shares = v
      · have HN := Lib.hid (HU.out.succ hlt (hv.trans n1.symm))
        have hd1 : (b.mills[k].shares != v) = false := by simp [n1]
        have HV := Lib.hid hv
        clear hv n1
        go_wp2
        refine wp_region_grow (by kernel_rfl) (by kernel_rfl) ?_
        repeat (go_big_quiet_step (first | (go_at_call 71; exact grow_call (int_is HV.out) (iSharesInM_any _ _ (XV.out.book.parts.below (Grow.ok _)) (by omega) HZ.out.ps))))
        refine wpQuiet_nil ?_
        intro _ hw'
        obtain ⟨gq, rfl⟩ := hw'
        have HB2 := Lib.hid (below_trans HBV.out gq.ok)
        go_wp2
        go_roundw
        case rel => exact ⟨k + 1, by omega, by go_num, HB2.out, HN.out⟩
        case measure => simp [intOf]; omega
      · have HN := Lib.hid (heldM_no hlt (fun e => n1 (e.symm.trans hv)))
        have hd1 : (b.mills[k].shares != v) = true := by simpa using n1
        have HV := Lib.hid hv
        clear hv
        go_wp2
        refine wp_region_grow (by kernel_rfl) (by kernel_rfl) ?_
        repeat (go_big_quiet_step (first | (go_at_call 71; exact grow_call (int_is HV.out) (iSharesInM_any _ _ (XV.out.book.parts.below (Grow.ok _)) (by omega) HZ.out.ps))))
        refine wpQuiet_nil ?_
        intro _ hw'
        obtain ⟨gq, rfl⟩ := hw'
        have HB2 := Lib.hid (below_trans BBV.out gq.ok)
        go_wp2
        go_ret
        exact ⟨by rw [HN.out]; rfl, HB2.out⟩
    obtain rfl : k = b.mills.length := by omega
    have HN := Lib.hid (heldM_yes HU.out)
    go_wp2
    go_ret
    exact ⟨by rw [HN.out]; rfl, BB.out⟩

theorem lists_range {b : Bok} (h : rangeB b = false) : listsB b = false := by simp [listsB, h]
theorem lists_rights {b : Bok} (h : rightsB b = false) : listsB b = false := by simp [listsB, h]
theorem lists_both {b : Bok} (h : rightsB b = true) (h2 : rangeB b = true) : listsB b = true := by simp [listsB, h, h2]
theorem rights_all {b : Bok} (h : listsB b = true) : freeInV b.folk = sumP b.folk b.folk.length ∧ stakesV b.mills = sumM b.mills b.mills.length ∧ amountInV b.waits = sumA b.waits b.waits.length := by
  obtain ⟨⟨h1, h2, h3, h4⟩, -⟩ := lists_all h
  exact ⟨by simp [freeInV, h1], by simp [stakesV, h2], by simp [amountInV, h4]⟩

set_option maxHeartbeats 8000000 in
set_option maxRecDepth 100000 in
theorem iTotal_any {w : World} {b : Bok} {s : Spots} (h : BookAt w b s) (hl : BLen b) (hz : BSized b) :
    Calls Tryz.prog 41 #[.agg #[.int .i64 b.season, .int .i64 b.supply, .int .i64 b.burnt, .int .i64 b.pot, .slice s.fa b.folk.length s.fc, .slice s.ma b.mills.length s.mc, .slice s.pa b.parts.length s.pc, .slice s.wa b.waits.length s.wc]] w fun e w' => e = .returned (.int .i64 (totalOfV b)) ∧ Below w.heap.size w w' := by
  have X0 := Lib.hid (BoxB.new h 35)
  have B0 := Lib.hid (below_new w (.cells #[.int .i64 b.season, .int .i64 b.supply, .int .i64 b.burnt, .int .i64 b.pot, .slice s.fa b.folk.length s.fc, .slice s.ma b.mills.length s.mc, .slice s.pa b.parts.length s.pc, .slice s.wa b.waits.length s.wc] 35))
  have HL := Lib.hid hl
  have HZ := Lib.hid hz
  clear h hl hz
  go_enter Tryz.func41, Tryz.ntmps41
  go_wp2_with fail
  refine (iLedger_any (b := b) (s := s)).mono ?_
  rintro e w1 ⟨rfl, hb1⟩
  have X1 := Lib.hid (X0.out.below hb1)
  have B1 := Lib.hid (below_trans B0.out hb1)
  obtain ⟨V, hV⟩ : ∃ V, w1.alloc (.cells #[.slice s.fa b.folk.length s.fc, .slice s.ma b.mills.length s.mc, .slice s.pa b.parts.length s.pc, .slice s.wa b.waits.length s.wc] 56) = V := ⟨_, rfl⟩
  have Y := Lib.hid (BoxL.new X1.out.book 56)
  have XV := Lib.hid (X1.out.below (below_new w1 (.cells #[.slice s.fa b.folk.length s.fc, .slice s.ma b.mills.length s.mc, .slice s.pa b.parts.length s.pc, .slice s.wa b.waits.length s.wc] 56)))
  have BV := Lib.hid (below_trans B1.out (below_new w1 (.cells #[.slice s.fa b.folk.length s.fc, .slice s.ma b.mills.length s.mc, .slice s.pa b.parts.length s.pc, .slice s.wa b.waits.length s.wc] 56)))
  rw [hV] at Y XV BV
  clear X0 B0 hb1 X1 B1
  have c0 := XV.out.c0
  have c1 := XV.out.c1
  have c2 := XV.out.c2
  have c3 := XV.out.c3
  have c4 := XV.out.c4
  have c5 := XV.out.c5
  have c6 := XV.out.c6
  have c7 := XV.out.c7
  go_wp2_with fail
  refine (iRange_any (s := s) XV.out.book).mono ?_
  rintro e w2 ⟨rfl, hb2⟩
  have Y2 := Lib.hid (Y.out.below hb2)
  have X2 := Lib.hid (XV.out.below hb2)
  have B2 := Lib.hid (below_trans BV.out hb2)
  clear Y XV BV hb2 c0 c1 c2 c3 c4 c5 c6 c7
  cases h1 : rangeB b
  · have HN := Lib.hid (totalOf_no (lists_range h1))
    go_wp2
    go_ret
    exact ⟨by rw [HN.out]; rfl, B2.out⟩
  have y0 := Y2.out.c0
  have y1 := Y2.out.c1
  have y2 := Y2.out.c2
  have y3 := Y2.out.c3
  go_wp2_with fail
  refine (iRight_any (s := s) X2.out.book HL.out HZ.out).mono ?_
  rintro e w3 ⟨rfl, hb3⟩
  have Y3 := Lib.hid (Y2.out.below hb3)
  have X3 := Lib.hid (X2.out.below hb3)
  have B3 := Lib.hid (below_trans B2.out hb3)
  clear Y2 X2 B2 hb3 y0 y1 y2 y3
  cases h2 : rightsB b
  · have HN := Lib.hid (totalOf_no (lists_rights h2))
    go_wp2
    go_ret
    exact ⟨by rw [HN.out]; rfl, B3.out⟩
  have hf := lists_both h2 h1
  obtain ⟨q1, q2, q3, q4, q5⟩ := total_bd hf
  have HT : Hid (totalV b = sumP b.folk b.folk.length + sumM b.mills b.mills.length + sumA b.waits b.waits.length + b.burnt + b.pot) := rfl
  obtain ⟨a1, a2, a3⟩ := rights_all hf
  obtain ⟨v1, e1⟩ : ∃ v, sumP b.folk b.folk.length = v := ⟨_, rfl⟩
  obtain ⟨v2, e2⟩ : ∃ v, sumM b.mills b.mills.length = v := ⟨_, rfl⟩
  obtain ⟨v3, e3⟩ : ∃ v, sumA b.waits b.waits.length = v := ⟨_, rfl⟩
  rw [e1] at q1 a1
  rw [e2] at q2 a2
  rw [e3] at q3 a3
  rw [e1, e2, e3] at HT
  have HN := Lib.hid ((totalOf_yes hf).trans HT.out)
  have E1 := Lib.hid a1
  have E2 := Lib.hid a2
  have E3 := Lib.hid a3
  clear hf e1 e2 e3 a1 a2 a3 HT h1 h2
  have g2 := Grow.cell X3.out.c2
  have g3 := Grow.cell X3.out.c3
  have y0 := Grow.cell Y3.out.c0
  have y1 := Grow.cell Y3.out.c1
  have y3 := Grow.cell Y3.out.c3
  have s1 : IntKind.i64.wrap (v1 + v2) = v1 + v2 := IntWalk.i64_in _ (by omega)
  have s2 : IntKind.i64.wrap (v1 + v2 + v3) = v1 + v2 + v3 := IntWalk.i64_in _ (by omega)
  have s3 : IntKind.i64.wrap (v1 + v2 + v3 + b.burnt) = v1 + v2 + v3 + b.burnt := IntWalk.i64_in _ (by omega)
  have s4 : IntKind.i64.wrap (v1 + v2 + v3 + b.burnt + b.pot) = v1 + v2 + v3 + b.burnt + b.pot := IntWalk.i64_in _ (by omega)
  go_wp2
  refine wp_region_grow (by kernel_rfl) (by kernel_rfl) ?_
  repeat (go_big_quiet_step (first | (go_at_call 67; exact grow_call (int_is E1.out) (iFree_any _ (X3.out.book.folk.below (Grow.ok _)) HL.out.fl HZ.out.fs)) | (go_at_call 68; exact grow_call (int_is E2.out) (iStaked_any _ (X3.out.book.mills.below (Grow.ok _)) (by have := HL.out.ml; omega) HZ.out.ms)) | (go_at_call 69; exact grow_call (int_is E3.out) (iWaitingM_any _ (X3.out.book.waits.below (Grow.ok _)) (by have := HL.out.wl; omega) HZ.out.ws))))
  refine wpQuiet_nil ?_
  intro _ hw'
  obtain ⟨gq, rfl⟩ := hw'
  have HB2 := Lib.hid (below_trans B3.out gq.ok)
  go_wp2
  go_ret
  exact ⟨by rw [HN.out]; rfl, HB2.out⟩

theorem range_sup {b : Bok} (h : rangeB b = true) : 0 ≤ b.supply := by
  have : inB 0 1000000 b.supply = true := by
    simp only [rangeB, Bool.and_eq_true] at h
    exact h.2.1
  exact (inB_bd this).1
theorem book_range {b : Bok} (h : rangeB b = false) : bookB b = false := book_l (lists_range h)
theorem book_total {b : Bok} (h2 : (totalOfV b == b.supply) = false) : bookB b = false := by
  cases hl : listsB b
  · exact book_l hl
  · rw [totalOf_yes hl] at h2; exact book_s h2
theorem total_lists {b : Bok} (h : rangeB b = true) (h2 : (totalOfV b == b.supply) = true) : listsB b = true ∧ (totalV b == b.supply) = true := by
  cases hl : listsB b
  · have h3 := range_sup h
    rw [totalOf_no hl] at h2
    have : (-1 : Int) = b.supply := by simpa using h2
    omega
  · exact ⟨rfl, by rw [totalOf_yes hl] at h2; exact h2⟩

set_option maxHeartbeats 8000000 in
set_option maxRecDepth 100000 in
theorem iBookOk_any {w : World} {b : Bok} {s : Spots} (h : BookAt w b s) (hl : BLen b) (hz : BSized b) :
    Calls Tryz.prog 19 #[.agg #[.int .i64 b.season, .int .i64 b.supply, .int .i64 b.burnt, .int .i64 b.pot, .slice s.fa b.folk.length s.fc, .slice s.ma b.mills.length s.mc, .slice s.pa b.parts.length s.pc, .slice s.wa b.waits.length s.wc]] w fun e w' => e = .returned (.bool (bookB b)) ∧ Below w.heap.size w w' := by
  have X0 := Lib.hid (BoxB.new h 35)
  have B0 := Lib.hid (below_new w (.cells #[.int .i64 b.season, .int .i64 b.supply, .int .i64 b.burnt, .int .i64 b.pot, .slice s.fa b.folk.length s.fc, .slice s.ma b.mills.length s.mc, .slice s.pa b.parts.length s.pc, .slice s.wa b.waits.length s.wc] 35))
  have HL := Lib.hid hl
  have HZ := Lib.hid hz
  clear h hl hz
  go_enter Tryz.func19, Tryz.ntmps19
  go_wp2_with fail
  refine (iLedger_any (b := b) (s := s)).mono ?_
  rintro e w1 ⟨rfl, hb1⟩
  have X1 := Lib.hid (X0.out.below hb1)
  have B1 := Lib.hid (below_trans B0.out hb1)
  obtain ⟨V, hV⟩ : ∃ V, w1.alloc (.cells #[.slice s.fa b.folk.length s.fc, .slice s.ma b.mills.length s.mc, .slice s.pa b.parts.length s.pc, .slice s.wa b.waits.length s.wc] 56) = V := ⟨_, rfl⟩
  have Y := Lib.hid (BoxL.new X1.out.book 56)
  have XV := Lib.hid (X1.out.below (below_new w1 (.cells #[.slice s.fa b.folk.length s.fc, .slice s.ma b.mills.length s.mc, .slice s.pa b.parts.length s.pc, .slice s.wa b.waits.length s.wc] 56)))
  have BV := Lib.hid (below_trans B1.out (below_new w1 (.cells #[.slice s.fa b.folk.length s.fc, .slice s.ma b.mills.length s.mc, .slice s.pa b.parts.length s.pc, .slice s.wa b.waits.length s.wc] 56)))
  rw [hV] at Y XV BV
  clear X0 B0 hb1 X1 B1
  have g0 := Grow.cell XV.out.c0
  have g1 := Grow.cell XV.out.c1
  have g2 := Grow.cell XV.out.c2
  have g3 := Grow.cell XV.out.c3
  have g4 := Grow.cell XV.out.c4
  have g5 := Grow.cell XV.out.c5
  have g6 := Grow.cell XV.out.c6
  have g7 := Grow.cell XV.out.c7
  have y0 := Grow.cell Y.out.c0
  have y1 := Grow.cell Y.out.c1
  have y2 := Grow.cell Y.out.c2
  have y3 := Grow.cell Y.out.c3
  cases h1 : rangeB b
  · have HN := Lib.hid (book_range h1)
    go_wp2
    refine wp_region_grow (by kernel_rfl) (by kernel_rfl) ?_
    repeat (go_big_quiet_step (first | (go_at_call 40; exact grow_call (bool_is h1) (iRange_any (s := s) (XV.out.book.below (Grow.ok _))))))
    refine wpQuiet_nil ?_
    intro _ hw'
    obtain ⟨gq, rfl⟩ := hw'
    have HB2 := Lib.hid (below_trans BV.out gq.ok)
    go_wp2
    go_ret
    exact ⟨by rw [HN.out]; rfl, HB2.out⟩
  cases h2 : (totalOfV b == b.supply)
  · have HN := Lib.hid (book_total h2)
    go_wp2
    refine wp_region_grow (by kernel_rfl) (by kernel_rfl) ?_
    repeat (go_big_quiet_step (first | (go_at_call 40; exact grow_call (bool_is h1) (iRange_any (s := s) (XV.out.book.below (Grow.ok _)))) | (go_at_call 41; exact grow_call rfl (iTotal_any (s := s) (XV.out.book.below (Grow.ok _)) HL.out HZ.out))))
    refine wpQuiet_nil ?_
    intro _ hw'
    obtain ⟨gq, rfl⟩ := hw'
    have HB2 := Lib.hid (below_trans BV.out gq.ok)
    go_wp2
    go_ret
    exact ⟨by rw [HN.out]; rfl, HB2.out⟩
  obtain ⟨hls, hts⟩ := total_lists h1 h2
  have HF := Lib.hid (lists_all hls).1
  have HTB := Lib.hid (there_both b)
  cases h3 : knowsB b
  · have HN := Lib.hid (show bookB b = false from book_t (by rw [HTB.out, h3]; rfl))
    clear hls hts
    go_wp2
    refine wp_region_grow (by kernel_rfl) (by kernel_rfl) ?_
    repeat (go_big_quiet_step (first | (go_at_call 40; exact grow_call (bool_is h1) (iRange_any (s := s) (XV.out.book.below (Grow.ok _)))) | (go_at_call 41; exact grow_call rfl (iTotal_any (s := s) (XV.out.book.below (Grow.ok _)) HL.out HZ.out)) | (go_at_call 42; exact grow_call (bool_is h3) (iKnowsAll_any (s := s) (XV.out.book.below (Grow.ok _)) HL.out HZ.out HF.out.1 HF.out.2.1))))
    refine wpQuiet_nil ?_
    intro _ hw'
    obtain ⟨gq, rfl⟩ := hw'
    have HB2 := Lib.hid (below_trans BV.out gq.ok)
    go_wp2
    go_ret
    exact ⟨by rw [HN.out]; rfl, HB2.out⟩
  have HN := Lib.hid (show bookB b = heldB b by unfold bookB; rw [hls, hts, HTB.out, h3]; simp)
  clear hls hts
  go_wp2
  refine wp_region_grow (by kernel_rfl) (by kernel_rfl) ?_
  repeat (go_big_quiet_step (first | (go_at_call 40; exact grow_call (bool_is h1) (iRange_any (s := s) (XV.out.book.below (Grow.ok _)))) | (go_at_call 41; exact grow_call rfl (iTotal_any (s := s) (XV.out.book.below (Grow.ok _)) HL.out HZ.out)) | (go_at_call 42; exact grow_call (bool_is h3) (iKnowsAll_any (s := s) (XV.out.book.below (Grow.ok _)) HL.out HZ.out HF.out.1 HF.out.2.1)) | (go_at_call 43; exact grow_call rfl (iAllHeld_any (s := s) (XV.out.book.below (Grow.ok _)) HL.out HZ.out))))
  refine wpQuiet_nil ?_
  intro _ hw'
  obtain ⟨gq, rfl⟩ := hw'
  have HB2 := Lib.hid (below_trans BV.out gq.ok)
  go_wp2
  go_ret
  exact ⟨by rw [HN.out]; rfl, HB2.out⟩
end Go.Proofs.YtncandoohlndnaaGreat
namespace Go.Proofs.YtncandoohlndnaaGreat
open Go.ChangeShapes Go.WideShapes Go.ChangeAt Go.RowKit

theorem sumA_map (xs : List Wai) : ∀ k, k ≤ xs.length → sumA xs k = WS (xs.take k)
  | 0, _ => by simp [sumA, WS]
  | k + 1, h => by
    rw [sumA, sumA_map xs k (by omega), watn_eq (by omega), List.take_succ_eq_append_getElem (by omega), WS_more]
theorem amount_for {ps : List Wai} (who : ByteArray) (hf : waitsB ps = true) : amountInV (waitsForV ps who) = WS (ofWhoW who ps) := by
  have h1 : waitsForV ps who = ofWhoW who ps := by simp [waitsForV, hf]
  have h2 : waitsB (ofWhoW who ps) = true := sub_waits hf List.filter_sublist
  rw [h1]
  simp only [amountInV, h2, if_true]
  rw [sumA_map _ _ (Nat.le_refl _), List.take_length]
theorem waitsFor_mem {ps : List Wai} {who : ByteArray} {p : Wai} (h : p ∈ waitsForV ps who) : p ∈ ps := by
  unfold waitsForV at h
  split at h
  · exact (List.mem_filter.1 h).1
  · simp at h
theorem wsized_for {ps : List Wai} (who : ByteArray) (hs : WSized ps) : WSized (waitsForV ps who) := by
  intro k hk
  obtain ⟨j, hj, e⟩ := List.getElem_of_mem (waitsFor_mem (List.getElem_mem hk))
  rw [← e]; exact hs j hj

theorem millIn_sized {ms : List Mil} (s : ByteArray) (hs : Sized (mnames ms)) : (millInV ms s).name.size ≤ maxLen := by
  unfold millInV
  split
  · rename_i h
    have hp : 0 ≤ placeV (mnames ms) s := by simp only [millInB, Bool.and_eq_true, decide_eq_true_eq] at h; exact h.2
    obtain ⟨k, e, hk, -⟩ := place_hit hp
    rw [len_mn] at hk
    have h2 := hs k
    rw [mnames_at hk] at h2
    rw [e, show ((k : Int)).toNat = k by omega, getD_mil hk]
    exact h2
  · simp [mil0, maxLen]

theorem bsized_of {b : Bok} (h : BFits b) : BSized b :=
  ⟨Sized.of (n := 9223372036854775807) (fun s hs => by obtain ⟨p, hp, rfl⟩ := List.mem_map.1 hs; exact h.fs p hp) (by unfold maxLen; omega),
   Sized.of (n := 9223372036854775807) (fun s hs => by obtain ⟨p, hp, rfl⟩ := List.mem_map.1 hs; exact h.ms p hp) (by unfold maxLen; omega),
   fun k hk => by have := h.ps _ (List.getElem_mem hk); simp only [Par.fits] at this; unfold maxLen; omega,
   fun k hk => by have := h.ws _ (List.getElem_mem hk); simp only [Wai.fits] at this; unfold maxLen; omega⟩
end Go.Proofs.YtncandoohlndnaaGreat
namespace Go.Proofs.YtncandoohlndnaaGreat
open Go.ChangeShapes Go.WideShapes Go.ChangeAt Go.RowKit
theorem due_two (who : ByteArray) (t : Int) (ps : List Wai) : ripeOf t (ofWhoW who ps) = dueOf who t ps := by
  unfold ripeOf ofWhoW dueOf
  rw [List.filter_filter]
  congr 1
  funext p
  rw [Bool.and_comm]
  congr 1
  rw [← decide_not]
  exact decide_eq_decide.2 (by omega)
theorem ripeV_due {ps : List Wai} (who : ByteArray) (t : Int) (h : waitsB ps = true) : ripeV (waitsForV ps who) t = dueOf who t ps := by
  have h1 : waitsForV ps who = ofWhoW who ps := by simp [waitsForV, h]
  have h2 : waitsB (ofWhoW who ps) = true := sub_waits h List.filter_sublist
  rw [h1]
  simp only [ripeV, h2, if_true]
  exact due_two who t ps
theorem amount_due {ps : List Wai} (who : ByteArray) (t : Int) (h : waitsB ps = true) : amountInV (ripeV (waitsForV ps who) t) = WS (dueOf who t ps) := by
  rw [ripeV_due who t h]
  have h2 : waitsB (dueOf who t ps) = true := sub_waits h List.filter_sublist
  simp only [amountInV, h2, if_true]
  rw [sumA_map _ _ (Nat.le_refl _), List.take_length]
theorem wsized_ripe {ps : List Wai} (t : Int) (hs : WSized ps) : WSized (ripeV ps t) := by
  have hsub : ∀ x, x ∈ ripeV ps t → x ∈ ps := by
    intro x hx
    by_cases h : waitsB ps = true
    · simp only [ripeV, h, if_true] at hx
      exact (List.mem_filter.1 hx).1
    · simp [ripeV, h] at hx
  intro k hk
  obtain ⟨j, hj, e⟩ := List.getElem_of_mem (hsub _ (List.getElem_mem hk))
  rw [← e]; exact hs j hj
theorem ripeV_few (ps : List Wai) (t : Int) : (ripeV ps t).length ≤ ps.length := by
  unfold ripeV
  split
  · exact ripe_le t ps
  · simp
/-- Its purses. -/
theorem field_folk (b : Bok) (s : Spots) (w : World) : (Instr.field 56 (.agg #[.slice s.fa b.folk.length s.fc, .slice s.ma b.mills.length s.mc, .slice s.pa b.parts.length s.pc, .slice s.wa b.waits.length s.wc]) 0).run Tryz.prog w = .ok (.slice s.fa b.folk.length s.fc) w := by kernel_rfl

set_option maxHeartbeats 8000000 in
set_option maxRecDepth 100000 in
theorem iDueIn_any {w : World} {b : Bok} {s : Spots} (who : ByteArray) (t : Int) (h : BookAt w b s) (hl : BLen b) (hz : BSized b) :
    Calls Tryz.prog 7 #[.agg #[.int .i64 b.season, .int .i64 b.supply, .int .i64 b.burnt, .int .i64 b.pot, .slice s.fa b.folk.length s.fc, .slice s.ma b.mills.length s.mc, .slice s.pa b.parts.length s.pc, .slice s.wa b.waits.length s.wc], .string who, .int .i64 t] w fun e w' => e = .returned (.int .i64 (dueInV b who t)) ∧ Below w.heap.size w w' := by
  obtain ⟨W, hW⟩ : ∃ W, w.alloc (.cells #[.int .i64 b.season, .int .i64 b.supply, .int .i64 b.burnt, .int .i64 b.pot, .slice s.fa b.folk.length s.fc, .slice s.ma b.mills.length s.mc, .slice s.pa b.parts.length s.pc, .slice s.wa b.waits.length s.wc] 35) = W := ⟨_, rfl⟩
  have X0 := Lib.hid (BoxB.new h 35)
  have B0 := Lib.hid (below_new w (.cells #[.int .i64 b.season, .int .i64 b.supply, .int .i64 b.burnt, .int .i64 b.pot, .slice s.fa b.folk.length s.fc, .slice s.ma b.mills.length s.mc, .slice s.pa b.parts.length s.pc, .slice s.wa b.waits.length s.wc] 35))
  rw [hW] at X0 B0
  have HL := Lib.hid hl
  have HZ := Lib.hid hz
  have l4 := hl.wl
  clear h hl hz
  have c0 := X0.out.c0
  have c1 := X0.out.c1
  have c2 := X0.out.c2
  have c3 := X0.out.c3
  have c4 := X0.out.c4
  have c5 := X0.out.c5
  have c6 := X0.out.c6
  have c7 := X0.out.c7
  go_enter Tryz.func7, Tryz.ntmps7
  go_wp2_with fail
  refine (iBookOk_any (s := s) X0.out.book HL.out HZ.out).mono ?_
  rintro e w1 ⟨rfl, hb1⟩
  have X1 := Lib.hid (X0.out.below hb1)
  have B1 := Lib.hid (below_trans B0.out hb1)
  clear hb1 c0 c1 c2 c3 c4 c5 c6 c7 X0 B0
  cases h1 : bookB b
  · have HN := Lib.hid (show dueInV b who t = -1 from if_neg (by rw [h1]; simp))
    go_wp2
    go_ret
    exact ⟨by rw [HN.out]; rfl, B1.out⟩
  obtain ⟨hlists, -, -⟩ := book_true h1
  obtain ⟨⟨hfk, -, -, hwk⟩, -⟩ := lists_all hlists
  have HFK := Lib.hid hfk
  have HD := Lib.hid (amount_due who t hwk)
  clear hlists hfk hwk
  have c0 := X1.out.c0
  have c1 := X1.out.c1
  have c2 := X1.out.c2
  have c3 := X1.out.c3
  have c4 := X1.out.c4
  have c5 := X1.out.c5
  have c6 := X1.out.c6
  have c7 := X1.out.c7
  go_wp2_with fail
  refine (iLedger_any (b := b) (s := s)).mono ?_
  rintro e w2 ⟨rfl, hb2⟩
  have X2 := Lib.hid (X1.out.below hb2)
  have B2 := Lib.hid (below_trans B1.out hb2)
  clear hb2 c0 c1 c2 c3 c4 c5 c6 c7 X1 B1
  have hfd := field_folk b s
  go_wp2_with fail
  refine (iHasPurse_any _ _ X2.out.book.folk HL.out.fl HZ.out.fs HFK.out).mono ?_
  rintro e w3 ⟨rfl, hb3⟩
  have X3 := Lib.hid (X2.out.below hb3)
  have B3 := Lib.hid (below_trans B2.out hb3)
  clear hb3 X2 B2
  by_cases hp : 0 ≤ placeV (pnames b.folk) who
  case neg =>
    have HN := Lib.hid (show dueInV b who t = -1 from if_neg (fun q => hp q.2))
    rw [decide_eq_false hp]
    clear hp
    go_wp2
    go_ret
    exact ⟨by rw [HN.out]; rfl, B3.out⟩
  have HN := Lib.hid (show dueInV b who t = WS (dueOf who t b.waits) from if_pos ⟨h1, hp⟩)
  rw [decide_eq_true hp]
  clear hp h1
  have c7 := X3.out.c7
  go_wp2_with fail
  refine (iWaitsFor_any _ _ X3.out.book.waits (by omega) HZ.out.ws).mono ?_
  rintro e w4 ⟨a4, c4, rfl, ho4, hb4⟩
  have O4 := Lib.hid ho4.1
  have B4 := Lib.hid (below_trans B3.out hb4)
  have l5 := waitsFor_le b.waits who
  have Z4 := Lib.hid (wsized_for who HZ.out.ws)
  clear ho4 hb4 c7 X3 B3
  go_wp2_with fail
  refine (iRipeAt_any _ _ O4.out (by omega) Z4.out).mono ?_
  rintro e w5 ⟨a5, c5, a6, c6, rfl, -, ho6, -, hb5⟩
  have O6 := Lib.hid ho6.1
  have B5 := Lib.hid (below_trans B4.out hb5)
  have l6 := ripeV_few (waitsForV b.waits who) t
  have Z6 := Lib.hid (wsized_ripe t Z4.out)
  clear ho6 hb5 O4 B4 Z4
  go_wp2_with fail
  refine (iAmountIn_any _ O6.out (by omega) Z6.out).mono ?_
  rintro e w6 ⟨rfl, hb6⟩
  have B6 := Lib.hid (below_trans B5.out hb6)
  clear hb6
  go_wp2
  go_ret
  exact ⟨by rw [HN.out, HD.out]; rfl, B6.out⟩
end Go.Proofs.YtncandoohlndnaaGreat
namespace Go.Proofs.YtncandoohlndnaaGreat
open Go.ChangeShapes Go.WideShapes Go.ChangeAt Go.RowKit

set_option maxRecDepth 100000 in
theorem laidOut : laidOutB Tryz.prog = true := by kernel_rfl
set_option maxRecDepth 100000 in
theorem ownKnobNone : ownKnob Tryz.prog.godebug = none := by kernel_rfl

set_option maxRecDepth 100000 in
theorem arg_strs {H : Type} {enc : TypeId × Value → H} {W : World} {r : Reach} {base : Nat} {v : Value} {d : DataW H} {p : List MemPlace}
    (hv : Value.okWide Tryz.prog W r base 127 v) (h : DataW.Trod enc Tryz.prog W 0 (fun _ => true) true 127 v d p) :
    ∃ a cap ss, v = .slice a ss.length cap ∧ Strs W a ss ∧ ss.length ≤ 9223372036854775807 ∧ ∀ s ∈ ss, s.size ≤ 9223372036854775807 := by
  obtain ⟨a0, len, cap, rfl⟩ := okWide_slice Tryz.underlying127 hv
  obtain ⟨fuel, hf⟩ := h
  rcases open_strings Tryz.underlying127 Tryz.underlying9 (by kernel_rfl) hf with ⟨hcs, _⟩ | ⟨x, l, c, ss, hcs, _, hl, hm, hz, _, hcell, hsz⟩
  · simp [Value.cells] at hcs
    obtain ⟨rfl, rfl, rfl⟩ := hcs
    exact ⟨none, 0, [], rfl, Lies.nil _ _, by simp, by simp⟩
  · simp [Value.cells] at hcs
    obtain ⟨rfl, rfl, rfl⟩ := hcs
    simp only [if_true] at hz
    have hlen : (ss.take len).length = len := by simp; omega
    refine ⟨some x, cap, ss.take len, by rw [hlen], ?_, ?_, fun s hs => ?_⟩
    · intro k v hk
      have hkl : k < (ss.take len).length := by
        have := (List.getElem?_eq_some_iff.1 hk).1
        simpa using this
      have hks : k < ss.length := by omega
      have hv : v = .string (ss.getD k ByteArray.empty) := by
        rw [List.getElem?_map, List.getElem?_take_of_lt (by omega), List.getElem?_eq_getElem hks] at hk
        simp only [Option.map_some, Option.some.injEq] at hk
        rw [← hk, List.getD_eq_getElem?_getD, List.getElem?_eq_getElem hks, Option.getD_some]
      subst hv
      obtain ⟨b, off, spot⟩ := x
      have hc := hcell k hks
      have h0 := hcell 0 (by omega)
      have hspot : spot = none := by simpa [Addr.add] using World.cell?_spot h0
      subst hspot
      exact ⟨b, off, rfl, by rw [← Go.WideShapes.add_plain]; exact hc⟩
    · rw [hlen]; unfold maxLen at hm; omega
    · have := hsz s (List.mem_of_mem_take hs); unfold maxLen at this; omega
end Go.Proofs.YtncandoohlndnaaGreat
namespace Go.Proofs.YtncandoohlndnaaGreat
open Go.ChangeShapes Go.WideShapes Go.ChangeAt Go.RowKit

set_option maxRecDepth 100000 in
theorem list_of (n : Nat) (f : Nat → Pur) : ∃ ps : List Pur, ps.length = n ∧ ∀ k (h : k < ps.length), ps[k] = f k :=
  ⟨(List.range n).map f, by simp, fun k h => by simp⟩

set_option maxRecDepth 100000 in
theorem pcells_cases : ∀ (ps : List Pur) (j : Nat) (v : Value), (pcells ps)[j]? = some v → ∃ k, ∃ h : k < ps.length, (j = k * 2 ∧ v = .string ps[k].name) ∨ (j = k * 2 + 1 ∧ v = .int .i64 ps[k].free)
  | [], j, v, h => by simp [pcells] at h
  | p :: r, 0, v, h => ⟨0, by simp, .inl ⟨rfl, by simpa [pcells] using h.symm⟩⟩
  | p :: r, 1, v, h => ⟨0, by simp, .inr ⟨rfl, by simpa [pcells] using h.symm⟩⟩
  | p :: r, j + 2, v, h => by
    obtain ⟨k, hk, hh⟩ := pcells_cases r j v (by simpa [pcells] using h)
    refine ⟨k + 1, by simpa using hk, ?_⟩
    rcases hh with ⟨rfl, rfl⟩ | ⟨rfl, rfl⟩
    · exact .inl ⟨by omega, by simp⟩
    · exact .inr ⟨by omega, by simp⟩

set_option maxRecDepth 100000 in
theorem purs_mk {w : World} {b off : Nat} {ps : List Pur} (h : ∀ k (h : k < ps.length), w.cell? ⟨b, off + k * 2, none⟩ = some (.string ps[k].name) ∧ w.cell? ⟨b, off + (k * 2 + 1), none⟩ = some (.int .i64 ps[k].free)) : Purs w (some ⟨b, off, none⟩) ps := by
  intro j v hj
  obtain ⟨k, hk, hh⟩ := pcells_cases ps j v hj
  refine ⟨b, off, rfl, ?_⟩
  rcases hh with ⟨rfl, rfl⟩ | ⟨rfl, rfl⟩
  · exact (h k hk).1
  · exact (h k hk).2

set_option maxRecDepth 100000 in
theorem arg_purs {H : Type} {enc : TypeId × Value → H} {W : World} {r : Reach} {base : Nat} {v : Value} {d : DataW H} {p : List MemPlace}
    (hv : Value.okWide Tryz.prog W r base 22 v) (h : DataW.Trod enc Tryz.prog W 0 (fun _ => true) true 22 v d p) :
    ∃ a cap ps, v = .slice a ps.length cap ∧ Purs W a ps ∧ ps.length ≤ 9223372036854775807 ∧ ∀ p ∈ ps, p.name.size ≤ 9223372036854775807 := by
  obtain ⟨a0, len, cap, rfl⟩ := okWide_slice Tryz.underlying22 hv
  obtain ⟨fuel, hf⟩ := h
  rcases Go.Deep.open_slice_pairs Tryz.underlying22 Tryz.underlying69 (by kernel_rfl) rfl rfl (by kernel_rfl) (by kernel_rfl) hf with ⟨hcs, _⟩ | ⟨x, l, c, m, n, V0, V1, D0, D1, P0, P1, hcs, _, hl, hm, hmm, _, hi⟩
  · simp [Value.cells] at hcs
    obtain ⟨rfl, rfl, rfl⟩ := hcs
    exact ⟨none, 0, [], rfl, Lies.nil _ _, by simp, by simp⟩
  · simp [Value.cells] at hcs
    obtain ⟨rfl, rfl, rfl⟩ := hcs
    simp only [if_true] at hmm
    subst hmm
    have hall : ∀ i, i < len → ∃ s z, V0 i = .string s ∧ V1 i = .int .i64 z ∧ s.size ≤ maxLen := by
      intro i hlt
      obtain ⟨_, _, h0, h1⟩ := hi i (by omega)
      obtain ⟨s, es, _, hs⟩ := DataW.trod_string Tryz.underlying9 h0
      obtain ⟨z, ez, _, _⟩ := DataW.trod_int Tryz.underlying2 h1
      exact ⟨s, z, by simpa using es, by simpa using ez, hs⟩
    have hch : ∃ f : Nat → Pur, ∀ i, i < len → V0 i = .string (f i).name ∧ V1 i = .int .i64 (f i).free ∧ (f i).name.size ≤ maxLen := by
      refine ⟨fun i => if hlt : i < len then ⟨(hall i hlt).choose, (hall i hlt).choose_spec.choose⟩ else ⟨ByteArray.empty, 0⟩, fun i hlt => ?_⟩
      simp only [hlt, dite_true]
      exact (hall i hlt).choose_spec.choose_spec
    obtain ⟨f, hfi⟩ := hch
    obtain ⟨ps, hlen, hps⟩ := list_of len f
    refine ⟨some x, m, ps, by rw [hlen], ?_, ?_, ?_⟩
    · obtain ⟨b, off, spot⟩ := x
      by_cases h0 : 0 < len
      · have hc0 := (hi 0 (by omega)).1
        have hspot : spot = none := by simpa [Addr.add] using World.cell?_spot hc0
        subst hspot
        refine purs_mk fun k hk => ?_
        obtain ⟨e0, e1, _, _⟩ := hi k (by omega)
        obtain ⟨g0, g1, _⟩ := hfi k (by omega)
        rw [hps k hk, ← g0, ← g1]
        rw [Go.WideShapes.add_plain] at e0 e1
        exact ⟨e0, e1⟩
      · have : ps = [] := List.eq_nil_of_length_eq_zero (by omega)
        subst this
        exact Lies.nil _ _
    · rw [hlen]; unfold maxLen at hm; omega
    · intro p hp
      obtain ⟨k, hk, rfl⟩ := List.getElem_of_mem hp
      rw [hps k hk]
      have := (hfi k (by omega)).2.2
      unfold maxLen at this; omega
end Go.Proofs.YtncandoohlndnaaGreat
namespace Go.Proofs.YtncandoohlndnaaGreat
open Go.ChangeShapes Go.WideShapes Go.ChangeAt Go.RowKit

section
variable {H : Type} {enc : TypeId × Value → H} {W : World}

set_option maxRecDepth 100000 in
/-- A record whose fields are of one cell each: each cell reads by its field's type. -/
theorem rec_fields {P : Program} {t : TypeId} {fs : Array Field} {fuel : Nat} {cs : List Value} {x : DataW H × List MemPlace} (hs : P.underlying t = some (.struct fs)) (hone : Go.Deep.oneCellFields P fs = true) (hC : P.cellsOf t = fs.size)
    (h : DataW.trod enc P W 0 (fun _ => true) true fuel t cs = some x) :
    cs.length = fs.size ∧ ∃ n, ∀ (j : Nat) (f : Field), fs[j]? = some f → ∃ v y, cs[j]? = some v ∧ DataW.trod enc P W 0 (fun _ => true) true n f.type [v] = some y := by
  obtain ⟨xs, n, _, _, hl, hxl, hf⟩ := DataW.trod_struct hs h
  rw [hC] at hl
  refine ⟨hl, n, fun j f hj => ?_⟩
  obtain ⟨ho, hk⟩ := Go.Deep.hone_of hone j f hj
  have hjl : j < fs.size := (Array.getElem?_eq_some_iff.1 hj).1
  have hjc : j < cs.length := by omega
  have hjx : j < xs.length := by omega
  have h1 := hf j f hj
  rw [ho, hk, List.drop_eq_getElem_cons hjc, List.take_succ_cons, List.take_zero] at h1
  exact ⟨cs[j], xs[j], List.getElem?_eq_getElem hjc, by rw [h1]; exact List.getElem?_eq_getElem hjx⟩

set_option maxRecDepth 100000 in
theorem list_choose {α : Type} {Q : Nat → α → Prop} : ∀ (n : Nat), (∀ i, i < n → ∃ x, Q i x) → ∃ xs : List α, xs.length = n ∧ ∀ k (h : k < xs.length), Q k xs[k]
  | 0, _ => ⟨[], rfl, fun k h => by simp at h⟩
  | n + 1, h => by
    obtain ⟨xs, hl, hq⟩ := list_choose n (fun i hi => h i (by omega))
    obtain ⟨x, hx⟩ := h n (by omega)
    refine ⟨xs ++ [x], by simp [hl], fun k hk => ?_⟩
    by_cases e : k < xs.length
    · rw [List.getElem_append_left e]; exact hq k e
    · have : k = xs.length := by simp at hk; omega
      subst this
      rw [List.getElem_append_right (Nat.le_refl _)]
      simp only [Nat.sub_self, List.getElem_cons_zero, hl]
      exact hx

set_option maxRecDepth 100000 in
/-- A list of records. -/
theorem arg_recs {α : Type} {f : α → List Value} {c : Nat} {Z : α → Prop} {P : Program} {t e : TypeId} {r : Reach} {b0 : Nat} {v : Value} {d : DataW H} {p : List MemPlace}
    (ht : P.underlying t = some (.slice e)) (hC : P.cellsOf e = c) (hc : ∀ x, (f x).length = c) (h0 : 0 < c)
    (each : ∀ fuel cs x, DataW.trod enc P W 0 (fun _ => true) true fuel e cs = some x → ∃ r : α, cs = f r ∧ Z r)
    (hv : Value.okWide P W r b0 t v) (h : DataW.Trod enc P W 0 (fun _ => true) true t v d p) :
    ∃ a cap xs, v = .slice a xs.length cap ∧ Recs f W a xs ∧ xs.length ≤ 9223372036854775807 ∧ ∀ x ∈ xs, Z x := by
  obtain ⟨a0, len, cap, rfl⟩ := okWide_slice ht hv
  obtain ⟨fuel, hf⟩ := h
  rcases Go.Deep.open_slice ht hf with ⟨hcs, _⟩ | ⟨ad, l, cc, m, n, D, Pl, hcs, _, hl, hm, hmm, _, hi⟩
  · simp [Value.cells] at hcs
    obtain ⟨rfl, rfl, rfl⟩ := hcs
    exact ⟨none, 0, [], rfl, Lies.nil _ _, by simp, by simp⟩
  · simp [Value.cells] at hcs
    obtain ⟨rfl, rfl, rfl⟩ := hcs
    simp only [if_true] at hmm
    subst hmm
    have hall : ∀ i, i < len → ∃ x : α, (∀ j v, (f x)[j]? = some v → W.cell? (ad.add (i * c + j)) = some v) ∧ Z x := by
      intro i hlt
      obtain ⟨cs', hcells, htr⟩ := hi i (by omega)
      obtain ⟨x, rfl, hz⟩ := each _ _ _ htr
      obtain ⟨_, hlen, hat⟩ := World.cells?_some hcells
      refine ⟨x, fun j v hj => ?_, hz⟩
      have hjl : j < P.cellsOf e := by rw [← hlen]; exact (List.getElem?_eq_some_iff.1 hj).1
      have := hat j hjl
      rw [hj, hC, Go.Deep.add_add] at this
      exact this
    obtain ⟨xs, hxl, hxs⟩ := list_choose len hall
    refine ⟨some ad, m, xs, by rw [hxl], ?_, ?_, ?_⟩
    · obtain ⟨b, off, spot⟩ := ad
      by_cases hpos : 0 < len
      · have hk0 : 0 < xs.length := by omega
        have hfl : 0 < (f xs[0]).length := by rw [hc]; exact h0
        have hc0 := (hxs 0 hk0).1 0 (f xs[0])[0] (List.getElem?_eq_getElem hfl)
        have hspot : spot = none := by simpa [Addr.add] using World.cell?_spot hc0
        subst hspot
        refine Recs.mk hc fun k hk j v hj => ?_
        have := (hxs k hk).1 j v hj
        rw [Go.WideShapes.add_plain] at this
        exact this
      · have : xs = [] := List.eq_nil_of_length_eq_zero (by omega)
        subst this
        exact Lies.nil _ _
    · rw [hxl]; unfold maxLen at hm; omega
    · intro x hx
      obtain ⟨k, hk, rfl⟩ := List.getElem_of_mem hx
      exact (hxs k hk).2

set_option maxRecDepth 100000 in
/-- A record by value. -/
theorem arg_rec {α : Type} {f : α → List Value} {Z : α → Prop} {P : Program} {t : TypeId} {fs : Array Field} {r : Reach} {b0 : Nat} {v : Value} {d : DataW H} {p : List MemPlace}
    (ht : P.underlying t = some (.struct fs)) (each : ∀ fuel cs x, DataW.trod enc P W 0 (fun _ => true) true fuel t cs = some x → ∃ r : α, cs = f r ∧ Z r)
    (hv : Value.okWide P W r b0 t v) (h : DataW.Trod enc P W 0 (fun _ => true) true t v d p) : ∃ x, v = .agg (f x).toArray ∧ Z x := by
  obtain ⟨cs, rfl, hsz⟩ := okWide_struct ht hv
  obtain ⟨fuel, hf⟩ := h
  obtain ⟨x, e, hz⟩ := each _ _ _ hf
  refine ⟨x, ?_, hz⟩
  rw [← e]
  simp [Value.cells]
end
end Go.Proofs.YtncandoohlndnaaGreat
namespace Go.Proofs.YtncandoohlndnaaGreat
open Go.ChangeShapes Go.WideShapes Go.ChangeAt Go.RowKit


set_option maxRecDepth 100000 in
theorem each_Mill {H : Type} {enc : TypeId × Value → H} {W : World} (fuel : Nat) (cs : List Value) (x : DataW H × List MemPlace) (h : DataW.trod enc Tryz.prog W 0 (fun _ => true) true fuel 72 cs = some x) : ∃ r : Mil, cs = r.cs ∧ r.fits := by
  obtain ⟨hl, n, hf⟩ := rec_fields Tryz.underlying72 (by kernel_rfl) (by kernel_rfl) h
  match cs, hl with
  | [c0, c1, c2, c3, c4], _ =>
    obtain ⟨u0, y0, e0, t0⟩ := hf 0 _ rfl
    injection e0 with e0; subst e0
    obtain ⟨v0, g0, _, s0⟩ := DataW.trod_string Tryz.underlying9 t0
    injection g0 with g0 _; subst g0
    obtain ⟨u1, y1, e1, t1⟩ := hf 1 _ rfl
    injection e1 with e1; subst e1
    obtain ⟨v1, g1, _, _⟩ := DataW.trod_int Tryz.underlying2 t1
    injection g1 with g1 _; subst g1
    obtain ⟨u2, y2, e2, t2⟩ := hf 2 _ rfl
    injection e2 with e2; subst e2
    obtain ⟨v2, g2, _, _⟩ := DataW.trod_int Tryz.underlying2 t2
    injection g2 with g2 _; subst g2
    obtain ⟨u3, y3, e3, t3⟩ := hf 3 _ rfl
    injection e3 with e3; subst e3
    obtain ⟨v3, g3, _, _⟩ := DataW.trod_int Tryz.underlying2 t3
    injection g3 with g3 _; subst g3
    obtain ⟨u4, y4, e4, t4⟩ := hf 4 _ rfl
    injection e4 with e4; subst e4
    obtain ⟨v4, g4, _⟩ := DataW.trod_bool Tryz.underlying4 t4
    injection g4 with g4 _; subst g4
    unfold maxLen at s0
    exact ⟨⟨v0, v1, v2, v3, v4⟩, rfl, by simp only [Mil.fits]; omega⟩

set_option maxRecDepth 100000 in
theorem arg_Mill {H : Type} {enc : TypeId × Value → H} {W : World} {r : Reach} {b0 : Nat} {v : Value} {d : DataW H} {p : List MemPlace} (hv : Value.okWide Tryz.prog W r b0 72 v) (h : DataW.Trod enc Tryz.prog W 0 (fun _ => true) true 72 v d p) :
    ∃ x : Mil, v = .agg x.cs.toArray ∧ x.fits := arg_rec Tryz.underlying72 each_Mill hv h

set_option maxRecDepth 100000 in
theorem arg_Mills {H : Type} {enc : TypeId × Value → H} {W : World} {r : Reach} {b0 : Nat} {v : Value} {d : DataW H} {p : List MemPlace} (hv : Value.okWide Tryz.prog W r b0 23 v) (h : DataW.Trod enc Tryz.prog W 0 (fun _ => true) true 23 v d p) :
    ∃ a cap xs, v = .slice a xs.length cap ∧ Recs Mil.cs W a xs ∧ xs.length ≤ 9223372036854775807 ∧ ∀ x ∈ xs, Mil.fits x :=
  arg_recs Tryz.underlying23 (by kernel_rfl) Mil.len (by omega) each_Mill hv h
end Go.Proofs.YtncandoohlndnaaGreat
namespace Go.Proofs.YtncandoohlndnaaGreat
open Go.ChangeShapes Go.WideShapes Go.ChangeAt Go.RowKit


set_option maxRecDepth 100000 in
theorem each_Part {H : Type} {enc : TypeId × Value → H} {W : World} (fuel : Nat) (cs : List Value) (x : DataW H × List MemPlace) (h : DataW.trod enc Tryz.prog W 0 (fun _ => true) true fuel 75 cs = some x) : ∃ r : Par, cs = r.cs ∧ r.fits := by
  obtain ⟨hl, n, hf⟩ := rec_fields Tryz.underlying75 (by kernel_rfl) (by kernel_rfl) h
  match cs, hl with
  | [c0, c1, c2], _ =>
    obtain ⟨u0, y0, e0, t0⟩ := hf 0 _ rfl
    injection e0 with e0; subst e0
    obtain ⟨v0, g0, _, s0⟩ := DataW.trod_string Tryz.underlying9 t0
    injection g0 with g0 _; subst g0
    obtain ⟨u1, y1, e1, t1⟩ := hf 1 _ rfl
    injection e1 with e1; subst e1
    obtain ⟨v1, g1, _, s1⟩ := DataW.trod_string Tryz.underlying9 t1
    injection g1 with g1 _; subst g1
    obtain ⟨u2, y2, e2, t2⟩ := hf 2 _ rfl
    injection e2 with e2; subst e2
    obtain ⟨v2, g2, _, _⟩ := DataW.trod_int Tryz.underlying2 t2
    injection g2 with g2 _; subst g2
    unfold maxLen at s0 s1
    exact ⟨⟨v0, v1, v2⟩, rfl, by simp only [Par.fits]; omega⟩

set_option maxRecDepth 100000 in
theorem arg_Part {H : Type} {enc : TypeId × Value → H} {W : World} {r : Reach} {b0 : Nat} {v : Value} {d : DataW H} {p : List MemPlace} (hv : Value.okWide Tryz.prog W r b0 75 v) (h : DataW.Trod enc Tryz.prog W 0 (fun _ => true) true 75 v d p) :
    ∃ x : Par, v = .agg x.cs.toArray ∧ x.fits := arg_rec Tryz.underlying75 each_Part hv h

set_option maxRecDepth 100000 in
theorem arg_Parts {H : Type} {enc : TypeId × Value → H} {W : World} {r : Reach} {b0 : Nat} {v : Value} {d : DataW H} {p : List MemPlace} (hv : Value.okWide Tryz.prog W r b0 24 v) (h : DataW.Trod enc Tryz.prog W 0 (fun _ => true) true 24 v d p) :
    ∃ a cap xs, v = .slice a xs.length cap ∧ Recs Par.cs W a xs ∧ xs.length ≤ 9223372036854775807 ∧ ∀ x ∈ xs, Par.fits x :=
  arg_recs Tryz.underlying24 (by kernel_rfl) Par.len (by omega) each_Part hv h
end Go.Proofs.YtncandoohlndnaaGreat
namespace Go.Proofs.YtncandoohlndnaaGreat
open Go.ChangeShapes Go.WideShapes Go.ChangeAt Go.RowKit


set_option maxRecDepth 100000 in
theorem each_Wait {H : Type} {enc : TypeId × Value → H} {W : World} (fuel : Nat) (cs : List Value) (x : DataW H × List MemPlace) (h : DataW.trod enc Tryz.prog W 0 (fun _ => true) true fuel 77 cs = some x) : ∃ r : Wai, cs = r.cs ∧ r.fits := by
  obtain ⟨hl, n, hf⟩ := rec_fields Tryz.underlying77 (by kernel_rfl) (by kernel_rfl) h
  match cs, hl with
  | [c0, c1, c2, c3], _ =>
    obtain ⟨u0, y0, e0, t0⟩ := hf 0 _ rfl
    injection e0 with e0; subst e0
    obtain ⟨v0, g0, _, s0⟩ := DataW.trod_string Tryz.underlying9 t0
    injection g0 with g0 _; subst g0
    obtain ⟨u1, y1, e1, t1⟩ := hf 1 _ rfl
    injection e1 with e1; subst e1
    obtain ⟨v1, g1, _, s1⟩ := DataW.trod_string Tryz.underlying9 t1
    injection g1 with g1 _; subst g1
    obtain ⟨u2, y2, e2, t2⟩ := hf 2 _ rfl
    injection e2 with e2; subst e2
    obtain ⟨v2, g2, _, _⟩ := DataW.trod_int Tryz.underlying2 t2
    injection g2 with g2 _; subst g2
    obtain ⟨u3, y3, e3, t3⟩ := hf 3 _ rfl
    injection e3 with e3; subst e3
    obtain ⟨v3, g3, _, _⟩ := DataW.trod_int Tryz.underlying2 t3
    injection g3 with g3 _; subst g3
    unfold maxLen at s0 s1
    exact ⟨⟨v0, v1, v2, v3⟩, rfl, by simp only [Wai.fits]; omega⟩

set_option maxRecDepth 100000 in
theorem arg_Wait {H : Type} {enc : TypeId × Value → H} {W : World} {r : Reach} {b0 : Nat} {v : Value} {d : DataW H} {p : List MemPlace} (hv : Value.okWide Tryz.prog W r b0 77 v) (h : DataW.Trod enc Tryz.prog W 0 (fun _ => true) true 77 v d p) :
    ∃ x : Wai, v = .agg x.cs.toArray ∧ x.fits := arg_rec Tryz.underlying77 each_Wait hv h

set_option maxRecDepth 100000 in
theorem arg_Waits {H : Type} {enc : TypeId × Value → H} {W : World} {r : Reach} {b0 : Nat} {v : Value} {d : DataW H} {p : List MemPlace} (hv : Value.okWide Tryz.prog W r b0 25 v) (h : DataW.Trod enc Tryz.prog W 0 (fun _ => true) true 25 v d p) :
    ∃ a cap xs, v = .slice a xs.length cap ∧ Recs Wai.cs W a xs ∧ xs.length ≤ 9223372036854775807 ∧ ∀ x ∈ xs, Wai.fits x :=
  arg_recs Tryz.underlying25 (by kernel_rfl) Wai.len (by omega) each_Wait hv h
end Go.Proofs.YtncandoohlndnaaGreat
namespace Go.Proofs.YtncandoohlndnaaGreat
open Go.ChangeShapes Go.WideShapes Go.ChangeAt Go.RowKit

section
variable {H : Type} {enc : TypeId × Value → H} {W : World}
set_option maxRecDepth 100000 in
/-- A list of records in one cell. -/
theorem cell_recs {α : Type} {f : α → List Value} {c : Nat} {Z : α → Prop} {P : Program} {t e : TypeId} {v : Value} {fuel : Nat} {x : DataW H × List MemPlace}
    (ht : P.underlying t = some (.slice e)) (hC : P.cellsOf e = c) (hc : ∀ x, (f x).length = c) (h0 : 0 < c)
    (each : ∀ fuel cs x, DataW.trod enc P W 0 (fun _ => true) true fuel e cs = some x → ∃ r : α, cs = f r ∧ Z r)
    (hf : DataW.trod enc P W 0 (fun _ => true) true fuel t [v] = some x) :
    ∃ a cap xs, v = .slice a xs.length cap ∧ Recs f W a xs ∧ xs.length ≤ 9223372036854775807 ∧ ∀ x ∈ xs, Z x := by
  rcases Go.Deep.open_slice ht hf with ⟨hcs, _⟩ | ⟨ad, l, cc, m, n, D, Pl, hcs, _, hl, hm, hmm, _, hi⟩
  · injection hcs with hcs _
    exact ⟨none, 0, [], hcs, Lies.nil _ _, by simp, by simp⟩
  · injection hcs with hcs _
    subst hcs
    simp only [if_true] at hmm
    subst hmm
    have hall : ∀ i, i < l → ∃ x : α, (∀ j v, (f x)[j]? = some v → W.cell? (ad.add (i * c + j)) = some v) ∧ Z x := by
      intro i hlt
      obtain ⟨cs', hcells, htr⟩ := hi i (by omega)
      obtain ⟨x, rfl, hz⟩ := each _ _ _ htr
      obtain ⟨_, hlen, hat⟩ := World.cells?_some hcells
      refine ⟨x, fun j v hj => ?_, hz⟩
      have hjl : j < P.cellsOf e := by rw [← hlen]; exact (List.getElem?_eq_some_iff.1 hj).1
      have := hat j hjl
      rw [hj, hC, Go.Deep.add_add] at this
      exact this
    obtain ⟨xs, hxl, hxs⟩ := list_choose l hall
    refine ⟨some ad, m, xs, by rw [hxl], ?_, ?_, ?_⟩
    · obtain ⟨b, off, spot⟩ := ad
      by_cases hpos : 0 < l
      · have hk0 : 0 < xs.length := by omega
        have hfl : 0 < (f xs[0]).length := by rw [hc]; exact h0
        have hc0 := (hxs 0 hk0).1 0 (f xs[0])[0] (List.getElem?_eq_getElem hfl)
        have hspot : spot = none := by simpa [Addr.add] using World.cell?_spot hc0
        subst hspot
        refine Recs.mk hc fun k hk j v hj => ?_
        have := (hxs k hk).1 j v hj
        rw [Go.WideShapes.add_plain] at this
        exact this
      · have : xs = [] := List.eq_nil_of_length_eq_zero (by omega)
        subst this
        exact Lies.nil _ _
    · rw [hxl]; unfold maxLen at hm; omega
    · intro x hx
      obtain ⟨k, hk, rfl⟩ := List.getElem_of_mem hx
      exact (hxs k hk).2
end

set_option maxRecDepth 100000 in
theorem pcells_flat : ∀ ps : List Pur, pcells ps = ps.flatMap Pur.cells
  | [] => rfl
  | p :: r => by rw [List.flatMap_cons, ← pcells_flat r]; rfl
set_option maxRecDepth 100000 in
theorem each_Purse {H : Type} {enc : TypeId × Value → H} {W : World} (fuel : Nat) (cs : List Value) (x : DataW H × List MemPlace) (h : DataW.trod enc Tryz.prog W 0 (fun _ => true) true fuel 69 cs = some x) : ∃ r : Pur, cs = r.cells ∧ r.name.size ≤ 9223372036854775807 := by
  obtain ⟨hl, n, hf⟩ := rec_fields Tryz.underlying69 (by kernel_rfl) (by kernel_rfl) h
  match cs, hl with
  | [c0, c1], _ =>
    obtain ⟨u0, y0, e0, t0⟩ := hf 0 _ rfl
    injection e0 with e0; subst e0
    obtain ⟨v0, g0, _, s0⟩ := DataW.trod_string Tryz.underlying9 t0
    injection g0 with g0 _; subst g0
    obtain ⟨u1, y1, e1, t1⟩ := hf 1 _ rfl
    injection e1 with e1; subst e1
    obtain ⟨v1, g1, _, _⟩ := DataW.trod_int Tryz.underlying2 t1
    injection g1 with g1 _; subst g1
    unfold maxLen at s0
    exact ⟨⟨v0, v1⟩, rfl, by simp only; omega⟩

set_option maxRecDepth 100000 in
/-- Its cells read as a book's. -/
theorem each_Book {H : Type} {enc : TypeId × Value → H} {W : World} (fuel : Nat) (cs : List Value) (x : DataW H × List MemPlace) (h : DataW.trod enc Tryz.prog W 0 (fun _ => true) true fuel 27 cs = some x) :
    ∃ (b : Bok) (s : Spots), cs = (#[.int .i64 b.season, .int .i64 b.supply, .int .i64 b.burnt, .int .i64 b.pot, .slice s.fa b.folk.length s.fc, .slice s.ma b.mills.length s.mc, .slice s.pa b.parts.length s.pc, .slice s.wa b.waits.length s.wc] : Array Value).toList ∧ BookAt W b s ∧ BFits b := by
  obtain ⟨hl, n, hf⟩ := rec_fields Tryz.underlying27 (by kernel_rfl) (by kernel_rfl) h
  match cs, hl with
  | [c0, c1, c2, c3, c4, c5, c6, c7], _ =>
    obtain ⟨u0, y0, e0, t0⟩ := hf 0 _ rfl
    injection e0 with e0; subst e0
    obtain ⟨v0, g0, _, _⟩ := DataW.trod_int Tryz.underlying2 t0
    injection g0 with g0 _; subst g0
    obtain ⟨u1, y1, e1, t1⟩ := hf 1 _ rfl
    injection e1 with e1; subst e1
    obtain ⟨v1, g1, _, _⟩ := DataW.trod_int Tryz.underlying2 t1
    injection g1 with g1 _; subst g1
    obtain ⟨u2, y2, e2, t2⟩ := hf 2 _ rfl
    injection e2 with e2; subst e2
    obtain ⟨v2, g2, _, _⟩ := DataW.trod_int Tryz.underlying2 t2
    injection g2 with g2 _; subst g2
    obtain ⟨u3, y3, e3, t3⟩ := hf 3 _ rfl
    injection e3 with e3; subst e3
    obtain ⟨v3, g3, _, _⟩ := DataW.trod_int Tryz.underlying2 t3
    injection g3 with g3 _; subst g3
    obtain ⟨u4, y4, e4, t4⟩ := hf 4 _ rfl
    injection e4 with e4; subst e4
    obtain ⟨fa, fc, fs, rfl, r4, l4, z4⟩ := cell_recs Tryz.underlying22 (by kernel_rfl) (f := Pur.cells) (c := 2) (fun _ => rfl) (by omega) each_Purse t4
    obtain ⟨u5, y5, e5, t5⟩ := hf 5 _ rfl
    injection e5 with e5; subst e5
    obtain ⟨ma, mc, ms, rfl, r5, l5, z5⟩ := cell_recs Tryz.underlying23 (by kernel_rfl) Mil.len (by omega) each_Mill t5
    obtain ⟨u6, y6, e6, t6⟩ := hf 6 _ rfl
    injection e6 with e6; subst e6
    obtain ⟨pa, pc, ps, rfl, r6, l6, z6⟩ := cell_recs Tryz.underlying24 (by kernel_rfl) Par.len (by omega) each_Part t6
    obtain ⟨u7, y7, e7, t7⟩ := hf 7 _ rfl
    injection e7 with e7; subst e7
    obtain ⟨wa, wc, ws, rfl, r7, l7, z7⟩ := cell_recs Tryz.underlying25 (by kernel_rfl) Wai.len (by omega) each_Wait t7
    exact ⟨⟨v0, v1, v2, v3, fs, ms, ps, ws⟩, ⟨fa, fc, ma, mc, pa, pc, wa, wc⟩, rfl, ⟨show Lies W fa (pcells fs) by rw [pcells_flat]; exact r4, r5, r6, r7⟩, ⟨l4, l5, l6, l7, z4, z5, z6, z7⟩⟩

set_option maxRecDepth 100000 in
/-- A book among the arguments. -/
theorem arg_Book {H : Type} {enc : TypeId × Value → H} {W : World} {r : Reach} {b0 : Nat} {v : Value} {d : DataW H} {p : List MemPlace} (hv : Value.okWide Tryz.prog W r b0 27 v) (h : DataW.Trod enc Tryz.prog W 0 (fun _ => true) true 27 v d p) :
    ∃ (b : Bok) (s : Spots), v = .agg #[.int .i64 b.season, .int .i64 b.supply, .int .i64 b.burnt, .int .i64 b.pot, .slice s.fa b.folk.length s.fc, .slice s.ma b.mills.length s.mc, .slice s.pa b.parts.length s.pc, .slice s.wa b.waits.length s.wc] ∧ BookAt W b s ∧ BFits b := by
  obtain ⟨cs, rfl, hsz⟩ := okWide_struct Tryz.underlying27 hv
  obtain ⟨fuel, hf⟩ := h
  obtain ⟨b, s, e, hb, hf⟩ := each_Book _ _ _ hf
  refine ⟨b, s, ?_, hb, hf⟩
  have e' : cs.toList = (#[.int .i64 b.season, .int .i64 b.supply, .int .i64 b.burnt, .int .i64 b.pot, .slice s.fa b.folk.length s.fc, .slice s.ma b.mills.length s.mc, .slice s.pa b.parts.length s.pc, .slice s.wa b.waits.length s.wc] : Array Value).toList := by simpa [Value.cells] using e
  rw [Array.toList_inj.1 e']
end Go.Proofs.YtncandoohlndnaaGreat
