/-
  Texts joined: DeedI.
-/
import Derived.Test.YtoabpbdjffonlaaGreatDoorP10
import Derived.Test.YtoabpbdjffonlaaGreatDoorP12
namespace Go.Proofs.YtoabpbdjffonlaaGreatDoor
open Go.ChangeShapes Go.WideShapes Go.ChangeAt Go.RowKit

/-- A deed under way: its box D, the reader R, the result's box Q. -/
structure DWay (w : World) (Q R D : Nat) (ws : List ByteArray) (f : Bool) (x : Dee) (W : World) : Prop where
  rd : Rdr w.heap.size R ws f W
  d : RecAt Dee.cs W D x
  df : ∀ o, W.frozen? ⟨D, o, none⟩ = false
  r : RecAt Dee.cs W Q (zeroD 0)
  rf : ∀ o, W.frozen? ⟨Q, o, none⟩ = false
  below : Below w.heap.size w W
  wQ : w.heap.size ≤ Q
  qR : Q < R
  rD : R < D
  dl : D < W.heap.size
section
variable {w W W' : World} {Q R D : Nat} {ws ws' : List ByteArray} {f f' : Bool} {x y : Dee}
theorem DWay.adv (h : DWay w Q R D ws f x W) (hr : Rdr w.heap.size R ws' f' W') (ha : Adv R W W') : DWay w Q R D ws' f' x W' := by
  have h1 := h.wQ
  have h2 := h.qR
  have h3 := h.rD
  have h4 := h.dl
  have d1 : D ≠ R := by omega
  have q1 : Q ≠ R := by omega
  have q2 : Q < W.heap.size := by omega
  exact ⟨hr, fun j v hj => (ha.cell d1 h4).trans (h.d j v hj), fun o => (ha.frozen d1 h4).trans (h.df o), fun j v hj => (ha.cell q1 q2).trans (h.r j v hj), fun o => (ha.frozen q1 q2).trans (h.rf o),
    h.below.trans (ha.1.mono (by omega)), h1, h2, h3, Nat.lt_of_lt_of_le h4 ha.1.size⟩
theorem DWay.put {o : Nat} {v : Value} (h : DWay w Q R D ws f x W) (ho : o < 5) (e : Dee.cs y = (Dee.cs x).set o v) : DWay w Q R D ws f y (W.setCell ⟨D, o, none⟩ v) := by
  have h1 := h.wQ
  have h2 := h.qR
  have h3 := h.rD
  have h4 := h.dl
  exact ⟨h.rd.far (by omega) (by omega), h.d.put ho e, fun o' => by rw [World.frozen?_setCell]; exact h.df o', h.r.far (by omega), fun o' => by rw [World.frozen?_setCell]; exact h.rf o', h.below.setCell (by show w.heap.size ≤ D; omega) v, h1, h2, h3, by simpa [World.setCell] using h4⟩
theorem DWay.step (h : DWay w Q R D ws f x W) (hb : Below W.heap.size W W') : DWay w Q R D ws f x W' := h.adv (h.rd.step hb) (Adv.of hb (Nat.le_of_lt h.rd.lt))
theorem DWay.mark (g : Bool) (h : DWay w Q R D ws f x W) : DWay w Q R D ws g x (W.setCell ⟨R, 1, none⟩ (.bool g)) := h.adv (h.rd.mark g) (Adv.set _ _ _ _)
end
/-- A deed that was read, or none. -/
def ReadO (o : Option Dee) (w : World) (e : Ending) (w' : World) : Prop :=
  e = .returned (.tuple #[.agg #[.int .i64 (o.getD (zeroD 0)).kind, .string (o.getD (zeroD 0)).who, .string (o.getD (zeroD 0)).mill, .string (o.getD (zeroD 0)).to, .int .i64 (o.getD (zeroD 0)).n], .bool o.isSome]) ∧ Below w.heap.size w w'
theorem ReadO.none {o : Option Dee} {w w' : World} (h : o = none) (hb : Below w.heap.size w w') : ReadO o w (.returned (.tuple #[.agg #[.int .i64 0, .string ByteArray.empty, .string ByteArray.empty, .string ByteArray.empty, .int .i64 0], .bool false])) w' := by
  subst h; exact ⟨rfl, hb⟩
theorem ReadO.some {o : Option Dee} {w w' : World} {k n : Int} {who mill to : ByteArray} (h : o = some ⟨k, who, mill, to, n⟩) (hb : Below w.heap.size w w') : ReadO o w (.returned (.tuple #[.agg #[.int .i64 k, .string who, .string mill, .string to, .int .i64 n], .bool true])) w' := by
  subst h; exact ⟨rfl, hb⟩
theorem sat_tail_size {ws : List ByteArray} {m : Nat} (h : ∀ x ∈ ws, x.size ≤ m) (j : Nat) : (sat ws j).size ≤ m := sat_size h j
theorem tail_size {ws : List ByteArray} {m : Nat} (h : ∀ x ∈ ws, x.size ≤ m) : ∀ x ∈ ws.tail, x.size ≤ m := fun x hx => h x (List.mem_of_mem_tail hx)
theorem tail_len {ws : List ByteArray} {m : Nat} (h : ws.length ≤ m) : ws.tail.length ≤ m := by rw [List.length_tail]; omega
theorem place_kinds (s : ByteArray) : ∃ k : Int, placeV wordsS s + 1 = k ∧ 0 ≤ k ∧ k ≤ 11 := by
  have := place_bd s
  exact ⟨_, rfl, by omega, by omega⟩
/-- The state behind the head: the reader, the deed's box, the result's. -/
theorem dway_new {w W2 W3 : World} {b off c : Nat} {rest : List ByteArray} {k : Int} (hb : Below (w.heap.size + 1) ((w.alloc zeroO).alloc (.cells #[.slice (some ⟨b, off, none⟩) (rest.length + 1) c, .bool false] 93)) W2)
    (hr : Rdr w.heap.size (w.heap.size + 1) rest false W2) (hb3 : Below W2.heap.size W2 W3) :
    DWay w w.heap.size (w.heap.size + 1) W3.heap.size rest false (zeroD k) (W3.alloc (.cells #[.int .i64 k, .string ⟨#[]⟩, .string ⟨#[]⟩, .string ⟨#[]⟩, .int .i64 0] 25)) := by
  have e0 : (w.alloc zeroO).heap.size = w.heap.size + 1 := size_alloc _ _
  have hR := hr.lt
  have hs3 := hb3.size
  have z := (ZeroAt.new w).step (below_new (w.alloc zeroO) (.cells #[.slice (some ⟨b, off, none⟩) (rest.length + 1) c, .bool false] 93))
  have z0 : RecAt Dee.cs ((w.alloc zeroO).alloc (.cells #[.slice (some ⟨b, off, none⟩) (rest.length + 1) c, .bool false] 93)) w.heap.size (zeroD 0) := by
    intro j v hj
    match j, hj with
    | 0, hj => obtain rfl := Option.some.inj hj; exact z.c0
    | 1, hj => obtain rfl := Option.some.inj hj; exact z.c1
    | 2, hj => obtain rfl := Option.some.inj hj; exact z.c2
    | 3, hj => obtain rfl := Option.some.inj hj; exact z.c3
    | 4, hj => obtain rfl := Option.some.inj hj; exact z.c4
    | j + 5, hj => simp [Dee.cs] at hj
  have hb4 := below_new W3 (.cells #[.int .i64 k, .string ⟨#[]⟩, .string ⟨#[]⟩, .string ⟨#[]⟩, .int .i64 0] 25)
  have hb5 := below_trans hb3 hb4
  have lt2 : w.heap.size < W2.heap.size := by omega
  have bw : Below w.heap.size w W2 := ((below_new w zeroO).trans ((below_new (w.alloc zeroO) (.cells #[.slice (some ⟨b, off, none⟩) (rest.length + 1) c, .bool false] 93)).mono (by omega))).trans (hb.mono (by omega))
  refine ⟨hr.step hb5, RecAt.new Dee.cs W3 (zeroD k) 25, fun i => World.frozen?_alloc_at (w := W3) #[.int .i64 k, .string ⟨#[]⟩, .string ⟨#[]⟩, .string ⟨#[]⟩, .int .i64 0] 25 W3.heap.size i rfl, fun j v hj => ?_, fun o => ?_, below_trans bw hb5, Nat.le_refl _, Nat.lt_succ_self _, by omega, by rw [size_alloc]; exact Nat.lt_succ_self _⟩
  · exact (hb5.cell (p := ⟨w.heap.size, j, none⟩) lt2).trans ((hb.cell (p := ⟨w.heap.size, j, none⟩) (Nat.lt_succ_self _)).trans (z0 j v hj))
  · exact (hb5.frozen (p := ⟨w.heap.size, o, none⟩) lt2).trans ((hb.frozen (p := ⟨w.heap.size, o, none⟩) (Nat.lt_succ_self _)).trans (z.fz o))

theorem kinds0 {k : Int} (h0 : 0 ≤ k) (h1 : k ≤ 11) : k = 0 ∨ k = 1 ∨ k = 2 ∨ k = 3 ∨ k = 4 ∨ k = 5 ∨ k = 6 ∨ k = 7 ∨ k = 8 ∨ k = 9 ∨ k = 10 ∨ k = 11 := by omega
set_option maxHeartbeats 16000000 in
set_option maxRecDepth 100000 in
theorem deedIn_any {w : World} {b off c : Nat} {x0 : ByteArray} {rest : List ByteArray} (h : ∀ k u, (x0 :: rest)[k]? = some u → w.cell? ⟨b, off + k, none⟩ = some (.string u)) (hb : b < w.heap.size) (hc : rest.length + 1 ≤ c) (hl : rest.length + 1 ≤ 1048576)
    (hs : ∀ x ∈ x0 :: rest, x.size ≤ 281474976710656) (hg : Glob w) (h8 : 8 ≤ w.heap.size) :
    Calls Tryz.prog 24 #[.slice (some ⟨b, off, none⟩) (rest.length + 1) c] w (ReadO (readW (x0 :: rest) (placeV wordsS x0 + 1)) w) := by
  have HG := Lib.hid hg
  have HS := Lib.hid hs
  have HL := Lib.hid hl
  have H8 := Lib.hid h8
  have e0 : (w.alloc zeroO).heap.size = w.heap.size + 1 := size_alloc _ _
  have HR0 := Lib.hid (show Rdr w.heap.size (w.heap.size + 1) (x0 :: rest) false ((w.alloc zeroO).alloc (.cells #[.slice (some ⟨b, off, none⟩) (rest.length + 1) c, .bool false] 93)) from by
    have hb1 := below_new w zeroO
    have hb2 := below_new (w.alloc zeroO) (.cells #[.slice (some ⟨b, off, none⟩) (rest.length + 1) c, .bool false] 93)
    refine ⟨⟨b, off, c, ?_, hc, fun k u hk => ?_, hb⟩, ?_, fun o => ?_, by omega, ?_⟩
    · rw [← e0, World.cell?_alloc_mark]; rfl
    · exact (hb2.cell (p := ⟨b, off + k, none⟩) (by show b < (w.alloc zeroO).heap.size; omega)).trans ((hb1.cell (p := ⟨b, off + k, none⟩) hb).trans (h k u hk))
    · rw [← e0, World.cell?_alloc_mark]; rfl
    · exact World.frozen?_alloc_at (w := w.alloc zeroO) #[.slice (some ⟨b, off, none⟩) (rest.length + 1) c, .bool false] 93 (w.heap.size + 1) o e0.symm
    · rw [size_alloc, e0]; exact Nat.lt_succ_self _)
  clear h hb hc hl hs hg h8 e0
  go_enter Tryz.func24, Tryz.ntmps24
  go_wp2_with fail
  refine (word_any HR0.out HL.out).mono ?_
  rintro e W2 ⟨rfl, hr2, ha2⟩
  have HR2 := Lib.hid (show Rdr w.heap.size (w.heap.size + 1) rest false W2 from hr2)
  have HA2 := Lib.hid ha2
  clear hr2 ha2
  have hx0 : sat (x0 :: rest) 0 = x0 := rfl
  rw [hx0]
  clear hx0
  go_wp2_with fail
  refine (kindOf_any x0 _).mono ?_
  rintro e W3 ⟨rfl, hb3⟩
  obtain ⟨k, hk, hk0, hk11⟩ := place_kinds x0
  have HW3 := Lib.hid (dway_new (k := k) HA2.out.1 HR2.out hb3)
  rw [hk]
  have HK := Lib.hid hk
  clear hk hb3
  obtain ⟨W, hW⟩ : ∃ W, W3.alloc (.cells #[.int .i64 k, .string ⟨#[]⟩, .string ⟨#[]⟩, .string ⟨#[]⟩, .int .i64 0] 25) = W := ⟨_, rfl⟩
  rw [hW] at HW3
  have HWE := Lib.hid hW
  clear hW
  obtain ⟨D, hD⟩ : ∃ D, W3.heap.size = D := ⟨_, rfl⟩
  rw [hD] at HW3
  have HDE := Lib.hid hD
  clear hD
  have c0 := HW3.out.d 0 _ rfl
  have c1 := HW3.out.d 1 _ rfl
  have c2 := HW3.out.d 2 _ rfl
  have c3 := HW3.out.d 3 _ rfl
  have c4 := HW3.out.d 4 _ rfl
  rcases kinds0 hk0 hk11 with rfl | rfl | rfl | rfl | rfl | rfl | rfl | rfl | rfl | rfl | rfl | rfl
  · clear hk0 hk11
    go_wp2_with fail
    (try rw [HWE.out, HDE.out])
    (try rw [HWE.out])
    (try rw [HDE.out])
    refine (told_no (k := 0) (.inl (by decide)) _ _ _ _ _).mono ?_
    rintro e W4 ⟨rfl, hb4⟩
    have HW4 := Lib.hid (HW3.out.step hb4)
    clear hb4 HW3 c0 c1 c2 c3 c4
    have t_bare := as_nil_bare
    have t_ofWho := as_nil_ofWho
    have t_ofMill := as_nil_ofMill
    have t_millN := as_nil_millN
    have t_whoMillN := as_nil_whoMillN
    have t_whoMillToN := as_nil_whoMillToN
    have t_whoToN := as_nil_whoToN
    have hfz := HW4.out.rd.fz 1
    have c1 := HW4.out.rd.off
    have HW5 := Lib.hid (HW4.out.mark true)
    go_wp2_with fail
    refine (isDone_any HW5.out.rd (by have := HL.out; omega)).mono ?_
    rintro e W6 ⟨rfl, rfl⟩
    have HW := HW5
    have HN := Lib.hid ((congrArg (readW (x0 :: rest)) HK.out).trans (readW_zero (x0 :: rest)))
    clear c1 hfz
    have r0 : World.cell? _ ⟨w.heap.size, 0, none⟩ = some (.int .i64 0) := HW.out.r 0 _ rfl
    have r1 : World.cell? _ ⟨w.heap.size, 1, none⟩ = some (.string ⟨#[]⟩) := HW.out.r 1 _ rfl
    have r2 : World.cell? _ ⟨w.heap.size, 2, none⟩ = some (.string ⟨#[]⟩) := HW.out.r 2 _ rfl
    have r3 : World.cell? _ ⟨w.heap.size, 3, none⟩ = some (.string ⟨#[]⟩) := HW.out.r 3 _ rfl
    have r4 : World.cell? _ ⟨w.heap.size, 4, none⟩ = some (.int .i64 0) := HW.out.r 4 _ rfl
    have rf := HW.out.rf
    simp only [Bool.not_true, Bool.false_and]
    go_wp2
    exact bodyPost_ret (v := .tuple #[.agg #[.int .i64 0, .string ⟨#[]⟩, .string ⟨#[]⟩, .string ⟨#[]⟩, .int .i64 0], .bool false]) (by simp [results, Tryz.results24, go_sem, r0, r1, r2, r3, r4]) rfl (ReadO.none HN.out (below_set5 HW.out.below HW.out.wQ _ _ _ _ _))
  · clear hk0 hk11
    go_wp2_with fail
    (try rw [HWE.out, HDE.out])
    (try rw [HWE.out])
    (try rw [HDE.out])
    refine (told_1 _ _ _ _ _).mono ?_
    rintro e W4 ⟨rfl, hb4⟩
    have HW4 := Lib.hid (HW3.out.step hb4)
    clear hb4 HW3 c0 c1 c2 c3 c4
    have t_bare := as_millN_bare
    have t_ofWho := as_millN_ofWho
    have t_ofMill := as_millN_ofMill
    have t_millN := as_millN_millN
    have t_whoMillN := as_millN_whoMillN
    have t_whoMillToN := as_millN_whoMillToN
    have t_whoToN := as_millN_whoToN
    have HN := Lib.hid ((congrArg (readW (x0 :: rest)) HK.out).trans (rd_1 x0 rest))
    go_wp2_with fail
    refine (name_any HW4.out.rd (show rest.length ≤ 1048576 by have := HL.out; omega) (by have := sat_tail_size (ws := rest) (tail_size HS.out) 0; unfold maxLen; omega)).mono ?_
    rintro e X0 ⟨rfl, hr, ha⟩
    have HX0 := Lib.hid (HW4.out.adv hr ha)
    clear hr ha
    go_wp2_with fail
    refine (count_any HX0.out.rd (tail_len (show rest.length ≤ 1048576 by have := HL.out; omega)) (sat_tail_size (ws := rest.tail) (tail_size (tail_size HS.out)) 0) (HG.out.below HX0.out.below) H8.out).mono ?_
    rintro e X1 ⟨rfl, hr, ha⟩
    have HX1 := Lib.hid (HX0.out.adv hr ha)
    clear hr ha
    obtain ⟨v0, hv0⟩ : ∃ v0, sat rest 0 = v0 := ⟨_, rfl⟩
    rw [hv0]
    have HV0 := Lib.hid hv0
    clear hv0
    obtain ⟨v1, hv1⟩ : ∃ v1, (readL (sat rest.tail 0).data.toList).getD 0 = v1 := ⟨_, rfl⟩
    rw [hv1]
    have HV1 := Lib.hid hv1
    clear hv1
    have df := HX1.out.df
    have d0 := HX1.out.d 0 _ rfl
    have d1 := HX1.out.d 1 _ rfl
    have d2 := HX1.out.d 2 _ rfl
    have d3 := HX1.out.d 3 _ rfl
    have d4 := HX1.out.d 4 _ rfl
    have HS0 := Lib.hid (HX1.out.put (o := 2) (y := ⟨1, ByteArray.empty, v0, ByteArray.empty, 0⟩) (v := .string v0) (by decide) rfl)
    have HS1 := Lib.hid (HS0.out.put (o := 4) (y := ⟨1, ByteArray.empty, v0, ByteArray.empty, v1⟩) (v := .int .i64 v1) (by decide) rfl)
    go_wp2_with fail
    refine (isDone_any HS1.out.rd (tail_len (tail_len (show rest.length ≤ 1048576 by have := HL.out; omega)))).mono ?_
    rintro e W6 ⟨rfl, rfl⟩
    have HW := HS1
    clear df d0 d1 d2 d3 d4
    have r0 : World.cell? _ ⟨w.heap.size, 0, none⟩ = some (.int .i64 0) := HW.out.r 0 _ rfl
    have r1 : World.cell? _ ⟨w.heap.size, 1, none⟩ = some (.string ⟨#[]⟩) := HW.out.r 1 _ rfl
    have r2 : World.cell? _ ⟨w.heap.size, 2, none⟩ = some (.string ⟨#[]⟩) := HW.out.r 2 _ rfl
    have r3 : World.cell? _ ⟨w.heap.size, 3, none⟩ = some (.string ⟨#[]⟩) := HW.out.r 3 _ rfl
    have r4 : World.cell? _ ⟨w.heap.size, 4, none⟩ = some (.int .i64 0) := HW.out.r 4 _ rfl
    have rf := HW.out.rf
    cases hq : (!((false || !nameB (sat rest 0)) || !countB (sat rest.tail 0)) && rest.tail.tail.isEmpty)
    · have HN2 := Lib.hid (HN.out.trans (if_neg (by rw [hq]; exact Bool.false_ne_true)))
      clear hq
      go_wp2
      exact bodyPost_ret (v := .tuple #[.agg #[.int .i64 0, .string ⟨#[]⟩, .string ⟨#[]⟩, .string ⟨#[]⟩, .int .i64 0], .bool false]) (by simp [results, Tryz.results24, go_sem, r0, r1, r2, r3, r4]) rfl (ReadO.none HN2.out (below_set5 HW.out.below HW.out.wQ _ _ _ _ _))
    · have HN2 := Lib.hid (HN.out.trans (if_pos hq))
      clear hq
      have z0 := HW.out.d 0 _ rfl
      have z1 := HW.out.d 1 _ rfl
      have z2 := HW.out.d 2 _ rfl
      have z3 := HW.out.d 3 _ rfl
      have z4 := HW.out.d 4 _ rfl
      go_wp2
      exact bodyPost_ret (v := .tuple #[.agg #[.int .i64 1, .string ByteArray.empty, .string v0, .string ByteArray.empty, .int .i64 v1], .bool true]) (by simp [results, Tryz.results24, go_sem, r0, r1, r2, r3, r4]) rfl (ReadO.some (HN2.out.trans (by rw [HV0.out, HV1.out])) (below_set5 HW.out.below HW.out.wQ _ _ _ _ _))
  · clear hk0 hk11
    go_wp2_with fail
    (try rw [HWE.out, HDE.out])
    (try rw [HWE.out])
    (try rw [HDE.out])
    refine (told_2 _ _ _ _ _).mono ?_
    rintro e W4 ⟨rfl, hb4⟩
    have HW4 := Lib.hid (HW3.out.step hb4)
    clear hb4 HW3 c0 c1 c2 c3 c4
    have t_bare := as_ofWho_bare
    have t_ofWho := as_ofWho_ofWho
    have t_ofMill := as_ofWho_ofMill
    have t_millN := as_ofWho_millN
    have t_whoMillN := as_ofWho_whoMillN
    have t_whoMillToN := as_ofWho_whoMillToN
    have t_whoToN := as_ofWho_whoToN
    have HN := Lib.hid ((congrArg (readW (x0 :: rest)) HK.out).trans (rd_2 x0 rest))
    go_wp2_with fail
    refine (name_any HW4.out.rd (show rest.length ≤ 1048576 by have := HL.out; omega) (by have := sat_tail_size (ws := rest) (tail_size HS.out) 0; unfold maxLen; omega)).mono ?_
    rintro e X0 ⟨rfl, hr, ha⟩
    have HX0 := Lib.hid (HW4.out.adv hr ha)
    clear hr ha
    obtain ⟨v0, hv0⟩ : ∃ v0, sat rest 0 = v0 := ⟨_, rfl⟩
    rw [hv0]
    have HV0 := Lib.hid hv0
    clear hv0
    have df := HX0.out.df
    have d0 := HX0.out.d 0 _ rfl
    have d1 := HX0.out.d 1 _ rfl
    have d2 := HX0.out.d 2 _ rfl
    have d3 := HX0.out.d 3 _ rfl
    have d4 := HX0.out.d 4 _ rfl
    have HS0 := Lib.hid (HX0.out.put (o := 1) (y := ⟨2, v0, ByteArray.empty, ByteArray.empty, 0⟩) (v := .string v0) (by decide) rfl)
    go_wp2_with fail
    refine (isDone_any HS0.out.rd (tail_len (show rest.length ≤ 1048576 by have := HL.out; omega))).mono ?_
    rintro e W6 ⟨rfl, rfl⟩
    have HW := HS0
    clear df d0 d1 d2 d3 d4
    have r0 : World.cell? _ ⟨w.heap.size, 0, none⟩ = some (.int .i64 0) := HW.out.r 0 _ rfl
    have r1 : World.cell? _ ⟨w.heap.size, 1, none⟩ = some (.string ⟨#[]⟩) := HW.out.r 1 _ rfl
    have r2 : World.cell? _ ⟨w.heap.size, 2, none⟩ = some (.string ⟨#[]⟩) := HW.out.r 2 _ rfl
    have r3 : World.cell? _ ⟨w.heap.size, 3, none⟩ = some (.string ⟨#[]⟩) := HW.out.r 3 _ rfl
    have r4 : World.cell? _ ⟨w.heap.size, 4, none⟩ = some (.int .i64 0) := HW.out.r 4 _ rfl
    have rf := HW.out.rf
    cases hq : (!(false || !nameB (sat rest 0)) && rest.tail.isEmpty)
    · have HN2 := Lib.hid (HN.out.trans (if_neg (by rw [hq]; exact Bool.false_ne_true)))
      clear hq
      go_wp2
      exact bodyPost_ret (v := .tuple #[.agg #[.int .i64 0, .string ⟨#[]⟩, .string ⟨#[]⟩, .string ⟨#[]⟩, .int .i64 0], .bool false]) (by simp [results, Tryz.results24, go_sem, r0, r1, r2, r3, r4]) rfl (ReadO.none HN2.out (below_set5 HW.out.below HW.out.wQ _ _ _ _ _))
    · have HN2 := Lib.hid (HN.out.trans (if_pos hq))
      clear hq
      have z0 := HW.out.d 0 _ rfl
      have z1 := HW.out.d 1 _ rfl
      have z2 := HW.out.d 2 _ rfl
      have z3 := HW.out.d 3 _ rfl
      have z4 := HW.out.d 4 _ rfl
      go_wp2
      exact bodyPost_ret (v := .tuple #[.agg #[.int .i64 2, .string v0, .string ByteArray.empty, .string ByteArray.empty, .int .i64 0], .bool true]) (by simp [results, Tryz.results24, go_sem, r0, r1, r2, r3, r4]) rfl (ReadO.some (HN2.out.trans (by rw [HV0.out])) (below_set5 HW.out.below HW.out.wQ _ _ _ _ _))
  · clear hk0 hk11
    go_wp2_with fail
    (try rw [HWE.out, HDE.out])
    (try rw [HWE.out])
    (try rw [HDE.out])
    refine (told_3 _ _ _ _ _).mono ?_
    rintro e W4 ⟨rfl, hb4⟩
    have HW4 := Lib.hid (HW3.out.step hb4)
    clear hb4 HW3 c0 c1 c2 c3 c4
    have t_bare := as_millN_bare
    have t_ofWho := as_millN_ofWho
    have t_ofMill := as_millN_ofMill
    have t_millN := as_millN_millN
    have t_whoMillN := as_millN_whoMillN
    have t_whoMillToN := as_millN_whoMillToN
    have t_whoToN := as_millN_whoToN
    have HN := Lib.hid ((congrArg (readW (x0 :: rest)) HK.out).trans (rd_3 x0 rest))
    go_wp2_with fail
    refine (name_any HW4.out.rd (show rest.length ≤ 1048576 by have := HL.out; omega) (by have := sat_tail_size (ws := rest) (tail_size HS.out) 0; unfold maxLen; omega)).mono ?_
    rintro e X0 ⟨rfl, hr, ha⟩
    have HX0 := Lib.hid (HW4.out.adv hr ha)
    clear hr ha
    go_wp2_with fail
    refine (count_any HX0.out.rd (tail_len (show rest.length ≤ 1048576 by have := HL.out; omega)) (sat_tail_size (ws := rest.tail) (tail_size (tail_size HS.out)) 0) (HG.out.below HX0.out.below) H8.out).mono ?_
    rintro e X1 ⟨rfl, hr, ha⟩
    have HX1 := Lib.hid (HX0.out.adv hr ha)
    clear hr ha
    obtain ⟨v0, hv0⟩ : ∃ v0, sat rest 0 = v0 := ⟨_, rfl⟩
    rw [hv0]
    have HV0 := Lib.hid hv0
    clear hv0
    obtain ⟨v1, hv1⟩ : ∃ v1, (readL (sat rest.tail 0).data.toList).getD 0 = v1 := ⟨_, rfl⟩
    rw [hv1]
    have HV1 := Lib.hid hv1
    clear hv1
    have df := HX1.out.df
    have d0 := HX1.out.d 0 _ rfl
    have d1 := HX1.out.d 1 _ rfl
    have d2 := HX1.out.d 2 _ rfl
    have d3 := HX1.out.d 3 _ rfl
    have d4 := HX1.out.d 4 _ rfl
    have HS0 := Lib.hid (HX1.out.put (o := 2) (y := ⟨3, ByteArray.empty, v0, ByteArray.empty, 0⟩) (v := .string v0) (by decide) rfl)
    have HS1 := Lib.hid (HS0.out.put (o := 4) (y := ⟨3, ByteArray.empty, v0, ByteArray.empty, v1⟩) (v := .int .i64 v1) (by decide) rfl)
    go_wp2_with fail
    refine (isDone_any HS1.out.rd (tail_len (tail_len (show rest.length ≤ 1048576 by have := HL.out; omega)))).mono ?_
    rintro e W6 ⟨rfl, rfl⟩
    have HW := HS1
    clear df d0 d1 d2 d3 d4
    have r0 : World.cell? _ ⟨w.heap.size, 0, none⟩ = some (.int .i64 0) := HW.out.r 0 _ rfl
    have r1 : World.cell? _ ⟨w.heap.size, 1, none⟩ = some (.string ⟨#[]⟩) := HW.out.r 1 _ rfl
    have r2 : World.cell? _ ⟨w.heap.size, 2, none⟩ = some (.string ⟨#[]⟩) := HW.out.r 2 _ rfl
    have r3 : World.cell? _ ⟨w.heap.size, 3, none⟩ = some (.string ⟨#[]⟩) := HW.out.r 3 _ rfl
    have r4 : World.cell? _ ⟨w.heap.size, 4, none⟩ = some (.int .i64 0) := HW.out.r 4 _ rfl
    have rf := HW.out.rf
    cases hq : (!((false || !nameB (sat rest 0)) || !countB (sat rest.tail 0)) && rest.tail.tail.isEmpty)
    · have HN2 := Lib.hid (HN.out.trans (if_neg (by rw [hq]; exact Bool.false_ne_true)))
      clear hq
      go_wp2
      exact bodyPost_ret (v := .tuple #[.agg #[.int .i64 0, .string ⟨#[]⟩, .string ⟨#[]⟩, .string ⟨#[]⟩, .int .i64 0], .bool false]) (by simp [results, Tryz.results24, go_sem, r0, r1, r2, r3, r4]) rfl (ReadO.none HN2.out (below_set5 HW.out.below HW.out.wQ _ _ _ _ _))
    · have HN2 := Lib.hid (HN.out.trans (if_pos hq))
      clear hq
      have z0 := HW.out.d 0 _ rfl
      have z1 := HW.out.d 1 _ rfl
      have z2 := HW.out.d 2 _ rfl
      have z3 := HW.out.d 3 _ rfl
      have z4 := HW.out.d 4 _ rfl
      go_wp2
      exact bodyPost_ret (v := .tuple #[.agg #[.int .i64 3, .string ByteArray.empty, .string v0, .string ByteArray.empty, .int .i64 v1], .bool true]) (by simp [results, Tryz.results24, go_sem, r0, r1, r2, r3, r4]) rfl (ReadO.some (HN2.out.trans (by rw [HV0.out, HV1.out])) (below_set5 HW.out.below HW.out.wQ _ _ _ _ _))
  · clear hk0 hk11
    go_wp2_with fail
    (try rw [HWE.out, HDE.out])
    (try rw [HWE.out])
    (try rw [HDE.out])
    refine (told_4 _ _ _ _ _).mono ?_
    rintro e W4 ⟨rfl, hb4⟩
    have HW4 := Lib.hid (HW3.out.step hb4)
    clear hb4 HW3 c0 c1 c2 c3 c4
    have t_bare := as_whoMillN_bare
    have t_ofWho := as_whoMillN_ofWho
    have t_ofMill := as_whoMillN_ofMill
    have t_millN := as_whoMillN_millN
    have t_whoMillN := as_whoMillN_whoMillN
    have t_whoMillToN := as_whoMillN_whoMillToN
    have t_whoToN := as_whoMillN_whoToN
    have HN := Lib.hid ((congrArg (readW (x0 :: rest)) HK.out).trans (rd_4 x0 rest))
    go_wp2_with fail
    refine (name_any HW4.out.rd (show rest.length ≤ 1048576 by have := HL.out; omega) (by have := sat_tail_size (ws := rest) (tail_size HS.out) 0; unfold maxLen; omega)).mono ?_
    rintro e X0 ⟨rfl, hr, ha⟩
    have HX0 := Lib.hid (HW4.out.adv hr ha)
    clear hr ha
    go_wp2_with fail
    refine (name_any HX0.out.rd (tail_len (show rest.length ≤ 1048576 by have := HL.out; omega)) (by have := sat_tail_size (ws := rest.tail) (tail_size (tail_size HS.out)) 0; unfold maxLen; omega)).mono ?_
    rintro e X1 ⟨rfl, hr, ha⟩
    have HX1 := Lib.hid (HX0.out.adv hr ha)
    clear hr ha
    go_wp2_with fail
    refine (count_any HX1.out.rd (tail_len (tail_len (show rest.length ≤ 1048576 by have := HL.out; omega))) (sat_tail_size (ws := rest.tail.tail) (tail_size (tail_size (tail_size HS.out))) 0) (HG.out.below HX1.out.below) H8.out).mono ?_
    rintro e X2 ⟨rfl, hr, ha⟩
    have HX2 := Lib.hid (HX1.out.adv hr ha)
    clear hr ha
    obtain ⟨v0, hv0⟩ : ∃ v0, sat rest 0 = v0 := ⟨_, rfl⟩
    rw [hv0]
    have HV0 := Lib.hid hv0
    clear hv0
    obtain ⟨v1, hv1⟩ : ∃ v1, sat rest.tail 0 = v1 := ⟨_, rfl⟩
    rw [hv1]
    have HV1 := Lib.hid hv1
    clear hv1
    obtain ⟨v2, hv2⟩ : ∃ v2, (readL (sat rest.tail.tail 0).data.toList).getD 0 = v2 := ⟨_, rfl⟩
    rw [hv2]
    have HV2 := Lib.hid hv2
    clear hv2
    have df := HX2.out.df
    have d0 := HX2.out.d 0 _ rfl
    have d1 := HX2.out.d 1 _ rfl
    have d2 := HX2.out.d 2 _ rfl
    have d3 := HX2.out.d 3 _ rfl
    have d4 := HX2.out.d 4 _ rfl
    have HS0 := Lib.hid (HX2.out.put (o := 1) (y := ⟨4, v0, ByteArray.empty, ByteArray.empty, 0⟩) (v := .string v0) (by decide) rfl)
    have HS1 := Lib.hid (HS0.out.put (o := 2) (y := ⟨4, v0, v1, ByteArray.empty, 0⟩) (v := .string v1) (by decide) rfl)
    have HS2 := Lib.hid (HS1.out.put (o := 4) (y := ⟨4, v0, v1, ByteArray.empty, v2⟩) (v := .int .i64 v2) (by decide) rfl)
    go_wp2_with fail
    refine (isDone_any HS2.out.rd (tail_len (tail_len (tail_len (show rest.length ≤ 1048576 by have := HL.out; omega))))).mono ?_
    rintro e W6 ⟨rfl, rfl⟩
    have HW := HS2
    clear df d0 d1 d2 d3 d4
    have r0 : World.cell? _ ⟨w.heap.size, 0, none⟩ = some (.int .i64 0) := HW.out.r 0 _ rfl
    have r1 : World.cell? _ ⟨w.heap.size, 1, none⟩ = some (.string ⟨#[]⟩) := HW.out.r 1 _ rfl
    have r2 : World.cell? _ ⟨w.heap.size, 2, none⟩ = some (.string ⟨#[]⟩) := HW.out.r 2 _ rfl
    have r3 : World.cell? _ ⟨w.heap.size, 3, none⟩ = some (.string ⟨#[]⟩) := HW.out.r 3 _ rfl
    have r4 : World.cell? _ ⟨w.heap.size, 4, none⟩ = some (.int .i64 0) := HW.out.r 4 _ rfl
    have rf := HW.out.rf
    cases hq : (!(((false || !nameB (sat rest 0)) || !nameB (sat rest.tail 0)) || !countB (sat rest.tail.tail 0)) && rest.tail.tail.tail.isEmpty)
    · have HN2 := Lib.hid (HN.out.trans (if_neg (by rw [hq]; exact Bool.false_ne_true)))
      clear hq
      go_wp2
      exact bodyPost_ret (v := .tuple #[.agg #[.int .i64 0, .string ⟨#[]⟩, .string ⟨#[]⟩, .string ⟨#[]⟩, .int .i64 0], .bool false]) (by simp [results, Tryz.results24, go_sem, r0, r1, r2, r3, r4]) rfl (ReadO.none HN2.out (below_set5 HW.out.below HW.out.wQ _ _ _ _ _))
    · have HN2 := Lib.hid (HN.out.trans (if_pos hq))
      clear hq
      have z0 := HW.out.d 0 _ rfl
      have z1 := HW.out.d 1 _ rfl
      have z2 := HW.out.d 2 _ rfl
      have z3 := HW.out.d 3 _ rfl
      have z4 := HW.out.d 4 _ rfl
      go_wp2
      exact bodyPost_ret (v := .tuple #[.agg #[.int .i64 4, .string v0, .string v1, .string ByteArray.empty, .int .i64 v2], .bool true]) (by simp [results, Tryz.results24, go_sem, r0, r1, r2, r3, r4]) rfl (ReadO.some (HN2.out.trans (by rw [HV0.out, HV1.out, HV2.out])) (below_set5 HW.out.below HW.out.wQ _ _ _ _ _))
  · clear hk0 hk11
    go_wp2_with fail
    (try rw [HWE.out, HDE.out])
    (try rw [HWE.out])
    (try rw [HDE.out])
    refine (told_5 _ _ _ _ _).mono ?_
    rintro e W4 ⟨rfl, hb4⟩
    have HW4 := Lib.hid (HW3.out.step hb4)
    clear hb4 HW3 c0 c1 c2 c3 c4
    have t_bare := as_whoMillN_bare
    have t_ofWho := as_whoMillN_ofWho
    have t_ofMill := as_whoMillN_ofMill
    have t_millN := as_whoMillN_millN
    have t_whoMillN := as_whoMillN_whoMillN
    have t_whoMillToN := as_whoMillN_whoMillToN
    have t_whoToN := as_whoMillN_whoToN
    have HN := Lib.hid ((congrArg (readW (x0 :: rest)) HK.out).trans (rd_5 x0 rest))
    go_wp2_with fail
    refine (name_any HW4.out.rd (show rest.length ≤ 1048576 by have := HL.out; omega) (by have := sat_tail_size (ws := rest) (tail_size HS.out) 0; unfold maxLen; omega)).mono ?_
    rintro e X0 ⟨rfl, hr, ha⟩
    have HX0 := Lib.hid (HW4.out.adv hr ha)
    clear hr ha
    go_wp2_with fail
    refine (name_any HX0.out.rd (tail_len (show rest.length ≤ 1048576 by have := HL.out; omega)) (by have := sat_tail_size (ws := rest.tail) (tail_size (tail_size HS.out)) 0; unfold maxLen; omega)).mono ?_
    rintro e X1 ⟨rfl, hr, ha⟩
    have HX1 := Lib.hid (HX0.out.adv hr ha)
    clear hr ha
    go_wp2_with fail
    refine (count_any HX1.out.rd (tail_len (tail_len (show rest.length ≤ 1048576 by have := HL.out; omega))) (sat_tail_size (ws := rest.tail.tail) (tail_size (tail_size (tail_size HS.out))) 0) (HG.out.below HX1.out.below) H8.out).mono ?_
    rintro e X2 ⟨rfl, hr, ha⟩
    have HX2 := Lib.hid (HX1.out.adv hr ha)
    clear hr ha
    obtain ⟨v0, hv0⟩ : ∃ v0, sat rest 0 = v0 := ⟨_, rfl⟩
    rw [hv0]
    have HV0 := Lib.hid hv0
    clear hv0
    obtain ⟨v1, hv1⟩ : ∃ v1, sat rest.tail 0 = v1 := ⟨_, rfl⟩
    rw [hv1]
    have HV1 := Lib.hid hv1
    clear hv1
    obtain ⟨v2, hv2⟩ : ∃ v2, (readL (sat rest.tail.tail 0).data.toList).getD 0 = v2 := ⟨_, rfl⟩
    rw [hv2]
    have HV2 := Lib.hid hv2
    clear hv2
    have df := HX2.out.df
    have d0 := HX2.out.d 0 _ rfl
    have d1 := HX2.out.d 1 _ rfl
    have d2 := HX2.out.d 2 _ rfl
    have d3 := HX2.out.d 3 _ rfl
    have d4 := HX2.out.d 4 _ rfl
    have HS0 := Lib.hid (HX2.out.put (o := 1) (y := ⟨5, v0, ByteArray.empty, ByteArray.empty, 0⟩) (v := .string v0) (by decide) rfl)
    have HS1 := Lib.hid (HS0.out.put (o := 2) (y := ⟨5, v0, v1, ByteArray.empty, 0⟩) (v := .string v1) (by decide) rfl)
    have HS2 := Lib.hid (HS1.out.put (o := 4) (y := ⟨5, v0, v1, ByteArray.empty, v2⟩) (v := .int .i64 v2) (by decide) rfl)
    go_wp2_with fail
    refine (isDone_any HS2.out.rd (tail_len (tail_len (tail_len (show rest.length ≤ 1048576 by have := HL.out; omega))))).mono ?_
    rintro e W6 ⟨rfl, rfl⟩
    have HW := HS2
    clear df d0 d1 d2 d3 d4
    have r0 : World.cell? _ ⟨w.heap.size, 0, none⟩ = some (.int .i64 0) := HW.out.r 0 _ rfl
    have r1 : World.cell? _ ⟨w.heap.size, 1, none⟩ = some (.string ⟨#[]⟩) := HW.out.r 1 _ rfl
    have r2 : World.cell? _ ⟨w.heap.size, 2, none⟩ = some (.string ⟨#[]⟩) := HW.out.r 2 _ rfl
    have r3 : World.cell? _ ⟨w.heap.size, 3, none⟩ = some (.string ⟨#[]⟩) := HW.out.r 3 _ rfl
    have r4 : World.cell? _ ⟨w.heap.size, 4, none⟩ = some (.int .i64 0) := HW.out.r 4 _ rfl
    have rf := HW.out.rf
    cases hq : (!(((false || !nameB (sat rest 0)) || !nameB (sat rest.tail 0)) || !countB (sat rest.tail.tail 0)) && rest.tail.tail.tail.isEmpty)
    · have HN2 := Lib.hid (HN.out.trans (if_neg (by rw [hq]; exact Bool.false_ne_true)))
      clear hq
      go_wp2
      exact bodyPost_ret (v := .tuple #[.agg #[.int .i64 0, .string ⟨#[]⟩, .string ⟨#[]⟩, .string ⟨#[]⟩, .int .i64 0], .bool false]) (by simp [results, Tryz.results24, go_sem, r0, r1, r2, r3, r4]) rfl (ReadO.none HN2.out (below_set5 HW.out.below HW.out.wQ _ _ _ _ _))
    · have HN2 := Lib.hid (HN.out.trans (if_pos hq))
      clear hq
      have z0 := HW.out.d 0 _ rfl
      have z1 := HW.out.d 1 _ rfl
      have z2 := HW.out.d 2 _ rfl
      have z3 := HW.out.d 3 _ rfl
      have z4 := HW.out.d 4 _ rfl
      go_wp2
      exact bodyPost_ret (v := .tuple #[.agg #[.int .i64 5, .string v0, .string v1, .string ByteArray.empty, .int .i64 v2], .bool true]) (by simp [results, Tryz.results24, go_sem, r0, r1, r2, r3, r4]) rfl (ReadO.some (HN2.out.trans (by rw [HV0.out, HV1.out, HV2.out])) (below_set5 HW.out.below HW.out.wQ _ _ _ _ _))
  · clear hk0 hk11
    go_wp2_with fail
    (try rw [HWE.out, HDE.out])
    (try rw [HWE.out])
    (try rw [HDE.out])
    refine (told_6 _ _ _ _ _).mono ?_
    rintro e W4 ⟨rfl, hb4⟩
    have HW4 := Lib.hid (HW3.out.step hb4)
    clear hb4 HW3 c0 c1 c2 c3 c4
    have t_bare := as_whoMillToN_bare
    have t_ofWho := as_whoMillToN_ofWho
    have t_ofMill := as_whoMillToN_ofMill
    have t_millN := as_whoMillToN_millN
    have t_whoMillN := as_whoMillToN_whoMillN
    have t_whoMillToN := as_whoMillToN_whoMillToN
    have t_whoToN := as_whoMillToN_whoToN
    have HN := Lib.hid ((congrArg (readW (x0 :: rest)) HK.out).trans (rd_6 x0 rest))
    go_wp2_with fail
    refine (name_any HW4.out.rd (show rest.length ≤ 1048576 by have := HL.out; omega) (by have := sat_tail_size (ws := rest) (tail_size HS.out) 0; unfold maxLen; omega)).mono ?_
    rintro e X0 ⟨rfl, hr, ha⟩
    have HX0 := Lib.hid (HW4.out.adv hr ha)
    clear hr ha
    go_wp2_with fail
    refine (name_any HX0.out.rd (tail_len (show rest.length ≤ 1048576 by have := HL.out; omega)) (by have := sat_tail_size (ws := rest.tail) (tail_size (tail_size HS.out)) 0; unfold maxLen; omega)).mono ?_
    rintro e X1 ⟨rfl, hr, ha⟩
    have HX1 := Lib.hid (HX0.out.adv hr ha)
    clear hr ha
    go_wp2_with fail
    refine (name_any HX1.out.rd (tail_len (tail_len (show rest.length ≤ 1048576 by have := HL.out; omega))) (by have := sat_tail_size (ws := rest.tail.tail) (tail_size (tail_size (tail_size HS.out))) 0; unfold maxLen; omega)).mono ?_
    rintro e X2 ⟨rfl, hr, ha⟩
    have HX2 := Lib.hid (HX1.out.adv hr ha)
    clear hr ha
    go_wp2_with fail
    refine (count_any HX2.out.rd (tail_len (tail_len (tail_len (show rest.length ≤ 1048576 by have := HL.out; omega)))) (sat_tail_size (ws := rest.tail.tail.tail) (tail_size (tail_size (tail_size (tail_size HS.out)))) 0) (HG.out.below HX2.out.below) H8.out).mono ?_
    rintro e X3 ⟨rfl, hr, ha⟩
    have HX3 := Lib.hid (HX2.out.adv hr ha)
    clear hr ha
    obtain ⟨v0, hv0⟩ : ∃ v0, sat rest 0 = v0 := ⟨_, rfl⟩
    rw [hv0]
    have HV0 := Lib.hid hv0
    clear hv0
    obtain ⟨v1, hv1⟩ : ∃ v1, sat rest.tail 0 = v1 := ⟨_, rfl⟩
    rw [hv1]
    have HV1 := Lib.hid hv1
    clear hv1
    obtain ⟨v2, hv2⟩ : ∃ v2, sat rest.tail.tail 0 = v2 := ⟨_, rfl⟩
    rw [hv2]
    have HV2 := Lib.hid hv2
    clear hv2
    obtain ⟨v3, hv3⟩ : ∃ v3, (readL (sat rest.tail.tail.tail 0).data.toList).getD 0 = v3 := ⟨_, rfl⟩
    rw [hv3]
    have HV3 := Lib.hid hv3
    clear hv3
    have df := HX3.out.df
    have d0 := HX3.out.d 0 _ rfl
    have d1 := HX3.out.d 1 _ rfl
    have d2 := HX3.out.d 2 _ rfl
    have d3 := HX3.out.d 3 _ rfl
    have d4 := HX3.out.d 4 _ rfl
    have HS0 := Lib.hid (HX3.out.put (o := 1) (y := ⟨6, v0, ByteArray.empty, ByteArray.empty, 0⟩) (v := .string v0) (by decide) rfl)
    have HS1 := Lib.hid (HS0.out.put (o := 2) (y := ⟨6, v0, v1, ByteArray.empty, 0⟩) (v := .string v1) (by decide) rfl)
    have HS2 := Lib.hid (HS1.out.put (o := 3) (y := ⟨6, v0, v1, v2, 0⟩) (v := .string v2) (by decide) rfl)
    have HS3 := Lib.hid (HS2.out.put (o := 4) (y := ⟨6, v0, v1, v2, v3⟩) (v := .int .i64 v3) (by decide) rfl)
    go_wp2_with fail
    refine (isDone_any HS3.out.rd (tail_len (tail_len (tail_len (tail_len (show rest.length ≤ 1048576 by have := HL.out; omega)))))).mono ?_
    rintro e W6 ⟨rfl, rfl⟩
    have HW := HS3
    clear df d0 d1 d2 d3 d4
    have r0 : World.cell? _ ⟨w.heap.size, 0, none⟩ = some (.int .i64 0) := HW.out.r 0 _ rfl
    have r1 : World.cell? _ ⟨w.heap.size, 1, none⟩ = some (.string ⟨#[]⟩) := HW.out.r 1 _ rfl
    have r2 : World.cell? _ ⟨w.heap.size, 2, none⟩ = some (.string ⟨#[]⟩) := HW.out.r 2 _ rfl
    have r3 : World.cell? _ ⟨w.heap.size, 3, none⟩ = some (.string ⟨#[]⟩) := HW.out.r 3 _ rfl
    have r4 : World.cell? _ ⟨w.heap.size, 4, none⟩ = some (.int .i64 0) := HW.out.r 4 _ rfl
    have rf := HW.out.rf
    cases hq : (!((((false || !nameB (sat rest 0)) || !nameB (sat rest.tail 0)) || !nameB (sat rest.tail.tail 0)) || !countB (sat rest.tail.tail.tail 0)) && rest.tail.tail.tail.tail.isEmpty)
    · have HN2 := Lib.hid (HN.out.trans (if_neg (by rw [hq]; exact Bool.false_ne_true)))
      clear hq
      go_wp2
      exact bodyPost_ret (v := .tuple #[.agg #[.int .i64 0, .string ⟨#[]⟩, .string ⟨#[]⟩, .string ⟨#[]⟩, .int .i64 0], .bool false]) (by simp [results, Tryz.results24, go_sem, r0, r1, r2, r3, r4]) rfl (ReadO.none HN2.out (below_set5 HW.out.below HW.out.wQ _ _ _ _ _))
    · have HN2 := Lib.hid (HN.out.trans (if_pos hq))
      clear hq
      have z0 := HW.out.d 0 _ rfl
      have z1 := HW.out.d 1 _ rfl
      have z2 := HW.out.d 2 _ rfl
      have z3 := HW.out.d 3 _ rfl
      have z4 := HW.out.d 4 _ rfl
      go_wp2
      exact bodyPost_ret (v := .tuple #[.agg #[.int .i64 6, .string v0, .string v1, .string v2, .int .i64 v3], .bool true]) (by simp [results, Tryz.results24, go_sem, r0, r1, r2, r3, r4]) rfl (ReadO.some (HN2.out.trans (by rw [HV0.out, HV1.out, HV2.out, HV3.out])) (below_set5 HW.out.below HW.out.wQ _ _ _ _ _))
  · clear hk0 hk11
    go_wp2_with fail
    (try rw [HWE.out, HDE.out])
    (try rw [HWE.out])
    (try rw [HDE.out])
    refine (told_7 _ _ _ _ _).mono ?_
    rintro e W4 ⟨rfl, hb4⟩
    have HW4 := Lib.hid (HW3.out.step hb4)
    clear hb4 HW3 c0 c1 c2 c3 c4
    have t_bare := as_millN_bare
    have t_ofWho := as_millN_ofWho
    have t_ofMill := as_millN_ofMill
    have t_millN := as_millN_millN
    have t_whoMillN := as_millN_whoMillN
    have t_whoMillToN := as_millN_whoMillToN
    have t_whoToN := as_millN_whoToN
    have HN := Lib.hid ((congrArg (readW (x0 :: rest)) HK.out).trans (rd_7 x0 rest))
    go_wp2_with fail
    refine (name_any HW4.out.rd (show rest.length ≤ 1048576 by have := HL.out; omega) (by have := sat_tail_size (ws := rest) (tail_size HS.out) 0; unfold maxLen; omega)).mono ?_
    rintro e X0 ⟨rfl, hr, ha⟩
    have HX0 := Lib.hid (HW4.out.adv hr ha)
    clear hr ha
    go_wp2_with fail
    refine (count_any HX0.out.rd (tail_len (show rest.length ≤ 1048576 by have := HL.out; omega)) (sat_tail_size (ws := rest.tail) (tail_size (tail_size HS.out)) 0) (HG.out.below HX0.out.below) H8.out).mono ?_
    rintro e X1 ⟨rfl, hr, ha⟩
    have HX1 := Lib.hid (HX0.out.adv hr ha)
    clear hr ha
    obtain ⟨v0, hv0⟩ : ∃ v0, sat rest 0 = v0 := ⟨_, rfl⟩
    rw [hv0]
    have HV0 := Lib.hid hv0
    clear hv0
    obtain ⟨v1, hv1⟩ : ∃ v1, (readL (sat rest.tail 0).data.toList).getD 0 = v1 := ⟨_, rfl⟩
    rw [hv1]
    have HV1 := Lib.hid hv1
    clear hv1
    have df := HX1.out.df
    have d0 := HX1.out.d 0 _ rfl
    have d1 := HX1.out.d 1 _ rfl
    have d2 := HX1.out.d 2 _ rfl
    have d3 := HX1.out.d 3 _ rfl
    have d4 := HX1.out.d 4 _ rfl
    have HS0 := Lib.hid (HX1.out.put (o := 2) (y := ⟨7, ByteArray.empty, v0, ByteArray.empty, 0⟩) (v := .string v0) (by decide) rfl)
    have HS1 := Lib.hid (HS0.out.put (o := 4) (y := ⟨7, ByteArray.empty, v0, ByteArray.empty, v1⟩) (v := .int .i64 v1) (by decide) rfl)
    go_wp2_with fail
    refine (isDone_any HS1.out.rd (tail_len (tail_len (show rest.length ≤ 1048576 by have := HL.out; omega)))).mono ?_
    rintro e W6 ⟨rfl, rfl⟩
    have HW := HS1
    clear df d0 d1 d2 d3 d4
    have r0 : World.cell? _ ⟨w.heap.size, 0, none⟩ = some (.int .i64 0) := HW.out.r 0 _ rfl
    have r1 : World.cell? _ ⟨w.heap.size, 1, none⟩ = some (.string ⟨#[]⟩) := HW.out.r 1 _ rfl
    have r2 : World.cell? _ ⟨w.heap.size, 2, none⟩ = some (.string ⟨#[]⟩) := HW.out.r 2 _ rfl
    have r3 : World.cell? _ ⟨w.heap.size, 3, none⟩ = some (.string ⟨#[]⟩) := HW.out.r 3 _ rfl
    have r4 : World.cell? _ ⟨w.heap.size, 4, none⟩ = some (.int .i64 0) := HW.out.r 4 _ rfl
    have rf := HW.out.rf
    cases hq : (!((false || !nameB (sat rest 0)) || !countB (sat rest.tail 0)) && rest.tail.tail.isEmpty)
    · have HN2 := Lib.hid (HN.out.trans (if_neg (by rw [hq]; exact Bool.false_ne_true)))
      clear hq
      go_wp2
      exact bodyPost_ret (v := .tuple #[.agg #[.int .i64 0, .string ⟨#[]⟩, .string ⟨#[]⟩, .string ⟨#[]⟩, .int .i64 0], .bool false]) (by simp [results, Tryz.results24, go_sem, r0, r1, r2, r3, r4]) rfl (ReadO.none HN2.out (below_set5 HW.out.below HW.out.wQ _ _ _ _ _))
    · have HN2 := Lib.hid (HN.out.trans (if_pos hq))
      clear hq
      have z0 := HW.out.d 0 _ rfl
      have z1 := HW.out.d 1 _ rfl
      have z2 := HW.out.d 2 _ rfl
      have z3 := HW.out.d 3 _ rfl
      have z4 := HW.out.d 4 _ rfl
      go_wp2
      exact bodyPost_ret (v := .tuple #[.agg #[.int .i64 7, .string ByteArray.empty, .string v0, .string ByteArray.empty, .int .i64 v1], .bool true]) (by simp [results, Tryz.results24, go_sem, r0, r1, r2, r3, r4]) rfl (ReadO.some (HN2.out.trans (by rw [HV0.out, HV1.out])) (below_set5 HW.out.below HW.out.wQ _ _ _ _ _))
  · clear hk0 hk11
    go_wp2_with fail
    (try rw [HWE.out, HDE.out])
    (try rw [HWE.out])
    (try rw [HDE.out])
    refine (told_8 _ _ _ _ _).mono ?_
    rintro e W4 ⟨rfl, hb4⟩
    have HW4 := Lib.hid (HW3.out.step hb4)
    clear hb4 HW3 c0 c1 c2 c3 c4
    have t_bare := as_ofMill_bare
    have t_ofWho := as_ofMill_ofWho
    have t_ofMill := as_ofMill_ofMill
    have t_millN := as_ofMill_millN
    have t_whoMillN := as_ofMill_whoMillN
    have t_whoMillToN := as_ofMill_whoMillToN
    have t_whoToN := as_ofMill_whoToN
    have HN := Lib.hid ((congrArg (readW (x0 :: rest)) HK.out).trans (rd_8 x0 rest))
    go_wp2_with fail
    refine (name_any HW4.out.rd (show rest.length ≤ 1048576 by have := HL.out; omega) (by have := sat_tail_size (ws := rest) (tail_size HS.out) 0; unfold maxLen; omega)).mono ?_
    rintro e X0 ⟨rfl, hr, ha⟩
    have HX0 := Lib.hid (HW4.out.adv hr ha)
    clear hr ha
    obtain ⟨v0, hv0⟩ : ∃ v0, sat rest 0 = v0 := ⟨_, rfl⟩
    rw [hv0]
    have HV0 := Lib.hid hv0
    clear hv0
    have df := HX0.out.df
    have d0 := HX0.out.d 0 _ rfl
    have d1 := HX0.out.d 1 _ rfl
    have d2 := HX0.out.d 2 _ rfl
    have d3 := HX0.out.d 3 _ rfl
    have d4 := HX0.out.d 4 _ rfl
    have HS0 := Lib.hid (HX0.out.put (o := 2) (y := ⟨8, ByteArray.empty, v0, ByteArray.empty, 0⟩) (v := .string v0) (by decide) rfl)
    go_wp2_with fail
    refine (isDone_any HS0.out.rd (tail_len (show rest.length ≤ 1048576 by have := HL.out; omega))).mono ?_
    rintro e W6 ⟨rfl, rfl⟩
    have HW := HS0
    clear df d0 d1 d2 d3 d4
    have r0 : World.cell? _ ⟨w.heap.size, 0, none⟩ = some (.int .i64 0) := HW.out.r 0 _ rfl
    have r1 : World.cell? _ ⟨w.heap.size, 1, none⟩ = some (.string ⟨#[]⟩) := HW.out.r 1 _ rfl
    have r2 : World.cell? _ ⟨w.heap.size, 2, none⟩ = some (.string ⟨#[]⟩) := HW.out.r 2 _ rfl
    have r3 : World.cell? _ ⟨w.heap.size, 3, none⟩ = some (.string ⟨#[]⟩) := HW.out.r 3 _ rfl
    have r4 : World.cell? _ ⟨w.heap.size, 4, none⟩ = some (.int .i64 0) := HW.out.r 4 _ rfl
    have rf := HW.out.rf
    cases hq : (!(false || !nameB (sat rest 0)) && rest.tail.isEmpty)
    · have HN2 := Lib.hid (HN.out.trans (if_neg (by rw [hq]; exact Bool.false_ne_true)))
      clear hq
      go_wp2
      exact bodyPost_ret (v := .tuple #[.agg #[.int .i64 0, .string ⟨#[]⟩, .string ⟨#[]⟩, .string ⟨#[]⟩, .int .i64 0], .bool false]) (by simp [results, Tryz.results24, go_sem, r0, r1, r2, r3, r4]) rfl (ReadO.none HN2.out (below_set5 HW.out.below HW.out.wQ _ _ _ _ _))
    · have HN2 := Lib.hid (HN.out.trans (if_pos hq))
      clear hq
      have z0 := HW.out.d 0 _ rfl
      have z1 := HW.out.d 1 _ rfl
      have z2 := HW.out.d 2 _ rfl
      have z3 := HW.out.d 3 _ rfl
      have z4 := HW.out.d 4 _ rfl
      go_wp2
      exact bodyPost_ret (v := .tuple #[.agg #[.int .i64 8, .string ByteArray.empty, .string v0, .string ByteArray.empty, .int .i64 0], .bool true]) (by simp [results, Tryz.results24, go_sem, r0, r1, r2, r3, r4]) rfl (ReadO.some (HN2.out.trans (by rw [HV0.out])) (below_set5 HW.out.below HW.out.wQ _ _ _ _ _))
  · clear hk0 hk11
    go_wp2_with fail
    (try rw [HWE.out, HDE.out])
    (try rw [HWE.out])
    (try rw [HDE.out])
    refine (told_9 _ _ _ _ _).mono ?_
    rintro e W4 ⟨rfl, hb4⟩
    have HW4 := Lib.hid (HW3.out.step hb4)
    clear hb4 HW3 c0 c1 c2 c3 c4
    have t_bare := as_millN_bare
    have t_ofWho := as_millN_ofWho
    have t_ofMill := as_millN_ofMill
    have t_millN := as_millN_millN
    have t_whoMillN := as_millN_whoMillN
    have t_whoMillToN := as_millN_whoMillToN
    have t_whoToN := as_millN_whoToN
    have HN := Lib.hid ((congrArg (readW (x0 :: rest)) HK.out).trans (rd_9 x0 rest))
    go_wp2_with fail
    refine (name_any HW4.out.rd (show rest.length ≤ 1048576 by have := HL.out; omega) (by have := sat_tail_size (ws := rest) (tail_size HS.out) 0; unfold maxLen; omega)).mono ?_
    rintro e X0 ⟨rfl, hr, ha⟩
    have HX0 := Lib.hid (HW4.out.adv hr ha)
    clear hr ha
    go_wp2_with fail
    refine (count_any HX0.out.rd (tail_len (show rest.length ≤ 1048576 by have := HL.out; omega)) (sat_tail_size (ws := rest.tail) (tail_size (tail_size HS.out)) 0) (HG.out.below HX0.out.below) H8.out).mono ?_
    rintro e X1 ⟨rfl, hr, ha⟩
    have HX1 := Lib.hid (HX0.out.adv hr ha)
    clear hr ha
    obtain ⟨v0, hv0⟩ : ∃ v0, sat rest 0 = v0 := ⟨_, rfl⟩
    rw [hv0]
    have HV0 := Lib.hid hv0
    clear hv0
    obtain ⟨v1, hv1⟩ : ∃ v1, (readL (sat rest.tail 0).data.toList).getD 0 = v1 := ⟨_, rfl⟩
    rw [hv1]
    have HV1 := Lib.hid hv1
    clear hv1
    have df := HX1.out.df
    have d0 := HX1.out.d 0 _ rfl
    have d1 := HX1.out.d 1 _ rfl
    have d2 := HX1.out.d 2 _ rfl
    have d3 := HX1.out.d 3 _ rfl
    have d4 := HX1.out.d 4 _ rfl
    have HS0 := Lib.hid (HX1.out.put (o := 2) (y := ⟨9, ByteArray.empty, v0, ByteArray.empty, 0⟩) (v := .string v0) (by decide) rfl)
    have HS1 := Lib.hid (HS0.out.put (o := 4) (y := ⟨9, ByteArray.empty, v0, ByteArray.empty, v1⟩) (v := .int .i64 v1) (by decide) rfl)
    go_wp2_with fail
    refine (isDone_any HS1.out.rd (tail_len (tail_len (show rest.length ≤ 1048576 by have := HL.out; omega)))).mono ?_
    rintro e W6 ⟨rfl, rfl⟩
    have HW := HS1
    clear df d0 d1 d2 d3 d4
    have r0 : World.cell? _ ⟨w.heap.size, 0, none⟩ = some (.int .i64 0) := HW.out.r 0 _ rfl
    have r1 : World.cell? _ ⟨w.heap.size, 1, none⟩ = some (.string ⟨#[]⟩) := HW.out.r 1 _ rfl
    have r2 : World.cell? _ ⟨w.heap.size, 2, none⟩ = some (.string ⟨#[]⟩) := HW.out.r 2 _ rfl
    have r3 : World.cell? _ ⟨w.heap.size, 3, none⟩ = some (.string ⟨#[]⟩) := HW.out.r 3 _ rfl
    have r4 : World.cell? _ ⟨w.heap.size, 4, none⟩ = some (.int .i64 0) := HW.out.r 4 _ rfl
    have rf := HW.out.rf
    cases hq : (!((false || !nameB (sat rest 0)) || !countB (sat rest.tail 0)) && rest.tail.tail.isEmpty)
    · have HN2 := Lib.hid (HN.out.trans (if_neg (by rw [hq]; exact Bool.false_ne_true)))
      clear hq
      go_wp2
      exact bodyPost_ret (v := .tuple #[.agg #[.int .i64 0, .string ⟨#[]⟩, .string ⟨#[]⟩, .string ⟨#[]⟩, .int .i64 0], .bool false]) (by simp [results, Tryz.results24, go_sem, r0, r1, r2, r3, r4]) rfl (ReadO.none HN2.out (below_set5 HW.out.below HW.out.wQ _ _ _ _ _))
    · have HN2 := Lib.hid (HN.out.trans (if_pos hq))
      clear hq
      have z0 := HW.out.d 0 _ rfl
      have z1 := HW.out.d 1 _ rfl
      have z2 := HW.out.d 2 _ rfl
      have z3 := HW.out.d 3 _ rfl
      have z4 := HW.out.d 4 _ rfl
      go_wp2
      exact bodyPost_ret (v := .tuple #[.agg #[.int .i64 9, .string ByteArray.empty, .string v0, .string ByteArray.empty, .int .i64 v1], .bool true]) (by simp [results, Tryz.results24, go_sem, r0, r1, r2, r3, r4]) rfl (ReadO.some (HN2.out.trans (by rw [HV0.out, HV1.out])) (below_set5 HW.out.below HW.out.wQ _ _ _ _ _))
  · clear hk0 hk11
    go_wp2_with fail
    (try rw [HWE.out, HDE.out])
    (try rw [HWE.out])
    (try rw [HDE.out])
    refine (told_10 _ _ _ _ _).mono ?_
    rintro e W4 ⟨rfl, hb4⟩
    have HW4 := Lib.hid (HW3.out.step hb4)
    clear hb4 HW3 c0 c1 c2 c3 c4
    have t_bare := as_whoToN_bare
    have t_ofWho := as_whoToN_ofWho
    have t_ofMill := as_whoToN_ofMill
    have t_millN := as_whoToN_millN
    have t_whoMillN := as_whoToN_whoMillN
    have t_whoMillToN := as_whoToN_whoMillToN
    have t_whoToN := as_whoToN_whoToN
    have HN := Lib.hid ((congrArg (readW (x0 :: rest)) HK.out).trans (rd_10 x0 rest))
    go_wp2_with fail
    refine (name_any HW4.out.rd (show rest.length ≤ 1048576 by have := HL.out; omega) (by have := sat_tail_size (ws := rest) (tail_size HS.out) 0; unfold maxLen; omega)).mono ?_
    rintro e X0 ⟨rfl, hr, ha⟩
    have HX0 := Lib.hid (HW4.out.adv hr ha)
    clear hr ha
    go_wp2_with fail
    refine (name_any HX0.out.rd (tail_len (show rest.length ≤ 1048576 by have := HL.out; omega)) (by have := sat_tail_size (ws := rest.tail) (tail_size (tail_size HS.out)) 0; unfold maxLen; omega)).mono ?_
    rintro e X1 ⟨rfl, hr, ha⟩
    have HX1 := Lib.hid (HX0.out.adv hr ha)
    clear hr ha
    go_wp2_with fail
    refine (count_any HX1.out.rd (tail_len (tail_len (show rest.length ≤ 1048576 by have := HL.out; omega))) (sat_tail_size (ws := rest.tail.tail) (tail_size (tail_size (tail_size HS.out))) 0) (HG.out.below HX1.out.below) H8.out).mono ?_
    rintro e X2 ⟨rfl, hr, ha⟩
    have HX2 := Lib.hid (HX1.out.adv hr ha)
    clear hr ha
    obtain ⟨v0, hv0⟩ : ∃ v0, sat rest 0 = v0 := ⟨_, rfl⟩
    rw [hv0]
    have HV0 := Lib.hid hv0
    clear hv0
    obtain ⟨v1, hv1⟩ : ∃ v1, sat rest.tail 0 = v1 := ⟨_, rfl⟩
    rw [hv1]
    have HV1 := Lib.hid hv1
    clear hv1
    obtain ⟨v2, hv2⟩ : ∃ v2, (readL (sat rest.tail.tail 0).data.toList).getD 0 = v2 := ⟨_, rfl⟩
    rw [hv2]
    have HV2 := Lib.hid hv2
    clear hv2
    have df := HX2.out.df
    have d0 := HX2.out.d 0 _ rfl
    have d1 := HX2.out.d 1 _ rfl
    have d2 := HX2.out.d 2 _ rfl
    have d3 := HX2.out.d 3 _ rfl
    have d4 := HX2.out.d 4 _ rfl
    have HS0 := Lib.hid (HX2.out.put (o := 1) (y := ⟨10, v0, ByteArray.empty, ByteArray.empty, 0⟩) (v := .string v0) (by decide) rfl)
    have HS1 := Lib.hid (HS0.out.put (o := 3) (y := ⟨10, v0, ByteArray.empty, v1, 0⟩) (v := .string v1) (by decide) rfl)
    have HS2 := Lib.hid (HS1.out.put (o := 4) (y := ⟨10, v0, ByteArray.empty, v1, v2⟩) (v := .int .i64 v2) (by decide) rfl)
    go_wp2_with fail
    refine (isDone_any HS2.out.rd (tail_len (tail_len (tail_len (show rest.length ≤ 1048576 by have := HL.out; omega))))).mono ?_
    rintro e W6 ⟨rfl, rfl⟩
    have HW := HS2
    clear df d0 d1 d2 d3 d4
    have r0 : World.cell? _ ⟨w.heap.size, 0, none⟩ = some (.int .i64 0) := HW.out.r 0 _ rfl
    have r1 : World.cell? _ ⟨w.heap.size, 1, none⟩ = some (.string ⟨#[]⟩) := HW.out.r 1 _ rfl
    have r2 : World.cell? _ ⟨w.heap.size, 2, none⟩ = some (.string ⟨#[]⟩) := HW.out.r 2 _ rfl
    have r3 : World.cell? _ ⟨w.heap.size, 3, none⟩ = some (.string ⟨#[]⟩) := HW.out.r 3 _ rfl
    have r4 : World.cell? _ ⟨w.heap.size, 4, none⟩ = some (.int .i64 0) := HW.out.r 4 _ rfl
    have rf := HW.out.rf
    cases hq : (!(((false || !nameB (sat rest 0)) || !nameB (sat rest.tail 0)) || !countB (sat rest.tail.tail 0)) && rest.tail.tail.tail.isEmpty)
    · have HN2 := Lib.hid (HN.out.trans (if_neg (by rw [hq]; exact Bool.false_ne_true)))
      clear hq
      go_wp2
      exact bodyPost_ret (v := .tuple #[.agg #[.int .i64 0, .string ⟨#[]⟩, .string ⟨#[]⟩, .string ⟨#[]⟩, .int .i64 0], .bool false]) (by simp [results, Tryz.results24, go_sem, r0, r1, r2, r3, r4]) rfl (ReadO.none HN2.out (below_set5 HW.out.below HW.out.wQ _ _ _ _ _))
    · have HN2 := Lib.hid (HN.out.trans (if_pos hq))
      clear hq
      have z0 := HW.out.d 0 _ rfl
      have z1 := HW.out.d 1 _ rfl
      have z2 := HW.out.d 2 _ rfl
      have z3 := HW.out.d 3 _ rfl
      have z4 := HW.out.d 4 _ rfl
      go_wp2
      exact bodyPost_ret (v := .tuple #[.agg #[.int .i64 10, .string v0, .string ByteArray.empty, .string v1, .int .i64 v2], .bool true]) (by simp [results, Tryz.results24, go_sem, r0, r1, r2, r3, r4]) rfl (ReadO.some (HN2.out.trans (by rw [HV0.out, HV1.out, HV2.out])) (below_set5 HW.out.below HW.out.wQ _ _ _ _ _))
  · clear hk0 hk11
    go_wp2_with fail
    (try rw [HWE.out, HDE.out])
    (try rw [HWE.out])
    (try rw [HDE.out])
    refine (told_11 _ _ _ _ _).mono ?_
    rintro e W4 ⟨rfl, hb4⟩
    have HW4 := Lib.hid (HW3.out.step hb4)
    clear hb4 HW3 c0 c1 c2 c3 c4
    have t_bare := as_bare_bare
    have t_ofWho := as_bare_ofWho
    have t_ofMill := as_bare_ofMill
    have t_millN := as_bare_millN
    have t_whoMillN := as_bare_whoMillN
    have t_whoMillToN := as_bare_whoMillToN
    have t_whoToN := as_bare_whoToN
    have HN := Lib.hid ((congrArg (readW (x0 :: rest)) HK.out).trans (rd_11 x0 rest))
    go_wp2_with fail
    refine (isDone_any HW4.out.rd (show rest.length ≤ 1048576 by have := HL.out; omega)).mono ?_
    rintro e W6 ⟨rfl, rfl⟩
    have HW := HW4
    have r0 : World.cell? _ ⟨w.heap.size, 0, none⟩ = some (.int .i64 0) := HW.out.r 0 _ rfl
    have r1 : World.cell? _ ⟨w.heap.size, 1, none⟩ = some (.string ⟨#[]⟩) := HW.out.r 1 _ rfl
    have r2 : World.cell? _ ⟨w.heap.size, 2, none⟩ = some (.string ⟨#[]⟩) := HW.out.r 2 _ rfl
    have r3 : World.cell? _ ⟨w.heap.size, 3, none⟩ = some (.string ⟨#[]⟩) := HW.out.r 3 _ rfl
    have r4 : World.cell? _ ⟨w.heap.size, 4, none⟩ = some (.int .i64 0) := HW.out.r 4 _ rfl
    have rf := HW.out.rf
    cases hq : (!false && rest.isEmpty)
    · have HN2 := Lib.hid (HN.out.trans (if_neg (by rw [hq]; exact Bool.false_ne_true)))
      clear hq
      go_wp2
      exact bodyPost_ret (v := .tuple #[.agg #[.int .i64 0, .string ⟨#[]⟩, .string ⟨#[]⟩, .string ⟨#[]⟩, .int .i64 0], .bool false]) (by simp [results, Tryz.results24, go_sem, r0, r1, r2, r3, r4]) rfl (ReadO.none HN2.out (below_set5 HW.out.below HW.out.wQ _ _ _ _ _))
    · have HN2 := Lib.hid (HN.out.trans (if_pos hq))
      clear hq
      have z0 := HW.out.d 0 _ rfl
      have z1 := HW.out.d 1 _ rfl
      have z2 := HW.out.d 2 _ rfl
      have z3 := HW.out.d 3 _ rfl
      have z4 := HW.out.d 4 _ rfl
      go_wp2
      exact bodyPost_ret (v := .tuple #[.agg #[.int .i64 11, .string ByteArray.empty, .string ByteArray.empty, .string ByteArray.empty, .int .i64 0], .bool true]) (by simp [results, Tryz.results24, go_sem, r0, r1, r2, r3, r4, zeroD]) rfl (ReadO.some (HN2.out) (below_set5 HW.out.below HW.out.wQ _ _ _ _ _))
end Go.Proofs.YtoabpbdjffonlaaGreatDoor
