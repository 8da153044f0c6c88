/-
  Texts joined: DeedI, QTail, WrdI.
-/
import Derived.Test.YtiijagmakkgnnaaDoorJ4
import Derived.StillTail
namespace Go.Proofs.YtiijagmakkgnnaaDoor
open Go.ChangeShapes Go.WideShapes Go.ChangeAt Go.RowKit

/-- A deed under way: its box D, the reader R, the result's box Q. -/
structure DWay (w : World) (Q R D : Nat) (ws : List ByteArray) (f : Bool) (x : Dee) (W : World) : Prop where
  rd : Rdr w.heap.size R ws f W
  d : RecAt Dee.cs W D x
  df : ∀ o, W.frozen? ⟨D, o, none⟩ = false
  r : RecAt Dee.cs W Q (zeroD 0)
  rf : ∀ o, W.frozen? ⟨Q, o, none⟩ = false
  below : Below w.heap.size w W
  wQ : w.heap.size ≤ Q
  qR : Q < R
  rD : R < D
  dl : D < W.heap.size
section
variable {w W W' : World} {Q R D : Nat} {ws ws' : List ByteArray} {f f' : Bool} {x y : Dee}
theorem DWay.adv (h : DWay w Q R D ws f x W) (hr : Rdr w.heap.size R ws' f' W') (ha : Adv R W W') : DWay w Q R D ws' f' x W' := by
  have h1 := h.wQ
  have h2 := h.qR
  have h3 := h.rD
  have h4 := h.dl
  have d1 : D ≠ R := by omega
  have q1 : Q ≠ R := by omega
  have q2 : Q < W.heap.size := by omega
  exact ⟨hr, fun j v hj => (ha.cell d1 h4).trans (h.d j v hj), fun o => (ha.frozen d1 h4).trans (h.df o), fun j v hj => (ha.cell q1 q2).trans (h.r j v hj), fun o => (ha.frozen q1 q2).trans (h.rf o),
    h.below.trans (ha.1.mono (by omega)), h1, h2, h3, Nat.lt_of_lt_of_le h4 ha.1.size⟩
theorem DWay.put {o : Nat} {v : Value} (h : DWay w Q R D ws f x W) (ho : o < 5) (e : Dee.cs y = (Dee.cs x).set o v) : DWay w Q R D ws f y (W.setCell ⟨D, o, none⟩ v) := by
  have h1 := h.wQ
  have h2 := h.qR
  have h3 := h.rD
  have h4 := h.dl
  exact ⟨h.rd.far (by omega) (by omega), h.d.put ho e, fun o' => by rw [World.frozen?_setCell]; exact h.df o', h.r.far (by omega), fun o' => by rw [World.frozen?_setCell]; exact h.rf o', h.below.setCell (by show w.heap.size ≤ D; omega) v, h1, h2, h3, by simpa [World.setCell] using h4⟩
theorem DWay.step (h : DWay w Q R D ws f x W) (hb : Below W.heap.size W W') : DWay w Q R D ws f x W' := h.adv (h.rd.step hb) (Adv.of hb (Nat.le_of_lt h.rd.lt))
theorem DWay.mark (g : Bool) (h : DWay w Q R D ws f x W) : DWay w Q R D ws g x (W.setCell ⟨R, 1, none⟩ (.bool g)) := h.adv (h.rd.mark g) (Adv.set _ _ _ _)
end
/-- A deed that was read, or none. -/
def ReadO (o : Option Dee) (w : World) (e : Ending) (w' : World) : Prop :=
  e = .returned (.tuple #[.agg #[.int .i64 (o.getD (zeroD 0)).kind, .string (o.getD (zeroD 0)).who, .string (o.getD (zeroD 0)).mill, .string (o.getD (zeroD 0)).to, .int .i64 (o.getD (zeroD 0)).n], .bool o.isSome]) ∧ Below w.heap.size w w'
theorem ReadO.none {o : Option Dee} {w w' : World} (h : o = none) (hb : Below w.heap.size w w') : ReadO o w (.returned (.tuple #[.agg #[.int .i64 0, .string ByteArray.empty, .string ByteArray.empty, .string ByteArray.empty, .int .i64 0], .bool false])) w' := by
  subst h; exact ⟨rfl, hb⟩
theorem ReadO.some {o : Option Dee} {w w' : World} {k n : Int} {who mill to : ByteArray} (h : o = some ⟨k, who, mill, to, n⟩) (hb : Below w.heap.size w w') : ReadO o w (.returned (.tuple #[.agg #[.int .i64 k, .string who, .string mill, .string to, .int .i64 n], .bool true])) w' := by
  subst h; exact ⟨rfl, hb⟩
theorem sat_tail_size {ws : List ByteArray} {m : Nat} (h : ∀ x ∈ ws, x.size ≤ m) (j : Nat) : (sat ws j).size ≤ m := sat_size h j
theorem tail_size {ws : List ByteArray} {m : Nat} (h : ∀ x ∈ ws, x.size ≤ m) : ∀ x ∈ ws.tail, x.size ≤ m := fun x hx => h x (List.mem_of_mem_tail hx)
theorem tail_len {ws : List ByteArray} {m : Nat} (h : ws.length ≤ m) : ws.tail.length ≤ m := by rw [List.length_tail]; omega
theorem place_kinds (s : ByteArray) : ∃ k : Int, placeV wordsS s + 1 = k ∧ 0 ≤ k ∧ k ≤ 11 := by
  have := place_bd s
  exact ⟨_, rfl, by omega, by omega⟩
/-- The state behind the head: the reader, the deed's box, the result's. -/
theorem dway_new {w W2 W3 : World} {b off c : Nat} {rest : List ByteArray} {k : Int} (hb : Below (w.heap.size + 1) ((w.alloc zeroO).alloc (.cells #[.slice (some ⟨b, off, none⟩) (rest.length + 1) c, .bool false] 54)) W2)
    (hr : Rdr w.heap.size (w.heap.size + 1) rest false W2) (hb3 : Below W2.heap.size W2 W3) :
    DWay w w.heap.size (w.heap.size + 1) W3.heap.size rest false (zeroD k) (W3.alloc (.cells #[.int .i64 k, .string ⟨#[]⟩, .string ⟨#[]⟩, .string ⟨#[]⟩, .int .i64 0] 26)) := by
  have e0 : (w.alloc zeroO).heap.size = w.heap.size + 1 := size_alloc _ _
  have hR := hr.lt
  have hs3 := hb3.size
  have z := (ZeroAt.new w).step (below_new (w.alloc zeroO) (.cells #[.slice (some ⟨b, off, none⟩) (rest.length + 1) c, .bool false] 54))
  have z0 : RecAt Dee.cs ((w.alloc zeroO).alloc (.cells #[.slice (some ⟨b, off, none⟩) (rest.length + 1) c, .bool false] 54)) w.heap.size (zeroD 0) := by
    intro j v hj
    match j, hj with
    | 0, hj => obtain rfl := Option.some.inj hj; exact z.c0
    | 1, hj => obtain rfl := Option.some.inj hj; exact z.c1
    | 2, hj => obtain rfl := Option.some.inj hj; exact z.c2
    | 3, hj => obtain rfl := Option.some.inj hj; exact z.c3
    | 4, hj => obtain rfl := Option.some.inj hj; exact z.c4
    | j + 5, hj => simp [Dee.cs] at hj
  have hb4 := below_new W3 (.cells #[.int .i64 k, .string ⟨#[]⟩, .string ⟨#[]⟩, .string ⟨#[]⟩, .int .i64 0] 26)
  have hb5 := below_trans hb3 hb4
  have lt2 : w.heap.size < W2.heap.size := by omega
  have bw : Below w.heap.size w W2 := ((below_new w zeroO).trans ((below_new (w.alloc zeroO) (.cells #[.slice (some ⟨b, off, none⟩) (rest.length + 1) c, .bool false] 54)).mono (by omega))).trans (hb.mono (by omega))
  refine ⟨hr.step hb5, RecAt.new Dee.cs W3 (zeroD k) 26, fun i => World.frozen?_alloc_at (w := W3) #[.int .i64 k, .string ⟨#[]⟩, .string ⟨#[]⟩, .string ⟨#[]⟩, .int .i64 0] 26 W3.heap.size i rfl, fun j v hj => ?_, fun o => ?_, below_trans bw hb5, Nat.le_refl _, Nat.lt_succ_self _, by omega, by rw [size_alloc]; exact Nat.lt_succ_self _⟩
  · exact (hb5.cell (p := ⟨w.heap.size, j, none⟩) lt2).trans ((hb.cell (p := ⟨w.heap.size, j, none⟩) (Nat.lt_succ_self _)).trans (z0 j v hj))
  · exact (hb5.frozen (p := ⟨w.heap.size, o, none⟩) lt2).trans ((hb.frozen (p := ⟨w.heap.size, o, none⟩) (Nat.lt_succ_self _)).trans (z.fz o))

theorem kinds0 {k : Int} (h0 : 0 ≤ k) (h1 : k ≤ 11) : k = 0 ∨ k = 1 ∨ k = 2 ∨ k = 3 ∨ k = 4 ∨ k = 5 ∨ k = 6 ∨ k = 7 ∨ k = 8 ∨ k = 9 ∨ k = 10 ∨ k = 11 := by omega
set_option maxHeartbeats 16000000 in
set_option maxRecDepth 100000 in
theorem deedIn_any {w : World} {b off c : Nat} {x0 : ByteArray} {rest : List ByteArray} (h : ∀ k u, (x0 :: rest)[k]? = some u → w.cell? ⟨b, off + k, none⟩ = some (.string u)) (hb : b < w.heap.size) (hc : rest.length + 1 ≤ c) (hl : rest.length + 1 ≤ 1048576)
    (hs : ∀ x ∈ x0 :: rest, x.size ≤ 281474976710656) (hg : Glob w) (h8 : 8 ≤ w.heap.size) :
    Calls Tryd.prog 24 #[.slice (some ⟨b, off, none⟩) (rest.length + 1) c] w (ReadO (readW (x0 :: rest) (placeV wordsS x0 + 1)) w) := by
  have HG := Lib.hid hg
  have HS := Lib.hid hs
  have HL := Lib.hid hl
  have H8 := Lib.hid h8
  have e0 : (w.alloc zeroO).heap.size = w.heap.size + 1 := size_alloc _ _
  have HR0 := Lib.hid (show Rdr w.heap.size (w.heap.size + 1) (x0 :: rest) false ((w.alloc zeroO).alloc (.cells #[.slice (some ⟨b, off, none⟩) (rest.length + 1) c, .bool false] 54)) from by
    have hb1 := below_new w zeroO
    have hb2 := below_new (w.alloc zeroO) (.cells #[.slice (some ⟨b, off, none⟩) (rest.length + 1) c, .bool false] 54)
    refine ⟨⟨b, off, c, ?_, hc, fun k u hk => ?_, hb⟩, ?_, fun o => ?_, by omega, ?_⟩
    · rw [← e0, World.cell?_alloc_mark]; rfl
    · exact (hb2.cell (p := ⟨b, off + k, none⟩) (by show b < (w.alloc zeroO).heap.size; omega)).trans ((hb1.cell (p := ⟨b, off + k, none⟩) hb).trans (h k u hk))
    · rw [← e0, World.cell?_alloc_mark]; rfl
    · exact World.frozen?_alloc_at (w := w.alloc zeroO) #[.slice (some ⟨b, off, none⟩) (rest.length + 1) c, .bool false] 54 (w.heap.size + 1) o e0.symm
    · rw [size_alloc, e0]; exact Nat.lt_succ_self _)
  clear h hb hc hl hs hg h8 e0
  go_enter Tryd.func24, Tryd.ntmps24
  go_wp2_with fail
  refine (word_any HR0.out HL.out).mono ?_
  rintro e W2 ⟨rfl, hr2, ha2⟩
  have HR2 := Lib.hid (show Rdr w.heap.size (w.heap.size + 1) rest false W2 from hr2)
  have HA2 := Lib.hid ha2
  clear hr2 ha2
  have hx0 : sat (x0 :: rest) 0 = x0 := rfl
  rw [hx0]
  clear hx0
  go_wp2_with fail
  refine (kindOf_any x0 _).mono ?_
  rintro e W3 ⟨rfl, hb3⟩
  obtain ⟨k, hk, hk0, hk11⟩ := place_kinds x0
  have HW3 := Lib.hid (dway_new (k := k) HA2.out.1 HR2.out hb3)
  rw [hk]
  have HK := Lib.hid hk
  clear hk hb3
  obtain ⟨W, hW⟩ : ∃ W, W3.alloc (.cells #[.int .i64 k, .string ⟨#[]⟩, .string ⟨#[]⟩, .string ⟨#[]⟩, .int .i64 0] 26) = W := ⟨_, rfl⟩
  rw [hW] at HW3
  have HWE := Lib.hid hW
  clear hW
  obtain ⟨D, hD⟩ : ∃ D, W3.heap.size = D := ⟨_, rfl⟩
  rw [hD] at HW3
  have HDE := Lib.hid hD
  clear hD
  have c0 := HW3.out.d 0 _ rfl
  have c1 := HW3.out.d 1 _ rfl
  have c2 := HW3.out.d 2 _ rfl
  have c3 := HW3.out.d 3 _ rfl
  have c4 := HW3.out.d 4 _ rfl
  rcases kinds0 hk0 hk11 with rfl | rfl | rfl | rfl | rfl | rfl | rfl | rfl | rfl | rfl | rfl | rfl
  · clear hk0 hk11
    go_wp2_with fail
    (try rw [HWE.out, HDE.out])
    (try rw [HWE.out])
    (try rw [HDE.out])
    refine (told_no (k := 0) (.inl (by decide)) _ _ _ _ _).mono ?_
    rintro e W4 ⟨rfl, hb4⟩
    have HW4 := Lib.hid (HW3.out.step hb4)
    clear hb4 HW3 c0 c1 c2 c3 c4
    have t_bare := as_nil_bare
    have t_ofWho := as_nil_ofWho
    have t_ofMill := as_nil_ofMill
    have t_millN := as_nil_millN
    have t_whoMillN := as_nil_whoMillN
    have t_whoMillToN := as_nil_whoMillToN
    have t_whoToN := as_nil_whoToN
    have hfz := HW4.out.rd.fz 1
    have c1 := HW4.out.rd.off
    have HW5 := Lib.hid (HW4.out.mark true)
    go_wp2_with fail
    refine (isDone_any HW5.out.rd (by have := HL.out; omega)).mono ?_
    rintro e W6 ⟨rfl, rfl⟩
    have HW := HW5
    have HN := Lib.hid ((congrArg (readW (x0 :: rest)) HK.out).trans (readW_zero (x0 :: rest)))
    clear c1 hfz
    have r0 : World.cell? _ ⟨w.heap.size, 0, none⟩ = some (.int .i64 0) := HW.out.r 0 _ rfl
    have r1 : World.cell? _ ⟨w.heap.size, 1, none⟩ = some (.string ⟨#[]⟩) := HW.out.r 1 _ rfl
    have r2 : World.cell? _ ⟨w.heap.size, 2, none⟩ = some (.string ⟨#[]⟩) := HW.out.r 2 _ rfl
    have r3 : World.cell? _ ⟨w.heap.size, 3, none⟩ = some (.string ⟨#[]⟩) := HW.out.r 3 _ rfl
    have r4 : World.cell? _ ⟨w.heap.size, 4, none⟩ = some (.int .i64 0) := HW.out.r 4 _ rfl
    have rf := HW.out.rf
    simp only [Bool.not_true, Bool.false_and]
    go_wp2
    exact bodyPost_ret (v := .tuple #[.agg #[.int .i64 0, .string ⟨#[]⟩, .string ⟨#[]⟩, .string ⟨#[]⟩, .int .i64 0], .bool false]) (by simp [results, Tryd.results24, go_sem, r0, r1, r2, r3, r4]) rfl (ReadO.none HN.out (below_set5 HW.out.below HW.out.wQ _ _ _ _ _))
  · clear hk0 hk11
    go_wp2_with fail
    (try rw [HWE.out, HDE.out])
    (try rw [HWE.out])
    (try rw [HDE.out])
    refine (told_1 _ _ _ _ _).mono ?_
    rintro e W4 ⟨rfl, hb4⟩
    have HW4 := Lib.hid (HW3.out.step hb4)
    clear hb4 HW3 c0 c1 c2 c3 c4
    have t_bare := as_millN_bare
    have t_ofWho := as_millN_ofWho
    have t_ofMill := as_millN_ofMill
    have t_millN := as_millN_millN
    have t_whoMillN := as_millN_whoMillN
    have t_whoMillToN := as_millN_whoMillToN
    have t_whoToN := as_millN_whoToN
    have HN := Lib.hid ((congrArg (readW (x0 :: rest)) HK.out).trans (rd_1 x0 rest))
    go_wp2_with fail
    refine (name_any HW4.out.rd (show rest.length ≤ 1048576 by have := HL.out; omega) (by have := sat_tail_size (ws := rest) (tail_size HS.out) 0; unfold maxLen; omega)).mono ?_
    rintro e X0 ⟨rfl, hr, ha⟩
    have HX0 := Lib.hid (HW4.out.adv hr ha)
    clear hr ha
    go_wp2_with fail
    refine (count_any HX0.out.rd (tail_len (show rest.length ≤ 1048576 by have := HL.out; omega)) (sat_tail_size (ws := rest.tail) (tail_size (tail_size HS.out)) 0) (HG.out.below HX0.out.below) H8.out).mono ?_
    rintro e X1 ⟨rfl, hr, ha⟩
    have HX1 := Lib.hid (HX0.out.adv hr ha)
    clear hr ha
    obtain ⟨v0, hv0⟩ : ∃ v0, sat rest 0 = v0 := ⟨_, rfl⟩
    rw [hv0]
    have HV0 := Lib.hid hv0
    clear hv0
    obtain ⟨v1, hv1⟩ : ∃ v1, (readL (sat rest.tail 0).data.toList).getD 0 = v1 := ⟨_, rfl⟩
    rw [hv1]
    have HV1 := Lib.hid hv1
    clear hv1
    have df := HX1.out.df
    have d0 := HX1.out.d 0 _ rfl
    have d1 := HX1.out.d 1 _ rfl
    have d2 := HX1.out.d 2 _ rfl
    have d3 := HX1.out.d 3 _ rfl
    have d4 := HX1.out.d 4 _ rfl
    have HS0 := Lib.hid (HX1.out.put (o := 2) (y := ⟨1, ByteArray.empty, v0, ByteArray.empty, 0⟩) (v := .string v0) (by decide) rfl)
    have HS1 := Lib.hid (HS0.out.put (o := 4) (y := ⟨1, ByteArray.empty, v0, ByteArray.empty, v1⟩) (v := .int .i64 v1) (by decide) rfl)
    go_wp2_with fail
    refine (isDone_any HS1.out.rd (tail_len (tail_len (show rest.length ≤ 1048576 by have := HL.out; omega)))).mono ?_
    rintro e W6 ⟨rfl, rfl⟩
    have HW := HS1
    clear df d0 d1 d2 d3 d4
    have r0 : World.cell? _ ⟨w.heap.size, 0, none⟩ = some (.int .i64 0) := HW.out.r 0 _ rfl
    have r1 : World.cell? _ ⟨w.heap.size, 1, none⟩ = some (.string ⟨#[]⟩) := HW.out.r 1 _ rfl
    have r2 : World.cell? _ ⟨w.heap.size, 2, none⟩ = some (.string ⟨#[]⟩) := HW.out.r 2 _ rfl
    have r3 : World.cell? _ ⟨w.heap.size, 3, none⟩ = some (.string ⟨#[]⟩) := HW.out.r 3 _ rfl
    have r4 : World.cell? _ ⟨w.heap.size, 4, none⟩ = some (.int .i64 0) := HW.out.r 4 _ rfl
    have rf := HW.out.rf
    cases hq : (!((false || !nameB (sat rest 0)) || !countB (sat rest.tail 0)) && rest.tail.tail.isEmpty)
    · have HN2 := Lib.hid (HN.out.trans (if_neg (by rw [hq]; exact Bool.false_ne_true)))
      clear hq
      go_wp2
      exact bodyPost_ret (v := .tuple #[.agg #[.int .i64 0, .string ⟨#[]⟩, .string ⟨#[]⟩, .string ⟨#[]⟩, .int .i64 0], .bool false]) (by simp [results, Tryd.results24, go_sem, r0, r1, r2, r3, r4]) rfl (ReadO.none HN2.out (below_set5 HW.out.below HW.out.wQ _ _ _ _ _))
    · have HN2 := Lib.hid (HN.out.trans (if_pos hq))
      clear hq
      have z0 := HW.out.d 0 _ rfl
      have z1 := HW.out.d 1 _ rfl
      have z2 := HW.out.d 2 _ rfl
      have z3 := HW.out.d 3 _ rfl
      have z4 := HW.out.d 4 _ rfl
      go_wp2
      exact bodyPost_ret (v := .tuple #[.agg #[.int .i64 1, .string ByteArray.empty, .string v0, .string ByteArray.empty, .int .i64 v1], .bool true]) (by simp [results, Tryd.results24, go_sem, r0, r1, r2, r3, r4]) rfl (ReadO.some (HN2.out.trans (by rw [HV0.out, HV1.out])) (below_set5 HW.out.below HW.out.wQ _ _ _ _ _))
  · clear hk0 hk11
    go_wp2_with fail
    (try rw [HWE.out, HDE.out])
    (try rw [HWE.out])
    (try rw [HDE.out])
    refine (told_2 _ _ _ _ _).mono ?_
    rintro e W4 ⟨rfl, hb4⟩
    have HW4 := Lib.hid (HW3.out.step hb4)
    clear hb4 HW3 c0 c1 c2 c3 c4
    have t_bare := as_ofWho_bare
    have t_ofWho := as_ofWho_ofWho
    have t_ofMill := as_ofWho_ofMill
    have t_millN := as_ofWho_millN
    have t_whoMillN := as_ofWho_whoMillN
    have t_whoMillToN := as_ofWho_whoMillToN
    have t_whoToN := as_ofWho_whoToN
    have HN := Lib.hid ((congrArg (readW (x0 :: rest)) HK.out).trans (rd_2 x0 rest))
    go_wp2_with fail
    refine (name_any HW4.out.rd (show rest.length ≤ 1048576 by have := HL.out; omega) (by have := sat_tail_size (ws := rest) (tail_size HS.out) 0; unfold maxLen; omega)).mono ?_
    rintro e X0 ⟨rfl, hr, ha⟩
    have HX0 := Lib.hid (HW4.out.adv hr ha)
    clear hr ha
    obtain ⟨v0, hv0⟩ : ∃ v0, sat rest 0 = v0 := ⟨_, rfl⟩
    rw [hv0]
    have HV0 := Lib.hid hv0
    clear hv0
    have df := HX0.out.df
    have d0 := HX0.out.d 0 _ rfl
    have d1 := HX0.out.d 1 _ rfl
    have d2 := HX0.out.d 2 _ rfl
    have d3 := HX0.out.d 3 _ rfl
    have d4 := HX0.out.d 4 _ rfl
    have HS0 := Lib.hid (HX0.out.put (o := 1) (y := ⟨2, v0, ByteArray.empty, ByteArray.empty, 0⟩) (v := .string v0) (by decide) rfl)
    go_wp2_with fail
    refine (isDone_any HS0.out.rd (tail_len (show rest.length ≤ 1048576 by have := HL.out; omega))).mono ?_
    rintro e W6 ⟨rfl, rfl⟩
    have HW := HS0
    clear df d0 d1 d2 d3 d4
    have r0 : World.cell? _ ⟨w.heap.size, 0, none⟩ = some (.int .i64 0) := HW.out.r 0 _ rfl
    have r1 : World.cell? _ ⟨w.heap.size, 1, none⟩ = some (.string ⟨#[]⟩) := HW.out.r 1 _ rfl
    have r2 : World.cell? _ ⟨w.heap.size, 2, none⟩ = some (.string ⟨#[]⟩) := HW.out.r 2 _ rfl
    have r3 : World.cell? _ ⟨w.heap.size, 3, none⟩ = some (.string ⟨#[]⟩) := HW.out.r 3 _ rfl
    have r4 : World.cell? _ ⟨w.heap.size, 4, none⟩ = some (.int .i64 0) := HW.out.r 4 _ rfl
    have rf := HW.out.rf
    cases hq : (!(false || !nameB (sat rest 0)) && rest.tail.isEmpty)
    · have HN2 := Lib.hid (HN.out.trans (if_neg (by rw [hq]; exact Bool.false_ne_true)))
      clear hq
      go_wp2
      exact bodyPost_ret (v := .tuple #[.agg #[.int .i64 0, .string ⟨#[]⟩, .string ⟨#[]⟩, .string ⟨#[]⟩, .int .i64 0], .bool false]) (by simp [results, Tryd.results24, go_sem, r0, r1, r2, r3, r4]) rfl (ReadO.none HN2.out (below_set5 HW.out.below HW.out.wQ _ _ _ _ _))
    · have HN2 := Lib.hid (HN.out.trans (if_pos hq))
      clear hq
      have z0 := HW.out.d 0 _ rfl
      have z1 := HW.out.d 1 _ rfl
      have z2 := HW.out.d 2 _ rfl
      have z3 := HW.out.d 3 _ rfl
      have z4 := HW.out.d 4 _ rfl
      go_wp2
      exact bodyPost_ret (v := .tuple #[.agg #[.int .i64 2, .string v0, .string ByteArray.empty, .string ByteArray.empty, .int .i64 0], .bool true]) (by simp [results, Tryd.results24, go_sem, r0, r1, r2, r3, r4]) rfl (ReadO.some (HN2.out.trans (by rw [HV0.out])) (below_set5 HW.out.below HW.out.wQ _ _ _ _ _))
  · clear hk0 hk11
    go_wp2_with fail
    (try rw [HWE.out, HDE.out])
    (try rw [HWE.out])
    (try rw [HDE.out])
    refine (told_3 _ _ _ _ _).mono ?_
    rintro e W4 ⟨rfl, hb4⟩
    have HW4 := Lib.hid (HW3.out.step hb4)
    clear hb4 HW3 c0 c1 c2 c3 c4
    have t_bare := as_millN_bare
    have t_ofWho := as_millN_ofWho
    have t_ofMill := as_millN_ofMill
    have t_millN := as_millN_millN
    have t_whoMillN := as_millN_whoMillN
    have t_whoMillToN := as_millN_whoMillToN
    have t_whoToN := as_millN_whoToN
    have HN := Lib.hid ((congrArg (readW (x0 :: rest)) HK.out).trans (rd_3 x0 rest))
    go_wp2_with fail
    refine (name_any HW4.out.rd (show rest.length ≤ 1048576 by have := HL.out; omega) (by have := sat_tail_size (ws := rest) (tail_size HS.out) 0; unfold maxLen; omega)).mono ?_
    rintro e X0 ⟨rfl, hr, ha⟩
    have HX0 := Lib.hid (HW4.out.adv hr ha)
    clear hr ha
    go_wp2_with fail
    refine (count_any HX0.out.rd (tail_len (show rest.length ≤ 1048576 by have := HL.out; omega)) (sat_tail_size (ws := rest.tail) (tail_size (tail_size HS.out)) 0) (HG.out.below HX0.out.below) H8.out).mono ?_
    rintro e X1 ⟨rfl, hr, ha⟩
    have HX1 := Lib.hid (HX0.out.adv hr ha)
    clear hr ha
    obtain ⟨v0, hv0⟩ : ∃ v0, sat rest 0 = v0 := ⟨_, rfl⟩
    rw [hv0]
    have HV0 := Lib.hid hv0
    clear hv0
    obtain ⟨v1, hv1⟩ : ∃ v1, (readL (sat rest.tail 0).data.toList).getD 0 = v1 := ⟨_, rfl⟩
    rw [hv1]
    have HV1 := Lib.hid hv1
    clear hv1
    have df := HX1.out.df
    have d0 := HX1.out.d 0 _ rfl
    have d1 := HX1.out.d 1 _ rfl
    have d2 := HX1.out.d 2 _ rfl
    have d3 := HX1.out.d 3 _ rfl
    have d4 := HX1.out.d 4 _ rfl
    have HS0 := Lib.hid (HX1.out.put (o := 2) (y := ⟨3, ByteArray.empty, v0, ByteArray.empty, 0⟩) (v := .string v0) (by decide) rfl)
    have HS1 := Lib.hid (HS0.out.put (o := 4) (y := ⟨3, ByteArray.empty, v0, ByteArray.empty, v1⟩) (v := .int .i64 v1) (by decide) rfl)
    go_wp2_with fail
    refine (isDone_any HS1.out.rd (tail_len (tail_len (show rest.length ≤ 1048576 by have := HL.out; omega)))).mono ?_
    rintro e W6 ⟨rfl, rfl⟩
    have HW := HS1
    clear df d0 d1 d2 d3 d4
    have r0 : World.cell? _ ⟨w.heap.size, 0, none⟩ = some (.int .i64 0) := HW.out.r 0 _ rfl
    have r1 : World.cell? _ ⟨w.heap.size, 1, none⟩ = some (.string ⟨#[]⟩) := HW.out.r 1 _ rfl
    have r2 : World.cell? _ ⟨w.heap.size, 2, none⟩ = some (.string ⟨#[]⟩) := HW.out.r 2 _ rfl
    have r3 : World.cell? _ ⟨w.heap.size, 3, none⟩ = some (.string ⟨#[]⟩) := HW.out.r 3 _ rfl
    have r4 : World.cell? _ ⟨w.heap.size, 4, none⟩ = some (.int .i64 0) := HW.out.r 4 _ rfl
    have rf := HW.out.rf
    cases hq : (!((false || !nameB (sat rest 0)) || !countB (sat rest.tail 0)) && rest.tail.tail.isEmpty)
    · have HN2 := Lib.hid (HN.out.trans (if_neg (by rw [hq]; exact Bool.false_ne_true)))
      clear hq
      go_wp2
      exact bodyPost_ret (v := .tuple #[.agg #[.int .i64 0, .string ⟨#[]⟩, .string ⟨#[]⟩, .string ⟨#[]⟩, .int .i64 0], .bool false]) (by simp [results, Tryd.results24, go_sem, r0, r1, r2, r3, r4]) rfl (ReadO.none HN2.out (below_set5 HW.out.below HW.out.wQ _ _ _ _ _))
    · have HN2 := Lib.hid (HN.out.trans (if_pos hq))
      clear hq
      have z0 := HW.out.d 0 _ rfl
      have z1 := HW.out.d 1 _ rfl
      have z2 := HW.out.d 2 _ rfl
      have z3 := HW.out.d 3 _ rfl
      have z4 := HW.out.d 4 _ rfl
      go_wp2
      exact bodyPost_ret (v := .tuple #[.agg #[.int .i64 3, .string ByteArray.empty, .string v0, .string ByteArray.empty, .int .i64 v1], .bool true]) (by simp [results, Tryd.results24, go_sem, r0, r1, r2, r3, r4]) rfl (ReadO.some (HN2.out.trans (by rw [HV0.out, HV1.out])) (below_set5 HW.out.below HW.out.wQ _ _ _ _ _))
  · clear hk0 hk11
    go_wp2_with fail
    (try rw [HWE.out, HDE.out])
    (try rw [HWE.out])
    (try rw [HDE.out])
    refine (told_4 _ _ _ _ _).mono ?_
    rintro e W4 ⟨rfl, hb4⟩
    have HW4 := Lib.hid (HW3.out.step hb4)
    clear hb4 HW3 c0 c1 c2 c3 c4
    have t_bare := as_whoMillN_bare
    have t_ofWho := as_whoMillN_ofWho
    have t_ofMill := as_whoMillN_ofMill
    have t_millN := as_whoMillN_millN
    have t_whoMillN := as_whoMillN_whoMillN
    have t_whoMillToN := as_whoMillN_whoMillToN
    have t_whoToN := as_whoMillN_whoToN
    have HN := Lib.hid ((congrArg (readW (x0 :: rest)) HK.out).trans (rd_4 x0 rest))
    go_wp2_with fail
    refine (name_any HW4.out.rd (show rest.length ≤ 1048576 by have := HL.out; omega) (by have := sat_tail_size (ws := rest) (tail_size HS.out) 0; unfold maxLen; omega)).mono ?_
    rintro e X0 ⟨rfl, hr, ha⟩
    have HX0 := Lib.hid (HW4.out.adv hr ha)
    clear hr ha
    go_wp2_with fail
    refine (name_any HX0.out.rd (tail_len (show rest.length ≤ 1048576 by have := HL.out; omega)) (by have := sat_tail_size (ws := rest.tail) (tail_size (tail_size HS.out)) 0; unfold maxLen; omega)).mono ?_
    rintro e X1 ⟨rfl, hr, ha⟩
    have HX1 := Lib.hid (HX0.out.adv hr ha)
    clear hr ha
    go_wp2_with fail
    refine (count_any HX1.out.rd (tail_len (tail_len (show rest.length ≤ 1048576 by have := HL.out; omega))) (sat_tail_size (ws := rest.tail.tail) (tail_size (tail_size (tail_size HS.out))) 0) (HG.out.below HX1.out.below) H8.out).mono ?_
    rintro e X2 ⟨rfl, hr, ha⟩
    have HX2 := Lib.hid (HX1.out.adv hr ha)
    clear hr ha
    obtain ⟨v0, hv0⟩ : ∃ v0, sat rest 0 = v0 := ⟨_, rfl⟩
    rw [hv0]
    have HV0 := Lib.hid hv0
    clear hv0
    obtain ⟨v1, hv1⟩ : ∃ v1, sat rest.tail 0 = v1 := ⟨_, rfl⟩
    rw [hv1]
    have HV1 := Lib.hid hv1
    clear hv1
    obtain ⟨v2, hv2⟩ : ∃ v2, (readL (sat rest.tail.tail 0).data.toList).getD 0 = v2 := ⟨_, rfl⟩
    rw [hv2]
    have HV2 := Lib.hid hv2
    clear hv2
    have df := HX2.out.df
    have d0 := HX2.out.d 0 _ rfl
    have d1 := HX2.out.d 1 _ rfl
    have d2 := HX2.out.d 2 _ rfl
    have d3 := HX2.out.d 3 _ rfl
    have d4 := HX2.out.d 4 _ rfl
    have HS0 := Lib.hid (HX2.out.put (o := 1) (y := ⟨4, v0, ByteArray.empty, ByteArray.empty, 0⟩) (v := .string v0) (by decide) rfl)
    have HS1 := Lib.hid (HS0.out.put (o := 2) (y := ⟨4, v0, v1, ByteArray.empty, 0⟩) (v := .string v1) (by decide) rfl)
    have HS2 := Lib.hid (HS1.out.put (o := 4) (y := ⟨4, v0, v1, ByteArray.empty, v2⟩) (v := .int .i64 v2) (by decide) rfl)
    go_wp2_with fail
    refine (isDone_any HS2.out.rd (tail_len (tail_len (tail_len (show rest.length ≤ 1048576 by have := HL.out; omega))))).mono ?_
    rintro e W6 ⟨rfl, rfl⟩
    have HW := HS2
    clear df d0 d1 d2 d3 d4
    have r0 : World.cell? _ ⟨w.heap.size, 0, none⟩ = some (.int .i64 0) := HW.out.r 0 _ rfl
    have r1 : World.cell? _ ⟨w.heap.size, 1, none⟩ = some (.string ⟨#[]⟩) := HW.out.r 1 _ rfl
    have r2 : World.cell? _ ⟨w.heap.size, 2, none⟩ = some (.string ⟨#[]⟩) := HW.out.r 2 _ rfl
    have r3 : World.cell? _ ⟨w.heap.size, 3, none⟩ = some (.string ⟨#[]⟩) := HW.out.r 3 _ rfl
    have r4 : World.cell? _ ⟨w.heap.size, 4, none⟩ = some (.int .i64 0) := HW.out.r 4 _ rfl
    have rf := HW.out.rf
    cases hq : (!(((false || !nameB (sat rest 0)) || !nameB (sat rest.tail 0)) || !countB (sat rest.tail.tail 0)) && rest.tail.tail.tail.isEmpty)
    · have HN2 := Lib.hid (HN.out.trans (if_neg (by rw [hq]; exact Bool.false_ne_true)))
      clear hq
      go_wp2
      exact bodyPost_ret (v := .tuple #[.agg #[.int .i64 0, .string ⟨#[]⟩, .string ⟨#[]⟩, .string ⟨#[]⟩, .int .i64 0], .bool false]) (by simp [results, Tryd.results24, go_sem, r0, r1, r2, r3, r4]) rfl (ReadO.none HN2.out (below_set5 HW.out.below HW.out.wQ _ _ _ _ _))
    · have HN2 := Lib.hid (HN.out.trans (if_pos hq))
      clear hq
      have z0 := HW.out.d 0 _ rfl
      have z1 := HW.out.d 1 _ rfl
      have z2 := HW.out.d 2 _ rfl
      have z3 := HW.out.d 3 _ rfl
      have z4 := HW.out.d 4 _ rfl
      go_wp2
      exact bodyPost_ret (v := .tuple #[.agg #[.int .i64 4, .string v0, .string v1, .string ByteArray.empty, .int .i64 v2], .bool true]) (by simp [results, Tryd.results24, go_sem, r0, r1, r2, r3, r4]) rfl (ReadO.some (HN2.out.trans (by rw [HV0.out, HV1.out, HV2.out])) (below_set5 HW.out.below HW.out.wQ _ _ _ _ _))
  · clear hk0 hk11
    go_wp2_with fail
    (try rw [HWE.out, HDE.out])
    (try rw [HWE.out])
    (try rw [HDE.out])
    refine (told_5 _ _ _ _ _).mono ?_
    rintro e W4 ⟨rfl, hb4⟩
    have HW4 := Lib.hid (HW3.out.step hb4)
    clear hb4 HW3 c0 c1 c2 c3 c4
    have t_bare := as_whoMillN_bare
    have t_ofWho := as_whoMillN_ofWho
    have t_ofMill := as_whoMillN_ofMill
    have t_millN := as_whoMillN_millN
    have t_whoMillN := as_whoMillN_whoMillN
    have t_whoMillToN := as_whoMillN_whoMillToN
    have t_whoToN := as_whoMillN_whoToN
    have HN := Lib.hid ((congrArg (readW (x0 :: rest)) HK.out).trans (rd_5 x0 rest))
    go_wp2_with fail
    refine (name_any HW4.out.rd (show rest.length ≤ 1048576 by have := HL.out; omega) (by have := sat_tail_size (ws := rest) (tail_size HS.out) 0; unfold maxLen; omega)).mono ?_
    rintro e X0 ⟨rfl, hr, ha⟩
    have HX0 := Lib.hid (HW4.out.adv hr ha)
    clear hr ha
    go_wp2_with fail
    refine (name_any HX0.out.rd (tail_len (show rest.length ≤ 1048576 by have := HL.out; omega)) (by have := sat_tail_size (ws := rest.tail) (tail_size (tail_size HS.out)) 0; unfold maxLen; omega)).mono ?_
    rintro e X1 ⟨rfl, hr, ha⟩
    have HX1 := Lib.hid (HX0.out.adv hr ha)
    clear hr ha
    go_wp2_with fail
    refine (count_any HX1.out.rd (tail_len (tail_len (show rest.length ≤ 1048576 by have := HL.out; omega))) (sat_tail_size (ws := rest.tail.tail) (tail_size (tail_size (tail_size HS.out))) 0) (HG.out.below HX1.out.below) H8.out).mono ?_
    rintro e X2 ⟨rfl, hr, ha⟩
    have HX2 := Lib.hid (HX1.out.adv hr ha)
    clear hr ha
    obtain ⟨v0, hv0⟩ : ∃ v0, sat rest 0 = v0 := ⟨_, rfl⟩
    rw [hv0]
    have HV0 := Lib.hid hv0
    clear hv0
    obtain ⟨v1, hv1⟩ : ∃ v1, sat rest.tail 0 = v1 := ⟨_, rfl⟩
    rw [hv1]
    have HV1 := Lib.hid hv1
    clear hv1
    obtain ⟨v2, hv2⟩ : ∃ v2, (readL (sat rest.tail.tail 0).data.toList).getD 0 = v2 := ⟨_, rfl⟩
    rw [hv2]
    have HV2 := Lib.hid hv2
    clear hv2
    have df := HX2.out.df
    have d0 := HX2.out.d 0 _ rfl
    have d1 := HX2.out.d 1 _ rfl
    have d2 := HX2.out.d 2 _ rfl
    have d3 := HX2.out.d 3 _ rfl
    have d4 := HX2.out.d 4 _ rfl
    have HS0 := Lib.hid (HX2.out.put (o := 1) (y := ⟨5, v0, ByteArray.empty, ByteArray.empty, 0⟩) (v := .string v0) (by decide) rfl)
    have HS1 := Lib.hid (HS0.out.put (o := 2) (y := ⟨5, v0, v1, ByteArray.empty, 0⟩) (v := .string v1) (by decide) rfl)
    have HS2 := Lib.hid (HS1.out.put (o := 4) (y := ⟨5, v0, v1, ByteArray.empty, v2⟩) (v := .int .i64 v2) (by decide) rfl)
    go_wp2_with fail
    refine (isDone_any HS2.out.rd (tail_len (tail_len (tail_len (show rest.length ≤ 1048576 by have := HL.out; omega))))).mono ?_
    rintro e W6 ⟨rfl, rfl⟩
    have HW := HS2
    clear df d0 d1 d2 d3 d4
    have r0 : World.cell? _ ⟨w.heap.size, 0, none⟩ = some (.int .i64 0) := HW.out.r 0 _ rfl
    have r1 : World.cell? _ ⟨w.heap.size, 1, none⟩ = some (.string ⟨#[]⟩) := HW.out.r 1 _ rfl
    have r2 : World.cell? _ ⟨w.heap.size, 2, none⟩ = some (.string ⟨#[]⟩) := HW.out.r 2 _ rfl
    have r3 : World.cell? _ ⟨w.heap.size, 3, none⟩ = some (.string ⟨#[]⟩) := HW.out.r 3 _ rfl
    have r4 : World.cell? _ ⟨w.heap.size, 4, none⟩ = some (.int .i64 0) := HW.out.r 4 _ rfl
    have rf := HW.out.rf
    cases hq : (!(((false || !nameB (sat rest 0)) || !nameB (sat rest.tail 0)) || !countB (sat rest.tail.tail 0)) && rest.tail.tail.tail.isEmpty)
    · have HN2 := Lib.hid (HN.out.trans (if_neg (by rw [hq]; exact Bool.false_ne_true)))
      clear hq
      go_wp2
      exact bodyPost_ret (v := .tuple #[.agg #[.int .i64 0, .string ⟨#[]⟩, .string ⟨#[]⟩, .string ⟨#[]⟩, .int .i64 0], .bool false]) (by simp [results, Tryd.results24, go_sem, r0, r1, r2, r3, r4]) rfl (ReadO.none HN2.out (below_set5 HW.out.below HW.out.wQ _ _ _ _ _))
    · have HN2 := Lib.hid (HN.out.trans (if_pos hq))
      clear hq
      have z0 := HW.out.d 0 _ rfl
      have z1 := HW.out.d 1 _ rfl
      have z2 := HW.out.d 2 _ rfl
      have z3 := HW.out.d 3 _ rfl
      have z4 := HW.out.d 4 _ rfl
      go_wp2
      exact bodyPost_ret (v := .tuple #[.agg #[.int .i64 5, .string v0, .string v1, .string ByteArray.empty, .int .i64 v2], .bool true]) (by simp [results, Tryd.results24, go_sem, r0, r1, r2, r3, r4]) rfl (ReadO.some (HN2.out.trans (by rw [HV0.out, HV1.out, HV2.out])) (below_set5 HW.out.below HW.out.wQ _ _ _ _ _))
  · clear hk0 hk11
    go_wp2_with fail
    (try rw [HWE.out, HDE.out])
    (try rw [HWE.out])
    (try rw [HDE.out])
    refine (told_6 _ _ _ _ _).mono ?_
    rintro e W4 ⟨rfl, hb4⟩
    have HW4 := Lib.hid (HW3.out.step hb4)
    clear hb4 HW3 c0 c1 c2 c3 c4
    have t_bare := as_whoMillToN_bare
    have t_ofWho := as_whoMillToN_ofWho
    have t_ofMill := as_whoMillToN_ofMill
    have t_millN := as_whoMillToN_millN
    have t_whoMillN := as_whoMillToN_whoMillN
    have t_whoMillToN := as_whoMillToN_whoMillToN
    have t_whoToN := as_whoMillToN_whoToN
    have HN := Lib.hid ((congrArg (readW (x0 :: rest)) HK.out).trans (rd_6 x0 rest))
    go_wp2_with fail
    refine (name_any HW4.out.rd (show rest.length ≤ 1048576 by have := HL.out; omega) (by have := sat_tail_size (ws := rest) (tail_size HS.out) 0; unfold maxLen; omega)).mono ?_
    rintro e X0 ⟨rfl, hr, ha⟩
    have HX0 := Lib.hid (HW4.out.adv hr ha)
    clear hr ha
    go_wp2_with fail
    refine (name_any HX0.out.rd (tail_len (show rest.length ≤ 1048576 by have := HL.out; omega)) (by have := sat_tail_size (ws := rest.tail) (tail_size (tail_size HS.out)) 0; unfold maxLen; omega)).mono ?_
    rintro e X1 ⟨rfl, hr, ha⟩
    have HX1 := Lib.hid (HX0.out.adv hr ha)
    clear hr ha
    go_wp2_with fail
    refine (name_any HX1.out.rd (tail_len (tail_len (show rest.length ≤ 1048576 by have := HL.out; omega))) (by have := sat_tail_size (ws := rest.tail.tail) (tail_size (tail_size (tail_size HS.out))) 0; unfold maxLen; omega)).mono ?_
    rintro e X2 ⟨rfl, hr, ha⟩
    have HX2 := Lib.hid (HX1.out.adv hr ha)
    clear hr ha
    go_wp2_with fail
    refine (count_any HX2.out.rd (tail_len (tail_len (tail_len (show rest.length ≤ 1048576 by have := HL.out; omega)))) (sat_tail_size (ws := rest.tail.tail.tail) (tail_size (tail_size (tail_size (tail_size HS.out)))) 0) (HG.out.below HX2.out.below) H8.out).mono ?_
    rintro e X3 ⟨rfl, hr, ha⟩
    have HX3 := Lib.hid (HX2.out.adv hr ha)
    clear hr ha
    obtain ⟨v0, hv0⟩ : ∃ v0, sat rest 0 = v0 := ⟨_, rfl⟩
    rw [hv0]
    have HV0 := Lib.hid hv0
    clear hv0
    obtain ⟨v1, hv1⟩ : ∃ v1, sat rest.tail 0 = v1 := ⟨_, rfl⟩
    rw [hv1]
    have HV1 := Lib.hid hv1
    clear hv1
    obtain ⟨v2, hv2⟩ : ∃ v2, sat rest.tail.tail 0 = v2 := ⟨_, rfl⟩
    rw [hv2]
    have HV2 := Lib.hid hv2
    clear hv2
    obtain ⟨v3, hv3⟩ : ∃ v3, (readL (sat rest.tail.tail.tail 0).data.toList).getD 0 = v3 := ⟨_, rfl⟩
    rw [hv3]
    have HV3 := Lib.hid hv3
    clear hv3
    have df := HX3.out.df
    have d0 := HX3.out.d 0 _ rfl
    have d1 := HX3.out.d 1 _ rfl
    have d2 := HX3.out.d 2 _ rfl
    have d3 := HX3.out.d 3 _ rfl
    have d4 := HX3.out.d 4 _ rfl
    have HS0 := Lib.hid (HX3.out.put (o := 1) (y := ⟨6, v0, ByteArray.empty, ByteArray.empty, 0⟩) (v := .string v0) (by decide) rfl)
    have HS1 := Lib.hid (HS0.out.put (o := 2) (y := ⟨6, v0, v1, ByteArray.empty, 0⟩) (v := .string v1) (by decide) rfl)
    have HS2 := Lib.hid (HS1.out.put (o := 3) (y := ⟨6, v0, v1, v2, 0⟩) (v := .string v2) (by decide) rfl)
    have HS3 := Lib.hid (HS2.out.put (o := 4) (y := ⟨6, v0, v1, v2, v3⟩) (v := .int .i64 v3) (by decide) rfl)
    go_wp2_with fail
    refine (isDone_any HS3.out.rd (tail_len (tail_len (tail_len (tail_len (show rest.length ≤ 1048576 by have := HL.out; omega)))))).mono ?_
    rintro e W6 ⟨rfl, rfl⟩
    have HW := HS3
    clear df d0 d1 d2 d3 d4
    have r0 : World.cell? _ ⟨w.heap.size, 0, none⟩ = some (.int .i64 0) := HW.out.r 0 _ rfl
    have r1 : World.cell? _ ⟨w.heap.size, 1, none⟩ = some (.string ⟨#[]⟩) := HW.out.r 1 _ rfl
    have r2 : World.cell? _ ⟨w.heap.size, 2, none⟩ = some (.string ⟨#[]⟩) := HW.out.r 2 _ rfl
    have r3 : World.cell? _ ⟨w.heap.size, 3, none⟩ = some (.string ⟨#[]⟩) := HW.out.r 3 _ rfl
    have r4 : World.cell? _ ⟨w.heap.size, 4, none⟩ = some (.int .i64 0) := HW.out.r 4 _ rfl
    have rf := HW.out.rf
    cases hq : (!((((false || !nameB (sat rest 0)) || !nameB (sat rest.tail 0)) || !nameB (sat rest.tail.tail 0)) || !countB (sat rest.tail.tail.tail 0)) && rest.tail.tail.tail.tail.isEmpty)
    · have HN2 := Lib.hid (HN.out.trans (if_neg (by rw [hq]; exact Bool.false_ne_true)))
      clear hq
      go_wp2
      exact bodyPost_ret (v := .tuple #[.agg #[.int .i64 0, .string ⟨#[]⟩, .string ⟨#[]⟩, .string ⟨#[]⟩, .int .i64 0], .bool false]) (by simp [results, Tryd.results24, go_sem, r0, r1, r2, r3, r4]) rfl (ReadO.none HN2.out (below_set5 HW.out.below HW.out.wQ _ _ _ _ _))
    · have HN2 := Lib.hid (HN.out.trans (if_pos hq))
      clear hq
      have z0 := HW.out.d 0 _ rfl
      have z1 := HW.out.d 1 _ rfl
      have z2 := HW.out.d 2 _ rfl
      have z3 := HW.out.d 3 _ rfl
      have z4 := HW.out.d 4 _ rfl
      go_wp2
      exact bodyPost_ret (v := .tuple #[.agg #[.int .i64 6, .string v0, .string v1, .string v2, .int .i64 v3], .bool true]) (by simp [results, Tryd.results24, go_sem, r0, r1, r2, r3, r4]) rfl (ReadO.some (HN2.out.trans (by rw [HV0.out, HV1.out, HV2.out, HV3.out])) (below_set5 HW.out.below HW.out.wQ _ _ _ _ _))
  · clear hk0 hk11
    go_wp2_with fail
    (try rw [HWE.out, HDE.out])
    (try rw [HWE.out])
    (try rw [HDE.out])
    refine (told_7 _ _ _ _ _).mono ?_
    rintro e W4 ⟨rfl, hb4⟩
    have HW4 := Lib.hid (HW3.out.step hb4)
    clear hb4 HW3 c0 c1 c2 c3 c4
    have t_bare := as_millN_bare
    have t_ofWho := as_millN_ofWho
    have t_ofMill := as_millN_ofMill
    have t_millN := as_millN_millN
    have t_whoMillN := as_millN_whoMillN
    have t_whoMillToN := as_millN_whoMillToN
    have t_whoToN := as_millN_whoToN
    have HN := Lib.hid ((congrArg (readW (x0 :: rest)) HK.out).trans (rd_7 x0 rest))
    go_wp2_with fail
    refine (name_any HW4.out.rd (show rest.length ≤ 1048576 by have := HL.out; omega) (by have := sat_tail_size (ws := rest) (tail_size HS.out) 0; unfold maxLen; omega)).mono ?_
    rintro e X0 ⟨rfl, hr, ha⟩
    have HX0 := Lib.hid (HW4.out.adv hr ha)
    clear hr ha
    go_wp2_with fail
    refine (count_any HX0.out.rd (tail_len (show rest.length ≤ 1048576 by have := HL.out; omega)) (sat_tail_size (ws := rest.tail) (tail_size (tail_size HS.out)) 0) (HG.out.below HX0.out.below) H8.out).mono ?_
    rintro e X1 ⟨rfl, hr, ha⟩
    have HX1 := Lib.hid (HX0.out.adv hr ha)
    clear hr ha
    obtain ⟨v0, hv0⟩ : ∃ v0, sat rest 0 = v0 := ⟨_, rfl⟩
    rw [hv0]
    have HV0 := Lib.hid hv0
    clear hv0
    obtain ⟨v1, hv1⟩ : ∃ v1, (readL (sat rest.tail 0).data.toList).getD 0 = v1 := ⟨_, rfl⟩
    rw [hv1]
    have HV1 := Lib.hid hv1
    clear hv1
    have df := HX1.out.df
    have d0 := HX1.out.d 0 _ rfl
    have d1 := HX1.out.d 1 _ rfl
    have d2 := HX1.out.d 2 _ rfl
    have d3 := HX1.out.d 3 _ rfl
    have d4 := HX1.out.d 4 _ rfl
    have HS0 := Lib.hid (HX1.out.put (o := 2) (y := ⟨7, ByteArray.empty, v0, ByteArray.empty, 0⟩) (v := .string v0) (by decide) rfl)
    have HS1 := Lib.hid (HS0.out.put (o := 4) (y := ⟨7, ByteArray.empty, v0, ByteArray.empty, v1⟩) (v := .int .i64 v1) (by decide) rfl)
    go_wp2_with fail
    refine (isDone_any HS1.out.rd (tail_len (tail_len (show rest.length ≤ 1048576 by have := HL.out; omega)))).mono ?_
    rintro e W6 ⟨rfl, rfl⟩
    have HW := HS1
    clear df d0 d1 d2 d3 d4
    have r0 : World.cell? _ ⟨w.heap.size, 0, none⟩ = some (.int .i64 0) := HW.out.r 0 _ rfl
    have r1 : World.cell? _ ⟨w.heap.size, 1, none⟩ = some (.string ⟨#[]⟩) := HW.out.r 1 _ rfl
    have r2 : World.cell? _ ⟨w.heap.size, 2, none⟩ = some (.string ⟨#[]⟩) := HW.out.r 2 _ rfl
    have r3 : World.cell? _ ⟨w.heap.size, 3, none⟩ = some (.string ⟨#[]⟩) := HW.out.r 3 _ rfl
    have r4 : World.cell? _ ⟨w.heap.size, 4, none⟩ = some (.int .i64 0) := HW.out.r 4 _ rfl
    have rf := HW.out.rf
    cases hq : (!((false || !nameB (sat rest 0)) || !countB (sat rest.tail 0)) && rest.tail.tail.isEmpty)
    · have HN2 := Lib.hid (HN.out.trans (if_neg (by rw [hq]; exact Bool.false_ne_true)))
      clear hq
      go_wp2
      exact bodyPost_ret (v := .tuple #[.agg #[.int .i64 0, .string ⟨#[]⟩, .string ⟨#[]⟩, .string ⟨#[]⟩, .int .i64 0], .bool false]) (by simp [results, Tryd.results24, go_sem, r0, r1, r2, r3, r4]) rfl (ReadO.none HN2.out (below_set5 HW.out.below HW.out.wQ _ _ _ _ _))
    · have HN2 := Lib.hid (HN.out.trans (if_pos hq))
      clear hq
      have z0 := HW.out.d 0 _ rfl
      have z1 := HW.out.d 1 _ rfl
      have z2 := HW.out.d 2 _ rfl
      have z3 := HW.out.d 3 _ rfl
      have z4 := HW.out.d 4 _ rfl
      go_wp2
      exact bodyPost_ret (v := .tuple #[.agg #[.int .i64 7, .string ByteArray.empty, .string v0, .string ByteArray.empty, .int .i64 v1], .bool true]) (by simp [results, Tryd.results24, go_sem, r0, r1, r2, r3, r4]) rfl (ReadO.some (HN2.out.trans (by rw [HV0.out, HV1.out])) (below_set5 HW.out.below HW.out.wQ _ _ _ _ _))
  · clear hk0 hk11
    go_wp2_with fail
    (try rw [HWE.out, HDE.out])
    (try rw [HWE.out])
    (try rw [HDE.out])
    refine (told_8 _ _ _ _ _).mono ?_
    rintro e W4 ⟨rfl, hb4⟩
    have HW4 := Lib.hid (HW3.out.step hb4)
    clear hb4 HW3 c0 c1 c2 c3 c4
    have t_bare := as_ofMill_bare
    have t_ofWho := as_ofMill_ofWho
    have t_ofMill := as_ofMill_ofMill
    have t_millN := as_ofMill_millN
    have t_whoMillN := as_ofMill_whoMillN
    have t_whoMillToN := as_ofMill_whoMillToN
    have t_whoToN := as_ofMill_whoToN
    have HN := Lib.hid ((congrArg (readW (x0 :: rest)) HK.out).trans (rd_8 x0 rest))
    go_wp2_with fail
    refine (name_any HW4.out.rd (show rest.length ≤ 1048576 by have := HL.out; omega) (by have := sat_tail_size (ws := rest) (tail_size HS.out) 0; unfold maxLen; omega)).mono ?_
    rintro e X0 ⟨rfl, hr, ha⟩
    have HX0 := Lib.hid (HW4.out.adv hr ha)
    clear hr ha
    obtain ⟨v0, hv0⟩ : ∃ v0, sat rest 0 = v0 := ⟨_, rfl⟩
    rw [hv0]
    have HV0 := Lib.hid hv0
    clear hv0
    have df := HX0.out.df
    have d0 := HX0.out.d 0 _ rfl
    have d1 := HX0.out.d 1 _ rfl
    have d2 := HX0.out.d 2 _ rfl
    have d3 := HX0.out.d 3 _ rfl
    have d4 := HX0.out.d 4 _ rfl
    have HS0 := Lib.hid (HX0.out.put (o := 2) (y := ⟨8, ByteArray.empty, v0, ByteArray.empty, 0⟩) (v := .string v0) (by decide) rfl)
    go_wp2_with fail
    refine (isDone_any HS0.out.rd (tail_len (show rest.length ≤ 1048576 by have := HL.out; omega))).mono ?_
    rintro e W6 ⟨rfl, rfl⟩
    have HW := HS0
    clear df d0 d1 d2 d3 d4
    have r0 : World.cell? _ ⟨w.heap.size, 0, none⟩ = some (.int .i64 0) := HW.out.r 0 _ rfl
    have r1 : World.cell? _ ⟨w.heap.size, 1, none⟩ = some (.string ⟨#[]⟩) := HW.out.r 1 _ rfl
    have r2 : World.cell? _ ⟨w.heap.size, 2, none⟩ = some (.string ⟨#[]⟩) := HW.out.r 2 _ rfl
    have r3 : World.cell? _ ⟨w.heap.size, 3, none⟩ = some (.string ⟨#[]⟩) := HW.out.r 3 _ rfl
    have r4 : World.cell? _ ⟨w.heap.size, 4, none⟩ = some (.int .i64 0) := HW.out.r 4 _ rfl
    have rf := HW.out.rf
    cases hq : (!(false || !nameB (sat rest 0)) && rest.tail.isEmpty)
    · have HN2 := Lib.hid (HN.out.trans (if_neg (by rw [hq]; exact Bool.false_ne_true)))
      clear hq
      go_wp2
      exact bodyPost_ret (v := .tuple #[.agg #[.int .i64 0, .string ⟨#[]⟩, .string ⟨#[]⟩, .string ⟨#[]⟩, .int .i64 0], .bool false]) (by simp [results, Tryd.results24, go_sem, r0, r1, r2, r3, r4]) rfl (ReadO.none HN2.out (below_set5 HW.out.below HW.out.wQ _ _ _ _ _))
    · have HN2 := Lib.hid (HN.out.trans (if_pos hq))
      clear hq
      have z0 := HW.out.d 0 _ rfl
      have z1 := HW.out.d 1 _ rfl
      have z2 := HW.out.d 2 _ rfl
      have z3 := HW.out.d 3 _ rfl
      have z4 := HW.out.d 4 _ rfl
      go_wp2
      exact bodyPost_ret (v := .tuple #[.agg #[.int .i64 8, .string ByteArray.empty, .string v0, .string ByteArray.empty, .int .i64 0], .bool true]) (by simp [results, Tryd.results24, go_sem, r0, r1, r2, r3, r4]) rfl (ReadO.some (HN2.out.trans (by rw [HV0.out])) (below_set5 HW.out.below HW.out.wQ _ _ _ _ _))
  · clear hk0 hk11
    go_wp2_with fail
    (try rw [HWE.out, HDE.out])
    (try rw [HWE.out])
    (try rw [HDE.out])
    refine (told_9 _ _ _ _ _).mono ?_
    rintro e W4 ⟨rfl, hb4⟩
    have HW4 := Lib.hid (HW3.out.step hb4)
    clear hb4 HW3 c0 c1 c2 c3 c4
    have t_bare := as_millN_bare
    have t_ofWho := as_millN_ofWho
    have t_ofMill := as_millN_ofMill
    have t_millN := as_millN_millN
    have t_whoMillN := as_millN_whoMillN
    have t_whoMillToN := as_millN_whoMillToN
    have t_whoToN := as_millN_whoToN
    have HN := Lib.hid ((congrArg (readW (x0 :: rest)) HK.out).trans (rd_9 x0 rest))
    go_wp2_with fail
    refine (name_any HW4.out.rd (show rest.length ≤ 1048576 by have := HL.out; omega) (by have := sat_tail_size (ws := rest) (tail_size HS.out) 0; unfold maxLen; omega)).mono ?_
    rintro e X0 ⟨rfl, hr, ha⟩
    have HX0 := Lib.hid (HW4.out.adv hr ha)
    clear hr ha
    go_wp2_with fail
    refine (count_any HX0.out.rd (tail_len (show rest.length ≤ 1048576 by have := HL.out; omega)) (sat_tail_size (ws := rest.tail) (tail_size (tail_size HS.out)) 0) (HG.out.below HX0.out.below) H8.out).mono ?_
    rintro e X1 ⟨rfl, hr, ha⟩
    have HX1 := Lib.hid (HX0.out.adv hr ha)
    clear hr ha
    obtain ⟨v0, hv0⟩ : ∃ v0, sat rest 0 = v0 := ⟨_, rfl⟩
    rw [hv0]
    have HV0 := Lib.hid hv0
    clear hv0
    obtain ⟨v1, hv1⟩ : ∃ v1, (readL (sat rest.tail 0).data.toList).getD 0 = v1 := ⟨_, rfl⟩
    rw [hv1]
    have HV1 := Lib.hid hv1
    clear hv1
    have df := HX1.out.df
    have d0 := HX1.out.d 0 _ rfl
    have d1 := HX1.out.d 1 _ rfl
    have d2 := HX1.out.d 2 _ rfl
    have d3 := HX1.out.d 3 _ rfl
    have d4 := HX1.out.d 4 _ rfl
    have HS0 := Lib.hid (HX1.out.put (o := 2) (y := ⟨9, ByteArray.empty, v0, ByteArray.empty, 0⟩) (v := .string v0) (by decide) rfl)
    have HS1 := Lib.hid (HS0.out.put (o := 4) (y := ⟨9, ByteArray.empty, v0, ByteArray.empty, v1⟩) (v := .int .i64 v1) (by decide) rfl)
    go_wp2_with fail
    refine (isDone_any HS1.out.rd (tail_len (tail_len (show rest.length ≤ 1048576 by have := HL.out; omega)))).mono ?_
    rintro e W6 ⟨rfl, rfl⟩
    have HW := HS1
    clear df d0 d1 d2 d3 d4
    have r0 : World.cell? _ ⟨w.heap.size, 0, none⟩ = some (.int .i64 0) := HW.out.r 0 _ rfl
    have r1 : World.cell? _ ⟨w.heap.size, 1, none⟩ = some (.string ⟨#[]⟩) := HW.out.r 1 _ rfl
    have r2 : World.cell? _ ⟨w.heap.size, 2, none⟩ = some (.string ⟨#[]⟩) := HW.out.r 2 _ rfl
    have r3 : World.cell? _ ⟨w.heap.size, 3, none⟩ = some (.string ⟨#[]⟩) := HW.out.r 3 _ rfl
    have r4 : World.cell? _ ⟨w.heap.size, 4, none⟩ = some (.int .i64 0) := HW.out.r 4 _ rfl
    have rf := HW.out.rf
    cases hq : (!((false || !nameB (sat rest 0)) || !countB (sat rest.tail 0)) && rest.tail.tail.isEmpty)
    · have HN2 := Lib.hid (HN.out.trans (if_neg (by rw [hq]; exact Bool.false_ne_true)))
      clear hq
      go_wp2
      exact bodyPost_ret (v := .tuple #[.agg #[.int .i64 0, .string ⟨#[]⟩, .string ⟨#[]⟩, .string ⟨#[]⟩, .int .i64 0], .bool false]) (by simp [results, Tryd.results24, go_sem, r0, r1, r2, r3, r4]) rfl (ReadO.none HN2.out (below_set5 HW.out.below HW.out.wQ _ _ _ _ _))
    · have HN2 := Lib.hid (HN.out.trans (if_pos hq))
      clear hq
      have z0 := HW.out.d 0 _ rfl
      have z1 := HW.out.d 1 _ rfl
      have z2 := HW.out.d 2 _ rfl
      have z3 := HW.out.d 3 _ rfl
      have z4 := HW.out.d 4 _ rfl
      go_wp2
      exact bodyPost_ret (v := .tuple #[.agg #[.int .i64 9, .string ByteArray.empty, .string v0, .string ByteArray.empty, .int .i64 v1], .bool true]) (by simp [results, Tryd.results24, go_sem, r0, r1, r2, r3, r4]) rfl (ReadO.some (HN2.out.trans (by rw [HV0.out, HV1.out])) (below_set5 HW.out.below HW.out.wQ _ _ _ _ _))
  · clear hk0 hk11
    go_wp2_with fail
    (try rw [HWE.out, HDE.out])
    (try rw [HWE.out])
    (try rw [HDE.out])
    refine (told_10 _ _ _ _ _).mono ?_
    rintro e W4 ⟨rfl, hb4⟩
    have HW4 := Lib.hid (HW3.out.step hb4)
    clear hb4 HW3 c0 c1 c2 c3 c4
    have t_bare := as_whoToN_bare
    have t_ofWho := as_whoToN_ofWho
    have t_ofMill := as_whoToN_ofMill
    have t_millN := as_whoToN_millN
    have t_whoMillN := as_whoToN_whoMillN
    have t_whoMillToN := as_whoToN_whoMillToN
    have t_whoToN := as_whoToN_whoToN
    have HN := Lib.hid ((congrArg (readW (x0 :: rest)) HK.out).trans (rd_10 x0 rest))
    go_wp2_with fail
    refine (name_any HW4.out.rd (show rest.length ≤ 1048576 by have := HL.out; omega) (by have := sat_tail_size (ws := rest) (tail_size HS.out) 0; unfold maxLen; omega)).mono ?_
    rintro e X0 ⟨rfl, hr, ha⟩
    have HX0 := Lib.hid (HW4.out.adv hr ha)
    clear hr ha
    go_wp2_with fail
    refine (name_any HX0.out.rd (tail_len (show rest.length ≤ 1048576 by have := HL.out; omega)) (by have := sat_tail_size (ws := rest.tail) (tail_size (tail_size HS.out)) 0; unfold maxLen; omega)).mono ?_
    rintro e X1 ⟨rfl, hr, ha⟩
    have HX1 := Lib.hid (HX0.out.adv hr ha)
    clear hr ha
    go_wp2_with fail
    refine (count_any HX1.out.rd (tail_len (tail_len (show rest.length ≤ 1048576 by have := HL.out; omega))) (sat_tail_size (ws := rest.tail.tail) (tail_size (tail_size (tail_size HS.out))) 0) (HG.out.below HX1.out.below) H8.out).mono ?_
    rintro e X2 ⟨rfl, hr, ha⟩
    have HX2 := Lib.hid (HX1.out.adv hr ha)
    clear hr ha
    obtain ⟨v0, hv0⟩ : ∃ v0, sat rest 0 = v0 := ⟨_, rfl⟩
    rw [hv0]
    have HV0 := Lib.hid hv0
    clear hv0
    obtain ⟨v1, hv1⟩ : ∃ v1, sat rest.tail 0 = v1 := ⟨_, rfl⟩
    rw [hv1]
    have HV1 := Lib.hid hv1
    clear hv1
    obtain ⟨v2, hv2⟩ : ∃ v2, (readL (sat rest.tail.tail 0).data.toList).getD 0 = v2 := ⟨_, rfl⟩
    rw [hv2]
    have HV2 := Lib.hid hv2
    clear hv2
    have df := HX2.out.df
    have d0 := HX2.out.d 0 _ rfl
    have d1 := HX2.out.d 1 _ rfl
    have d2 := HX2.out.d 2 _ rfl
    have d3 := HX2.out.d 3 _ rfl
    have d4 := HX2.out.d 4 _ rfl
    have HS0 := Lib.hid (HX2.out.put (o := 1) (y := ⟨10, v0, ByteArray.empty, ByteArray.empty, 0⟩) (v := .string v0) (by decide) rfl)
    have HS1 := Lib.hid (HS0.out.put (o := 3) (y := ⟨10, v0, ByteArray.empty, v1, 0⟩) (v := .string v1) (by decide) rfl)
    have HS2 := Lib.hid (HS1.out.put (o := 4) (y := ⟨10, v0, ByteArray.empty, v1, v2⟩) (v := .int .i64 v2) (by decide) rfl)
    go_wp2_with fail
    refine (isDone_any HS2.out.rd (tail_len (tail_len (tail_len (show rest.length ≤ 1048576 by have := HL.out; omega))))).mono ?_
    rintro e W6 ⟨rfl, rfl⟩
    have HW := HS2
    clear df d0 d1 d2 d3 d4
    have r0 : World.cell? _ ⟨w.heap.size, 0, none⟩ = some (.int .i64 0) := HW.out.r 0 _ rfl
    have r1 : World.cell? _ ⟨w.heap.size, 1, none⟩ = some (.string ⟨#[]⟩) := HW.out.r 1 _ rfl
    have r2 : World.cell? _ ⟨w.heap.size, 2, none⟩ = some (.string ⟨#[]⟩) := HW.out.r 2 _ rfl
    have r3 : World.cell? _ ⟨w.heap.size, 3, none⟩ = some (.string ⟨#[]⟩) := HW.out.r 3 _ rfl
    have r4 : World.cell? _ ⟨w.heap.size, 4, none⟩ = some (.int .i64 0) := HW.out.r 4 _ rfl
    have rf := HW.out.rf
    cases hq : (!(((false || !nameB (sat rest 0)) || !nameB (sat rest.tail 0)) || !countB (sat rest.tail.tail 0)) && rest.tail.tail.tail.isEmpty)
    · have HN2 := Lib.hid (HN.out.trans (if_neg (by rw [hq]; exact Bool.false_ne_true)))
      clear hq
      go_wp2
      exact bodyPost_ret (v := .tuple #[.agg #[.int .i64 0, .string ⟨#[]⟩, .string ⟨#[]⟩, .string ⟨#[]⟩, .int .i64 0], .bool false]) (by simp [results, Tryd.results24, go_sem, r0, r1, r2, r3, r4]) rfl (ReadO.none HN2.out (below_set5 HW.out.below HW.out.wQ _ _ _ _ _))
    · have HN2 := Lib.hid (HN.out.trans (if_pos hq))
      clear hq
      have z0 := HW.out.d 0 _ rfl
      have z1 := HW.out.d 1 _ rfl
      have z2 := HW.out.d 2 _ rfl
      have z3 := HW.out.d 3 _ rfl
      have z4 := HW.out.d 4 _ rfl
      go_wp2
      exact bodyPost_ret (v := .tuple #[.agg #[.int .i64 10, .string v0, .string ByteArray.empty, .string v1, .int .i64 v2], .bool true]) (by simp [results, Tryd.results24, go_sem, r0, r1, r2, r3, r4]) rfl (ReadO.some (HN2.out.trans (by rw [HV0.out, HV1.out, HV2.out])) (below_set5 HW.out.below HW.out.wQ _ _ _ _ _))
  · clear hk0 hk11
    go_wp2_with fail
    (try rw [HWE.out, HDE.out])
    (try rw [HWE.out])
    (try rw [HDE.out])
    refine (told_11 _ _ _ _ _).mono ?_
    rintro e W4 ⟨rfl, hb4⟩
    have HW4 := Lib.hid (HW3.out.step hb4)
    clear hb4 HW3 c0 c1 c2 c3 c4
    have t_bare := as_bare_bare
    have t_ofWho := as_bare_ofWho
    have t_ofMill := as_bare_ofMill
    have t_millN := as_bare_millN
    have t_whoMillN := as_bare_whoMillN
    have t_whoMillToN := as_bare_whoMillToN
    have t_whoToN := as_bare_whoToN
    have HN := Lib.hid ((congrArg (readW (x0 :: rest)) HK.out).trans (rd_11 x0 rest))
    go_wp2_with fail
    refine (isDone_any HW4.out.rd (show rest.length ≤ 1048576 by have := HL.out; omega)).mono ?_
    rintro e W6 ⟨rfl, rfl⟩
    have HW := HW4
    have r0 : World.cell? _ ⟨w.heap.size, 0, none⟩ = some (.int .i64 0) := HW.out.r 0 _ rfl
    have r1 : World.cell? _ ⟨w.heap.size, 1, none⟩ = some (.string ⟨#[]⟩) := HW.out.r 1 _ rfl
    have r2 : World.cell? _ ⟨w.heap.size, 2, none⟩ = some (.string ⟨#[]⟩) := HW.out.r 2 _ rfl
    have r3 : World.cell? _ ⟨w.heap.size, 3, none⟩ = some (.string ⟨#[]⟩) := HW.out.r 3 _ rfl
    have r4 : World.cell? _ ⟨w.heap.size, 4, none⟩ = some (.int .i64 0) := HW.out.r 4 _ rfl
    have rf := HW.out.rf
    cases hq : (!false && rest.isEmpty)
    · have HN2 := Lib.hid (HN.out.trans (if_neg (by rw [hq]; exact Bool.false_ne_true)))
      clear hq
      go_wp2
      exact bodyPost_ret (v := .tuple #[.agg #[.int .i64 0, .string ⟨#[]⟩, .string ⟨#[]⟩, .string ⟨#[]⟩, .int .i64 0], .bool false]) (by simp [results, Tryd.results24, go_sem, r0, r1, r2, r3, r4]) rfl (ReadO.none HN2.out (below_set5 HW.out.below HW.out.wQ _ _ _ _ _))
    · have HN2 := Lib.hid (HN.out.trans (if_pos hq))
      clear hq
      have z0 := HW.out.d 0 _ rfl
      have z1 := HW.out.d 1 _ rfl
      have z2 := HW.out.d 2 _ rfl
      have z3 := HW.out.d 3 _ rfl
      have z4 := HW.out.d 4 _ rfl
      go_wp2
      exact bodyPost_ret (v := .tuple #[.agg #[.int .i64 11, .string ByteArray.empty, .string ByteArray.empty, .string ByteArray.empty, .int .i64 0], .bool true]) (by simp [results, Tryd.results24, go_sem, r0, r1, r2, r3, r4, zeroD]) rfl (ReadO.some (HN2.out) (below_set5 HW.out.below HW.out.wQ _ _ _ _ _))
end Go.Proofs.YtiijagmakkgnnaaDoor
namespace Go.Proofs.YtiijagmakkgnnaaDoor
open Go.ChangeShapes Go.WideShapes Go.ChangeAt Go.RowKit

section
variable {P : Program} {ops : Array Oper} {md : Region.Mode} {C : World → Prop} {n : Nat}

/-- f operations of the head are still to come, whichever order is drawn; then L. -/
def ToTail (P : Program) (md : Region.Mode) (ops : Array Oper) (C : World → Prop) (n : Nat) (L : Array Bool → Act → Prop) : Nat → Array Bool → Act → Prop
  | 0, done, a => L done a
  | f + 1, done, a => Region.ready md ops done ≠ [] ∧ ∀ i ∈ Region.ready md ops done, i < n ∧ qOp P ops C i (ToTail P md ops C n L f (done.setIfInBounds i true)) a

theorem any_of_tail {g : Nat} {L : Array Bool → Act → Prop} {Q : Exit → Act → World → Prop} (hL : ∀ done a w, C w → L done a → wpAny P md ops Q g done a w) (f : Nat) :
    ∀ (done : Array Bool) (a : Act) (w : World), C w → ToTail P md ops C n L f done a → wpAny P md ops Q (f + g) done a w := by
  induction f with
  | zero => intro done a w hw h; rw [Nat.zero_add]; exact hL _ _ _ hw h
  | succ f ih =>
    intro done a w hw h
    rw [Nat.add_right_comm]
    exact ⟨fun h0 => absurd h0 h.1, fun i hi => wpOp_of_qOp hw (fun a' w' hw' h' => ih _ a' w' hw' h') (h.2 i hi).2⟩

/-- One that may come up now may be taken first. -/
theorem tail_first {i : Nat} {oi : Oper} {v : Value} {L : Array Bool → Act → Prop} (hi : ops[i]? = some oi) (hsel : ∀ (j : Nat) (o : Oper) cs b, ops[j]? = some o → o.op ≠ .select cs b)
    (hs : Region.sinkB md ops n = true) (hc : Region.chainB md ops n = true) (hn : n < ops.size) (hin : i < n) (hdone : ∀ done a, L done a → ∀ j ∈ Region.ready md ops done, n ≤ j) (f : Nat) :
    ∀ (done : Array Bool) (a : Act), HeadInv md ops n done →
      (∀ j oj, ops[j]? = some oj → j ≠ i → done.getD j true = false → (∀ e ∈ oj.after, Region.binds md e = true → e.on ≠ i) → oi.apart ops oj = true) →
      i ∈ Region.ready md ops done → YieldsIn P ops C oi v a → ToTail P md ops C n L f (done.setIfInBounds i true) (a.put oi.dst v) → ToTail P md ops C n L (f + 1) done a := by
  induction f with
  | zero =>
    intro done a inv _ hr hy H
    refine ⟨List.ne_nil_of_mem hr, fun j hj => ?_⟩
    have hjn : j < n := Nat.lt_of_not_le fun h => tail_waits hs hc hn inv _ i rfl hin (mem_ready.1 hr).1 j h hj
    refine ⟨hjn, ?_⟩
    rcases Nat.decEq j i with hji | rfl
    · have := hdone _ _ H j (ready_mono hj hji)
      omega
    · exact hy.qOp hi H
  | succ f ih =>
    intro done a inv hfree hr hy H
    refine ⟨List.ne_nil_of_mem hr, fun j hj => ?_⟩
    have hun := (mem_ready.1 hr).1
    have hjn : j < n := Nat.lt_of_not_le fun h => tail_waits hs hc hn inv _ i rfl hin hun j h hj
    refine ⟨hjn, ?_⟩
    rcases Nat.decEq j i with hji | rfl
    · obtain ⟨hjun, oj, hoj, hall⟩ := mem_ready.1 hj
      have hnot : ∀ e ∈ oj.after, Region.binds md e = true → e.on ≠ i := by
        intro e he hb heq
        have := hall e he hb
        rw [heq, getD_both hun] at this
        cases this
      refine qOp_mono (fun a' h3 => ih _ a' (inv.set hj hjn) ?_ (ready_mono hr (Ne.symm hji)) h3.1 ?_) (qOp_put hoj (hfree j oj hoj hji hjun hnot) (fun cs b => hsel i oi cs b hi) (fun cs b => hsel j oj cs b hoj) hy (H.2 j (ready_mono hj hji)).2)
      · intro k ok hk hki hku hno
        refine hfree k ok hk hki ?_ hno
        rcases Nat.decEq j k with hjk | rfl
        · rwa [getD_set_ne true hjk] at hku
        · exact hjun
      · rw [Array.setIfInBounds_comm _ _ hji]; exact h3.2
    · exact hy.qOp hi H

theorem tail_lex {g : Nat} {Lq : Act → Prop} (hsel : Region.noSelect ops = true) (hs : Region.sinkB md ops n = true) (hc : Region.chainB md ops n = true) (hn : n < ops.size) :
    ∀ (l : List Oper) (k : Nat) (done : Array Bool) (a : Act), (∀ j, j < l.length → l[j]? = ops[k + j]?) → k + l.length = n → HeadInv md ops n done →
    Region.lexHead md ops g l.length k done = true → wpQuiet P ops C Lq l a → ToTail P md ops C n (fun done' a' => Region.seqB md ops g n done' = true ∧ Lq a') l.length done a := by
  intro l
  induction l with
  | nil =>
    intro k done a _ hk _ hB h
    have hkn : k = n := by simpa using hk
    exact ⟨by rw [← hkn]; simpa [Region.lexHead] using hB, h⟩
  | cons o l ih =>
    intro k done a hl hk inv hB h
    have h0 : ops[k]? = some o := (hl 0 (Nat.succ_pos _)).symm
    simp only [List.length_cons, Region.lexHead, Bool.and_eq_true] at hB
    have hkn : k < n := by rw [List.length_cons] at hk; omega
    have hr : k ∈ Region.ready md ops done := by simpa using hB.1.1
    obtain ⟨v, hy, hK⟩ := yieldsIn_of_qOp (P := P) (C := C) (K := wpQuiet P ops C Lq l) h0 (by unfold qOp; simp only [h0]; exact h)
    refine tail_first h0 (Region.noSelect_spec hsel) hs hc hn hkn (fun done' a' hL => seqB_ready hL.1) _ done a inv (Region.free_spec h0 hB.1.2) hr hy (ih (k + 1) _ _ ?_ ?_ (inv.set hr hkn) hB.2 hK)
    · intro j hj
      have := hl (j + 1) (by rw [List.length_cons]; omega)
      rw [show k + 1 + j = k + (j + 1) by omega, ← this]; rfl
    · rw [List.length_cons] at hk; omega
end

/-- The region's law. -/
theorem wp_region_grow_tail {P : Program} {id : Nat} {Q : Exit → Act → World → Prop} {a : Act} {w : World} {l : List Oper} (n : Nat) (hm : P.follows .mixedOrders = true) (hB : Region.lexTailB .any l.toArray n = true)
    (h : wpQuiet P l.toArray (fun w' => ∃ g : Grow w, w' = g.to) (fun a' => ∀ g : Grow w, wpList P l.toArray Q (l.drop n) a' g.to) (l.take n) a) : (Code.region id l.toArray true).wp P Q a w := by
  simp only [Region.lexTailB, Bool.and_eq_true, decide_eq_true_eq] at hB
  obtain ⟨⟨⟨⟨hsel, hn⟩, hs⟩, hc⟩, hlex⟩ := hB
  have hn' : n < l.length := by simpa using hn
  have htl : (l.take n).length = n := by simp; omega
  have hdl : (l.drop n).length = l.toArray.size - n := by simp
  have inv0 : HeadInv .any l.toArray n (Array.replicate l.toArray.size false) :=
    ⟨by simp, fun j oj _ hl => (by rw [getD_replicate_false] at hl; cases hl), fun t _ ht => getD_in (by simpa using ht) (getD_replicate_false _ _)⟩
  have H := tail_lex (md := .any) (C := fun w' => ∃ g : Grow w, w' = g.to) (g := l.toArray.size - n) hsel hs hc hn (l.take n) 0 _ a (fun j hj => by
    have hj' : j < n := by rw [htl] at hj; exact hj
    simp [hj']) (by simpa using htl) inv0 (by rw [htl]; exact hlex) h
  refine wp_region_any hm ?_
  have := any_of_tail (Q := Q) (g := l.toArray.size - n) (fun done a' w' hw hL => by
    obtain ⟨gr, rfl⟩ := hw
    have := wpAny_of_seq (md := .any) (Q' := Q) (l.drop n) n done a' gr.to (fun j => by simp [List.getElem?_drop]) (by rw [hdl]; exact hL.1) (hL.2 gr)
    rwa [hdl] at this) _ _ _ { w with drawn := w.drawn + 1 } ⟨⟨{ w with drawn := w.drawn + 1 }, below_draws (Below.refl _ _) 1⟩, rfl⟩ H
  rw [htl, show n + (l.toArray.size - n) = l.toArray.size by omega] at this
  exact this
end Go.Proofs.YtiijagmakkgnnaaDoor
namespace Go.Proofs.YtiijagmakkgnnaaDoor
open Go.ChangeShapes Go.WideShapes Go.ChangeAt Go.RowKit

/-- A block of the call's own with these words. -/
def WordsL (ws : List ByteArray) (w : World) (e : Ending) (w' : World) : Prop :=
  ∃ g, e = .returned (.slice (some ⟨g, 0, none⟩) ws.length ws.length) ∧ g < w'.heap.size ∧ (∀ k u, ws[k]? = some u → w'.cell? ⟨g, 0 + k, none⟩ = some (.string u)) ∧ Below w.heap.size w w'
theorem wordsL_end {w W : World} (ws : List ByteArray) (hb : Below w.heap.size w W) : WordsL ws w (.returned (.slice (some ⟨W.heap.size, 0, none⟩) ws.length ws.length)) (W.alloc (.cells (ws.map Value.string).toArray 9)) := by
  refine ⟨_, rfl, by show _ < (W.heap.push _).size; rw [Array.size_push]; omega, fun k u hk => ?_, below_trans hb (below_new _ _)⟩
  rw [Nat.zero_add, World.cell?_alloc_mark, List.getElem?_toArray, List.getElem?_map, hk]; rfl
theorem wordsL_end1 {w W : World} (ws : List ByteArray) (o : Obj) (hb : Below w.heap.size w W) : WordsL ws w (.returned (.slice (some ⟨W.heap.size + 1, 0, none⟩) ws.length ws.length)) ((W.alloc o).alloc (.cells (ws.map Value.string).toArray 9)) := by
  have e : (W.alloc o).heap.size = W.heap.size + 1 := by show (W.heap.push o).size = _; rw [Array.size_push]
  rw [← e]; exact wordsL_end ws (below_trans hb (below_new _ _))
theorem str_is {a b : ByteArray} (h : a = b) : Value.string a = .string b := by rw [h]
theorem wlist_1 (n : Int) (who mill to : ByteArray) : wordsOf ⟨1, who, mill, to, n⟩ = [⟨#[111, 112, 101, 110]⟩, mill, itoaB n] := by simp [wordsOf, tellsS, wordsS]
theorem iwords_1 (n : Int) (who mill to : ByteArray) (w : World) (h0 : -9223372036854775808 ≤ n) (h1 : n ≤ 9223372036854775807) (hg : Glob w) :
    Calls Tryd.prog 25 #[.agg #[.int .i64 1, .string who, .string mill, .string to, .int .i64 n]] w (WordsL (wordsOf ⟨1, who, mill, to, n⟩) w) := by
  rw [wlist_1]
  have HG := Lib.hid hg
  have HN0 := Lib.hid h0
  have HN1 := Lib.hid h1
  have B0 := Lib.hid (below_new w (.cells #[.int .i64 1, .string who, .string mill, .string to, .int .i64 n] 26))
  clear hg h0 h1
  go_enter Tryd.func25, Tryd.ntmps25
  go_wp2_with fail
  refine (told_1 n who mill to _).mono ?_
  rintro e w1 ⟨rfl, hb1⟩
  have B1 := Lib.hid (below_trans B0.out hb1)
  clear hb1
  have t_ofWho := as_millN_ofWho
  have t_ofMill := as_millN_ofMill
  have t_millN := as_millN_millN
  have t_whoMillN := as_millN_whoMillN
  have t_whoMillToN := as_millN_whoMillToN
  have t_whoToN := as_millN_whoToN
  have B2 := Lib.hid (below_trans B1.out (below_new w1 (.cells #[.string mill, .int .i64 n] 66)))
  obtain ⟨W2, hW2⟩ : ∃ W2, w1.alloc (.cells #[.string mill, .int .i64 n] 66) = W2 := ⟨_, rfl⟩
  have c0 : W2.cell? ⟨w1.heap.size, 0, none⟩ = some (.string mill) := by rw [← hW2, World.cell?_alloc_mark]; rfl
  have c1 : W2.cell? ⟨w1.heap.size, 1, none⟩ = some (.int .i64 n) := by rw [← hW2, World.cell?_alloc_mark]; rfl
  have HW := Lib.hid hW2
  rw [hW2] at B2
  clear hW2
  have e0 := Grow.cell c0
  have e1 := Grow.cell c1
  go_wp2_with fail
  rw [HW.out]
  clear c0 c1
  refine wp_region_grow_tail 6 (by kernel_rfl) (by kernel_rfl) ?_
  simp only [List.take_succ_cons, List.take_zero, List.drop_succ_cons, List.drop_zero]
  repeat (go_big_quiet_step (first | (go_at_call 42; exact grow_call rfl (digits_any n HN0.out HN1.out _ (HG.out.below (below_trans B2.out (Grow.ok _)))))))
  refine wpQuiet_nil ?_
  intro gq
  have HB := Lib.hid (below_trans B2.out gq.ok)
  go_wp2_with fail
  go_ret
  exact wordsL_end [⟨#[111, 112, 101, 110]⟩, mill, itoaB n] HB.out
theorem wlist_2 (n : Int) (who mill to : ByteArray) : wordsOf ⟨2, who, mill, to, n⟩ = [⟨#[106, 111, 105, 110]⟩, who] := by simp [wordsOf, tellsS, wordsS]
theorem iwords_2 (n : Int) (who mill to : ByteArray) (w : World) (h0 : -9223372036854775808 ≤ n) (h1 : n ≤ 9223372036854775807) (hg : Glob w) :
    Calls Tryd.prog 25 #[.agg #[.int .i64 2, .string who, .string mill, .string to, .int .i64 n]] w (WordsL (wordsOf ⟨2, who, mill, to, n⟩) w) := by
  rw [wlist_2]
  have HG := Lib.hid hg
  have HN0 := Lib.hid h0
  have HN1 := Lib.hid h1
  have B0 := Lib.hid (below_new w (.cells #[.int .i64 2, .string who, .string mill, .string to, .int .i64 n] 26))
  clear hg h0 h1
  go_enter Tryd.func25, Tryd.ntmps25
  go_wp2_with fail
  refine (told_2 n who mill to _).mono ?_
  rintro e w1 ⟨rfl, hb1⟩
  have B1 := Lib.hid (below_trans B0.out hb1)
  clear hb1
  have t_ofWho := as_ofWho_ofWho
  have t_ofMill := as_ofWho_ofMill
  have t_millN := as_ofWho_millN
  have t_whoMillN := as_ofWho_whoMillN
  have t_whoMillToN := as_ofWho_whoMillToN
  have t_whoToN := as_ofWho_whoToN
  go_wp2
  go_ret
  exact wordsL_end1 [⟨#[106, 111, 105, 110]⟩, who] _ B1.out
theorem wlist_3 (n : Int) (who mill to : ByteArray) : wordsOf ⟨3, who, mill, to, n⟩ = [⟨#[99, 117, 116]⟩, mill, itoaB n] := by simp [wordsOf, tellsS, wordsS]
theorem iwords_3 (n : Int) (who mill to : ByteArray) (w : World) (h0 : -9223372036854775808 ≤ n) (h1 : n ≤ 9223372036854775807) (hg : Glob w) :
    Calls Tryd.prog 25 #[.agg #[.int .i64 3, .string who, .string mill, .string to, .int .i64 n]] w (WordsL (wordsOf ⟨3, who, mill, to, n⟩) w) := by
  rw [wlist_3]
  have HG := Lib.hid hg
  have HN0 := Lib.hid h0
  have HN1 := Lib.hid h1
  have B0 := Lib.hid (below_new w (.cells #[.int .i64 3, .string who, .string mill, .string to, .int .i64 n] 26))
  clear hg h0 h1
  go_enter Tryd.func25, Tryd.ntmps25
  go_wp2_with fail
  refine (told_3 n who mill to _).mono ?_
  rintro e w1 ⟨rfl, hb1⟩
  have B1 := Lib.hid (below_trans B0.out hb1)
  clear hb1
  have t_ofWho := as_millN_ofWho
  have t_ofMill := as_millN_ofMill
  have t_millN := as_millN_millN
  have t_whoMillN := as_millN_whoMillN
  have t_whoMillToN := as_millN_whoMillToN
  have t_whoToN := as_millN_whoToN
  have B2 := Lib.hid (below_trans B1.out (below_new w1 (.cells #[.string mill, .int .i64 n] 66)))
  obtain ⟨W2, hW2⟩ : ∃ W2, w1.alloc (.cells #[.string mill, .int .i64 n] 66) = W2 := ⟨_, rfl⟩
  have c0 : W2.cell? ⟨w1.heap.size, 0, none⟩ = some (.string mill) := by rw [← hW2, World.cell?_alloc_mark]; rfl
  have c1 : W2.cell? ⟨w1.heap.size, 1, none⟩ = some (.int .i64 n) := by rw [← hW2, World.cell?_alloc_mark]; rfl
  have HW := Lib.hid hW2
  rw [hW2] at B2
  clear hW2
  have e0 := Grow.cell c0
  have e1 := Grow.cell c1
  go_wp2_with fail
  rw [HW.out]
  clear c0 c1
  refine wp_region_grow_tail 6 (by kernel_rfl) (by kernel_rfl) ?_
  simp only [List.take_succ_cons, List.take_zero, List.drop_succ_cons, List.drop_zero]
  repeat (go_big_quiet_step (first | (go_at_call 42; exact grow_call rfl (digits_any n HN0.out HN1.out _ (HG.out.below (below_trans B2.out (Grow.ok _)))))))
  refine wpQuiet_nil ?_
  intro gq
  have HB := Lib.hid (below_trans B2.out gq.ok)
  go_wp2_with fail
  go_ret
  exact wordsL_end [⟨#[99, 117, 116]⟩, mill, itoaB n] HB.out
theorem wlist_4 (n : Int) (who mill to : ByteArray) : wordsOf ⟨4, who, mill, to, n⟩ = [⟨#[108, 101, 110, 100]⟩, who, mill, itoaB n] := by simp [wordsOf, tellsS, wordsS]
theorem iwords_4 (n : Int) (who mill to : ByteArray) (w : World) (h0 : -9223372036854775808 ≤ n) (h1 : n ≤ 9223372036854775807) (hg : Glob w) :
    Calls Tryd.prog 25 #[.agg #[.int .i64 4, .string who, .string mill, .string to, .int .i64 n]] w (WordsL (wordsOf ⟨4, who, mill, to, n⟩) w) := by
  rw [wlist_4]
  have HG := Lib.hid hg
  have HN0 := Lib.hid h0
  have HN1 := Lib.hid h1
  have B0 := Lib.hid (below_new w (.cells #[.int .i64 4, .string who, .string mill, .string to, .int .i64 n] 26))
  clear hg h0 h1
  go_enter Tryd.func25, Tryd.ntmps25
  go_wp2_with fail
  refine (told_4 n who mill to _).mono ?_
  rintro e w1 ⟨rfl, hb1⟩
  have B1 := Lib.hid (below_trans B0.out hb1)
  clear hb1
  have t_ofWho := as_whoMillN_ofWho
  have t_ofMill := as_whoMillN_ofMill
  have t_millN := as_whoMillN_millN
  have t_whoMillN := as_whoMillN_whoMillN
  have t_whoMillToN := as_whoMillN_whoMillToN
  have t_whoToN := as_whoMillN_whoToN
  have B2 := Lib.hid (below_trans B1.out (below_new w1 (.cells #[.string who, .string mill, .int .i64 n] 69)))
  obtain ⟨W2, hW2⟩ : ∃ W2, w1.alloc (.cells #[.string who, .string mill, .int .i64 n] 69) = W2 := ⟨_, rfl⟩
  have c0 : W2.cell? ⟨w1.heap.size, 0, none⟩ = some (.string who) := by rw [← hW2, World.cell?_alloc_mark]; rfl
  have c1 : W2.cell? ⟨w1.heap.size, 1, none⟩ = some (.string mill) := by rw [← hW2, World.cell?_alloc_mark]; rfl
  have c2 : W2.cell? ⟨w1.heap.size, 2, none⟩ = some (.int .i64 n) := by rw [← hW2, World.cell?_alloc_mark]; rfl
  have HW := Lib.hid hW2
  rw [hW2] at B2
  clear hW2
  have e0 := Grow.cell c0
  have e1 := Grow.cell c1
  have e2 := Grow.cell c2
  go_wp2_with fail
  rw [HW.out]
  clear c0 c1 c2
  refine wp_region_grow_tail 8 (by kernel_rfl) (by kernel_rfl) ?_
  simp only [List.take_succ_cons, List.take_zero, List.drop_succ_cons, List.drop_zero]
  repeat (go_big_quiet_step (first | (go_at_call 42; exact grow_call rfl (digits_any n HN0.out HN1.out _ (HG.out.below (below_trans B2.out (Grow.ok _)))))))
  refine wpQuiet_nil ?_
  intro gq
  have HB := Lib.hid (below_trans B2.out gq.ok)
  go_wp2_with fail
  go_ret
  exact wordsL_end [⟨#[108, 101, 110, 100]⟩, who, mill, itoaB n] HB.out
theorem wlist_5 (n : Int) (who mill to : ByteArray) : wordsOf ⟨5, who, mill, to, n⟩ = [⟨#[108, 111, 111, 115, 101, 110]⟩, who, mill, itoaB n] := by simp [wordsOf, tellsS, wordsS]
theorem iwords_5 (n : Int) (who mill to : ByteArray) (w : World) (h0 : -9223372036854775808 ≤ n) (h1 : n ≤ 9223372036854775807) (hg : Glob w) :
    Calls Tryd.prog 25 #[.agg #[.int .i64 5, .string who, .string mill, .string to, .int .i64 n]] w (WordsL (wordsOf ⟨5, who, mill, to, n⟩) w) := by
  rw [wlist_5]
  have HG := Lib.hid hg
  have HN0 := Lib.hid h0
  have HN1 := Lib.hid h1
  have B0 := Lib.hid (below_new w (.cells #[.int .i64 5, .string who, .string mill, .string to, .int .i64 n] 26))
  clear hg h0 h1
  go_enter Tryd.func25, Tryd.ntmps25
  go_wp2_with fail
  refine (told_5 n who mill to _).mono ?_
  rintro e w1 ⟨rfl, hb1⟩
  have B1 := Lib.hid (below_trans B0.out hb1)
  clear hb1
  have t_ofWho := as_whoMillN_ofWho
  have t_ofMill := as_whoMillN_ofMill
  have t_millN := as_whoMillN_millN
  have t_whoMillN := as_whoMillN_whoMillN
  have t_whoMillToN := as_whoMillN_whoMillToN
  have t_whoToN := as_whoMillN_whoToN
  have B2 := Lib.hid (below_trans B1.out (below_new w1 (.cells #[.string who, .string mill, .int .i64 n] 69)))
  obtain ⟨W2, hW2⟩ : ∃ W2, w1.alloc (.cells #[.string who, .string mill, .int .i64 n] 69) = W2 := ⟨_, rfl⟩
  have c0 : W2.cell? ⟨w1.heap.size, 0, none⟩ = some (.string who) := by rw [← hW2, World.cell?_alloc_mark]; rfl
  have c1 : W2.cell? ⟨w1.heap.size, 1, none⟩ = some (.string mill) := by rw [← hW2, World.cell?_alloc_mark]; rfl
  have c2 : W2.cell? ⟨w1.heap.size, 2, none⟩ = some (.int .i64 n) := by rw [← hW2, World.cell?_alloc_mark]; rfl
  have HW := Lib.hid hW2
  rw [hW2] at B2
  clear hW2
  have e0 := Grow.cell c0
  have e1 := Grow.cell c1
  have e2 := Grow.cell c2
  go_wp2_with fail
  rw [HW.out]
  clear c0 c1 c2
  refine wp_region_grow_tail 8 (by kernel_rfl) (by kernel_rfl) ?_
  simp only [List.take_succ_cons, List.take_zero, List.drop_succ_cons, List.drop_zero]
  repeat (go_big_quiet_step (first | (go_at_call 42; exact grow_call rfl (digits_any n HN0.out HN1.out _ (HG.out.below (below_trans B2.out (Grow.ok _)))))))
  refine wpQuiet_nil ?_
  intro gq
  have HB := Lib.hid (below_trans B2.out gq.ok)
  go_wp2_with fail
  go_ret
  exact wordsL_end [⟨#[108, 111, 111, 115, 101, 110]⟩, who, mill, itoaB n] HB.out
theorem wlist_6 (n : Int) (who mill to : ByteArray) : wordsOf ⟨6, who, mill, to, n⟩ = [⟨#[115, 104, 105, 102, 116]⟩, who, mill, to, itoaB n] := by simp [wordsOf, tellsS, wordsS]
theorem iwords_6 (n : Int) (who mill to : ByteArray) (w : World) (h0 : -9223372036854775808 ≤ n) (h1 : n ≤ 9223372036854775807) (hg : Glob w) :
    Calls Tryd.prog 25 #[.agg #[.int .i64 6, .string who, .string mill, .string to, .int .i64 n]] w (WordsL (wordsOf ⟨6, who, mill, to, n⟩) w) := by
  rw [wlist_6]
  have HG := Lib.hid hg
  have HN0 := Lib.hid h0
  have HN1 := Lib.hid h1
  have B0 := Lib.hid (below_new w (.cells #[.int .i64 6, .string who, .string mill, .string to, .int .i64 n] 26))
  clear hg h0 h1
  go_enter Tryd.func25, Tryd.ntmps25
  go_wp2_with fail
  refine (told_6 n who mill to _).mono ?_
  rintro e w1 ⟨rfl, hb1⟩
  have B1 := Lib.hid (below_trans B0.out hb1)
  clear hb1
  have t_ofWho := as_whoMillToN_ofWho
  have t_ofMill := as_whoMillToN_ofMill
  have t_millN := as_whoMillToN_millN
  have t_whoMillN := as_whoMillToN_whoMillN
  have t_whoMillToN := as_whoMillToN_whoMillToN
  have t_whoToN := as_whoMillToN_whoToN
  have B2 := Lib.hid (below_trans B1.out (below_new w1 (.cells #[.string who, .string mill, .string to, .int .i64 n] 71)))
  obtain ⟨W2, hW2⟩ : ∃ W2, w1.alloc (.cells #[.string who, .string mill, .string to, .int .i64 n] 71) = W2 := ⟨_, rfl⟩
  have c0 : W2.cell? ⟨w1.heap.size, 0, none⟩ = some (.string who) := by rw [← hW2, World.cell?_alloc_mark]; rfl
  have c1 : W2.cell? ⟨w1.heap.size, 1, none⟩ = some (.string mill) := by rw [← hW2, World.cell?_alloc_mark]; rfl
  have c2 : W2.cell? ⟨w1.heap.size, 2, none⟩ = some (.string to) := by rw [← hW2, World.cell?_alloc_mark]; rfl
  have c3 : W2.cell? ⟨w1.heap.size, 3, none⟩ = some (.int .i64 n) := by rw [← hW2, World.cell?_alloc_mark]; rfl
  have HW := Lib.hid hW2
  rw [hW2] at B2
  clear hW2
  have e0 := Grow.cell c0
  have e1 := Grow.cell c1
  have e2 := Grow.cell c2
  have e3 := Grow.cell c3
  go_wp2_with fail
  rw [HW.out]
  clear c0 c1 c2 c3
  refine wp_region_grow_tail 10 (by kernel_rfl) (by kernel_rfl) ?_
  simp only [List.take_succ_cons, List.take_zero, List.drop_succ_cons, List.drop_zero]
  repeat (go_big_quiet_step (first | (go_at_call 42; exact grow_call rfl (digits_any n HN0.out HN1.out _ (HG.out.below (below_trans B2.out (Grow.ok _)))))))
  refine wpQuiet_nil ?_
  intro gq
  have HB := Lib.hid (below_trans B2.out gq.ok)
  go_wp2_with fail
  go_ret
  exact wordsL_end [⟨#[115, 104, 105, 102, 116]⟩, who, mill, to, itoaB n] HB.out
theorem wlist_7 (n : Int) (who mill to : ByteArray) : wordsOf ⟨7, who, mill, to, n⟩ = [⟨#[102, 105, 110, 101]⟩, mill, itoaB n] := by simp [wordsOf, tellsS, wordsS]
theorem iwords_7 (n : Int) (who mill to : ByteArray) (w : World) (h0 : -9223372036854775808 ≤ n) (h1 : n ≤ 9223372036854775807) (hg : Glob w) :
    Calls Tryd.prog 25 #[.agg #[.int .i64 7, .string who, .string mill, .string to, .int .i64 n]] w (WordsL (wordsOf ⟨7, who, mill, to, n⟩) w) := by
  rw [wlist_7]
  have HG := Lib.hid hg
  have HN0 := Lib.hid h0
  have HN1 := Lib.hid h1
  have B0 := Lib.hid (below_new w (.cells #[.int .i64 7, .string who, .string mill, .string to, .int .i64 n] 26))
  clear hg h0 h1
  go_enter Tryd.func25, Tryd.ntmps25
  go_wp2_with fail
  refine (told_7 n who mill to _).mono ?_
  rintro e w1 ⟨rfl, hb1⟩
  have B1 := Lib.hid (below_trans B0.out hb1)
  clear hb1
  have t_ofWho := as_millN_ofWho
  have t_ofMill := as_millN_ofMill
  have t_millN := as_millN_millN
  have t_whoMillN := as_millN_whoMillN
  have t_whoMillToN := as_millN_whoMillToN
  have t_whoToN := as_millN_whoToN
  have B2 := Lib.hid (below_trans B1.out (below_new w1 (.cells #[.string mill, .int .i64 n] 66)))
  obtain ⟨W2, hW2⟩ : ∃ W2, w1.alloc (.cells #[.string mill, .int .i64 n] 66) = W2 := ⟨_, rfl⟩
  have c0 : W2.cell? ⟨w1.heap.size, 0, none⟩ = some (.string mill) := by rw [← hW2, World.cell?_alloc_mark]; rfl
  have c1 : W2.cell? ⟨w1.heap.size, 1, none⟩ = some (.int .i64 n) := by rw [← hW2, World.cell?_alloc_mark]; rfl
  have HW := Lib.hid hW2
  rw [hW2] at B2
  clear hW2
  have e0 := Grow.cell c0
  have e1 := Grow.cell c1
  go_wp2_with fail
  rw [HW.out]
  clear c0 c1
  refine wp_region_grow_tail 6 (by kernel_rfl) (by kernel_rfl) ?_
  simp only [List.take_succ_cons, List.take_zero, List.drop_succ_cons, List.drop_zero]
  repeat (go_big_quiet_step (first | (go_at_call 42; exact grow_call rfl (digits_any n HN0.out HN1.out _ (HG.out.below (below_trans B2.out (Grow.ok _)))))))
  refine wpQuiet_nil ?_
  intro gq
  have HB := Lib.hid (below_trans B2.out gq.ok)
  go_wp2_with fail
  go_ret
  exact wordsL_end [⟨#[102, 105, 110, 101]⟩, mill, itoaB n] HB.out
theorem wlist_8 (n : Int) (who mill to : ByteArray) : wordsOf ⟨8, who, mill, to, n⟩ = [⟨#[109, 101, 110, 100]⟩, mill] := by simp [wordsOf, tellsS, wordsS]
theorem iwords_8 (n : Int) (who mill to : ByteArray) (w : World) (h0 : -9223372036854775808 ≤ n) (h1 : n ≤ 9223372036854775807) (hg : Glob w) :
    Calls Tryd.prog 25 #[.agg #[.int .i64 8, .string who, .string mill, .string to, .int .i64 n]] w (WordsL (wordsOf ⟨8, who, mill, to, n⟩) w) := by
  rw [wlist_8]
  have HG := Lib.hid hg
  have HN0 := Lib.hid h0
  have HN1 := Lib.hid h1
  have B0 := Lib.hid (below_new w (.cells #[.int .i64 8, .string who, .string mill, .string to, .int .i64 n] 26))
  clear hg h0 h1
  go_enter Tryd.func25, Tryd.ntmps25
  go_wp2_with fail
  refine (told_8 n who mill to _).mono ?_
  rintro e w1 ⟨rfl, hb1⟩
  have B1 := Lib.hid (below_trans B0.out hb1)
  clear hb1
  have t_ofWho := as_ofMill_ofWho
  have t_ofMill := as_ofMill_ofMill
  have t_millN := as_ofMill_millN
  have t_whoMillN := as_ofMill_whoMillN
  have t_whoMillToN := as_ofMill_whoMillToN
  have t_whoToN := as_ofMill_whoToN
  go_wp2
  go_ret
  exact wordsL_end1 [⟨#[109, 101, 110, 100]⟩, mill] _ B1.out
theorem wlist_9 (n : Int) (who mill to : ByteArray) : wordsOf ⟨9, who, mill, to, n⟩ = [⟨#[101, 97, 114, 110]⟩, mill, itoaB n] := by simp [wordsOf, tellsS, wordsS]
theorem iwords_9 (n : Int) (who mill to : ByteArray) (w : World) (h0 : -9223372036854775808 ≤ n) (h1 : n ≤ 9223372036854775807) (hg : Glob w) :
    Calls Tryd.prog 25 #[.agg #[.int .i64 9, .string who, .string mill, .string to, .int .i64 n]] w (WordsL (wordsOf ⟨9, who, mill, to, n⟩) w) := by
  rw [wlist_9]
  have HG := Lib.hid hg
  have HN0 := Lib.hid h0
  have HN1 := Lib.hid h1
  have B0 := Lib.hid (below_new w (.cells #[.int .i64 9, .string who, .string mill, .string to, .int .i64 n] 26))
  clear hg h0 h1
  go_enter Tryd.func25, Tryd.ntmps25
  go_wp2_with fail
  refine (told_9 n who mill to _).mono ?_
  rintro e w1 ⟨rfl, hb1⟩
  have B1 := Lib.hid (below_trans B0.out hb1)
  clear hb1
  have t_ofWho := as_millN_ofWho
  have t_ofMill := as_millN_ofMill
  have t_millN := as_millN_millN
  have t_whoMillN := as_millN_whoMillN
  have t_whoMillToN := as_millN_whoMillToN
  have t_whoToN := as_millN_whoToN
  have B2 := Lib.hid (below_trans B1.out (below_new w1 (.cells #[.string mill, .int .i64 n] 66)))
  obtain ⟨W2, hW2⟩ : ∃ W2, w1.alloc (.cells #[.string mill, .int .i64 n] 66) = W2 := ⟨_, rfl⟩
  have c0 : W2.cell? ⟨w1.heap.size, 0, none⟩ = some (.string mill) := by rw [← hW2, World.cell?_alloc_mark]; rfl
  have c1 : W2.cell? ⟨w1.heap.size, 1, none⟩ = some (.int .i64 n) := by rw [← hW2, World.cell?_alloc_mark]; rfl
  have HW := Lib.hid hW2
  rw [hW2] at B2
  clear hW2
  have e0 := Grow.cell c0
  have e1 := Grow.cell c1
  go_wp2_with fail
  rw [HW.out]
  clear c0 c1
  refine wp_region_grow_tail 6 (by kernel_rfl) (by kernel_rfl) ?_
  simp only [List.take_succ_cons, List.take_zero, List.drop_succ_cons, List.drop_zero]
  repeat (go_big_quiet_step (first | (go_at_call 42; exact grow_call rfl (digits_any n HN0.out HN1.out _ (HG.out.below (below_trans B2.out (Grow.ok _)))))))
  refine wpQuiet_nil ?_
  intro gq
  have HB := Lib.hid (below_trans B2.out gq.ok)
  go_wp2_with fail
  go_ret
  exact wordsL_end [⟨#[101, 97, 114, 110]⟩, mill, itoaB n] HB.out
theorem wlist_10 (n : Int) (who mill to : ByteArray) : wordsOf ⟨10, who, mill, to, n⟩ = [⟨#[103, 105, 118, 101]⟩, who, to, itoaB n] := by simp [wordsOf, tellsS, wordsS]
theorem iwords_10 (n : Int) (who mill to : ByteArray) (w : World) (h0 : -9223372036854775808 ≤ n) (h1 : n ≤ 9223372036854775807) (hg : Glob w) :
    Calls Tryd.prog 25 #[.agg #[.int .i64 10, .string who, .string mill, .string to, .int .i64 n]] w (WordsL (wordsOf ⟨10, who, mill, to, n⟩) w) := by
  rw [wlist_10]
  have HG := Lib.hid hg
  have HN0 := Lib.hid h0
  have HN1 := Lib.hid h1
  have B0 := Lib.hid (below_new w (.cells #[.int .i64 10, .string who, .string mill, .string to, .int .i64 n] 26))
  clear hg h0 h1
  go_enter Tryd.func25, Tryd.ntmps25
  go_wp2_with fail
  refine (told_10 n who mill to _).mono ?_
  rintro e w1 ⟨rfl, hb1⟩
  have B1 := Lib.hid (below_trans B0.out hb1)
  clear hb1
  have t_ofWho := as_whoToN_ofWho
  have t_ofMill := as_whoToN_ofMill
  have t_millN := as_whoToN_millN
  have t_whoMillN := as_whoToN_whoMillN
  have t_whoMillToN := as_whoToN_whoMillToN
  have t_whoToN := as_whoToN_whoToN
  have B2 := Lib.hid (below_trans B1.out (below_new w1 (.cells #[.string who, .string to, .int .i64 n] 73)))
  obtain ⟨W2, hW2⟩ : ∃ W2, w1.alloc (.cells #[.string who, .string to, .int .i64 n] 73) = W2 := ⟨_, rfl⟩
  have c0 : W2.cell? ⟨w1.heap.size, 0, none⟩ = some (.string who) := by rw [← hW2, World.cell?_alloc_mark]; rfl
  have c1 : W2.cell? ⟨w1.heap.size, 1, none⟩ = some (.string to) := by rw [← hW2, World.cell?_alloc_mark]; rfl
  have c2 : W2.cell? ⟨w1.heap.size, 2, none⟩ = some (.int .i64 n) := by rw [← hW2, World.cell?_alloc_mark]; rfl
  have HW := Lib.hid hW2
  rw [hW2] at B2
  clear hW2
  have e0 := Grow.cell c0
  have e1 := Grow.cell c1
  have e2 := Grow.cell c2
  go_wp2_with fail
  rw [HW.out]
  clear c0 c1 c2
  refine wp_region_grow_tail 8 (by kernel_rfl) (by kernel_rfl) ?_
  simp only [List.take_succ_cons, List.take_zero, List.drop_succ_cons, List.drop_zero]
  repeat (go_big_quiet_step (first | (go_at_call 42; exact grow_call rfl (digits_any n HN0.out HN1.out _ (HG.out.below (below_trans B2.out (Grow.ok _)))))))
  refine wpQuiet_nil ?_
  intro gq
  have HB := Lib.hid (below_trans B2.out gq.ok)
  go_wp2_with fail
  go_ret
  exact wordsL_end [⟨#[103, 105, 118, 101]⟩, who, to, itoaB n] HB.out
theorem wlist_11 (n : Int) (who mill to : ByteArray) : wordsOf ⟨11, who, mill, to, n⟩ = [⟨#[115, 101, 97, 115, 111, 110]⟩] := by simp [wordsOf, tellsS, wordsS]
theorem iwords_11 (n : Int) (who mill to : ByteArray) (w : World) (h0 : -9223372036854775808 ≤ n) (h1 : n ≤ 9223372036854775807) (hg : Glob w) :
    Calls Tryd.prog 25 #[.agg #[.int .i64 11, .string who, .string mill, .string to, .int .i64 n]] w (WordsL (wordsOf ⟨11, who, mill, to, n⟩) w) := by
  rw [wlist_11]
  have HG := Lib.hid hg
  have HN0 := Lib.hid h0
  have HN1 := Lib.hid h1
  have B0 := Lib.hid (below_new w (.cells #[.int .i64 11, .string who, .string mill, .string to, .int .i64 n] 26))
  clear hg h0 h1
  go_enter Tryd.func25, Tryd.ntmps25
  go_wp2_with fail
  refine (told_11 n who mill to _).mono ?_
  rintro e w1 ⟨rfl, hb1⟩
  have B1 := Lib.hid (below_trans B0.out hb1)
  clear hb1
  have t_ofWho := as_bare_ofWho
  have t_ofMill := as_bare_ofMill
  have t_millN := as_bare_millN
  have t_whoMillN := as_bare_whoMillN
  have t_whoMillToN := as_bare_whoMillToN
  have t_whoToN := as_bare_whoToN
  go_wp2
  go_ret
  exact wordsL_end [⟨#[115, 101, 97, 115, 111, 110]⟩] B1.out
theorem iwords_no {k : Int} (h : k < 1 ∨ 11 < k) (n : Int) (who mill to : ByteArray) (w : World) :
    Calls Tryd.prog 25 #[.agg #[.int .i64 k, .string who, .string mill, .string to, .int .i64 n]] w (WordsL [⟨#[]⟩] w) := by
  have H := Lib.hid h
  have B0 := Lib.hid (below_new w (.cells #[.int .i64 k, .string who, .string mill, .string to, .int .i64 n] 26))
  clear h
  go_enter Tryd.func25, Tryd.ntmps25
  go_wp2_with fail
  refine (told_no H.out n who mill to _).mono ?_
  rintro e w1 ⟨rfl, hb1⟩
  have B1 := Lib.hid (below_trans B0.out hb1)
  clear hb1
  have t_ofWho := as_nil_ofWho
  have t_ofMill := as_nil_ofMill
  have t_millN := as_nil_millN
  have t_whoMillN := as_nil_whoMillN
  have t_whoMillToN := as_nil_whoMillToN
  have t_whoToN := as_nil_whoToN
  go_wp2
  go_ret
  exact wordsL_end [⟨#[]⟩] B1.out
end Go.Proofs.YtiijagmakkgnnaaDoor
