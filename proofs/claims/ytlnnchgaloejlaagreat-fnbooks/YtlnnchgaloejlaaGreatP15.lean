/-
  Texts joined: DeedB, Draw7.
-/
import Derived.Test.YtlnnchgaloejlaaGreatP12
import Derived.Test.YtlnnchgaloejlaaGreatP14
import Derived.Deep.RegionWith
namespace Go.Proofs.YtlnnchgaloejlaaGreat
open Go.ChangeShapes Go.WideShapes Go.ChangeAt Go.RowKit

theorem OwnP.lo {w : World} {B : Nat} {a : Option Addr} {ps : List Pur} (h : OwnP w B a ps) : ∀ x, a = some ⟨x, 0, none⟩ → 0 < ps.length → B ≤ x := by
  intro x e h0
  rcases h.2 with rfl | ⟨b, e', h1, -, -⟩
  · simp at h0
  · rw [e] at e'; injection e' with e'; injection e' with e'; omega
theorem OwnP.hi {w : World} {B : Nat} {a : Option Addr} {ps : List Pur} (h : OwnP w B a ps) : ∀ x, a = some ⟨x, 0, none⟩ → 0 < ps.length → x < w.heap.size := by
  intro x e h0
  rcases h.2 with rfl | ⟨b, e', -, h1, -⟩
  · simp at h0
  · rw [e] at e'; injection e' with e'; injection e' with e'; omega
theorem OwnR.lo {α : Type} {f : α → List Value} {c : Nat} {w : World} {B : Nat} {a : Option Addr} {ps : List α} (h : OwnR f c w B a ps) : ∀ x, a = some ⟨x, 0, none⟩ → 0 < ps.length → B ≤ x := by
  intro x e h0
  rcases h.2 with rfl | ⟨b, e', h1, -, -⟩
  · simp at h0
  · rw [e] at e'; injection e' with e'; injection e' with e'; omega
theorem OwnR.hi {α : Type} {f : α → List Value} {c : Nat} {w : World} {B : Nat} {a : Option Addr} {ps : List α} (h : OwnR f c w B a ps) : ∀ x, a = some ⟨x, 0, none⟩ → 0 < ps.length → x < w.heap.size := by
  intro x e h0
  rcases h.2 with rfl | ⟨b, e', -, h1, -⟩
  · simp at h0
  · rw [e] at e'; injection e' with e'; injection e' with e'; omega
theorem apart_lt {a1 a2 : Option Addr} {n1 n2 C D : Nat} (h1 : ∀ x, a1 = some ⟨x, 0, none⟩ → 0 < n1 → x < C) (h2 : ∀ x, a2 = some ⟨x, 0, none⟩ → 0 < n2 → D ≤ x) (h : C ≤ D) : ApartN a1 a2 n1 n2 :=
  fun b1 b2 e1 e2 p1 p2 e => by have := h1 b1 e1 p1; have := h2 b2 e2 p2; omega
theorem rooted_own {α : Type} {f : α → List Value} {c : Nat} {w : World} {B : Nat} {a : Option Addr} {xs : List α} (h : OwnR f c w B a xs) (hne : 0 < xs.length) : ∃ x, a = some ⟨x, 0, none⟩ := by
  rcases h.2 with rfl | ⟨b, e, -⟩
  · simp at hne
  · exact ⟨b, e⟩
theorem rooted_ownP {w : World} {B : Nat} {a : Option Addr} {xs : List Pur} (h : OwnP w B a xs) (hne : 0 < xs.length) : ∃ x, a = some ⟨x, 0, none⟩ := by
  rcases h.2 with rfl | ⟨b, e, -⟩
  · simp at hne
  · exact ⟨b, e⟩

/-- Another list in the place of one. -/
def Bok.wFolk (b : Bok) (l : List Pur) : Bok := ⟨b.season, b.supply, b.burnt, b.pot, l, b.mills, b.parts, b.waits⟩
def Bok.wMills (b : Bok) (l : List Mil) : Bok := ⟨b.season, b.supply, b.burnt, b.pot, b.folk, l, b.parts, b.waits⟩
def Bok.wParts (b : Bok) (l : List Par) : Bok := ⟨b.season, b.supply, b.burnt, b.pot, b.folk, b.mills, l, b.waits⟩
def Bok.wWaits (b : Bok) (l : List Wai) : Bok := ⟨b.season, b.supply, b.burnt, b.pot, b.folk, b.mills, b.parts, l⟩
def Bok.wSeason (b : Bok) (v : Int) : Bok := ⟨v, b.supply, b.burnt, b.pot, b.folk, b.mills, b.parts, b.waits⟩
def Bok.wSupply (b : Bok) (v : Int) : Bok := ⟨b.season, v, b.burnt, b.pot, b.folk, b.mills, b.parts, b.waits⟩
def Bok.wBurnt (b : Bok) (v : Int) : Bok := ⟨b.season, b.supply, v, b.pot, b.folk, b.mills, b.parts, b.waits⟩
def Bok.wPot (b : Bok) (v : Int) : Bok := ⟨b.season, b.supply, b.burnt, v, b.folk, b.mills, b.parts, b.waits⟩
def Spots.wF (s : Spots) (a : Option Addr) (c : Nat) : Spots := ⟨a, c, s.ma, s.mc, s.pa, s.pc, s.wa, s.wc⟩
def Spots.wM (s : Spots) (a : Option Addr) (c : Nat) : Spots := ⟨s.fa, s.fc, a, c, s.pa, s.pc, s.wa, s.wc⟩
def Spots.wP (s : Spots) (a : Option Addr) (c : Nat) : Spots := ⟨s.fa, s.fc, s.ma, s.mc, a, c, s.wa, s.wc⟩
def Spots.wW (s : Spots) (a : Option Addr) (c : Nat) : Spots := ⟨s.fa, s.fc, s.ma, s.mc, s.pa, s.pc, a, c⟩
section
variable {w : World} {B : Nat} {b : Bok} {s : Spots}
theorem OwnB.wFolk {l : List Pur} {a : Option Addr} {c : Nat} (h : OwnB w B b s) (hp : OwnP w B a l) (hr : Rooted a c) (hc : l.length ≤ c) (h1 : ApartN a s.ma l.length b.mills.length) (h2 : ApartN a s.pa l.length b.parts.length) (h3 : ApartN a s.wa l.length b.waits.length) : OwnB w B (b.wFolk l) (s.wF a c) :=
  ⟨hp, h.mills, h.parts, h.waits, h1, h2, h3, h.mp, h.mw, h.pw, ⟨hr, h.rt.m, h.rt.p, h.rt.w, hc, h.rt.cm, h.rt.cp, h.rt.cw⟩⟩
theorem OwnB.wMills {l : List Mil} {a : Option Addr} {c : Nat} (h : OwnB w B b s) (hp : OwnR Mil.cs 5 w B a l) (hr : Rooted a c) (hc : l.length ≤ c) (h1 : ApartN s.fa a b.folk.length l.length) (h2 : ApartN a s.pa l.length b.parts.length) (h3 : ApartN a s.wa l.length b.waits.length) : OwnB w B (b.wMills l) (s.wM a c) :=
  ⟨h.folk, hp, h.parts, h.waits, h1, h.fp, h.fw, h2, h3, h.pw, ⟨h.rt.f, hr, h.rt.p, h.rt.w, h.rt.cf, hc, h.rt.cp, h.rt.cw⟩⟩
theorem OwnB.wParts {l : List Par} {a : Option Addr} {c : Nat} (h : OwnB w B b s) (hp : OwnR Par.cs 3 w B a l) (hr : Rooted a c) (hc : l.length ≤ c) (h1 : ApartN s.fa a b.folk.length l.length) (h2 : ApartN s.ma a b.mills.length l.length) (h3 : ApartN a s.wa l.length b.waits.length) : OwnB w B (b.wParts l) (s.wP a c) :=
  ⟨h.folk, h.mills, hp, h.waits, h.fm, h1, h.fw, h2, h.mw, h3, ⟨h.rt.f, h.rt.m, hr, h.rt.w, h.rt.cf, h.rt.cm, hc, h.rt.cw⟩⟩
theorem OwnB.wWaits {l : List Wai} {a : Option Addr} {c : Nat} (h : OwnB w B b s) (hp : OwnR Wai.cs 4 w B a l) (hr : Rooted a c) (hc : l.length ≤ c) (h1 : ApartN s.fa a b.folk.length l.length) (h2 : ApartN s.ma a b.mills.length l.length) (h3 : ApartN s.pa a b.parts.length l.length) : OwnB w B (b.wWaits l) (s.wW a c) :=
  ⟨h.folk, h.mills, h.parts, hp, h.fm, h.fp, h1, h.mp, h2, h3, ⟨h.rt.f, h.rt.m, h.rt.p, hr, h.rt.cf, h.rt.cm, h.rt.cp, hc⟩⟩
theorem OwnB.wSeason (h : OwnB w B b s) (v : Int) : OwnB w B (b.wSeason v) s := ⟨h.folk, h.mills, h.parts, h.waits, h.fm, h.fp, h.fw, h.mp, h.mw, h.pw, ⟨h.rt.f, h.rt.m, h.rt.p, h.rt.w, h.rt.cf, h.rt.cm, h.rt.cp, h.rt.cw⟩⟩
theorem OwnB.wSupply (h : OwnB w B b s) (v : Int) : OwnB w B (b.wSupply v) s := ⟨h.folk, h.mills, h.parts, h.waits, h.fm, h.fp, h.fw, h.mp, h.mw, h.pw, ⟨h.rt.f, h.rt.m, h.rt.p, h.rt.w, h.rt.cf, h.rt.cm, h.rt.cp, h.rt.cw⟩⟩
theorem OwnB.wBurnt (h : OwnB w B b s) (v : Int) : OwnB w B (b.wBurnt v) s := ⟨h.folk, h.mills, h.parts, h.waits, h.fm, h.fp, h.fw, h.mp, h.mw, h.pw, ⟨h.rt.f, h.rt.m, h.rt.p, h.rt.w, h.rt.cf, h.rt.cm, h.rt.cp, h.rt.cw⟩⟩
theorem OwnB.wPot (h : OwnB w B b s) (v : Int) : OwnB w B (b.wPot v) s := ⟨h.folk, h.mills, h.parts, h.waits, h.fm, h.fp, h.fw, h.mp, h.mw, h.pw, ⟨h.rt.f, h.rt.m, h.rt.p, h.rt.w, h.rt.cf, h.rt.cm, h.rt.cp, h.rt.cw⟩⟩

theorem set_same {w : World} {B o : Nat} {u : Value} (v : Value) (h : w.cell? ⟨B, o, none⟩ = some u) : (w.setCell ⟨B, o, none⟩ v).cell? ⟨B, o, none⟩ = some v := by rw [World.cell?_setCell_same _ _ _ h]
theorem set_else {w : World} {B o j : Nat} {u : Value} (v : Value) (h : w.cell? ⟨B, o, none⟩ = some u) (hne : o ≠ j) : (w.setCell ⟨B, j, none⟩ v).cell? ⟨B, o, none⟩ = some u := by
  rw [World.cell?_setCell_other _ _ _ _ (by intro q; injection q with _ q; exact hne q.symm)]; exact h
theorem CellB.wFolk (h : CellB w B b s) (l : List Pur) (a : Option Addr) (c : Nat) : CellB (w.setCell ⟨B, 4, none⟩ (.slice a l.length c)) B (b.wFolk l) (s.wF a c) :=
  ⟨set_else _ h.c0 (by omega), set_else _ h.c1 (by omega), set_else _ h.c2 (by omega), set_else _ h.c3 (by omega), set_same _ h.c4, set_else _ h.c5 (by omega), set_else _ h.c6 (by omega), set_else _ h.c7 (by omega)⟩
theorem CellB.wMills (h : CellB w B b s) (l : List Mil) (a : Option Addr) (c : Nat) : CellB (w.setCell ⟨B, 5, none⟩ (.slice a l.length c)) B (b.wMills l) (s.wM a c) :=
  ⟨set_else _ h.c0 (by omega), set_else _ h.c1 (by omega), set_else _ h.c2 (by omega), set_else _ h.c3 (by omega), set_else _ h.c4 (by omega), set_same _ h.c5, set_else _ h.c6 (by omega), set_else _ h.c7 (by omega)⟩
theorem CellB.wParts (h : CellB w B b s) (l : List Par) (a : Option Addr) (c : Nat) : CellB (w.setCell ⟨B, 6, none⟩ (.slice a l.length c)) B (b.wParts l) (s.wP a c) :=
  ⟨set_else _ h.c0 (by omega), set_else _ h.c1 (by omega), set_else _ h.c2 (by omega), set_else _ h.c3 (by omega), set_else _ h.c4 (by omega), set_else _ h.c5 (by omega), set_same _ h.c6, set_else _ h.c7 (by omega)⟩
theorem CellB.wWaits (h : CellB w B b s) (l : List Wai) (a : Option Addr) (c : Nat) : CellB (w.setCell ⟨B, 7, none⟩ (.slice a l.length c)) B (b.wWaits l) (s.wW a c) :=
  ⟨set_else _ h.c0 (by omega), set_else _ h.c1 (by omega), set_else _ h.c2 (by omega), set_else _ h.c3 (by omega), set_else _ h.c4 (by omega), set_else _ h.c5 (by omega), set_else _ h.c6 (by omega), set_same _ h.c7⟩
theorem CellB.wSeason (h : CellB w B b s) (v : Int) : CellB (w.setCell ⟨B, 0, none⟩ (.int .i64 v)) B (b.wSeason v) s :=
  ⟨set_same _ h.c0, set_else _ h.c1 (by omega), set_else _ h.c2 (by omega), set_else _ h.c3 (by omega), set_else _ h.c4 (by omega), set_else _ h.c5 (by omega), set_else _ h.c6 (by omega), set_else _ h.c7 (by omega)⟩
theorem CellB.wSupply (h : CellB w B b s) (v : Int) : CellB (w.setCell ⟨B, 1, none⟩ (.int .i64 v)) B (b.wSupply v) s :=
  ⟨set_else _ h.c0 (by omega), set_same _ h.c1, set_else _ h.c2 (by omega), set_else _ h.c3 (by omega), set_else _ h.c4 (by omega), set_else _ h.c5 (by omega), set_else _ h.c6 (by omega), set_else _ h.c7 (by omega)⟩
theorem CellB.wBurnt (h : CellB w B b s) (v : Int) : CellB (w.setCell ⟨B, 2, none⟩ (.int .i64 v)) B (b.wBurnt v) s :=
  ⟨set_else _ h.c0 (by omega), set_else _ h.c1 (by omega), set_same _ h.c2, set_else _ h.c3 (by omega), set_else _ h.c4 (by omega), set_else _ h.c5 (by omega), set_else _ h.c6 (by omega), set_else _ h.c7 (by omega)⟩
theorem CellB.wPot (h : CellB w B b s) (v : Int) : CellB (w.setCell ⟨B, 3, none⟩ (.int .i64 v)) B (b.wPot v) s :=
  ⟨set_else _ h.c0 (by omega), set_else _ h.c1 (by omega), set_else _ h.c2 (by omega), set_same _ h.c3, set_else _ h.c4 (by omega), set_else _ h.c5 (by omega), set_else _ h.c6 (by omega), set_else _ h.c7 (by omega)⟩

theorem NotIn.wFolk {X : Nat} {l : List Pur} {a : Option Addr} {c : Nat} (h : NotIn b s X) (h1 : ∀ x, a = some ⟨x, 0, none⟩ → 0 < l.length → x ≠ X) : NotIn (b.wFolk l) (s.wF a c) X := ⟨h1, h.mills, h.parts, h.waits⟩
theorem NotIn.wMills {X : Nat} {l : List Mil} {a : Option Addr} {c : Nat} (h : NotIn b s X) (h1 : ∀ x, a = some ⟨x, 0, none⟩ → 0 < l.length → x ≠ X) : NotIn (b.wMills l) (s.wM a c) X := ⟨h.folk, h1, h.parts, h.waits⟩
theorem NotIn.wParts {X : Nat} {l : List Par} {a : Option Addr} {c : Nat} (h : NotIn b s X) (h1 : ∀ x, a = some ⟨x, 0, none⟩ → 0 < l.length → x ≠ X) : NotIn (b.wParts l) (s.wP a c) X := ⟨h.folk, h.mills, h1, h.waits⟩
theorem NotIn.wWaits {X : Nat} {l : List Wai} {a : Option Addr} {c : Nat} (h : NotIn b s X) (h1 : ∀ x, a = some ⟨x, 0, none⟩ → 0 < l.length → x ≠ X) : NotIn (b.wWaits l) (s.wW a c) X := ⟨h.folk, h.mills, h.parts, h1⟩

/-- One cell of one mill turns. -/
theorem OwnB.setMill {x k j : Nat} {v : Value} {m : Mil} (h : OwnB w B b s) (e : s.ma = some ⟨x, 0, none⟩) (hk : k < b.mills.length) (hj : j < 5) (hm : m.cs = (b.mills[k].cs).set j v) :
    OwnB (w.setCell ⟨x, k * 5 + j, none⟩ v) B (b.wMills (b.mills.set k m)) s := by
  have g := gset (o := k * 5 + j) (gid w (some x)) v
  have hl : (b.mills.set k m).length = b.mills.length := List.length_set
  have hn : 0 < b.mills.length := by omega
  refine ⟨h.folk.apart g (fun y e1 hy e2 => h.fm y x e1 e hy hn e2), ?_, h.parts.apart g (fun y e1 hy e2 => h.mp x y e e1 hn (length_ne hy) e2.symm), h.waits.apart g (fun y e1 hy e2 => h.mw x y e e1 hn (length_ne hy) e2.symm), ?_, h.fp, h.fw, ?_, ?_, h.pw, ⟨h.rt.f, h.rt.m, h.rt.p, h.rt.w, h.rt.cf, ?_, h.rt.cp, h.rt.cw⟩⟩
  · show OwnR Mil.cs 5 _ _ s.ma (b.mills.set k m)
    rw [e]
    exact OwnR.setRec Mil.len (by rw [← e]; exact h.mills) hk hj hm
  · show ApartN s.fa s.ma b.folk.length (b.mills.set k m).length
    rw [hl]; exact h.fm
  · show ApartN s.ma s.pa (b.mills.set k m).length b.parts.length
    rw [hl]; exact h.mp
  · show ApartN s.ma s.wa (b.mills.set k m).length b.waits.length
    rw [hl]; exact h.mw
  · show (b.mills.set k m).length ≤ s.mc
    rw [hl]; exact h.rt.cm
theorem CellB.setMill (h : CellB w B b s) (k : Nat) (m : Mil) : CellB w B (b.wMills (b.mills.set k m)) s :=
  ⟨h.c0, h.c1, h.c2, h.c3, h.c4, by rw [h.c5]; simp only [Bok.wMills, List.length_set], h.c6, h.c7⟩
theorem NotIn.setMill {X : Nat} (h : NotIn b s X) (k : Nat) (m : Mil) : NotIn (b.wMills (b.mills.set k m)) s X := ⟨h.folk, fun x e hl => h.mills x e (by simpa [Bok.wMills] using hl), h.parts, h.waits⟩
/-- Where a mill of the call's own lies, and that it may be written. -/
theorem OwnB.mill (h : OwnB w B b s) {k : Nat} (hk : k < b.mills.length) : ∃ x, s.ma = some ⟨x, 0, none⟩ ∧ B ≤ x ∧ x < w.heap.size ∧
    w.cell? ⟨x, k * 5, none⟩ = some (.string b.mills[k].name) ∧ w.cell? ⟨x, k * 5 + 1, none⟩ = some (.int .i64 b.mills[k].stake) ∧ w.cell? ⟨x, k * 5 + 2, none⟩ = some (.int .i64 b.mills[k].shares) ∧ w.cell? ⟨x, k * 5 + 3, none⟩ = some (.int .i64 b.mills[k].cut) ∧ w.cell? ⟨x, k * 5 + 4, none⟩ = some (.bool b.mills[k].shut) ∧ ∀ o, w.frozen? ⟨x, o, none⟩ = false := by
  rcases h.mills.2 with e | ⟨x, e, h1, h2, hm⟩
  · rw [e] at hk; simp at hk
  · have hr := h.mills.1
    rw [e] at hr
    obtain ⟨b', off', e', _, q0, q1, q2, q3, q4⟩ := Mil.at hr k hk
    injection e' with e'; injection e' with e1 e2; subst e1; subst e2
    simp only [Nat.zero_add] at q0 q1 q2 q3 q4
    exact ⟨x, e, h1, h2, q0, q1, q2, q3, q4, hm.free⟩
/-- The names of all mills stay. -/
theorem setMill_names {ms : List Mil} {k : Nat} (hk : k < ms.length) {m : Mil} (hm : m.name = ms[k].name) : mnames (ms.set k m) = mnames ms := by
  apply List.ext_getElem
  · simp [mnames]
  · intro i h1 h2
    simp only [mnames, List.getElem_map, List.getElem_set]
    split
    · rename_i e; subst e; exact hm
    · rfl
theorem BLen.setMill (h : BLen b) (k : Nat) (m : Mil) : BLen (b.wMills (b.mills.set k m)) := ⟨h.fl, by simp only [Bok.wMills, List.length_set]; exact h.ml, h.pl, h.wl⟩
theorem BSized.setMill (h : BSized b) {k : Nat} (hk : k < b.mills.length) {m : Mil} (hm : m.name = b.mills[k].name) : BSized (b.wMills (b.mills.set k m)) :=
  ⟨h.fs, by have := h.ms; rw [← setMill_names hk hm] at this; exact this, h.ps, h.ws⟩
end
theorem pay_len {ps : List Pur} {s : ByteArray} {n d : Int} (h : payB ps s n d = true) : (payL ps s n d).length = ps.length ∧ 0 < ps.length ∧ pnames (payL ps s n d) = pnames ps := by
  have h0 := h
  simp only [payB, Bool.and_eq_true, decide_eq_true_eq] at h
  obtain ⟨hf, hp, -⟩ := h
  have : payL ps s n d = setFree ps (placeV (pnames ps) s).toNat (pfree ps (placeV (pnames ps) s).toNat + d) := by rw [payL, if_pos hf, if_pos h0]
  rw [this, setFree_length, setFree_names]
  refine ⟨rfl, ?_, rfl⟩
  obtain ⟨k, e, hk, -⟩ := place_hit hp
  rw [len_pn] at hk
  omega
theorem OutV.under {w w' : World} {O C : Nat} {vs : List Value} (h : OutV w O vs) (hb : Below C w w') (hC : O < C) : OutV w' O vs :=
  ⟨fun j v hj => (hb.cell (p := ⟨O, j, none⟩) hC).trans (h.has j v hj), fun o => (hb.frozen (p := ⟨O, o, none⟩) hC).trans (h.free o), Nat.lt_of_lt_of_le h.lt hb.size⟩
/-- A block that may be written. -/
def FreeB (w : World) (B : Nat) : Prop := (∀ o, w.frozen? ⟨B, o, none⟩ = false) ∧ B < w.heap.size
theorem FreeB.below {w w' : World} {B : Nat} (h : FreeB w B) (hb : Below w.heap.size w w') : FreeB w' B := ⟨fun o => (hb.frozen (p := ⟨B, o, none⟩) h.2).trans (h.1 o), Nat.lt_of_lt_of_le h.2 hb.size⟩
theorem FreeB.under {w w' : World} {B C : Nat} (h : FreeB w B) (hb : Below C w w') (hC : B < C) : FreeB w' B := ⟨fun o => (hb.frozen (p := ⟨B, o, none⟩) hC).trans (h.1 o), Nat.lt_of_lt_of_le h.2 hb.size⟩
theorem FreeB.set {w : World} {B : Nat} (h : FreeB w B) (p : Addr) (v : Value) : FreeB (w.setCell p v) B := ⟨fun o => by have := h.1 o; go_simp, by simpa [World.setCell] using h.2⟩
theorem FreeB.new (w : World) (vs : Array Value) (T : TypeId) : FreeB (w.alloc (.cells vs T)) w.heap.size := ⟨free_new _ _ _, by simp⟩
theorem Mine.under {w w' : World} {b off n C : Nat} (h : Mine w b off n) (hb : b < C) (k : Below C w w') : Mine w' b off n where
  all := fun j hj => by obtain ⟨u, hu⟩ := h.all j hj; exact ⟨u, by rw [k.cell (p := ⟨b, off + j, none⟩) hb]; exact hu⟩
  free := fun o => by rw [k.frozen (p := ⟨b, o, none⟩) hb]; exact h.free o
/-- A book of the call's own, whole: its cells, its lists, and where they lie. -/
structure MineB (w : World) (X C : Nat) (x : Bok) (t : Spots) : Prop where
  c : CellB w X x t
  f : FreeB w X
  o : OwnB w C x t
  n : NotIn x t X
  lo : C ≤ X
  p : ∃ y, t.pa = some ⟨y, 0, none⟩
  q : ∃ y, t.wa = some ⟨y, 0, none⟩
section
variable {w w' : World} {X C : Nat} {x : Bok} {t : Spots}
theorem MineB.below (h : MineB w X C x t) (hb : Below w.heap.size w w') : MineB w' X C x t := ⟨h.c.below hb, h.f.below hb, h.o.below hb, h.n, h.lo, h.p, h.q⟩
theorem MineB.draw (h : MineB w X C x t) : MineB w.drew X C x t := h.below (below_draws (Below.refl _ _) 1)
theorem MineB.base (h : MineB w X C x t) : C ≤ w.heap.size := by have := h.lo; have := h.f.2; omega
/-- Other parts, of a block behind all that was there. -/
theorem MineB.putParts {w1 w2 : World} (h : MineB w1 X C x t) (hb : Below w1.heap.size w1 w2) {g cg : Nat} {out : List Par} (ho : OwnR Par.cs 3 w2 w1.heap.size (some ⟨g, 0, none⟩) out) (hc : out.length ≤ cg) (hg : w1.heap.size ≤ g) :
    MineB (w2.setCell ⟨X, 6, none⟩ (.slice (some ⟨g, 0, none⟩) out.length cg)) X C (x.wParts out) (t.wP (some ⟨g, 0, none⟩) cg) := by
  have hX := h.f.2
  have hC := h.base
  have gs := gset (o := 6) (gid w2 (some X)) (.slice (some ⟨g, 0, none⟩) out.length cg)
  have og := ho.grown gs hX
  have h2 := h.below hb
  exact ⟨h2.c.wParts out (some ⟨g, 0, none⟩) cg, h2.f.set _ _, (h2.o.apart gs h.n).wParts (og.mono hC) (.inr ⟨_, rfl⟩) hc (apart_lt h.o.folk.hi og.lo (Nat.le_refl _)) (apart_lt h.o.mills.hi og.lo (Nat.le_refl _)) (apart_lt h.o.waits.hi og.lo (Nat.le_refl _)).symm, h.n.wParts (fun x' e _ => by injection e with e; injection e with e; omega), h.lo, ⟨g, rfl⟩, h.q⟩
/-- Other waits. -/
theorem MineB.putWaits {w1 w2 : World} (h : MineB w1 X C x t) (hb : Below w1.heap.size w1 w2) {g cg : Nat} {out : List Wai} (ho : OwnR Wai.cs 4 w2 w1.heap.size (some ⟨g, 0, none⟩) out) (hc : out.length ≤ cg) (hg : w1.heap.size ≤ g) :
    MineB (w2.setCell ⟨X, 7, none⟩ (.slice (some ⟨g, 0, none⟩) out.length cg)) X C (x.wWaits out) (t.wW (some ⟨g, 0, none⟩) cg) := by
  have hX := h.f.2
  have hC := h.base
  have gs := gset (o := 7) (gid w2 (some X)) (.slice (some ⟨g, 0, none⟩) out.length cg)
  have og := ho.grown gs hX
  have h2 := h.below hb
  exact ⟨h2.c.wWaits out (some ⟨g, 0, none⟩) cg, h2.f.set _ _, (h2.o.apart gs h.n).wWaits (og.mono hC) (.inr ⟨_, rfl⟩) hc (apart_lt h.o.folk.hi og.lo (Nat.le_refl _)) (apart_lt h.o.mills.hi og.lo (Nat.le_refl _)) (apart_lt h.o.parts.hi og.lo (Nat.le_refl _)), h.n.wWaits (fun x' e _ => by injection e with e; injection e with e; omega), h.lo, h.p, ⟨g, rfl⟩⟩
/-- Other folk. -/
theorem MineB.putFolk {w1 w2 : World} (h : MineB w1 X C x t) (hb : Below w1.heap.size w1 w2) {g cg : Nat} {out : List Pur} (ho : OwnP w2 w1.heap.size (some ⟨g, 0, none⟩) out) (hc : out.length ≤ cg) (hg : w1.heap.size ≤ g) :
    MineB (w2.setCell ⟨X, 4, none⟩ (.slice (some ⟨g, 0, none⟩) out.length cg)) X C (x.wFolk out) (t.wF (some ⟨g, 0, none⟩) cg) := by
  have hX := h.f.2
  have hC := h.base
  have gs := gset (o := 4) (gid w2 (some X)) (.slice (some ⟨g, 0, none⟩) out.length cg)
  have og := ho.grown gs hX
  have h2 := h.below hb
  exact ⟨h2.c.wFolk out (some ⟨g, 0, none⟩) cg, h2.f.set _ _, (h2.o.apart gs h.n).wFolk (og.mono hC) (.inr ⟨_, rfl⟩) hc (apart_lt h.o.mills.hi og.lo (Nat.le_refl _)).symm (apart_lt h.o.parts.hi og.lo (Nat.le_refl _)).symm (apart_lt h.o.waits.hi og.lo (Nat.le_refl _)).symm, h.n.wFolk (fun x' e _ => by injection e with e; injection e with e; omega), h.lo, h.p, h.q⟩
/-- Other folk, of a block ahead of all its own. -/
theorem MineB.putFolk' (h : MineB w X C x t) {g cg C' : Nat} {out : List Pur} (ho : OwnP w C' (some ⟨g, 0, none⟩) out) (hc : out.length ≤ cg) (hg : g < C) (hC : C' ≤ C) :
    MineB (w.setCell ⟨X, 4, none⟩ (.slice (some ⟨g, 0, none⟩) out.length cg)) X C' (x.wFolk out) (t.wF (some ⟨g, 0, none⟩) cg) := by
  have hX := h.lo
  have gs := gset (o := 4) (gid w (some X)) (.slice (some ⟨g, 0, none⟩) out.length cg)
  have og := ho.apart gs (fun b e _ => by injection e with e; injection e with e; omega)
  have hlt : ∀ x', (some (⟨g, 0, none⟩ : Addr)) = some ⟨x', 0, none⟩ → 0 < out.length → x' < C := fun x' e _ => by injection e with e; injection e with e; omega
  exact ⟨h.c.wFolk out (some ⟨g, 0, none⟩) cg, h.f.set _ _, ((h.o.apart gs h.n).mono hC).wFolk og (.inr ⟨_, rfl⟩) hc (apart_lt hlt h.o.mills.lo (Nat.le_refl _)) (apart_lt hlt h.o.parts.lo (Nat.le_refl _)) (apart_lt hlt h.o.waits.lo (Nat.le_refl _)), h.n.wFolk (fun x' e _ => by injection e with e; injection e with e; omega), by omega, h.p, h.q⟩
/-- One cell of one mill. -/
theorem MineB.setMill (h : MineB w X C x t) {y k j : Nat} {v : Value} {m : Mil} (e : t.ma = some ⟨y, 0, none⟩) (hk : k < x.mills.length) (hj : j < 5) (hm : m.cs = (x.mills[k].cs).set j v) :
    MineB (w.setCell ⟨y, k * 5 + j, none⟩ v) X C (x.wMills (x.mills.set k m)) t := by
  have gs := gset (o := k * 5 + j) (gid w (some y)) v
  have hy := h.n.mills y e (by omega)
  exact ⟨(h.c.grown gs hy).setMill k m, h.f.set _ _, h.o.setMill e hk hj hm, h.n.setMill k m, h.lo, h.p, h.q⟩
theorem MineB.setSeason (h : MineB w X C x t) (v : Int) : MineB (w.setCell ⟨X, 0, none⟩ (.int .i64 v)) X C (x.wSeason v) t :=
  ⟨h.c.wSeason v, h.f.set _ _, (h.o.apart (gset (o := 0) (gid w (some X)) (.int .i64 v)) h.n).wSeason v, ⟨h.n.folk, h.n.mills, h.n.parts, h.n.waits⟩, h.lo, h.p, h.q⟩
theorem MineB.setSupply (h : MineB w X C x t) (v : Int) : MineB (w.setCell ⟨X, 1, none⟩ (.int .i64 v)) X C (x.wSupply v) t :=
  ⟨h.c.wSupply v, h.f.set _ _, (h.o.apart (gset (o := 1) (gid w (some X)) (.int .i64 v)) h.n).wSupply v, ⟨h.n.folk, h.n.mills, h.n.parts, h.n.waits⟩, h.lo, h.p, h.q⟩
theorem MineB.setBurnt (h : MineB w X C x t) (v : Int) : MineB (w.setCell ⟨X, 2, none⟩ (.int .i64 v)) X C (x.wBurnt v) t :=
  ⟨h.c.wBurnt v, h.f.set _ _, (h.o.apart (gset (o := 2) (gid w (some X)) (.int .i64 v)) h.n).wBurnt v, ⟨h.n.folk, h.n.mills, h.n.parts, h.n.waits⟩, h.lo, h.p, h.q⟩
theorem MineB.setPot (h : MineB w X C x t) (v : Int) : MineB (w.setCell ⟨X, 3, none⟩ (.int .i64 v)) X C (x.wPot v) t :=
  ⟨h.c.wPot v, h.f.set _ _, (h.o.apart (gset (o := 3) (gid w (some X)) (.int .i64 v)) h.n).wPot v, ⟨h.n.folk, h.n.mills, h.n.parts, h.n.waits⟩, h.lo, h.p, h.q⟩
/-- A copy whose block lies behind it. -/
theorem MineB.copy {w' : World} {b : Bok} {s : Spots} {C : Nat} (ho : OwnB w' C b s) (hs : Solid s) (hC : C ≤ w'.heap.size) (T : TypeId) : MineB (w'.alloc (.cells #[.int .i64 b.season, .int .i64 b.supply, .int .i64 b.burnt, .int .i64 b.pot, .slice s.fa b.folk.length s.fc, .slice s.ma b.mills.length s.mc, .slice s.pa b.parts.length s.pc, .slice s.wa b.waits.length s.wc] T)) w'.heap.size C b s :=
  ⟨CellB.new w' b s T, FreeB.new _ _ _, ho.below (below_new _ _), ho.at.bold.notIn (Nat.le_refl _), hC, hs.p, hs.w⟩
/-- The cells of one mill, which may be written. -/
structure MillC (w : World) (y k : Nat) (m : Mil) : Prop where
  c0 : w.cell? ⟨y, k * 5, none⟩ = some (.string m.name)
  c1 : w.cell? ⟨y, k * 5 + 1, none⟩ = some (.int .i64 m.stake)
  c2 : w.cell? ⟨y, k * 5 + 2, none⟩ = some (.int .i64 m.shares)
  c3 : w.cell? ⟨y, k * 5 + 3, none⟩ = some (.int .i64 m.cut)
  c4 : w.cell? ⟨y, k * 5 + 4, none⟩ = some (.bool m.shut)
  f : ∀ o, w.frozen? ⟨y, o, none⟩ = false
theorem MineB.millC (h : MineB w X C x t) {y k : Nat} {m : Mil} (e : t.ma = some ⟨y, 0, none⟩) (hk : k < x.mills.length) (hm : x.mills[k] = m) : MillC w y k m := by
  obtain ⟨y', e', -, -, h0, h1, h2, h3, h4, hf⟩ := h.o.mill hk
  rw [e] at e'; injection e' with e'; injection e' with e'; subst e'; subst hm
  exact ⟨h0, h1, h2, h3, h4, hf⟩
theorem MineB.c5 (h : MineB w X C x t) {y : Nat} (e : t.ma = some ⟨y, 0, none⟩) : w.cell? ⟨X, 5, none⟩ = some (.slice (some ⟨y, 0, none⟩) x.mills.length t.mc) := by have := h.c.c5; rw [e] at this; exact this
theorem MineB.loM (h : MineB w X C x t) {y k : Nat} (e : t.ma = some ⟨y, 0, none⟩) (hk : k < x.mills.length) : C ≤ y := h.o.mills.lo y e (by omega)
/-- A mill of a list turns: its place and its length. -/
theorem set_mill (x : Bok) {k : Nat} (hk : k < x.mills.length) (m : Mil) : k < (x.wMills (x.mills.set k m)).mills.length := by show k < (x.mills.set k m).length; rw [List.length_set]; exact hk
theorem set_at (x : Bok) {k : Nat} (hk : k < x.mills.length) (m : Mil) : (x.wMills (x.mills.set k m)).mills[k]'(set_mill x hk m) = m := List.getElem_set_self _
theorem set_twice (x : Bok) (k : Nat) (m m' : Mil) : (x.wMills (x.mills.set k m)).wMills ((x.wMills (x.mills.set k m)).mills.set k m') = x.wMills (x.mills.set k m') := by
  show x.wMills ((x.mills.set k m).set k m') = _
  rw [List.set_set]
theorem set_len (x : Bok) (k : Nat) (m : Mil) : (x.wMills (x.mills.set k m)).mills.length = x.mills.length := List.length_set
/-- Nothing below turns. -/
theorem MineB.kept {X0 C0 : Nat} {x0 : Bok} {t0 : Spots} (h : MineB w X0 C0 x0 t0) (hb : Below C w w') (hX : X0 < C) (ho : BOld x0 t0 C) : MineB w' X0 C0 x0 t0 := by
  refine ⟨h.c.under hb hX, h.f.under hb hX, ?_, h.n, h.lo, h.p, h.q⟩
  have at' := h.o.at.under hb ho
  refine ⟨⟨at'.folk, ?_⟩, ⟨at'.mills, ?_⟩, ⟨at'.parts, ?_⟩, ⟨at'.waits, ?_⟩, h.o.fm, h.o.fp, h.o.fw, h.o.mp, h.o.mw, h.o.pw, h.o.rt⟩
  · rcases h.o.folk.2 with e | ⟨b, e, h1, h2, hm⟩
    · exact .inl e
    · by_cases h0 : x0.folk = []
      · exact .inl h0
      · exact .inr ⟨b, e, h1, Nat.lt_of_lt_of_le h2 hb.size, hm.under (ho.folk b 0 e (length_ne h0)) hb⟩
  · rcases h.o.mills.2 with e | ⟨b, e, h1, h2, hm⟩
    · exact .inl e
    · by_cases h0 : x0.mills = []
      · exact .inl h0
      · exact .inr ⟨b, e, h1, Nat.lt_of_lt_of_le h2 hb.size, hm.under (ho.mills b 0 e (length_ne h0)) hb⟩
  · rcases h.o.parts.2 with e | ⟨b, e, h1, h2, hm⟩
    · exact .inl e
    · by_cases h0 : x0.parts = []
      · exact .inl h0
      · exact .inr ⟨b, e, h1, Nat.lt_of_lt_of_le h2 hb.size, hm.under (ho.parts b 0 e (length_ne h0)) hb⟩
  · rcases h.o.waits.2 with e | ⟨b, e, h1, h2, hm⟩
    · exact .inl e
    · by_cases h0 : x0.waits = []
      · exact .inl h0
      · exact .inr ⟨b, e, h1, Nat.lt_of_lt_of_le h2 hb.size, hm.under (ho.waits b 0 e (length_ne h0)) hb⟩
end
end Go.Proofs.YtlnnchgaloejlaaGreat
namespace Go.Proofs.YtlnnchgaloejlaaGreat
open Go.ChangeShapes Go.WideShapes Go.ChangeAt Go.RowKit

theorem CellB.keepG {w w' : World} {X C : Nat} {b : Bok} {s : Spots} (h : CellB w X b s) (hg : w.grownBy w' (some C)) (hne : X ≠ C) : CellB w' X b s :=
  ⟨kept_cell hg h.c0 hne, kept_cell hg h.c1 hne, kept_cell hg h.c2 hne, kept_cell hg h.c3 hne, kept_cell hg h.c4 hne, kept_cell hg h.c5 hne, kept_cell hg h.c6 hne, kept_cell hg h.c7 hne⟩
theorem ann7 : (⟨#[97, 110, 110]⟩ : ByteArray).size ≤ 7 := by decide
theorem mia7 : (⟨#[109, 105, 97]⟩ : ByteArray).size ≤ 7 := by decide
/-- A draw under way: the cursor is right, and nothing that was there has turned but for it. -/
structure Way (w : World) (C : Nat) (a : Option Addr) (len cap : Nat) (W : World) : Prop where
  cur : Cur W C a len cap
  grown : w.grownBy W (some C)
  hC : C < w.heap.size
  old : ∀ b off, a = some ⟨b, off, none⟩ → 0 < len → b < w.heap.size
section
variable {w W W' : World} {C : Nat} {a : Option Addr} {len cap : Nat}
theorem Way.start (h : Cur w C a len cap) : Way w C a len cap w := ⟨h, grown_refl _ _, lt_of_cell h.c0, h.old⟩
theorem Way.draw (h : Way w C a len cap W) (hc : Cur W' C a len cap) (hg : W.grownBy W' (some C)) : Way w C a len cap W' := ⟨hc, grown_step h.grown hg, h.hC, h.old⟩
theorem Way.below (h : Way w C a len cap W) (hb : Below W.heap.size W W') : Way w C a len cap W' := ⟨h.cur.kept hb, grown_step h.grown (below_grown hb _), h.hC, h.old⟩
theorem Way.set (h : Way w C a len cap W) {B : Nat} (hB : w.heap.size ≤ B) (o : Nat) (v : Value) : Way w C a len cap (W.setCell ⟨B, o, none⟩ v) :=
  ⟨(cur_set h.cur h.grown h.hC h.old hB v).1, (cur_set h.cur h.grown h.hC h.old hB v).2, h.hC, h.old⟩
end

theorem l1Max_any (x y : Int) (w : World) : Calls Tryz.prog 131 #[.int .i64 x, .int .i64 y] w fun e w' => e = .returned (.int .i64 (max x y)) ∧ w = w' := by
  by_cases h : y < x
  · have e : max x y = x := by omega
    rw [e]
    clear e
    go_enter Tryz.func131, Tryz.ntmps131
    go_wp2
    go_ret
    exact ⟨rfl, rfl⟩
  · have e : max x y = y := by omega
    rw [e]
    clear e
    go_enter Tryz.func131, Tryz.ntmps131
    go_wp2
    go_ret
    exact ⟨rfl, rfl⟩
/-- A name that is drawn, or one that came. -/
def DrawnN (C : Nat) (a : Option Addr) (len cap : Nat) (w : World) (e : Ending) (w' : World) : Prop :=
  ∃ s : ByteArray, s.size ≤ maxLen ∧ e = .returned (.string s) ∧ Cur w' C a len cap ∧ w.grownBy w' (some C)
theorem seven_max {s : ByteArray} (h : s.size ≤ 7) : s.size ≤ maxLen := Nat.le_trans h (by unfold maxLen; omega)
theorem l2DrawSame_any {C : Nat} {a : Option Addr} {len cap : Nat} {w : World} (s : ByteArray) (hs : s.size ≤ maxLen) (h : Cur w C a len cap) :
    Calls Tryz.prog 130 #[.pointer (some ⟨C, 0, none⟩), .string s] w (DrawnN C a len cap w) := by
  go_enter Tryz.func130, Tryz.ntmps130
  go_wp2_with fail
  refine (sNameOk_any s _ hs).mono ?_
  rintro e w' ⟨rfl, rfl⟩
  cases nameB s
  · go_wp2_with fail
    refine (l2Draw_any h).mono ?_
    rintro e w2 ⟨t, ht, rfl, hc2, hg2⟩
    go_wp2
    go_ret
    exact ⟨t, seven_max ht, rfl, hc2, hg2⟩
  · go_wp2
    go_ret
    exact ⟨s, hs, rfl, h, grown_refl _ _⟩

/-- A part of right names and shares. -/
def PGood (p : Par) : Prop := p.who.size ≤ 7 ∧ p.mill.size ≤ 7 ∧ 1 ≤ p.shares ∧ p.shares ≤ 1000000000
def DrawnPt (C : Nat) (a : Option Addr) (len cap : Nat) (w : World) (e : Ending) (w' : World) : Prop :=
  ∃ p : Par, PGood p ∧ e = .returned (.agg #[.string p.who, .string p.mill, .int .i64 p.shares]) ∧ Cur w' C a len cap ∧ w.grownBy w' (some C)
theorem part_good {p : Par} (h : partB p = true) : PGood p := by
  have h1 := part_bd1 h
  simp only [partB, Bool.and_eq_true] at h
  have h2 := (nameB_true h.1).2.1
  have h3 := (nameB_true h.2.1).2.1
  exact ⟨by omega, by omega, h1.1, h1.2⟩
/-- The record is written into the result's block. -/
theorem end_part {w W : World} {C : Nat} {a : Option Addr} {len cap : Nat} {B : Nat} (h : Way w C a len cap W) (hB : w.heap.size ≤ B) (p : Par) (hp : PGood p) :
    DrawnPt C a len cap w (.returned (.agg #[.string p.who, .string p.mill, .int .i64 p.shares])) (((W.setCell ⟨B, 0, none⟩ (.string p.who)).setCell ⟨B, 1, none⟩ (.string p.mill)).setCell ⟨B, 2, none⟩ (.int .i64 p.shares)) := by
  have h3 := ((h.set hB 0 (.string p.who)).set hB 1 (.string p.mill)).set hB 2 (.int .i64 p.shares)
  exact ⟨p, hp, rfl, h3.cur, h3.grown⟩

set_option maxHeartbeats 8000000 in
set_option maxRecDepth 100000 in
theorem l10DrawPart_any {C B : Nat} {a : Option Addr} {len cap : Nat} {w : World} {b : Bok} {s : Spots} (h : Cur w C a len cap) (ho : OwnB w B b s) (hCB : C < B) (hp : partsB b.parts = true) :
    Calls Tryz.prog 129 #[.pointer (some ⟨C, 0, none⟩), .agg #[.int .i64 b.season, .int .i64 b.supply, .int .i64 b.burnt, .int .i64 b.pot, .slice s.fa b.folk.length s.fc, .slice s.ma b.mills.length s.mc, .slice s.pa b.parts.length s.pc, .slice s.wa b.waits.length s.wc]] w (DrawnPt C a len cap w) := by
  have hC : C < w.heap.size := lt_of_cell h.c0
  have HW := Lib.hid (Way.start h)
  have HO := Lib.hid ho
  have HP := Lib.hid hp
  have hp20 := (parts_true hp).1
  clear h ho hp
  have XC := Lib.hid (CellB.new w b s 29)
  obtain ⟨W0, hW0⟩ : ∃ W, w.alloc (.cells #[.int .i64 b.season, .int .i64 b.supply, .int .i64 b.burnt, .int .i64 b.pot, .slice s.fa b.folk.length s.fc, .slice s.ma b.mills.length s.mc, .slice s.pa b.parts.length s.pc, .slice s.wa b.waits.length s.wc] 29) = W := ⟨_, rfl⟩
  have hs0 : W0.heap.size = w.heap.size + 1 := by rw [← hW0]; simp
  have b0 := below_new w (.cells #[.int .i64 b.season, .int .i64 b.supply, .int .i64 b.burnt, .int .i64 b.pot, .slice s.fa b.folk.length s.fc, .slice s.ma b.mills.length s.mc, .slice s.pa b.parts.length s.pc, .slice s.wa b.waits.length s.wc] 29)
  rw [hW0] at XC b0
  have bz := below_new W0 (.cells #[.string ⟨#[]⟩, .string ⟨#[]⟩, .int .i64 0] 68)
  have R := Lib.hid (OutV.new W0 [.string ⟨#[]⟩, .string ⟨#[]⟩, .int .i64 0] 68)
  obtain ⟨W1, hW1⟩ : ∃ W, W0.alloc (.cells #[.string ⟨#[]⟩, .string ⟨#[]⟩, .int .i64 0] 68) = W := ⟨_, rfl⟩
  rw [show W0.alloc (.cells ([.string ⟨#[]⟩, .string ⟨#[]⟩, .int .i64 0] : List Value).toArray 68) = W1 from hW1, hs0] at R
  rw [hW1] at bz
  replace HW := Lib.hid (HW.out.below (below_trans b0 bz))
  replace HO := Lib.hid (HO.out.below (below_trans b0 bz))
  replace XC := Lib.hid (XC.out.below bz)
  clear b0 bz
  have x6 := XC.out.c6
  go_enter Tryz.func129, Tryz.ntmps129
  by_cases h0 : 0 < b.parts.length
  case neg =>
    obtain hz : b.parts.length = 0 := by omega
    have HZ := Lib.hid hz
    rw [hz] at x6
    clear hz h0
    go_wp2_with fail
    refine (l2DrawAny_any HW.out.cur).mono ?_
    rintro e w2 ⟨t, ht, rfl, hc2, hg2⟩
    replace HW := Lib.hid (HW.out.draw hc2 hg2)
    replace R := Lib.hid (R.out.keep hg2 (by omega))
    clear hc2 hg2 x6
    go_wp2_with fail
    refine (l1Below_any _ (HW.out.cur.kept (below_new _ _)) (by omega) (by omega)).mono ?_
    rintro e w3 ⟨x, ⟨hx, hx2⟩, rfl, hc3, hg3⟩
    have hlt2 := HW.out.grown.size
    have q0 := kept_cell (b := w2.heap.size) (o := 0) hg3 (by go_simp; rfl) (by omega)
    have q1 := kept_cell (b := w2.heap.size) (o := 1) hg3 (by go_simp; rfl) (by omega)
    replace HW := Lib.hid ((HW.out.below (below_new _ _)).draw hc3 hg3)
    replace R := Lib.hid ((R.out.below (below_new _ _)).keep hg3 (by omega))
    clear hc3 hg3
    have r0 := R.out.has 0 _ rfl
    have r1 := R.out.has 1 _ rfl
    have r2 := R.out.has 2 _ rfl
    have rf := R.out.free
    have hx3 : x = 0 ∨ x = 1 := by omega
    rcases hx3 with rfl | rfl
    · have HE := Lib.hid (end_part HW.out (B := w.heap.size + 1) (by omega) ⟨t, ⟨#[97, 110, 110]⟩, 5⟩ ⟨ht, ann7, (by show (1 : Int) ≤ 5; omega), (by show (5 : Int) ≤ 1000000000; omega)⟩)
      go_wp2
      exact bodyPost_ret (v := .agg #[.string t, .string ⟨#[97, 110, 110]⟩, .int .i64 5]) (by simp [results, Tryz.results129, go_sem, r0, r1, r2]) rfl HE.out
    · have HE := Lib.hid (end_part HW.out (B := w.heap.size + 1) (by omega) ⟨t, ⟨#[109, 105, 97]⟩, 5⟩ ⟨ht, mia7, (by show (1 : Int) ≤ 5; omega), (by show (5 : Int) ≤ 1000000000; omega)⟩)
      go_wp2
      exact bodyPost_ret (v := .agg #[.string t, .string ⟨#[109, 105, 97]⟩, .int .i64 5]) (by simp [results, Tryz.results129, go_sem, r0, r1, r2]) rfl HE.out
  have hd : decide ((b.parts.length : Int) > 0) = true := by simp; omega
  go_wp2_with fail
  refine (l1Once_any _ HW.out.cur (by omega) (by omega)).mono ?_
  rintro e w2 ⟨t, rfl, hc2, hg2⟩
  replace HW := Lib.hid (HW.out.draw hc2 hg2)
  replace R := Lib.hid (R.out.keep hg2 (by omega))
  replace HO := Lib.hid (HO.out.grown hg2 hCB)
  replace XC := Lib.hid (XC.out.keepG hg2 (by omega))
  clear hc2 hg2 x6
  cases t
  case true =>
    go_wp2_with fail
    refine (l2DrawAny_any HW.out.cur).mono ?_
    rintro e w3 ⟨t, ht, rfl, hc2, hg2⟩
    replace HW := Lib.hid (HW.out.draw hc2 hg2)
    replace R := Lib.hid (R.out.keep hg2 (by omega))
    clear hc2 hg2
    go_wp2_with fail
    refine (l1Below_any _ (HW.out.cur.kept (below_new _ _)) (by omega) (by omega)).mono ?_
    rintro e w4 ⟨x, ⟨hx, hx2⟩, rfl, hc3, hg3⟩
    have hlt2 := HW.out.grown.size
    have q0 := kept_cell (b := w3.heap.size) (o := 0) hg3 (by go_simp; rfl) (by omega)
    have q1 := kept_cell (b := w3.heap.size) (o := 1) hg3 (by go_simp; rfl) (by omega)
    replace HW := Lib.hid ((HW.out.below (below_new _ _)).draw hc3 hg3)
    replace R := Lib.hid ((R.out.below (below_new _ _)).keep hg3 (by omega))
    clear hc3 hg3
    have r0 := R.out.has 0 _ rfl
    have r1 := R.out.has 1 _ rfl
    have r2 := R.out.has 2 _ rfl
    have rf := R.out.free
    have hx3 : x = 0 ∨ x = 1 := by omega
    rcases hx3 with rfl | rfl
    · have HE := Lib.hid (end_part HW.out (B := w.heap.size + 1) (by omega) ⟨t, ⟨#[97, 110, 110]⟩, 5⟩ ⟨ht, ann7, (by show (1 : Int) ≤ 5; omega), (by show (5 : Int) ≤ 1000000000; omega)⟩)
      go_wp2
      exact bodyPost_ret (v := .agg #[.string t, .string ⟨#[97, 110, 110]⟩, .int .i64 5]) (by simp [results, Tryz.results129, go_sem, r0, r1, r2]) rfl HE.out
    · have HE := Lib.hid (end_part HW.out (B := w.heap.size + 1) (by omega) ⟨t, ⟨#[109, 105, 97]⟩, 5⟩ ⟨ht, mia7, (by show (1 : Int) ≤ 5; omega), (by show (5 : Int) ≤ 1000000000; omega)⟩)
      go_wp2
      exact bodyPost_ret (v := .agg #[.string t, .string ⟨#[109, 105, 97]⟩, .int .i64 5]) (by simp [results, Tryz.results129, go_sem, r0, r1, r2]) rfl HE.out
  have x6 := XC.out.c6
  obtain ⟨xp, ep⟩ := rooted_own HO.out.parts h0
  have EP := Lib.hid ep
  rw [ep] at x6
  clear ep
  go_wp2_with fail
  go_region_with (go_at_call 51; refine (l1Below_any _ (HW.out.cur.kept (below_draws (Below.refl _ _) 1)) (by omega) (by omega)).mono ?_; rintro e w4 ⟨x, ⟨hx, hx2⟩, rfl, hc3, hg3⟩; obtain ⟨j, rfl⟩ : ∃ j : Nat, x = j := (⟨x.toNat, by omega⟩); have hj : j < b.parts.length := (by omega); have HW4 := Lib.hid (HW.out.draw hc3 (undrew hg3)); have R4 := Lib.hid (R.out.keep (undrew hg3) (by omega)); have HO4 := Lib.hid (HO.out.grown (undrew hg3) hCB); have x64 := (XC.out.keepG (undrew hg3) (by omega)).c6; rw [EP.out] at x64; obtain ⟨p4, o4, e4, -, m0, m1, m2⟩ := Par.at HO4.out.at.parts j hj; rw [EP.out] at e4; obtain ⟨rfl, rfl⟩ : p4 = xp ∧ o4 = 0 := (by injection e4 with e4; injection e4 with e1 e2; exact ⟨e1.symm, e2.symm⟩); clear e4 hc3 hg3; simp only [Nat.zero_add] at m0 m1 m2; have r0 := R4.out.has 0 _ rfl; have r1 := R4.out.has 1 _ rfl; have r2 := R4.out.has 2 _ rfl; have rf := R4.out.free)
  all_goals
    have HE := Lib.hid (end_part HW4.out (B := w.heap.size + 1) (by omega) b.parts[j] (part_good ((parts_true HP.out).2.1 j hj hj)))
    go_wp2
    exact bodyPost_ret (v := .agg #[.string b.parts[j].who, .string b.parts[j].mill, .int .i64 b.parts[j].shares]) (by simp [results, Tryz.results129, go_sem, r0, r1, r2]) rfl HE.out
end Go.Proofs.YtlnnchgaloejlaaGreat
