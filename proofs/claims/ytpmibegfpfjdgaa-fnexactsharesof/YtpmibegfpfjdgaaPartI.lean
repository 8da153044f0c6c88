/-
  What the program's Gave and Took answer, at every list of parts.
-/
import Derived.Test.YtpmibegfpfjdgaaPartC
namespace Go.Proofs.Ytpmibegfpfjdgaa
open Go.ChangeShapes Go.WideShapes Go.ChangeAt Go.RowKit

/-- Where a new one goes, all that is ahead is ahead of it, and it is ahead of all that is behind. -/
theorem low_split (p : Par) : ∀ {ps : List Par}, ps.Pairwise KeyLt → (∀ q ∈ ps, isB q p.who p.mill = false) → (∀ q ∈ ps.take (lowAt ps p.who p.mill), KeyLt q p) ∧ ∀ q ∈ ps.drop (lowAt ps p.who p.mill), KeyLt p q
  | [], _, _ => by simp
  | x :: r, hu, hn => by
    obtain ⟨h1, h2⟩ := List.pairwise_cons.1 hu
    have ih := low_split p h2 (fun q hq => hn q (by simp [hq]))
    cases hx : lessB x p.who p.mill
    · have e : lowAt (x :: r) p.who p.mill = 0 := by simp [lowAt, hx]
      rw [e]
      refine ⟨by simp, fun q hq => ?_⟩
      have hpx : KeyLt p x := by
        rcases key_cases x p with h | h | h
        · rw [show lessB x p.who p.mill = true from h] at hx; cases hx
        · have := hn x (by simp)
          rw [show isB x p.who p.mill = true by simp [isB, h.1, h.2]] at this; cases this
        · exact h
      rw [List.drop_zero] at hq
      rcases List.mem_cons.1 hq with rfl | hq
      · exact hpx
      · exact hpx.trans (h1 q hq)
    · have e : lowAt (x :: r) p.who p.mill = lowAt r p.who p.mill + 1 := by simp [lowAt, hx]
      rw [e, List.take_succ_cons, List.drop_succ_cons]
      refine ⟨fun q hq => ?_, ih.2⟩
      rcases List.mem_cons.1 hq with rfl | hq
      · exact hx
      · exact ih.1 q hq
theorem put_up {p : Par} {ps : List Par} (hu : ps.Pairwise KeyLt) (hn : ∀ q ∈ ps, isB q p.who p.mill = false) : (ps.take (lowAt ps p.who p.mill) ++ [p] ++ ps.drop (lowAt ps p.who p.mill)).Pairwise KeyLt := by
  obtain ⟨h1, h2⟩ := low_split p hu hn
  rw [List.append_assoc, List.pairwise_append]
  refine ⟨hu.take, ?_, ?_⟩
  · rw [List.singleton_append, List.pairwise_cons]
    exact ⟨h2, hu.drop⟩
  · intro x hx y hy
    rcases List.mem_append.1 hy with hy | hy
    · rw [List.mem_singleton] at hy; subst hy; exact h1 x hx
    · exact (h1 x hx).trans (h2 y hy)
theorem put_perm (p : Par) (ps : List Par) (k : Nat) : (ps.take k ++ [p] ++ ps.drop k).Perm (p :: ps) := by
  rw [List.append_assoc, List.singleton_append]
  refine List.perm_middle.trans ?_
  rw [List.take_append_drop]
/-- Without the one at k. -/
theorem without_at {ps : List Par} (hs : PSized ps) (hu : ps.Pairwise KeyLt) {k : Nat} (hk : k < ps.length) {p : Par} (he : ps[k].who = p.who ∧ ps[k].mill = p.mill) : (ps.take k ++ ps.drop (k + 1)).Perm (without keyL (keyL p) ps) := by
  have h1 := without_perm keyK (up_apart hs hu) (keys_of hs) (List.getElem_mem hk)
  rw [key_same he] at h1
  have h2 : ps.Perm (ps[k] :: (ps.take k ++ ps.drop (k + 1))) := by
    have : ps = ps.take k ++ ps[k] :: ps.drop (k + 1) := by rw [List.getElem_cons_drop, List.take_append_drop]
    exact (List.Perm.of_eq this).trans List.perm_middle
  exact List.Perm.cons_inv (h2.symm.trans h1)
theorem set_perm {ps : List Par} (hs : PSized ps) (hu : ps.Pairwise KeyLt) {k : Nat} (hk : k < ps.length) {who mill : ByteArray} (he : ps[k].who = who ∧ ps[k].mill = mill) (v : Int) : (setSh ps k v).Perm (⟨who, mill, v⟩ :: without keyL (keyL ⟨who, mill, v⟩) ps) := by
  rw [setSh_set, patn_eq hk, he.1, he.2, List.set_eq_take_append_cons_drop, if_pos hk]
  exact List.perm_middle.trans ((without_at hs hu hk (p := ⟨who, mill, v⟩) he).cons _)

section
variable {ps : List Par} {who mill : ByteArray} {n : Int}
theorem parB_split (p : Par) : partB p = (nameB p.who && (nameB p.mill && inB 1 1000000000 p.shares)) := rfl
/-- Gave. -/
theorem gave_of (hs : PSized ps) (hw : who.size ≤ maxLen) (hm : mill.size ≤ maxLen) {ok : Bool} {X out : List Par} (h : ChangedV ps who mill n 1 ok X) (hp : out.Perm X) (hu : out.Pairwise KeyLt) : out = gaveL ps who mill n ∧ ok = gaveB ps who mill n := by
  rcases h with ⟨hno, rfl, rfl⟩ | ⟨hf, hn, h⟩
  · cases hf : partsB ps
    · obtain ⟨h1, h2⟩ := gave_no (who := who) (mill := mill) (n := n) hf
      rw [held_no hf] at hp
      rw [h1, h2]
      exact ⟨hp.eq_nil, rfl⟩
    · have hn : inB 1 1000000000 n = false := by
        cases hn : inB 1 1000000000 n
        · rfl
        · exact absurd ⟨hf, hn⟩ hno
      have hb := gave_n (ps := ps) (who := who) (mill := mill) hn
      rw [held_yes hf] at hp
      rw [gave_keep hf hb, hb]
      exact ⟨up_one hp hu (parts_pair.1 hf).2.2, rfl⟩
  · obtain ⟨h20, hr, hup⟩ := parts_pair.1 hf
    obtain ⟨hn1, hn2⟩ := inB_true hn
    rw [Int.one_mul] at h
    have hv := valP_of hs hf hw hm
    by_cases hfi : 0 ≤ pfindV ps who mill
    · obtain ⟨k, e, hk, hq⟩ := pfind_hit hfi
      have hb := part_bd1 (hr _ (List.getElem_mem hk))
      rw [sharesOf_hit hf e hk] at hv
      rw [hv] at h
      obtain ⟨e1, e2⟩ := is_parts hq
      have he : ps[k].who = who ∧ ps[k].mill = mill := ⟨bytes_same e1, bytes_same e2⟩
      have hg : giveAt ps who mill n = setSh ps k (ps[k].shares + n) := by
        rw [giveAt, if_pos hfi, e]; simp [patn_eq hk]
      have hpk : nameB who = true ∧ nameB mill = true := by
        have := hr _ (List.getElem_mem hk)
        rw [parB_split, he.1, he.2] at this
        simp only [Bool.and_eq_true] at this
        exact ⟨this.1, this.2.1⟩
      rcases h with ⟨h, -⟩ | ⟨-, h, rfl, eX⟩ | ⟨-, h, -, rfl, rfl⟩
      · simp only at h; omega
      · have hin : inB 1 1000000000 (ps[k].shares + n) = false := by
          rcases h with h | ⟨h, -⟩
          · rw [parB_split] at h; simp only [hpk.1, hpk.2, Bool.true_and] at h; exact h
          · simp only at h; omega
        have hbad : partsB (giveAt ps who mill n) = false := by
          rw [hg]
          refine parts_not (k := k) (by rw [setSh_length]; exact hk) ?_
          obtain ⟨a1, a2, a3⟩ := setSh_at ps k (ps[k].shares + n) k (by rw [setSh_length]; exact hk)
          rw [parB_split, a3, if_pos rfl, hin]; simp
        have hb2 := gave_not (ps := ps) (who := who) (mill := mill) hbad
        rw [gave_keep hf hb2, hb2]
        exact ⟨up_one (eX ▸ hp) hu hup, rfl⟩
      · rw [parB_split] at h
        simp only [hpk.1, hpk.2, Bool.true_and] at h
        have hok : partsB (giveAt ps who mill n) = true := by rw [hg]; exact parts_set hf h
        obtain ⟨g1, g2⟩ := gave_yes hf hn hok
        rw [g1, g2]
        refine ⟨up_one (hp.trans ?_) hu (parts_pair.1 hok).2.2, rfl⟩
        rw [hg]
        exact (set_perm hs hup hk he _).symm
    · have hlo := pfind_lo ps who mill
      have hnone := pfind_neg hfi
      rw [sharesOf_none hf (by omega)] at hv
      rw [hv, Int.zero_add] at h
      have hg : giveAt ps who mill n = ps.take (lowAt ps who mill) ++ [⟨who, mill, n⟩] ++ ps.drop (lowAt ps who mill) := by rw [giveAt, if_neg hfi]
      have hw0 : without keyL (keyL ⟨who, mill, n⟩) ps = ps := by
        refine without_none keyK (keys_of hs) (fun x hx e => ?_)
        have := same_is (psized_mem.1 hs x hx) hw hm
        rw [hnone x hx] at this
        rw [show keyAt who mill = keyL x from e.symm, (same_iff keyK (keys_of hs x hx)).2 rfl] at this
        cases this
      have hperm := put_perm ⟨who, mill, n⟩ ps (lowAt ps who mill)
      rcases h with ⟨h, -⟩ | ⟨-, h, rfl, eX⟩ | ⟨-, h, hno, rfl, rfl⟩
      · simp only at h; omega
      · have hbad : partsB (giveAt ps who mill n) = false := by
          cases hq : partsB (giveAt ps who mill n)
          · rfl
          · exfalso
            obtain ⟨q1, q2, -⟩ := parts_pair.1 hq
            rw [hg] at q1 q2
            rcases h with h | ⟨-, h⟩
            · have := q2 ⟨who, mill, n⟩ (by simp)
              rw [h] at this; cases this
            · have := hperm.length_eq
              rw [List.length_cons] at this
              omega
        have hb2 := gave_not (ps := ps) (who := who) (mill := mill) hbad
        rw [gave_keep hf hb2, hb2]
        exact ⟨up_one (eX ▸ hp) hu hup, rfl⟩
      · have hok : partsB (giveAt ps who mill n) = true := by
          refine parts_pair.2 ⟨?_, ?_, ?_⟩
          · rw [hg, hperm.length_eq, List.length_cons]
            have : ¬ ps.length = 20 := fun e => hno ⟨hv, e⟩
            omega
          · intro q hq
            rw [hg] at hq
            rcases List.mem_cons.1 (hperm.mem_iff.1 hq) with rfl | hq
            · exact h
            · exact hr q hq
          · rw [hg]; exact put_up (p := ⟨who, mill, n⟩) hup hnone
        obtain ⟨g1, g2⟩ := gave_yes hf hn hok
        rw [g1, g2]
        refine ⟨up_one (hp.trans ?_) hu (parts_pair.1 hok).2.2, rfl⟩
        rw [hg, hw0]
        exact hperm.symm
/-- Took. -/
theorem took_of (hs : PSized ps) (hw : who.size ≤ maxLen) (hm : mill.size ≤ maxLen) {ok : Bool} {X out : List Par} (h : ChangedV ps who mill n (-1) ok X) (hp : out.Perm X) (hu : out.Pairwise KeyLt) : out = tookL ps who mill n ∧ ok = tookB ps who mill n := by
  rcases h with ⟨hno, rfl, rfl⟩ | ⟨hf, hn, h⟩
  · cases hf : partsB ps
    · obtain ⟨h1, h2⟩ := took_no (who := who) (mill := mill) (n := n) hf
      rw [held_no hf] at hp
      rw [h1, h2]
      exact ⟨hp.eq_nil, rfl⟩
    · have hn : inB 1 1000000000 n = false := by
        cases hn : inB 1 1000000000 n
        · rfl
        · exact absurd ⟨hf, hn⟩ hno
      have hb : tookB ps who mill n = false := by
        by_cases hfi : 0 ≤ pfindV ps who mill
        · obtain ⟨k, e, hk, hq⟩ := pfind_hit hfi
          have hb := part_bd1 ((parts_pair.1 hf).2.1 _ (List.getElem_mem hk))
          refine took_n e hk ?_
          cases hi : inB 1 ps[k].shares n
          · rfl
          · have := inB_true hi
            rw [show inB 1 1000000000 n = true by simp [inB]; omega] at hn; cases hn
        · exact took_out hfi
      rw [held_yes hf] at hp
      rw [took_keep hf hb, hb]
      exact ⟨up_one hp hu (parts_pair.1 hf).2.2, rfl⟩
  · obtain ⟨h20, hr, hup⟩ := parts_pair.1 hf
    obtain ⟨hn1, hn2⟩ := inB_true hn
    have hv := valP_of hs hf hw hm
    by_cases hfi : 0 ≤ pfindV ps who mill
    · obtain ⟨k, e, hk, hq⟩ := pfind_hit hfi
      have hb := part_bd1 (hr _ (List.getElem_mem hk))
      rw [sharesOf_hit hf e hk] at hv
      rw [hv, show ps[k].shares + -1 * n = ps[k].shares - n by omega] at h
      obtain ⟨e1, e2⟩ := is_parts hq
      have he : ps[k].who = who ∧ ps[k].mill = mill := ⟨bytes_same e1, bytes_same e2⟩
      have hpk : nameB who = true ∧ nameB mill = true := by
        have := hr _ (List.getElem_mem hk)
        rw [parB_split, he.1, he.2] at this
        simp only [Bool.and_eq_true] at this
        exact ⟨this.1, this.2.1⟩
      rcases h with ⟨h, rfl, rfl⟩ | ⟨h0, h, rfl, eX⟩ | ⟨h0, h, -, rfl, rfl⟩
      · simp only at h
        have hin : inB 1 ps[k].shares n = true := by simp [inB]; omega
        obtain ⟨t1, t2⟩ := took_yes hf e hk hin
        rw [t1, t2, takeAt, patn_eq hk, if_pos h]
        refine ⟨up_one (hp.trans (without_at hs hup hk (p := ⟨who, mill, ps[k].shares - n⟩) he).symm) hu ?_, rfl⟩
        refine List.Pairwise.sublist ?_ hup
        conv => rhs; rw [← List.take_append_drop k ps]
        exact List.Sublist.append (List.Sublist.refl _) (by rw [← List.drop_drop]; exact List.drop_sublist _ _)
      · simp only at h0
        have hin : inB 1 1000000000 (ps[k].shares - n) = false := by
          rcases h with h | ⟨h, -⟩
          · rw [parB_split] at h; simp only [hpk.1, hpk.2, Bool.true_and] at h; exact h
          · simp only at h; omega
        have hlt : inB 1 ps[k].shares n = false := by
          cases hi : inB 1 ps[k].shares n
          · rfl
          · have := inB_true hi
            rw [show inB 1 1000000000 (ps[k].shares - n) = true by simp [inB]; omega] at hin; cases hin
        have hb2 := took_n e hk hlt
        rw [took_keep hf hb2, hb2]
        exact ⟨up_one (eX ▸ hp) hu hup, rfl⟩
      · simp only at h0
        rw [parB_split] at h
        simp only [hpk.1, hpk.2, Bool.true_and] at h
        have hin' := inB_true h
        have hin : inB 1 ps[k].shares n = true := by simp [inB]; omega
        obtain ⟨t1, t2⟩ := took_yes hf e hk hin
        rw [t1, t2, takeAt, patn_eq hk, if_neg h0]
        exact ⟨up_one (hp.trans (set_perm hs hup hk he _).symm) hu (parts_pair.1 (parts_set hf h)).2.2, rfl⟩
    · have hlo := pfind_lo ps who mill
      rw [sharesOf_none hf (by omega)] at hv
      rw [hv] at h
      have hb2 := took_out (n := n) hfi
      rcases h with ⟨h, -⟩ | ⟨-, -, rfl, eX⟩ | ⟨-, h, -⟩
      · simp only at h; omega
      · rw [took_keep hf hb2, hb2]
        exact ⟨up_one (eX ▸ hp) hu hup, rfl⟩
      · rw [parB_split] at h
        simp only [Bool.and_eq_true] at h
        have := inB_true h.2.2
        omega
end

theorem for_sized {ps : List Par} (hs : PSized ps) (who : ByteArray) : PSized (partsForV ps who) := by
  unfold partsForV
  split
  · rw [psized_mem] at hs ⊢
    exact fun p hp => hs p (List.mem_filter.1 hp).1
  · intro k hk; simp at hk
theorem changed_own {out : List Par} {ok ok' : Bool} {L : List Par} {w w' : World} {g c : Nat} (he : out = L ∧ ok = ok') (ho : w'.ownsRow w.heap.size 37 3 (.slice (some ⟨g, 0, none⟩) out.length c) out.length (out.flatMap Par.cs)) (hb : Below w.heap.size w w') : ResOB Par.cs 3 L ok' w (.returned (.tuple #[.slice (some ⟨g, 0, none⟩) out.length c, .bool ok])) w' := by
  obtain ⟨rfl, rfl⟩ := he
  exact resRB_own Par.len ⟨g, c, rfl, ho, hb⟩

set_option maxHeartbeats 1000000 in
set_option maxRecDepth 100000 in
theorem iGave_any {w : World} {a : Option Addr} {ps : List Par} (cap : Nat) (who mill : ByteArray) (n : Int) (h : Recs Par.cs w a ps) (_ : ps.length ≤ cap) (hl : ps.length ≤ 1048576) (hs : PSized ps) (hsw : who.size ≤ maxLen) (hsm : mill.size ≤ maxLen) :
    Calls Try.prog 12 #[.slice a ps.length cap, .string who, .string mill, .int .i64 n] w (ResOB Par.cs 3 (gaveL ps who mill n) (gaveB ps who mill n) w) := by
  have hc := iChanged_any cap who mill n 1 h hs (by omega) hsw hsm (.inl rfl)
  have HC := Lib.hid hc
  have HG : Hid (∀ {ok X out}, ChangedV ps who mill n 1 ok X → out.Perm X → out.Pairwise KeyLt → out = gaveL ps who mill n ∧ ok = gaveB ps who mill n) := fun h => gave_of hs hsw hsm h
  clear h hs hsw hsm hc
  go_enter Try.func12, Try.ntmps12
  go_wp2_with fail
  refine HC.out.mono ?_
  rintro e w' ⟨ok, X, out, g, c, rfl, hp, hu, ho, hb, hV⟩
  have HN := Lib.hid (changed_own (HG.out hV hp hu) ho hb)
  clear hp hu ho hb hV
  go_wp2
  go_ret2
  exact HN.out

set_option maxHeartbeats 1000000 in
set_option maxRecDepth 100000 in
theorem iTook_any {w : World} {a : Option Addr} {ps : List Par} (cap : Nat) (who mill : ByteArray) (n : Int) (h : Recs Par.cs w a ps) (_ : ps.length ≤ cap) (hl : ps.length ≤ 1048576) (hs : PSized ps) (hsw : who.size ≤ maxLen) (hsm : mill.size ≤ maxLen) :
    Calls Try.prog 14 #[.slice a ps.length cap, .string who, .string mill, .int .i64 n] w (ResOB Par.cs 3 (tookL ps who mill n) (tookB ps who mill n) w) := by
  have hc := iChanged_any cap who mill n (-1) h hs (by omega) hsw hsm (.inr rfl)
  have HC := Lib.hid hc
  have HG : Hid (∀ {ok X out}, ChangedV ps who mill n (-1) ok X → out.Perm X → out.Pairwise KeyLt → out = tookL ps who mill n ∧ ok = tookB ps who mill n) := fun h => took_of hs hsw hsm h
  clear h hs hsw hsm hc
  go_enter Try.func14, Try.ntmps14
  go_wp2_with fail
  refine HC.out.mono ?_
  rintro e w' ⟨ok, X, out, g, c, rfl, hp, hu, ho, hb, hV⟩
  have HN := Lib.hid (changed_own (HG.out hV hp hu) ho hb)
  clear hp hu ho hb hV
  go_wp2
  go_ret2
  exact HN.out
end Go.Proofs.Ytpmibegfpfjdgaa
