/-
  'markText' of the laws: the text of a mark, one for each number.
-/
import Derived.Test.YtbgklakhelcgcaaMem
import Derived.Laws.IdiomStrings
namespace Go.Proofs.Ytbgklakhelcgcaa
open Go.ChangeShapes Go.WideShapes Go.ChangeAt Go.RowKit

/-- The last digit of k. -/
def digB (k : Nat) : UInt8 := UInt8.ofNat (48 + k % 10)
/-- So many more digits of k ahead of what is there. -/
def digs : Nat → Nat → ByteArray → ByteArray
  | 0, _, s => s
  | f + 1, k, s => if k = 0 then s else digs f (k / 10) (⟨#[digB k]⟩ ++ s)
/-- The text of a mark. -/
def markB (k : Nat) : ByteArray := ⟨#[109]⟩ ++ digs 10 k ByteArray.empty

theorem conv_byte (n : Nat) (h : n < 256) (w : World) :
    (convert 69 9 (.slice (some ⟨w.heap.size, 0, none⟩) 1 1)).run Try.prog (w.alloc (.cells #[.int .u8 (n : Int)] 5)) = .ok (.string ⟨#[UInt8.ofNat n]⟩) (w.alloc (.cells #[.int .u8 (n : Int)] 5)) := by
  have hn : (UInt8.ofNat n).toNat = n := by simp; omega
  exact run_convert_bytes_back (P := Try.prog) (w.alloc (.cells #[.int .u8 (n : Int)] 5)) 69 9 5 ⟨w.heap.size, 0, none⟩ 1 [UInt8.ofNat n] Try.underlying69 Try.underlying5 Try.underlying9 (fun j hj => by
    match j, hj with
    | 0, _ => simp only [List.getElem_cons_zero, hn]; simp [Addr.add])

set_option maxHeartbeats 1000000 in
set_option maxRecDepth 100000 in
theorem markText_any (k : Nat) (h0 : 0 < k) (h1 : k ≤ 10000000) (w : World) :
    Calls Try.prog 25 #[.int .i64 k] w fun e w' => e = .returned (.string (markB k)) ∧ Below w.heap.size w w' := by
  go_enter Try.func25, Try.ntmps25
  go_wp2
  go_loopw [0, 3] (fun n t w' => ∃ (f m : Nat) (s : ByteArray), n = .int .i64 m ∧ t = .string s ∧ m < 10 ^ f ∧ m ≤ 10000000 ∧ s.size + f ≤ 10 ∧ digs f m s = digs 10 k ByteArray.empty ∧ Below w.heap.size w w') (fun n _ _ => (intOf n).toNat)
  case atStart => exact ⟨10, k, ByteArray.empty, rfl, rfl, by omega, h1, by decide, rfl, Below.refl _ _⟩
  case round =>
    obtain ⟨f, m, s, rfl, rfl, hm, hm2, hs, he, hb⟩ := hrel
    have HE := Lib.hid he
    have HB := Lib.hid hb
    clear he hb
    by_cases hz : 0 < m
    · cases f with
      | zero => simp at hm; omega
      | succ f =>
        have HN : Hid (digs f (m / 10) (⟨#[digB m]⟩ ++ s) = digs 10 k ByteArray.empty) := by
          have := HE.out
          rw [digs, if_neg (by omega)] at this
          exact this
        have hm3 : m / 10 < 10 ^ f := by rw [Nat.pow_succ] at hm; omega
        have hcv := conv_byte (48 + m % 10) (by omega) wr
        rw [show ((48 + m % 10 : Nat) : Int) = 48 + (m : Int) % 10 by omega, show UInt8.ofNat (48 + m % 10) = digB m from rfl] at hcv
        have hdv : ((m : Int) / 10) = ((m / 10 : Nat) : Int) := by omega
        have HD := Lib.hid hdv
        have hsz : ((⟨#[digB m]⟩ : ByteArray) ++ s).size + f ≤ 10 := by
          rw [ByteArray.size_append]
          have : (⟨#[digB m]⟩ : ByteArray).size = 1 := rfl
          omega
        clear hm HE hdv
        go_wp2
        go_roundw
        case rel => exact ⟨f, m / 10, _, by rw [HD.out], rfl, hm3, by omega, hsz, HN.out, HB.out.alloc HB.out.size _⟩
        case measure => simp [intOf]; omega
    · obtain rfl : m = 0 := by omega
      have HN : Hid (s = digs 10 k ByteArray.empty) := by
        have := HE.out
        cases f with
        | zero => exact this
        | succ f => rw [digs, if_pos rfl] at this; exact this
      clear HE
      go_wp2
      go_ret
      exact ⟨by rw [HN.out]; rfl, HB.out⟩
end Go.Proofs.Ytbgklakhelcgcaa
