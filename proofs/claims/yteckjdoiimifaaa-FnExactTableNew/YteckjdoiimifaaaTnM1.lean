/- The contract of laws.markText, over the seat's translation. -/
import Derived.Test.YteckjdoiimifaaaShS2
import Derived.Laws.IdiomStrings
namespace Go.Proofs.Yteckjdoiimifaaa
open Go.RowKit

/-- The decimals of n ahead of a text. -/
def mt (n : Nat) (s : ByteArray) : ByteArray := if n = 0 then s else mt (n / 10) (⟨#[UInt8.ofNat (48 + n % 10)]⟩ ++ s)
termination_by n
def markT (n : Nat) : ByteArray := ⟨#[109]⟩ ++ mt n ⟨#[]⟩

theorem mt_zero (s : ByteArray) : mt 0 s = s := by rw [mt]; simp
theorem mt_next (n : Nat) (s : ByteArray) (h : 0 < n) : mt n s = mt (n / 10) (⟨#[UInt8.ofNat (48 + n % 10)]⟩ ++ s) := by
  rw [mt, if_neg (by omega)]

theorem conv_one (W : World) (m : Nat) : ∃ u : UInt8, u = UInt8.ofNat (48 + m % 10) ∧
    (convert 103 9 (.slice (some ⟨W.heap.size, 0, none⟩) 1 1)).run Try.prog (W.alloc (.cells #[.int .u8 (48 + (m : Int) % 10)] 5)) = .ok (.string ⟨#[u]⟩) (W.alloc (.cells #[.int .u8 (48 + (m : Int) % 10)] 5)) := by
  have hb : ((UInt8.ofNat (48 + m % 10)).toNat : Int) = 48 + (m : Int) % 10 := by
    have : (UInt8.ofNat (48 + m % 10)).toNat = 48 + m % 10 := by simp; omega
    omega
  exact ⟨_, rfl, run_convert_bytes_back _ _ _ 5 _ 1 [UInt8.ofNat (48 + m % 10)] Try.underlying103 Try.underlying5 Try.underlying9 (fun j hj => by
    have : j = 0 := by simp at hj; omega
    subst this
    simp only [List.getElem_cons_zero, hb]; simp [Addr.add, go_sem])⟩

set_option maxRecDepth 100000 in
set_option maxHeartbeats 1000000 in
theorem mark_text (n : Nat) (w : World) (h0 : 0 < n) (hn : n ≤ 100000000) :
    Calls Try.prog 32 #[.int .i64 n] w fun e w' => e = .returned (.string (markT n)) ∧ Below w.heap.size w w' := by
  go_enter Try.func32, Try.ntmps32
  go_wp2_with fail
  go_loopw [0, 3] (fun i s wr => ∃ (m : Nat) (t : ByteArray), m + t.size ≤ n ∧ i = .int .i64 m ∧ s = .string t ∧ Hid (mt m t = mt n ⟨#[]⟩ ∧ Below w.heap.size w wr)) (fun i _ _ => (intOf i).toNat)
  case atStart => exact ⟨n, ⟨#[]⟩, Nat.le_refl _, rfl, rfl, rfl, Below.refl _ _⟩
  case round =>
    obtain ⟨m, t, hmt, rfl, rfl, hH⟩ := hrel
    by_cases hm : 0 < m
    · have hm' : (0 : Int) < m := by omega
      obtain ⟨u, hu, hcv⟩ := conv_one wr m
      have hU : Hid (u = UInt8.ofNat (48 + m % 10)) := hu
      have hts : t.size ≤ 100000000 := by omega
      have hmm : m ≤ 100000000 := by omega
      clear hn hu
      go_wp2_with fail
      go_roundw
      case rel =>
        refine ⟨m / 10, ⟨#[u]⟩ ++ t, ?_, ?_, rfl, ?_, hH.out.2.alloc hH.out.2.size _⟩
        · rw [ByteArray.size_append, show (⟨#[u]⟩ : ByteArray).size = 1 from rfl]
          omega
        · go_num
        · rw [hU.out, ← mt_next m t hm]
          exact hH.out.1
      case measure => simp [intOf]; omega
    · have : m = 0 := by omega
      subst this
      go_wp2_with fail
      go_ret
      refine ⟨?_, hH.out.2⟩
      have := hH.out.1
      rw [mt_zero] at this
      subst this
      rfl

end Go.Proofs.Yteckjdoiimifaaa
