/- The contract of the document's PrintLevel. -/
import Derived.Test.YtjlibnijecdgcaaGreatDoorTokName
import Derived.Test.YtjlibnijecdgcaaGreatDoorGRow
import Derived.Test.YtjlibnijecdgcaaGreatDoorKin
import Derived.Laws.IdiomStrings
import Derived.Test.YtjlibnijecdgcaaGreatDoorDTermD

namespace Go.Proofs.YtjlibnijecdgcaaGreatDoor
open Go.RowKit

theorem ret_str {a b : ByteArray} (h : a = b) : Ending.returned (.string a) = .returned (.string b) := by rw [h]

end Go.Proofs.YtjlibnijecdgcaaGreatDoor

/- The contracts of the document's digits and PrintTerm. -/
namespace Go.Proofs.YtjlibnijecdgcaaGreatDoor
open Go.RowKit

set_option maxRecDepth 100000 in
theorem digit_conv (n : Nat) (w : World) : ∃ c : UInt8, c = UInt8.ofNat (48 + n % 10) ∧ (convert 53 9 (.slice (some ⟨w.heap.size, 0, none⟩) 1 1)).run Tryz.prog (w.alloc (.cells #[.int .u8 (48 + (n : Int) % 10)] 5)) = .ok (.string ⟨#[c]⟩) (w.alloc (.cells #[.int .u8 (48 + (n : Int) % 10)] 5)) := by
  obtain ⟨c, hc⟩ : ∃ c : UInt8, c = UInt8.ofNat (48 + n % 10) := ⟨_, rfl⟩
  have e : (c.toNat : Int) = 48 + (n : Int) % 10 := by
    rw [hc, UInt8.toNat_ofNat']
    omega
  refine ⟨c, hc, run_convert_bytes_back (P := Tryz.prog) _ 53 9 5 ⟨w.heap.size, 0, none⟩ 1 [c] Tryz.underlying53 Tryz.underlying5 Tryz.underlying9 fun j hj => ?_⟩
  match j, hj with
  | 0, _ => simp [Addr.add, e]
  | j + 1, hj => exact absurd hj (by simp)

theorem WordsAt.word {w : World} {wb wo wc : Nat} (h : WordsAt w wb wo wc) {k : Nat} (h1 : 1 ≤ k) (h6 : k ≤ 6) : w.cell? ⟨wb, wo + k, none⟩ = some (.string (tword k)) := by
  match k, h1, h6 with
  | 1, _, _ => exact h.c1
  | 2, _, _ => exact h.c2
  | 3, _, _ => exact h.c3
  | 4, _, _ => exact h.c4
  | 5, _, _ => exact h.c5
  | 6, _, _ => exact h.c6
theorem tword_size (k : Nat) : (tword k).size ≤ 5 := by unfold tword; split <;> decide

theorem str_open2 (t : Tm) (h : t.kd = 2) : (⟨#[40]⟩ : ByteArray) ++ tword t.kd ++ ⟨#[32]⟩ ++ t.nm = ⟨t.open_.toArray⟩ := by
  rw [ByteArray.ext_iff]
  simp [Tm.open_, h]
theorem str_open0 (t : Tm) (h : t.kd ≠ 2) : (⟨#[40]⟩ : ByteArray) ++ tword t.kd = ⟨t.open_.toArray⟩ := by
  rw [ByteArray.ext_iff]
  simp [Tm.open_, h]

end Go.Proofs.YtjlibnijecdgcaaGreatDoor
