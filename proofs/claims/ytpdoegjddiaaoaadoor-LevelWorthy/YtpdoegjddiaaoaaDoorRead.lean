/- The contracts of notation.Read and level.Parse at a text that is a level. -/
import Derived.Test.YtpdoegjddiaaoaaDoorCaught
import Derived.Defers
import Derived.Recover
namespace Go.Proofs.YtpdoegjddiaaoaaDoor
open Go.RowKit

theorem Lv.text_len40 : ∀ (l : LvB), (∀ q, Lv.has q l → Nm q) → l.text.length ≤ 40 * l.nodes
  | .zero, _ => by simp [text, nodes]
  | .succ a, h => by have := Lv.text_len40 a h; simp [text, nodes]; omega
  | .max a b, h => by have := Lv.text_len40 a (fun p hp => h p (.inl hp)); have := Lv.text_len40 b (fun p hp => h p (.inr hp)); simp [text, nodes]; omega
  | .imax a b, h => by have := Lv.text_len40 a (fun p hp => h p (.inl hp)); have := Lv.text_len40 b (fun p hp => h p (.inr hp)); simp [text, nodes]; omega
  | .param p, h => by have := (h p rfl).2.1; simp only [text, nodes, Array.length_toList]; show p.data.size ≤ _; have e : p.data.size = p.size := rfl; omega

set_option maxHeartbeats 1000000 in
/-- Parse of a printed level gives it back. -/
theorem parse_back (l : LvB) (w : World) (hn : l.nodes ≤ 500) (hm : ∀ q, Lv.has q l → Nm q) (ht : Tabs w) :
    Calls Tryd.prog 12 #[.string ⟨l.text.toArray⟩] w fun e w' => ∃ (k : Int) (nm : ByteArray) (A : Option Addr) (n cap : Nat), e = .returned (.tuple #[.agg #[.int .i64 k, .string nm, .slice A n cap], .nilIface]) ∧ InLv w' w'.heap.size l (.agg #[.int .i64 k, .string nm, .slice A n cap]) ∧ Below w.heap.size w w' := by
  have hl := Lv.text_len40 l hm
  have hsz : (⟨l.text.toArray⟩ : ByteArray).size = l.text.length := rfl
  have hr := text_reads (s := ⟨l.text.toArray⟩) l 0 hm (has_all _) (Stop.of (c := 0) (at_end (by rw [hsz]; omega)) (.inr (.inr (.inr rfl))))
  have hend : runTo blankB ⟨l.text.toArray⟩ (0 + l.text.length) = (⟨l.text.toArray⟩ : ByteArray).size := by
    rw [runTo_end (by rw [hsz]; omega), hsz]; omega
  have K1 := hide (read_calls ⟨l.text.toArray⟩ l _ _ (by rw [hsz]; omega) hr hend (ht.below ((Below.refl _ _).alloc (Nat.le_refl _) zlev) ht.lt))
  clear hr hend ht hm hsz hl
  generalize (⟨l.text.toArray⟩ : ByteArray) = s at *
  go_enter Tryd.func12, Tryd.ntmps12
  go_wp2_with (go_at_call 24; refine K1.out.mono ?_)
  rintro e w1 ⟨k, nm, A, n, cap, rfl, hin, hb⟩
  have hz := hb.size
  simp at hz
  have hb1 : w1.heap[w.heap.size]? = some (.cells #[.int .i64 0, .string ⟨#[]⟩, .slice none 0 0] 28 (0, 0)) := by
    rw [hb.block w.heap.size (by simp)]
    exact heap_alloc_new w zlev
  have d0 : w1.cell? ⟨w.heap.size, 0, none⟩ = some (.int .i64 0) := by simp [World.cell?, hb1]
  have d1 : w1.cell? ⟨w.heap.size, 1, none⟩ = some (.string ⟨#[]⟩) := by simp [World.cell?, hb1]
  have d2 : w1.cell? ⟨w.heap.size, 2, none⟩ = some (.slice none 0 0) := by simp [World.cell?, hb1]
  have d3 : ∀ i, w1.frozen? ⟨w.heap.size, i, none⟩ = false := fun i => by simp [World.frozen?, hb1]
  have d4 : w.heap.size < w1.heap.size := by omega
  have HF : Hid (InLv (((w1.setCell ⟨w.heap.size, 0, none⟩ (.int .i64 k)).setCell ⟨w.heap.size, 1, none⟩ (.string nm)).setCell ⟨w.heap.size, 2, none⟩ (.slice A n cap)) (((w1.setCell ⟨w.heap.size, 0, none⟩ (.int .i64 k)).setCell ⟨w.heap.size, 1, none⟩ (.string nm)).setCell ⟨w.heap.size, 2, none⟩ (.slice A n cap)).heap.size l (.agg #[.int .i64 k, .string nm, .slice A n cap])) :=
    (hin.keep (S' := fun _ => True) fun b _ hb => ⟨trivial, by
      have hb' : w.heap.size + 1 ≤ b := by simpa using hb
      rw [Below.heap_setCell _ _ _ _ (by show b ≠ w.heap.size; omega), Below.heap_setCell _ _ _ _ (by show b ≠ w.heap.size; omega), Below.heap_setCell _ _ _ _ (by show b ≠ w.heap.size; omega)]⟩).inLv
  have HB : Hid (Below w.heap.size w (((w1.setCell ⟨w.heap.size, 0, none⟩ (.int .i64 k)).setCell ⟨w.heap.size, 1, none⟩ (.string nm)).setCell ⟨w.heap.size, 2, none⟩ (.slice A n cap))) :=
    ((((((Below.refl w.heap.size w).alloc (Nat.le_refl _) zlev).trans (hb.mono (by simp))).setCell (p := ⟨w.heap.size, 0, none⟩) (Nat.le_refl _) _).setCell (p := ⟨w.heap.size, 1, none⟩) (Nat.le_refl _) _).setCell (p := ⟨w.heap.size, 2, none⟩) (Nat.le_refl _) _)
  clear hin hb hb1
  go_wp2_with fail
  refine bodyPost_ret (v := .tuple #[.agg #[.int .i64 k, .string nm, .slice A n cap], .nilIface]) (by simp [results, Tryd.results12, go_sem, d0, d1, d2]) rfl ?_
  exact ⟨k, nm, A, n, cap, rfl, HF.out, HB.out⟩

end Go.Proofs.YtpdoegjddiaaoaaDoor
