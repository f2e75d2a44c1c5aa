/- The contract of succs: how many successors stand in a level. -/
import Derived.Test.YtdmlflgeihgfcaaTools
namespace Go.Proofs.Ytdmlflgeihgfcaa
open Go.RowKit

/-- The sum over a level's first parts. -/
def Lv.sumKids (l : LvB) (k : Nat) : Nat := ((l.kids.take k).map Lv.succs).sum

theorem Lv.sumKids_snoc (l : LvB) (k : Nat) (h : k < l.kids.length) : l.sumKids (k + 1) = l.sumKids k + (l.kids[k]).succs := by
  unfold sumKids; rw [List.take_succ_eq_append_getElem h, List.map_append, List.sum_append]; simp
theorem Lv.succs_kids (l : LvB) : l.succs = (if l.kind = 1 then 1 else 0) + l.sumKids l.kids.length := by
  cases l <;> simp [succs, kind, sumKids, kids] <;> omega
theorem Lv.sumKids_le (l : LvB) : ∀ k, l.sumKids k ≤ l.succs := by
  intro k
  cases l with
  | zero => simp [sumKids, kids]
  | param => simp [sumKids, kids]
  | succ a => simp only [sumKids, kids, succs]; rcases k with _ | k <;> simp
  | max a b => simp only [sumKids, kids, succs]; rcases k with _ | _ | k <;> simp
  | imax a b => simp only [sumKids, kids, succs]; rcases k with _ | _ | k <;> simp

theorem Lv.sumKids_mono (l : LvB) (k : Nat) : l.sumKids k ≤ l.sumKids l.kids.length := by
  cases l with
  | zero => simp [sumKids, kids]
  | param => simp [sumKids, kids]
  | succ a => simp only [sumKids, kids]; rcases k with _ | k <;> simp
  | max a b => simp only [sumKids, kids]; rcases k with _ | _ | k <;> simp
  | imax a b => simp only [sumKids, kids]; rcases k with _ | _ | k <;> simp

set_option maxHeartbeats 400000 in
theorem succs_calls (N : Nat) : ∀ (l : LvB) (v : Value) (B : Nat) (w : World), l.nodes ≤ N → l.nodes ≤ 1000000 → B ≤ w.heap.size → InLv w B l v →
    Calls Try.prog 17 #[v] w fun e w' => e = .returned (.int .i64 (l.succs : Nat)) ∧ Below w.heap.size w w' := by
  induction N with
  | zero => intro l v B w h; cases l <;> simp [Lv.nodes] at h
  | succ N ih =>
    intro l v B w hN hB hBw hl
    obtain ⟨A, cap, rfl, hk⟩ := hl.shape
    have IH := hide ih
    clear ih
    have hs1 := l.succs_le
    have HK := hide hk
    clear hk hl
    have hk2 := l.kids_le
    have hk4 := l.kind_le
    have hsl := l.sumKids_le l.kids.length
    have HS : Hid (l.succs = (if l.kind = 1 then 1 else 0) + l.sumKids l.kids.length) := l.succs_kids
    by_cases h1 : l.kind = 1
    all_goals
      have HS' : Hid (_ = _) := HS
      have H1 := hide h1
      first
        | (rw [if_pos h1] at HS')
        | (rw [if_neg h1] at HS')
      first
        | (have hq : ((l.kind : Int) == 1) = true := by simp [h1])
        | (have hq : ((l.kind : Int) == 1) = false := by simp; omega)
      clear h1 HS
      go_enter Try.func17, Try.ntmps17
      go_wp2_with fail
      go_loopg [3, 4] (l.kids.length) (fun g n i wr => ∃ k : Nat, k + g = l.kids.length ∧ i = .int .i64 k ∧ n = .int .i64 ((l.succs - l.sumKids l.kids.length + l.sumKids k : Nat) : Int) ∧ Below (w.heap.size + 1) (w.alloc (.cells #[.int .i64 l.kind, .string l.nm, .slice A l.kids.length cap] 29)) wr)
      case atStart => exact ⟨0, by omega, rfl, by rw [HS'.out]; simp [Lv.sumKids], Below.refl _ _⟩
      case round =>
        obtain ⟨k, hkg, rfl, rfl, hbel⟩ := hrel
        have hz := hbel.size
        simp at hz
        have hb2 : wr.cell? ⟨w.heap.size, 2, none⟩ = some (.slice A l.kids.length cap) := by rw [hbel.cell (by simp)]; simp
        have HB := hide hbel
        clear hbel
        by_cases hlt : k < l.kids.length
        · obtain ⟨b, x, rfl, hbB, h3, hin⟩ := HK.out k hlt
          obtain ⟨k', nm', A', n', cap', rfl, c0, c1, c2⟩ := h3
          have hwr : Below w.heap.size w wr := ((Below.refl _ _).alloc (Nat.le_refl _) _).trans (HB.out.mono (by omega))
          have d0 := cell_later hwr c0
          have d1 := cell_later hwr c1
          have d2 := cell_later hwr c2
          have HI : Hid (InLv wr B l.kids[k] (.agg #[.int .i64 k', .string nm', .slice A' n' cap'])) := InLv.below (hwr.mono hBw) hin
          have hnk := Lv.kid_nodes hlt
          have HSn := hide (l.sumKids_snoc k hlt)
          have hsk : l.succs - l.sumKids l.kids.length + l.sumKids k + (l.kids[k]).succs ≤ 1000000 := by
            have h1 := l.sumKids_le (k + 1)
            have h2 := l.sumKids_mono (k + 1)
            have h3 := HSn.out
            omega
          clear c0 c1 c2 hin hwr
          go_wp2_with (go_at_call 17; refine (IH.out _ _ B _ (by omega) (by omega) (by omega) HI.out).mono ?_; rintro e w' ⟨rfl, hbw⟩)
          go_roundg (l.kids.length - (k + 1))
          case measure => omega
          case rel => exact ⟨k + 1, by omega, by go_num, by rw [HSn.out]; congr 1; omega, HB.out.trans (hbw.mono (by omega))⟩
        · go_wp2_with fail
          go_ret
          have hke : k = l.kids.length := by omega
          exact ⟨ret_int (by rw [hke]; omega), ((Below.refl _ _).alloc (Nat.le_refl _) _).trans (HB.out.mono (by omega))⟩


end Go.Proofs.Ytdmlflgeihgfcaa
