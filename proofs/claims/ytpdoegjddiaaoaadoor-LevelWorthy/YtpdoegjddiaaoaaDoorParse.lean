/- The contracts of level and ParseLevel of the document: what is read without a fault is a level, no greater than its text. -/
import Derived.Test.YtpdoegjddiaaoaaDoorLevelSucc
import Derived.Test.YtpdoegjddiaaoaaDoorLevelMax
import Derived.Test.YtpdoegjddiaaoaaDoorLevelImax
namespace Go.Proofs.YtpdoegjddiaaoaaDoor
open Go.RowKit

theorem pastB {w : World} {o : Obj} {n i : Nat} (hn : n < w.heap.size) : (w.alloc o).cell? ⟨n, i, none⟩ = w.cell? ⟨n, i, none⟩ := World.cell?_alloc_past o n i hn

theorem level_calls (rb : Nat) (s : ByteArray) (hs : s.size ≤ 20000) : ∀ (N p code a : Nat) (w : World), s.size - p < N → p ≤ s.size → RdAt w rb s p code a → Calls Tryd.prog 13 #[.pointer (some ⟨rb, 0, none⟩)] w fun e w' => LevelPost w rb s p code e w'
  | 0, _, _, _, _, h, _, _ => absurd h (by omega)
  | N + 1, p, code, a, w, hN, hp, h => by
    have ih := level_calls rb s hs N
    by_cases hc : code = 0
    · subst hc
      by_cases h0 : (tok s p).t = ⟨#[48]⟩
      · exact level_zero rb s p a w hs hp h h0
      · by_cases hn : isNameB (tok s p).t = true
        · exact level_name rb s p a w hs hp h h0 hn
        · by_cases ho : (tok s p).t = ⟨#[40]⟩
          · by_cases h1 : (tok s ((tok s p).at_ + 1)).t = ⟨#[115]⟩
            · exact level_succ N rb s p a w hs hp h ho h1 hN ih
            · by_cases h2 : (tok s ((tok s p).at_ + 1)).t = ⟨#[109, 97, 120]⟩
              · exact level_max N rb s p a w hs hp h ho h2 hN ih
              · by_cases h3 : (tok s ((tok s p).at_ + 1)).t = ⟨#[105, 109, 97, 120]⟩
                · exact level_imax N rb s p a w hs hp h ho h3 hN ih
                · exact level_word rb s p a w hs hp h ho h1 h2 h3
          · exact level_bad rb s p a w hs hp h h0 (by simpa using hn) ho
    · exact level_not rb s p code a w hs hp hc h

/-- What ParseLevel leaves: a level's value and a fault; where there is none, a level no greater than the text. -/
def Parsed (w : World) (s : ByteArray) (e : Ending) (w' : World) : Prop :=
  ∃ (k : Int) (nm : ByteArray) (A : Option Addr) (n cap c a : Nat), e = .returned (.tuple #[.agg #[.int .i64 k, .string nm, .slice A n cap], .agg #[.int .i64 (c : Nat), .int .i64 (a : Nat)]]) ∧ Below w.heap.size w w' ∧
    (c = 0 → s.size ≤ 20000 ∧ ∃ l : LvB, InLv w' w'.heap.size l (.agg #[.int .i64 k, .string nm, .slice A n cap]) ∧ l.nodes ≤ s.size ∧ ∀ q, Lv.has q l → Nm q)

set_option maxHeartbeats 2000000 in
theorem parse_long (s : ByteArray) (w : World) (hs : 20000 < s.size) (hm : s.size ≤ maxLen) : Calls Tryd.prog 5 #[.string s] w fun e w' => Parsed w s e w' := by
  unfold maxLen at hm
  go_enter Tryd.func5, Tryd.ntmps5
  go_wp2_with fail
  refine bodyPost_ret (v := .tuple #[.agg #[.int .i64 0, .string ⟨#[]⟩, .slice none 0 0], .agg #[.int .i64 (2 : Nat), .int .i64 (0 : Nat)]]) (by simp [results, Tryd.results5, go_sem]) rfl ?_
  exact ⟨0, ⟨#[]⟩, none, 0, 0, 2, 0, rfl, ((Below.refl _ _).alloc (Nat.le_refl _) _).alloc (by simp) _, fun h => by omega⟩

set_option maxHeartbeats 2000000 in
theorem parse_short (s : ByteArray) (w : World) (hs : s.size ≤ 20000) : Calls Tryd.prog 5 #[.string s] w fun e w' => Parsed w s e w' := by
  have hR0 : RdAt (((w.alloc zlev).alloc (.cells #[.int .i64 0, .int .i64 0] 30)).alloc (.cells #[.string s, .int .i64 (0 : Nat), .int .i64 (0 : Nat), .int .i64 (0 : Nat)] 47)) (w.heap.size + 1 + 1) s 0 0 0 := by
    have := heap_alloc_new ((w.alloc zlev).alloc (.cells #[.int .i64 0, .int .i64 0] 30)) (.cells #[.string s, .int .i64 (0 : Nat), .int .i64 (0 : Nat), .int .i64 (0 : Nat)] 47)
    simpa [RdAt] using this
  have HL := hide (level_calls (w.heap.size + 1 + 1) s hs (s.size + 1) 0 0 0 _ (by omega) (Nat.zero_le _) hR0)
  have HO : Hid (Below w.heap.size w (((w.alloc zlev).alloc (.cells #[.int .i64 0, .int .i64 0] 30)).alloc (.cells #[.string s, .int .i64 (0 : Nat), .int .i64 (0 : Nat), .int .i64 (0 : Nat)] 47))) := (((Below.refl _ _).alloc (Nat.le_refl _) _).alloc (by simp) _).alloc (by simp; omega) _
  clear hR0
  go_enter Tryd.func5, Tryd.ntmps5
  go_wp2_with (go_at_call 13; refine HL.out.mono ?_)
  rintro e w1 ⟨k, nm, A, n, cap, p1, c1, a1, rfl, hr1, hp1, hp1', ht1, him1⟩
  have hz1 := ht1.size
  simp at hz1
  have HD := hide (done_calls (w.heap.size + 1 + 1) s p1 c1 a1 _ hs hp1' (hr1.alloc (.cells #[.int .i64 k, .string nm, .slice A n cap] 28)))
  have HT1 := hide ht1
  have HI1 := hide him1
  clear hr1 ht1 him1 HL
  go_wp2_with (go_at_call 14; refine HD.out.mono ?_)
  rintro e w2 ⟨c2, a2, rfl, him2, ht2⟩
  have hz2 := ht2.size
  simp at hz2
  have htot := HT1.out.trans ((Touched.alloc _ _ _).trans ht2)
  have b0 := htot.at (k := w.heap.size) (by simp; omega) (by omega)
  have b1 := htot.at (k := w.heap.size + 1) (by simp) (by omega)
  have b2 := ht2.at (k := w1.heap.size) (by simp) (by omega)
  have x0 : w2.cell? ⟨w.heap.size, 0, none⟩ = some (.int .i64 0) := by rw [World.cell?_of_block b0, pastB, pastB] <;> simp <;> omega
  have x1 : w2.cell? ⟨w.heap.size, 1, none⟩ = some (.string ⟨#[]⟩) := by rw [World.cell?_of_block b0, pastB, pastB] <;> simp <;> omega
  have x2 : w2.cell? ⟨w.heap.size, 2, none⟩ = some (.slice none 0 0) := by rw [World.cell?_of_block b0, pastB, pastB] <;> simp <;> omega
  have y0 : w2.cell? ⟨w.heap.size + 1, 0, none⟩ = some (.int .i64 0) := by rw [World.cell?_of_block b1, pastB] <;> simp [World.cell?_alloc_at]
  have y1 : w2.cell? ⟨w.heap.size + 1, 1, none⟩ = some (.int .i64 0) := by rw [World.cell?_of_block b1, pastB] <;> simp [World.cell?_alloc_at]
  have z0 : w2.cell? ⟨w1.heap.size, 0, none⟩ = some (.int .i64 k) := by rw [World.cell?_of_block b2]; simp
  have z1 : w2.cell? ⟨w1.heap.size, 1, none⟩ = some (.string nm) := by rw [World.cell?_of_block b2]; simp
  have z2 : w2.cell? ⟨w1.heap.size, 2, none⟩ = some (.slice A n cap) := by rw [World.cell?_of_block b2]; simp
  have fx : ∀ i, w2.frozen? ⟨w.heap.size, i, none⟩ = false := fun i => by rw [World.frozen?_of_block b0, frozen?_alloc_cells, frozen?_alloc_cells, frozen?_alloc_cells]; simp [World.frozen?]
  have fy : ∀ i, w2.frozen? ⟨w.heap.size + 1, i, none⟩ = false := fun i => by rw [World.frozen?_of_block b1, frozen?_alloc_cells, frozen?_alloc_cells, frozen?_alloc_cells]; simp [World.frozen?]
  have l0 : w.heap.size < w2.heap.size := by omega
  have l1 : w.heap.size + 1 < w2.heap.size := by omega
  have l2 : w1.heap.size < w2.heap.size := by omega
  have HT2 := hide ht2
  have HB2 : Hid (Below w.heap.size w w2) := HO.out.trans (htot.below (B := w.heap.size) (by simp; omega) (by omega))
  have HI2 := hide him2
  clear b0 b1 b2 htot ht2 him2 HD
  by_cases hc2 : c2 = 0
  · have e1 : ((c2 : Int) == 0) = true := by simp [hc2]
    have HC := hide hc2
    clear hc2
    go_wp2_with fail
    go_region
    all_goals
      go_wp2_with fail
      refine bodyPost_ret (v := .tuple #[.agg #[.int .i64 k, .string nm, .slice A n cap], .agg #[.int .i64 (c2 : Nat), .int .i64 (a2 : Nat)]]) (by simp [results, Tryd.results5, go_sem, x0, x1, x2, y0, y1, l0, l1]) rfl ?_
      refine ⟨k, nm, A, n, cap, c2, a2, rfl, ?_, fun h => ?_⟩
      · exact ((((((HB2.out.setCell (p := ⟨w.heap.size, 0, none⟩) (Nat.le_refl _) _).setCell (p := ⟨w.heap.size, 1, none⟩) (Nat.le_refl _) _).setCell (p := ⟨w.heap.size, 2, none⟩) (Nat.le_refl _) _).setCell (p := ⟨w.heap.size + 1, 0, none⟩) (Nat.le_succ _) _).setCell (p := ⟨w.heap.size + 1, 1, none⟩) (Nat.le_succ _) _).alloc (by simp; omega) _).drew
      · obtain ⟨_, l, hl, hn, hm⟩ := HI1.out (HI2.out h)
        refine ⟨hs, l, (InBet.above (Nat.le_refl _) (hl.bet.keep fun b hb1 hb2 => ?_)).inLv, by omega, hm⟩
        simp at hb1
        show (World.alloc (World.setCell (World.setCell (World.setCell (World.setCell (World.setCell w2 ⟨w.heap.size, 0, none⟩ _) ⟨w.heap.size, 1, none⟩ _) ⟨w.heap.size, 2, none⟩ _) ⟨w.heap.size + 1, 0, none⟩ _) ⟨w.heap.size + 1, 1, none⟩ _) _).heap[b]? = _
        rw [Below.heap_alloc _ _ _ (by simp; omega), Below.heap_setCell _ _ _ _ (by show b ≠ w.heap.size + 1; omega), Below.heap_setCell _ _ _ _ (by show b ≠ w.heap.size + 1; omega), Below.heap_setCell _ _ _ _ (by show b ≠ w.heap.size; omega), Below.heap_setCell _ _ _ _ (by show b ≠ w.heap.size; omega), Below.heap_setCell _ _ _ _ (by show b ≠ w.heap.size; omega),
          HT2.out.at (by simp; omega) (by omega), Below.heap_alloc _ _ _ hb2]
  · have e1 : ((c2 : Int) == 0) = false := by simp; omega
    have HC := hide hc2
    clear hc2
    go_wp2_with fail
    go_region
    all_goals
      go_wp2_with fail
      refine bodyPost_ret (v := .tuple #[.agg #[.int .i64 0, .string ⟨#[]⟩, .slice none 0 0], .agg #[.int .i64 (c2 : Nat), .int .i64 (a2 : Nat)]]) (by simp [results, Tryd.results5, go_sem, x0, x1, x2, y0, y1, l0, l1]) rfl ?_
      refine ⟨0, ⟨#[]⟩, none, 0, 0, c2, a2, rfl, ?_, fun h => absurd h HC.out⟩
      exact ((((((HB2.out.setCell (p := ⟨w.heap.size, 0, none⟩) (Nat.le_refl _) _).setCell (p := ⟨w.heap.size, 1, none⟩) (Nat.le_refl _) _).setCell (p := ⟨w.heap.size, 2, none⟩) (Nat.le_refl _) _).setCell (p := ⟨w.heap.size + 1, 0, none⟩) (Nat.le_succ _) _).setCell (p := ⟨w.heap.size + 1, 1, none⟩) (Nat.le_succ _) _).alloc (by simp; omega) _).drew

end Go.Proofs.YtpdoegjddiaaoaaDoor
