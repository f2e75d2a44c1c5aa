/- The contracts of term and ParseTerm of the document: what is read without a fault is a term that stands there; else the fault and its place. -/
import Derived.Test.YtahcgpnjlmpkpaaGreatDoorDTermD
namespace Go.Proofs.YtahcgpnjlmpkpaaGreatDoor
open Go.RowKit

theorem term_calls (rb : Nat) (s : ByteArray) (wb wo wc : Nat) (hs : s.size ≤ 20000) (hr0 : rb ≠ 0) (hr1 : rb ≠ wb) : ∀ (N p code a : Nat) (w : World), s.size - p < N → p ≤ s.size → RdAt w rb s p code a → WordsAt w wb wo wc → Calls Tryz.prog 11 #[.pointer (some ⟨rb, 0, none⟩)] w fun e w' => TermPost w rb s p code a e w'
  | 0, _, _, _, _, h, _, _, _ => absurd h (by omega)
  | N + 1, p, code, a, w, hN, hp, h, hw => by
    have ih := term_calls rb s wb wo wc hs hr0 hr1 N
    by_cases hc : code = 0
    · subst hc
      by_cases ho : (tok s p).t = ⟨#[40]⟩
      · obtain ⟨kd, hk | ⟨_, hk⟩⟩ := kindNo (tok s ((tok s p).at_ + 1)).t
        · exact term_brack N rb s p a wb wo wc w hs hp h hw hr0 hr1 ho kd hk hN ih
        · exact term_word rb s p a wb wo wc w hs hp h hw hr0 hr1 ho hk
      · by_cases he : (tok s p).t = ⟨#[]⟩
        · exact term_none rb s p a w hs hp h ⟨ho, .inl he⟩
        · by_cases h35 : at_ (tok s p).t 0 = 35
          · exact term_var rb s p a w hs hp h he h35
          · exact term_none rb s p a w hs hp h ⟨ho, .inr h35⟩
    · exact term_not rb s p code a w hs hp hc h

/-- What ParseTerm leaves: a term's value and a fault; where there is none, the term that the text is. -/
def TParsed (w : World) (s : ByteArray) (e : Ending) (w' : World) : Prop :=
  ∃ (k n : Int) (nm : ByteArray) (A : Option Addr) (la lc : Nat) (A' : Option Addr) (ta tc c a : Nat), e = .returned (.tuple #[.agg #[.int .i64 k, .int .i64 n, .string nm, .slice A la lc, .slice A' ta tc], .agg #[.int .i64 (c : Nat), .int .i64 (a : Nat)]]) ∧ Below w.heap.size w w' ∧
    (c = 0 → s.size ≤ 20000 ∧ ∃ (d : Nat) (t : Tm), InTm w' (fun _ => True) d t (.agg #[.int .i64 k, .int .i64 n, .string nm, .slice A la lc, .slice A' ta tc]) ∧ TRight s t) ∧
    (c ≠ 0 → (k = 0 ∧ n = 0 ∧ nm = ⟨#[]⟩ ∧ A = none ∧ la = 0 ∧ lc = 0 ∧ A' = none ∧ ta = 0 ∧ tc = 0) ∧ ((20000 < s.size ∧ c = 2 ∧ a = 0) ∨ (s.size ≤ 20000 ∧ c = 1 ∧ TWrong s a)))

set_option maxHeartbeats 2000000 in
theorem tparse_long (s : ByteArray) (w : World) (hs : 20000 < s.size) (hm : s.size ≤ maxLen) : Calls Tryz.prog 6 #[.string s] w fun e w' => TParsed w s e w' := by
  unfold maxLen at hm
  go_enter Tryz.func6, Tryz.ntmps6
  go_wp2_with fail
  refine bodyPost_ret (v := .tuple #[.agg #[.int .i64 0, .int .i64 0, .string ⟨#[]⟩, .slice none 0 0, .slice none 0 0], .agg #[.int .i64 (2 : Nat), .int .i64 (0 : Nat)]]) (by simp [results, Tryz.results6, go_sem]) rfl ?_
  exact ⟨0, 0, ⟨#[]⟩, none, 0, 0, none, 0, 0, 2, 0, rfl, ((Below.refl _ _).alloc (Nat.le_refl _) _).alloc (by simp) _, fun h => by omega, fun _ => ⟨⟨rfl, rfl, rfl, rfl, rfl, rfl, rfl, rfl, rfl⟩, .inl ⟨hs, rfl, rfl⟩⟩⟩

set_option maxRecDepth 100000 in
set_option maxHeartbeats 4000000 in
theorem tparse_short (s : ByteArray) (wb wo wc : Nat) (w : World) (hs : s.size ≤ 20000) (hw : WordsAt w wb wo wc) : Calls Tryz.prog 6 #[.string s] w fun e w' => TParsed w s e w' := by
  have hR0 : RdAt (((w.alloc ztm).alloc (.cells #[.int .i64 0, .int .i64 0] 36)).alloc (.cells #[.string s, .int .i64 (0 : Nat), .int .i64 (0 : Nat), .int .i64 (0 : Nat)] 47)) (w.heap.size + 1 + 1) s 0 0 0 := by
    have := heap_alloc_new ((w.alloc ztm).alloc (.cells #[.int .i64 0, .int .i64 0] 36)) (.cells #[.string s, .int .i64 (0 : Nat), .int .i64 (0 : Nat), .int .i64 (0 : Nat)] 47)
    simpa [RdAt] using this
  have HO : Hid (Below w.heap.size w (((w.alloc ztm).alloc (.cells #[.int .i64 0, .int .i64 0] 36)).alloc (.cells #[.string s, .int .i64 (0 : Nat), .int .i64 (0 : Nat), .int .i64 (0 : Nat)] 47))) := (((Below.refl _ _).alloc (Nat.le_refl _) _).alloc (by simp) _).alloc (by simp; omega) _
  have hlw := hw.lt
  have hw0 : WordsAt (((w.alloc ztm).alloc (.cells #[.int .i64 0, .int .i64 0] 36)).alloc (.cells #[.string s, .int .i64 (0 : Nat), .int .i64 (0 : Nat), .int .i64 (0 : Nat)] 47)) wb wo wc := hw.of_blocks (HO.out.block _ hlw.1) (HO.out.block _ hlw.2)
  have HL := hide (term_calls (w.heap.size + 1 + 1) s wb wo wc hs (by omega) (by omega) (s.size + 1) 0 0 0 _ (by omega) (Nat.zero_le _) hR0 hw0)
  clear hR0 hw0 hw
  go_enter Tryz.func6, Tryz.ntmps6
  go_wp2_with (go_at_call 11; refine HL.out.mono ?_)
  rintro e w1 ⟨k, n, nm, A, la, lc, A', ta, tc, p1, c1, a1, rfl, hr1, hp1, hp1', ht1, him1, hbad1⟩
  have hz1 := ht1.size
  simp at hz1
  have HD := hide (done_calls (w.heap.size + 1 + 1) s p1 c1 a1 _ hs hp1' (hr1.alloc (.cells #[.int .i64 k, .int .i64 n, .string nm, .slice A la lc, .slice A' ta tc] 30)))
  have HT1 := hide ht1
  have HI1 := hide him1
  have HB1 := hide hbad1
  clear hbad1
  clear hr1 ht1 him1 HL
  go_wp2_with (go_at_call 12; refine HD.out.mono ?_)
  rintro e w2 ⟨c2, a2, rfl, him2, hbad2, ht2⟩
  have hz2 := ht2.size
  simp at hz2
  have htot := HT1.out.trans ((Touched.alloc _ _ _).trans ht2)
  have b0 := htot.at (k := w.heap.size) (by simp; omega) (by omega)
  have b1 := htot.at (k := w.heap.size + 1) (by simp) (by omega)
  have b2 := ht2.at (k := w1.heap.size) (by simp) (by omega)
  have x0 : w2.cell? ⟨w.heap.size, 0, none⟩ = some (.int .i64 0) := by rw [World.cell?_of_block b0, pastB, pastB] <;> simp <;> omega
  have x1 : w2.cell? ⟨w.heap.size, 1, none⟩ = some (.int .i64 0) := by rw [World.cell?_of_block b0, pastB, pastB] <;> simp <;> omega
  have x2 : w2.cell? ⟨w.heap.size, 2, none⟩ = some (.string ⟨#[]⟩) := by rw [World.cell?_of_block b0, pastB, pastB] <;> simp <;> omega
  have x3 : w2.cell? ⟨w.heap.size, 3, none⟩ = some (.slice none 0 0) := by rw [World.cell?_of_block b0, pastB, pastB] <;> simp <;> omega
  have x4 : w2.cell? ⟨w.heap.size, 4, none⟩ = some (.slice none 0 0) := by rw [World.cell?_of_block b0, pastB, pastB] <;> simp <;> omega
  have y0 : w2.cell? ⟨w.heap.size + 1, 0, none⟩ = some (.int .i64 0) := by rw [World.cell?_of_block b1, pastB] <;> simp [World.cell?_alloc_at]
  have y1 : w2.cell? ⟨w.heap.size + 1, 1, none⟩ = some (.int .i64 0) := by rw [World.cell?_of_block b1, pastB] <;> simp [World.cell?_alloc_at]
  have z0 : w2.cell? ⟨w1.heap.size, 0, none⟩ = some (.int .i64 k) := by rw [World.cell?_of_block b2]; simp
  have z1 : w2.cell? ⟨w1.heap.size, 1, none⟩ = some (.int .i64 n) := by rw [World.cell?_of_block b2]; simp
  have z2 : w2.cell? ⟨w1.heap.size, 2, none⟩ = some (.string nm) := by rw [World.cell?_of_block b2]; simp
  have z3 : w2.cell? ⟨w1.heap.size, 3, none⟩ = some (.slice A la lc) := by rw [World.cell?_of_block b2]; simp
  have z4 : w2.cell? ⟨w1.heap.size, 4, none⟩ = some (.slice A' ta tc) := by rw [World.cell?_of_block b2]; simp
  have fx : ∀ i, w2.frozen? ⟨w.heap.size, i, none⟩ = false := fun i => by rw [World.frozen?_of_block b0, frozen?_alloc_cells, frozen?_alloc_cells, frozen?_alloc_cells]; simp [World.frozen?]
  have fy : ∀ i, w2.frozen? ⟨w.heap.size + 1, i, none⟩ = false := fun i => by rw [World.frozen?_of_block b1, frozen?_alloc_cells, frozen?_alloc_cells, frozen?_alloc_cells]; simp [World.frozen?]
  have l0 : w.heap.size < w2.heap.size := by omega
  have l1 : w.heap.size + 1 < w2.heap.size := by omega
  have l2 : w1.heap.size < w2.heap.size := by omega
  have HT2 := hide ht2
  have HB2 : Hid (Below w.heap.size w w2) := HO.out.trans (htot.below (B := w.heap.size) (by simp; omega) (by omega))
  have HI2 := hide him2
  have HB2' : Hid (c2 ≠ 0 → c2 = 1 ∧ TWrong s a2) := fun h => by
    rcases hbad2 h with ⟨h1, h2, h3⟩ | ⟨h1, h2, h3, h4⟩
    · rcases HB1.out h1 with ⟨h5, _⟩ | ⟨_, h5, d, h6⟩
      · exact absurd rfl h5
      · exact ⟨by omega, .inl ⟨d, by rw [h3]; exact h6⟩⟩
    · obtain ⟨_, _, d, t, _, hr⟩ := HI1.out h1
      exact ⟨h2, .inr ⟨d, t, p1, hr, h4, h3⟩⟩
  clear hbad2
  clear b0 b1 b2 htot ht2 him2 HD
  by_cases hc2 : c2 = 0
  · have e1 : ((c2 : Int) == 0) = true := by simp [hc2]
    have HC := hide hc2
    clear hc2
    go_wp2_with fail
    go_region
    all_goals
      go_wp2_with fail
      refine bodyPost_ret (v := .tuple #[.agg #[.int .i64 k, .int .i64 n, .string nm, .slice A la lc, .slice A' ta tc], .agg #[.int .i64 (c2 : Nat), .int .i64 (a2 : Nat)]]) (by simp [results, Tryz.results6, go_sem, x0, x1, x2, x3, x4, y0, y1, l0, l1]) rfl ?_
      refine ⟨k, n, nm, A, la, lc, A', ta, tc, c2, a2, rfl, ?_, fun h => ?_, fun h => absurd HC.out h⟩
      · exact ((((((((HB2.out.setCell (p := ⟨w.heap.size, 0, none⟩) (Nat.le_refl _) _).setCell (p := ⟨w.heap.size, 1, none⟩) (Nat.le_refl _) _).setCell (p := ⟨w.heap.size, 2, none⟩) (Nat.le_refl _) _).setCell (p := ⟨w.heap.size, 3, none⟩) (Nat.le_refl _) _).setCell (p := ⟨w.heap.size, 4, none⟩) (Nat.le_refl _) _).setCell (p := ⟨w.heap.size + 1, 0, none⟩) (Nat.le_succ _) _).setCell (p := ⟨w.heap.size + 1, 1, none⟩) (Nat.le_succ _) _).alloc (by simp; omega) _).drew
      · obtain ⟨_, _, d, t, hl, hm⟩ := HI1.out (HI2.out h).1
        refine ⟨hs, d, t, hl.keep fun b hb2 hb1 => ⟨trivial, ?_⟩, d, p1, hm, (HI2.out h).2⟩
        have hb1' : w.heap.size + 3 ≤ b := by simpa using hb1
        show (World.alloc (World.setCell (World.setCell (World.setCell (World.setCell (World.setCell (World.setCell (World.setCell w2 ⟨w.heap.size, 0, none⟩ _) ⟨w.heap.size, 1, none⟩ _) ⟨w.heap.size, 2, none⟩ _) ⟨w.heap.size, 3, none⟩ _) ⟨w.heap.size, 4, none⟩ _) ⟨w.heap.size + 1, 0, none⟩ _) ⟨w.heap.size + 1, 1, none⟩ _) _).heap[b]? = _
        rw [Below.heap_alloc _ _ _ (by simp; omega), Below.heap_setCell _ _ _ _ (by show b ≠ w.heap.size + 1; omega), Below.heap_setCell _ _ _ _ (by show b ≠ w.heap.size + 1; omega), Below.heap_setCell _ _ _ _ (by show b ≠ w.heap.size; omega), Below.heap_setCell _ _ _ _ (by show b ≠ w.heap.size; omega), Below.heap_setCell _ _ _ _ (by show b ≠ w.heap.size; omega), Below.heap_setCell _ _ _ _ (by show b ≠ w.heap.size; omega), Below.heap_setCell _ _ _ _ (by show b ≠ w.heap.size; omega),
          HT2.out.at (by simp; omega) (by omega), Below.heap_alloc _ _ _ hb2]
  · have e1 : ((c2 : Int) == 0) = false := by simp; omega
    have HC := hide hc2
    clear hc2
    go_wp2_with fail
    go_region
    all_goals
      go_wp2_with fail
      refine bodyPost_ret (v := .tuple #[.agg #[.int .i64 0, .int .i64 0, .string ⟨#[]⟩, .slice none 0 0, .slice none 0 0], .agg #[.int .i64 (c2 : Nat), .int .i64 (a2 : Nat)]]) (by simp [results, Tryz.results6, go_sem, x0, x1, x2, x3, x4, y0, y1, l0, l1]) rfl ?_
      refine ⟨0, 0, ⟨#[]⟩, none, 0, 0, none, 0, 0, c2, a2, rfl, ?_, fun h => absurd h HC.out, fun h => ⟨⟨rfl, rfl, rfl, rfl, rfl, rfl, rfl, rfl, rfl⟩, .inr ⟨hs, HB2'.out h⟩⟩⟩
      exact ((((((((HB2.out.setCell (p := ⟨w.heap.size, 0, none⟩) (Nat.le_refl _) _).setCell (p := ⟨w.heap.size, 1, none⟩) (Nat.le_refl _) _).setCell (p := ⟨w.heap.size, 2, none⟩) (Nat.le_refl _) _).setCell (p := ⟨w.heap.size, 3, none⟩) (Nat.le_refl _) _).setCell (p := ⟨w.heap.size, 4, none⟩) (Nat.le_refl _) _).setCell (p := ⟨w.heap.size + 1, 0, none⟩) (Nat.le_succ _) _).setCell (p := ⟨w.heap.size + 1, 1, none⟩) (Nat.le_succ _) _).alloc (by simp; omega) _).drew

end Go.Proofs.YtahcgpnjlmpkpaaGreatDoor
