/- The scanner's next token beside the document's: names, closing brackets, indices; the contracts of Name and Before. -/
import Derived.Test.YtnbpmmgekoclpaaGreatDoorPKind
import Derived.Test.YtnbpmmgekoclpaaGreatDoorTSmall
namespace Go.Proofs.YtnbpmmgekoclpaaGreatDoor
open Go.RowKit

/-- An index's digits are good where they are few and no 0 leads them. -/
theorem good_iff {s : ByteArray} {k q : Nat} (hk : k < s.size) (hq : q = digitEnd s k) : (good (s.extract (k + 1) q) = true ↔ ¬ (q = k + 1 ∨ 5 < q - (k + 1) ∨ (1 < q - (k + 1) ∧ at_ s (k + 1) = 48))) ∧ (good (s.extract (k + 1) q) = true → numOf (s.extract (k + 1) q) 99999 = some ((decV (s.extract (k + 1) q) : Nat) : Int)) := by
  have hge := digitEnd_ge s k
  have hle := digitEnd_le hk
  rw [← hq] at hge hle
  have hd : Digs (s.extract (k + 1) q) := run_digs (by omega) hq.symm
  have hz : (s.extract (k + 1) q).size = q - (k + 1) := by rw [ByteArray.size_extract]; omega
  have hn := numOf_digits hd
  have hc : (1 < (s.extract (k + 1) q).size ∧ at_ (s.extract (k + 1) q) 0 = 48) ↔ (1 < q - (k + 1) ∧ at_ s (k + 1) = 48) := by
    rw [hz]
    constructor
    · rintro ⟨h1, h2⟩; rw [extract_first (by omega) hle] at h2; exact ⟨h1, h2⟩
    · rintro ⟨h1, h2⟩; rw [extract_first (by omega) hle]; exact ⟨h1, h2⟩
  have hx : ((s.extract (k + 1) q).size = 0 ∨ 5 < (s.extract (k + 1) q).size ∨ (1 < (s.extract (k + 1) q).size ∧ at_ (s.extract (k + 1) q) 0 = 48)) ↔ (q = k + 1 ∨ 5 < q - (k + 1) ∨ (1 < q - (k + 1) ∧ at_ s (k + 1) = 48)) := by
    rw [hc, hz]
    constructor
    · rintro (h | h | h)
      · exact .inl (by omega)
      · exact .inr (.inl h)
      · exact .inr (.inr h)
    · rintro (h | h | h)
      · exact .inl (by omega)
      · exact .inr (.inl h)
      · exact .inr (.inr h)
  unfold good
  by_cases h : q = k + 1 ∨ 5 < q - (k + 1) ∨ (1 < q - (k + 1) ∧ at_ s (k + 1) = 48)
  · rw [hn, if_pos (hx.2 h)]
    exact ⟨⟨fun e => by simp at e, fun e => absurd h e⟩, fun e => by simp at e⟩
  · rw [hn, if_neg (fun e => h (hx.1 e))]
    exact ⟨⟨fun _ => h, fun _ => rfl⟩, fun _ => rfl⟩

theorem scan_35 {s : ByteArray} {k : Nat} (h : at_ s k = 35) : scanAt good s k = (if good (s.extract (k + 1) (digitEnd s k)) = true then 5 else 6, digitEnd s k) := by
  unfold scanAt
  rw [if_neg (by omega), if_neg (by omega), if_neg (by rw [h]; decide), if_pos h]

theorem IdxAt.nexts {s : ByteArray} {n p p' : Nat} (hs : s.size ≤ 20000) (hp : p ≤ s.size) (h : IdxAt s n p p') : Nexts s p 5 (runTo blankB s p) p' (s.extract (runTo blankB s p) p') := by
  have hx := next_all (s := s) (p := p) hs hp
  obtain ⟨hk, hc, he, hg, _⟩ := h
  have hne : runTo blankB s p ≠ s.size := by omega
  have hgood : good (s.extract (runTo blankB s p + 1) (digitEnd s (runTo blankB s p))) = true := (good_iff hk rfl).1.2 (by rw [← he]; exact hg)
  have hsc : scanAt good s (runTo blankB s p) = (5, digitEnd s (runTo blankB s p)) := by rw [scan_35 hc, if_pos hgood]
  unfold ntext at hx
  rw [if_neg hne, ntok_in hne, hsc] at hx
  rw [he]
  exact hx

/-- Where no term begins, neither an opening bracket nor an index is next. -/
theorem noterm_kind {s : ByteArray} {p : Nat} (hp : p ≤ s.size) (h : NoTm s p) : (ntok s p).1 ≠ 1 ∧ (ntok s p).1 ≠ 5 := by
  by_cases he : runTo blankB s p = s.size
  · rw [ntok_end he]; simp
  · have hk : runTo blankB s p < s.size := by have := runTo_le blankB s hp; omega
    rw [ntok_in he]
    show (scanAt good s (runTo blankB s p)).1 ≠ 1 ∧ (scanAt good s (runTo blankB s p)).1 ≠ 5
    by_cases h0 : at_ s (runTo blankB s p) = 40
    · exact absurd (sign_tok ⟨hk, h0, rfl⟩) h.1
    by_cases h3 : at_ s (runTo blankB s p) = 35
    · rw [scan_35 h3]
      by_cases hg : good (s.extract (runTo blankB s p + 1) (digitEnd s (runTo blankB s p))) = true
      · have hix : IdxAt s _ p (digitEnd s (runTo blankB s p)) := ⟨hk, h3, rfl, (good_iff hk rfl).1.1 hg, rfl⟩
        obtain ⟨e1, e2⟩ := idx_tok hix
        rcases h.2 with h4 | h4
        · have e3 := congrArg ByteArray.size (e1.symm.trans h4)
          have e0 : (⟨#[]⟩ : ByteArray).size = 0 := rfl
          rw [ByteArray.size_extract, e0] at e3
          have := digitEnd_ge s (runTo blankB s p)
          have := digitEnd_le hk
          omega
        · exact absurd e2 h4
      · rw [if_neg hg]; simp
    · unfold scanAt
      rw [if_neg h0]
      split
      · simp
      · split
        · simp
        · split
          · split <;> simp
          · simp

theorem noname_kind {s : ByteArray} {p : Nat} (hp : p ≤ s.size) (h : isNameB (tok s p).t = false) : (ntok s p).1 ≠ 3 := by
  by_cases he : runTo blankB s p = s.size
  · rw [ntok_end he]; simp
  · have hk : runTo blankB s p < s.size := by have := runTo_le blankB s hp; omega
    rw [ntok_in he]
    intro h3
    have h3' : (scanAt good s (runTo blankB s p)).1 = 3 := h3
    have hw : WordAt s (s.extract (runTo blankB s p) (nameEnd s (runTo blankB s p))) p (nameEnd s (runTo blankB s p)) := by
      unfold scanAt at h3'
      split at h3'
      · simp at h3'
      · split at h3'
        · simp at h3'
        · split at h3'
          · simp at h3'
          · split at h3'
            · split at h3' <;> simp at h3'
            · split at h3'
              · rename_i hnm
                split at h3'
                · rename_i hle
                  exact ⟨hk, hnm, rfl, hle, rfl⟩
                · simp at h3'
              · simp at h3'
    obtain ⟨e1, e2⟩ := word_tok hw
    rw [e1, e2] at h
    cases h

theorem noshut_kind {s : ByteArray} {p : Nat} (hp : p ≤ s.size) (h : (tok s p).t ≠ ⟨#[41]⟩) : (ntok s p).1 ≠ 2 := by
  by_cases he : runTo blankB s p = s.size
  · rw [ntok_end he]; simp
  · rw [ntok_in he]
    exact scan_close (by have := runTo_le blankB s hp; omega) h

theorem tfield2 (x y : Int) (q : ByteArray) (w : World) : (Instr.field 58 (.agg #[.int .i64 x, .int .i64 y, .string q]) 2).run Tryz.prog w = .ok (.string q) w := by kernel_rfl
theorem tfield0 (x y : Int) (q : ByteArray) (w : World) : (Instr.field 58 (.agg #[.int .i64 x, .int .i64 y, .string q]) 0).run Tryz.prog w = .ok (.int .i64 x) w := by kernel_rfl

set_option maxRecDepth 100000 in
set_option maxHeartbeats 1000000 in
theorem pname_calls (sc : Nat) (s : ByteArray) (p p' : Nat) (q : ByteArray) (w : World) (hs : s.size ≤ 20000) (hp : p ≤ s.size) (hw : WordAt s q p p') (h : ScAt w sc s p) (ht : Tabs w) (hsc : 6 < sc) :
    Calls Tryz.prog 35 #[.pointer (some ⟨sc, 0, none⟩)] w fun e w' => e = .returned (.string q) ∧ ScAt w' sc s p' ∧ Touched w sc w' := by
  have hlt := h.lt
  have K1 := hide (expect_calls sc s p 3 _ p' q [3] (.slice (some ⟨w.heap.size, 0, none⟩) 1 1) _ (hw.nexts hs hp) (h.alloc (.cells #[.int .i64 3] 56)) (ht.below ((Below.refl _ _).alloc (Nat.le_refl _) _) ht.lt) hsc (kinds1 3) (fun b n cap e => by injection e with e; injection e with e; injection e with e; omega) (by simp))
  clear h ht hw
  generalize runTo blankB s p = k at *
  go_enter Tryz.func35, Tryz.ntmps35
  go_wp2_with (go_at_call 16; refine K1.out.mono ?_)
  rintro e w1 ⟨rfl, hS1, hT1⟩
  have HS := hide hS1
  have HT := hide ((Touched.alloc w sc (.cells #[.int .i64 3] 56)).trans hT1)
  clear hS1 hT1
  have hfx := tfield2
  go_wp2_with fail
  go_ret
  exact ⟨rfl, HS.out, HT.out⟩

set_option maxRecDepth 100000 in
set_option maxHeartbeats 1000000 in
theorem pname_none (sc : Nat) (s : ByteArray) (p : Nat) (w : World) (hs : s.size ≤ 20000) (hp : p ≤ s.size) (hn : isNameB (tok s p).t = false) (h : ScAt w sc s p) (ht : Tabs w) (hsc : 6 < sc) :
    Calls Tryz.prog 35 #[.pointer (some ⟨sc, 0, none⟩)] w fun e w' => Threw w sc 1 (runTo blankB s p) e w' := by
  have hlt := h.lt
  have K1 := hide (expect_bad sc s p _ _ _ _ [3] (.slice (some ⟨w.heap.size, 0, none⟩) 1 1) _ (next_all hs hp) (h.alloc (.cells #[.int .i64 3] 56)) (ht.below ((Below.refl _ _).alloc (Nat.le_refl _) _) ht.lt) hsc (kinds1 3) (fun b n cap e => by injection e with e; injection e with e; injection e with e; omega) (by simp) (by simpa using noname_kind hp hn))
  clear h ht hn
  generalize runTo blankB s p = k at *
  go_enter Tryz.func35, Tryz.ntmps35
  go_wp2_with (go_at_call 16; refine K1.out.mono ?_)
  intro e w1 h1
  have H1 := hide (h1.from (Touched.alloc w sc _))
  obtain ⟨fb, rfl, -⟩ := h1
  go_wp2_with fail
  exact ⟨rfl, H1.out⟩

set_option maxRecDepth 100000 in
set_option maxHeartbeats 1000000 in
/-- Before: whether the closing bracket is next. -/
theorem before_calls (sc : Nat) (s : ByteArray) (p : Nat) (w : World) (hs : s.size ≤ 20000) (hp : p ≤ s.size) (h : ScAt w sc s p) (ht : Tabs w) :
    Calls Tryz.prog 49 #[.pointer (some ⟨sc, 0, none⟩), .int .i64 2] w fun e w' => e = .returned (.bool (decide ((tok s p).t = ⟨#[41]⟩))) ∧ Below w.heap.size w w' := by
  have hlt := h.lt
  have c0 := h.c0
  have c1 := h.c1
  have hx : ∃ kd k p' t, Nexts s p kd k p' t ∧ ((kd : Int) == 2) = decide ((tok s p).t = ⟨#[41]⟩) := by
    by_cases hc : (tok s p).t = ⟨#[41]⟩
    · exact ⟨2, _, _, _, (tok_shut hp hc).nexts hs hp 2 (.inr ⟨rfl, rfl⟩), by simp [hc]⟩
    · refine ⟨_, _, _, _, next_all hs hp, ?_⟩
      have := noshut_kind hp hc
      simp [hc]; omega
  obtain ⟨kd, k, p', t, hn, he⟩ := hx
  have h6 := ht.lt
  have hS : ScAt (w.alloc (.cells #[.string s, .int .i64 (p : Nat)] 55)) w.heap.size s p := heap_alloc_new w _
  have hB : Below w.heap.size w (w.alloc (.cells #[.string s, .int .i64 (p : Nat)] 55)) := (Below.refl _ _).alloc (Nat.le_refl _) _
  have K1 := hide (hn w.heap.size _ hS (ht.below hB h6) h6)
  have HB := hide hB
  clear h ht hn hS hB
  go_enter Tryz.func49, Tryz.ntmps49
  go_wp2_with (go_at_call 30; refine K1.out.mono ?_)
  rintro e w1 ⟨rfl, hS1, hT1⟩
  have HT := hide (HB.out.trans (hT1.below (B := w.heap.size) (by simp) (Nat.le_refl _)))
  clear hS1 hT1
  have hfx := tfield0
  go_wp2_with fail
  go_ret
  exact ⟨by rw [← he]; rfl, HT.out⟩

end Go.Proofs.YtnbpmmgekoclpaaGreatDoor
