/- What each reading of the scanner's comes to, at every place of a text: what stands there, or a throw where nothing does. -/
import Derived.Test.YtkgkmlikpljbiaaDoorFScan

namespace Go.Proofs.YtkgkmlikpljbiaaDoor
open Go.RowKit

theorem kind_is {s : ByteArray} {p : Nat} (hp : p ≤ s.size) :
    ((ntok s p).1 = 1 → ∃ p', SignAt s 40 p p') ∧ ((ntok s p).1 = 2 → ∃ p', SignAt s 41 p p') ∧ ((ntok s p).1 = 4 → runTo blankB s p < s.size ∧ digitB (at_ s (runTo blankB s p)) = true ∧ (ntok s p).2.2 = digitEnd s (runTo blankB s p)) := by
  by_cases he : runTo blankB s p = s.size
  · rw [ntok_end he]
    exact ⟨fun h => absurd h (by simp), fun h => absurd h (by simp), fun h => absurd h (by simp)⟩
  · have hk : runTo blankB s p < s.size := by have := runTo_le blankB s hp; omega
    rw [ntok_in he]
    show ((scanAt good s (runTo blankB s p)).1 = 1 → _) ∧ ((scanAt good s (runTo blankB s p)).1 = 2 → _) ∧ ((scanAt good s (runTo blankB s p)).1 = 4 → _ ∧ _ ∧ (scanAt good s (runTo blankB s p)).2 = _)
    unfold scanAt
    by_cases h1 : at_ s (runTo blankB s p) = 40
    · rw [if_pos h1]
      exact ⟨fun _ => ⟨_, hk, h1, rfl⟩, fun h => absurd h (by simp), fun h => absurd h (by simp)⟩
    rw [if_neg h1]
    by_cases h2 : at_ s (runTo blankB s p) = 41
    · rw [if_pos h2]
      exact ⟨fun h => absurd h (by simp), fun _ => ⟨_, hk, h2, rfl⟩, fun h => absurd h (by simp)⟩
    rw [if_neg h2]
    by_cases h3 : digitB (at_ s (runTo blankB s p)) = true
    · rw [if_pos h3]
      exact ⟨fun h => absurd h (by simp), fun h => absurd h (by simp), fun _ => ⟨hk, h3, rfl⟩⟩
    rw [if_neg h3]
    refine ⟨?_, ?_, ?_⟩ <;> (repeat' split) <;> intro h <;> simp at h

/-- What a reading comes to. -/
def Got (R : Value → Nat → Prop) (N : Prop) (w : World) (sc : Nat) (s : ByteArray) (e : Ending) (w' : World) : Prop :=
  (∃ v p', R v p' ∧ e = .returned v ∧ ScAt w' sc s p' ∧ Touched w sc w') ∨ (N ∧ Thrown w sc e w')

section
variable (sc : Nat) (s : ByteArray) (p : Nat) (w : World) (hs : s.size ≤ 200000) (hp : p ≤ s.size) (h : ScAt w sc s p) (ht : Tabs3 w) (hsc : 7 < sc)
include hs hp h ht hsc

theorem sign_total (c kd : Nat) (hc : (c = 40 ∧ kd = 1) ∨ (c = 41 ∧ kd = 2)) (v : Value) (hv : InKinds w v [kd]) (hne : ∀ b n cap, v = .slice (some ⟨b, 0, none⟩) n cap → b ≠ sc) :
    Calls Tryd.prog 15 #[.pointer (some ⟨sc, 0, none⟩), v] w fun e w' => Got (fun _ p' => SignAt s c p p') (∀ p', ¬ SignAt s c p p') w sc s e w' := by
  by_cases hx : ∃ p', SignAt s c p p'
  · obtain ⟨p', hx⟩ := hx
    refine (expect_calls sc s p kd _ p' _ [kd] v w (hx.nexts hs hp kd hc) h ht.b.a hsc hv hne (by simp)).mono ?_
    rintro e w' ⟨rfl, h1, h2⟩
    exact .inl ⟨_, p', hx, rfl, h1, h2⟩
  · refine (expect_bad sc s p _ _ _ _ [kd] v w (next_all hs hp) h ht.b.a hsc hv hne (by simp) ?_).mono ?_
    · rcases hc with ⟨rfl, rfl⟩ | ⟨rfl, rfl⟩
      · simpa using fun h => hx ((kind_is hp).1 h)
      · simpa using fun h => hx ((kind_is hp).2.1 h)
    · intro e w' h1
      exact .inr ⟨fun p' h => hx ⟨p', h⟩, _, _, h1⟩

theorem name_total : Calls Tryd.prog 30 #[.pointer (some ⟨sc, 0, none⟩)] w fun e w' => Got (fun v p' => ∃ q, v = .string q ∧ WordAt s q p p') (∀ q p', ¬ WordAt s q p p') w sc s e w' := by
  by_cases hx : ∃ q p', WordAt s q p p'
  · obtain ⟨q, p', hx⟩ := hx
    refine (pname_calls sc s p p' q w hs hp hx h ht.b.a hsc).mono ?_
    rintro e w' ⟨rfl, h1, h2⟩
    exact .inl ⟨_, p', ⟨q, rfl, hx⟩, rfl, h1, h2⟩
  · have hn : isNameB (tok s p).t = false := by
      rw [← Bool.not_eq_true]
      exact fun hn => hx ⟨_, _, tok_word hp hn⟩
    refine (pname_none sc s p w hs hp hn h ht.b.a hsc).mono ?_
    intro e w' h1
    exact .inr ⟨fun q p' h => hx ⟨q, p', h⟩, _, _, h1⟩

theorem dword_total : Calls Tryd.prog 28 #[.pointer (some ⟨sc, 0, none⟩), .func (.func 29) #[] #[]] w fun e w' => Got (fun v p' => ∃ kd : Nat, v = .int .i64 (kd : Nat) ∧ (1 ≤ kd ∧ kd ≤ 3) ∧ WordAt s (dword kd) p p') (∀ kd p', 1 ≤ kd ∧ kd ≤ 3 → ¬ WordAt s (dword kd) p p') w sc s e w' := by
  by_cases hn : isNameB (tok s p).t = true
  · have hw := tok_word hp hn
    by_cases hk : ∃ kd, (1 ≤ kd ∧ kd ≤ 3) ∧ (tok s p).t = dword kd
    · obtain ⟨kd, hk, e⟩ := hk
      rw [e] at hw
      refine (dword_calls sc s p _ _ kd (dword kd) w (hw.nexts hs hp) h ht hsc hk.1 hk.2 rfl).mono ?_
      rintro e w' ⟨rfl, h1, h2⟩
      exact .inl ⟨_, _, ⟨kd, rfl, hk, hw⟩, rfl, h1, h2⟩
    · have h1 : ∀ k, 1 ≤ k ∧ k ≤ 3 → (tok s p).t ≠ dword k := fun k hk' e => hk ⟨k, hk', e⟩
      refine (dword_other sc s p _ _ _ w (hw.nexts hs hp) h ht hsc (fun e => by rw [e] at hn; simp [isNameB] at hn) (h1 1 (by omega)) (h1 2 (by omega)) (h1 3 (by omega))).mono ?_
      intro e w' h2
      exact .inr ⟨fun k p' hk' hx => hk ⟨k, hk', (hw.same hx).1⟩, h2⟩
  · rw [Bool.not_eq_true] at hn
    refine (dword_none sc s p w hs hp hn h ht hsc).mono ?_
    intro e w' h2
    exact .inr ⟨fun k p' _ hx => absurd hn (by have := word_tok hx; rw [this.1, this.2]; simp), h2⟩

theorem cword_total : Calls Tryd.prog 28 #[.pointer (some ⟨sc, 0, none⟩), .func (.func 45) #[] #[]] w fun e w' => Got (fun _ p' => WordAt s cword p p') (∀ p', ¬ WordAt s cword p p') w sc s e w' := by
  by_cases hn : isNameB (tok s p).t = true
  · have hw := tok_word hp hn
    by_cases hk : (tok s p).t = cword
    · rw [hk] at hw
      refine (cword_calls sc s p _ _ 1 cword w (hw.nexts hs hp) h ht hsc rfl rfl).mono ?_
      rintro e w' ⟨rfl, h1, h2⟩
      exact .inl ⟨_, _, hw, rfl, h1, h2⟩
    · refine (cword_other sc s p _ _ _ w (hw.nexts hs hp) h ht hsc hk).mono ?_
      intro e w' h2
      exact .inr ⟨fun p' hx => hk (hw.same hx).1, h2⟩
  · rw [Bool.not_eq_true] at hn
    refine (cword_none sc s p w hs hp hn h ht hsc).mono ?_
    intro e w' h2
    exact .inr ⟨fun p' hx => absurd hn (by have := word_tok hx; rw [this.1, this.2]; simp), h2⟩

theorem term_got (D : Nat) (hD : 200000 < D) : Calls Tryd.prog 33 #[.pointer (some ⟨sc, 0, none⟩)] w fun e w' => (∃ t p', RT s D t p p' ∧ TermOf w sc s D t p' e w') ∨ ((∀ t p', ¬ RT s D t p p') ∧ Thrown w sc e w') := by
  rcases term_total hs D p hp (by omega) with ⟨t, p', hr⟩ | ⟨a, hf⟩
  · refine ((sterm_both s hs sc hsc D).1 t p p' w hr hp h ht.b).mono ?_
    intro e w' h1
    exact .inl ⟨t, p', hr, h1⟩
  · refine ((sterm_both s hs sc hsc D).2 p a w hf hp h ht.b).mono ?_
    intro e w' h1
    exact .inr ⟨fun t p' hr => hf.no hr, _, _, h1⟩
end

theorem num_pos {d : ByteArray} (hg : Digs d) {v : Int} (h : numOf d 99 = some v) : 0 ≤ v := by
  have h2 : numOf d 99999 = some v := by
    unfold numOf at h ⊢
    split at h
    · cases h
    · rename_i h0
      rw [if_neg h0]
      cases hx : Lib.atoiAll d.data.toList with
      | ok u =>
        rw [hx] at h
        simp only [] at h ⊢
        split at h
        · cases h
        · rw [if_neg (by omega)]; exact h
      | _ => rw [hx] at h; simp at h
  rw [numOf_digits hg] at h2
  split at h2
  · cases h2
  · injection h2 with h2; omega

set_option maxRecDepth 100000 in
set_option maxHeartbeats 4000000 in
theorem num_total (sc : Nat) (s : ByteArray) (p : Nat) (w : World) (hs : s.size ≤ 200000) (hp : p ≤ s.size) (h : ScAt w sc s p) (ht : Tabs3 w) (hsc : 7 < sc) :
    Calls Tryd.prog 32 #[.pointer (some ⟨sc, 0, none⟩), .int .i64 99] w fun e w' => Got (fun v p' => ∃ n : Nat, v = .int .i64 (n : Nat) ∧ NumAt s n p p') (∀ n p', ¬ NumAt s n p p') w sc s e w' := by
  have hlt := h.lt
  have hT0 := ht.alloc (.cells #[.int .i64 4] 56)
  by_cases hk : (ntok s p).1 = 4
  · obtain ⟨k1, k2, k3⟩ := (kind_is hp).2.2 hk
    have hn := next_all hs hp
    rw [hk, k3] at hn
    have he := digitEnd_le k1
    have hge := digitEnd_ge s (runTo blankB s p)
    have htx : ntext s p = s.extract (runTo blankB s p) (digitEnd s (runTo blankB s p)) := by
      unfold ntext
      rw [if_neg (by omega), ntok_at, k3]
    rw [htx] at hn
    obtain ⟨t, hte⟩ : ∃ t, t = s.extract (runTo blankB s p) (digitEnd s (runTo blankB s p)) := ⟨_, rfl⟩
    rw [← hte] at hn
    have hdg : Digs t := by
      rw [hte]
      have h2 := run_digs (s := s) (a := runTo blankB s p) (q := digitEnd s (runTo blankB s p)) (by omega) (runTo_step k1 k2)
      exact h2
    have hsz : t.size ≤ 1000000000 := by rw [hte, ByteArray.size_extract]; omega
    have hNum : ∀ n : Nat, numOf t 99 = some (n : Int) → NumAt s n p (digitEnd s (runTo blankB s p)) := fun n e => ⟨k1, k2, rfl, by rw [← hte]; exact e⟩
    have hNo : numOf t 99 = none → ∀ n p', ¬ NumAt s n p p' := fun e n p' hx => by
      have hx' := hx.2.2.2
      rw [hx.2.2.1, ← hte, e] at hx'
      cases hx'
    have hpos : ∀ v, numOf t 99 = some v → 0 ≤ v := fun v e => num_pos hdg e
    have K1 := hide (expect_calls sc s p 4 _ _ t [4] (.slice (some ⟨w.heap.size, 0, none⟩) 1 1) _ hn (h.alloc (.cells #[.int .i64 4] 56)) hT0.b.a hsc (kinds1 4) (fun b n cap e => by injection e with e; injection e with e; injection e with e; omega) (by simp))
    have HT := hide hT0
    have HNum := hide hNum
    have HNo := hide hNo
    have HPos := hide hpos
    have K2 : Hid (∀ W, Tabs3 W → Calls Tryd.prog 43 #[.string t, .int .i64 99] W fun e w' => e = .returned (.tuple #[.int .i64 ((numOf t 99).getD 0), .bool (numOf t 99).isSome]) ∧ Below W.heap.size W w') := fun W hW => number_calls t 99 W hsz hdg hW.b.a
    clear h ht hn hT0 hdg hsz hNum hNo hte htx hpos k2 hk k3
    generalize hq : digitEnd s (runTo blankB s p) = p' at *
    generalize runTo blankB s p = k at *
    clear hq
    go_enter Tryd.func32, Tryd.ntmps32
    go_wp2_with (go_at_call 15; refine K1.out.mono ?_)
    rintro e w1 ⟨rfl, hS1, hT1⟩
    have hS2 := hS1.alloc (.cells #[.int .i64 (4 : Nat), .int .i64 (k : Nat), .string t] 58)
    have hT2 := hT1.trans (Touched.alloc w1 sc (.cells #[.int .i64 (4 : Nat), .int .i64 (k : Nat), .string t] 58))
    have K3 := hide (K2.out _ (HT.out.touched hT2 hsc))
    have hz1 := hT1.size
    have HS2 := hide hS2
    have HT2 := hide ((Touched.alloc w sc (.cells #[.int .i64 4] 56)).trans hT2)
    clear hS1 hT1 hS2 hT2
    obtain ⟨r, hr⟩ : ∃ r, r = numOf t 99 := ⟨_, rfl⟩
    rw [← hr] at K3 HNo HNum HPos
    clear hr K2
    cases r with
    | none =>
      go_wp2_with (go_at_call 43; refine K3.out.mono ?_)
      rintro e w2 ⟨rfl, hb⟩
      have d0 : w2.cell? ⟨w1.heap.size, 0, none⟩ = some (.int .i64 4) := by rw [hb.cell (by simp)]; simp
      have d1 : w2.cell? ⟨w1.heap.size, 1, none⟩ = some (.int .i64 (k : Nat)) := by rw [hb.cell (by simp)]; simp
      have d2 : w2.cell? ⟨w1.heap.size, 2, none⟩ = some (.string t) := by rw [hb.cell (by simp)]; simp
      have HT3 := hide (HT2.out.later hb)
      have K4 := hide (misplaced_calls 4 k t sc w2)
      clear hb
      go_wp2_with (go_at_call 27; refine K4.out.mono ?_)
      intro e w3 h3
      have H3 := hide (h3.from HT3.out)
      obtain ⟨fb, rfl, -⟩ := h3
      go_wp2_with fail
      exact ⟨rfl, .inr ⟨HNo.out (by trivial), _, _, H3.out⟩⟩
    | some v =>
      have hv := HPos.out v rfl
      obtain ⟨n, rfl⟩ : ∃ n : Nat, v = (n : Int) := ⟨v.toNat, by omega⟩
      have HN := hide (HNum.out n rfl)
      clear HNo HNum HPos hv
      go_wp2_with (go_at_call 43; refine K3.out.mono ?_)
      rintro e w2 ⟨rfl, hb⟩
      have HS3 := hide (HS2.out.below hb)
      have HT3 := hide (HT2.out.later hb)
      have HF : Hid (Got (fun v p' => ∃ n : Nat, v = .int .i64 (n : Nat) ∧ NumAt s n p p') (∀ n p', ¬ NumAt s n p p') w sc s (.returned (.int .i64 (n : Nat))) w2) := .inl ⟨_, p', ⟨n, rfl, HN.out⟩, rfl, HS3.out, HT3.out⟩
      clear hb
      go_wp2_with fail
      go_ret
      exact HF.out
  · have K1 := hide (expect_bad sc s p _ _ _ _ [4] (.slice (some ⟨w.heap.size, 0, none⟩) 1 1) _ (next_all hs hp) (h.alloc (.cells #[.int .i64 4] 56)) hT0.b.a hsc (kinds1 4) (fun b n cap e => by injection e with e; injection e with e; injection e with e; omega) (by simp) (by simpa using hk))
    have HN : Hid (∀ n p', ¬ NumAt s n p p') := fun n p' hx => by
      apply hk
      have he : runTo blankB s p ≠ s.size := by have := hx.1; omega
      rw [ntok_in he]
      show (scanAt good s (runTo blankB s p)).1 = 4
      unfold scanAt
      have hd := hx.2.1
      rw [if_neg (fun e => by rw [e] at hd; simp [digitB] at hd), if_neg (fun e => by rw [e] at hd; simp [digitB] at hd), if_pos hd]
    clear h ht hT0 hk
    go_enter Tryd.func32, Tryd.ntmps32
    go_wp2_with (go_at_call 15; refine K1.out.mono ?_)
    intro e w1 h1
    have H1 := hide (h1.from (Touched.alloc w sc _))
    obtain ⟨fb, rfl, -⟩ := h1
    go_wp2_with fail
    exact ⟨rfl, .inr ⟨HN.out, _, _, H1.out⟩⟩

end Go.Proofs.YtkgkmlikpljbiaaDoor
