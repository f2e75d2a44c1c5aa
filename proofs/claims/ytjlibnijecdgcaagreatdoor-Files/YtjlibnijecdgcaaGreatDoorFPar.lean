/- What each reading of the scanner's comes to, at every place of a text: what stands there, or a throw where nothing does. -/
import Derived.Test.YtjlibnijecdgcaaGreatDoorFScan

namespace Go.Proofs.YtjlibnijecdgcaaGreatDoor
open Go.RowKit

theorem kind_is {s : ByteArray} {p : Nat} (hp : p ≤ s.size) :
    ((ntok s p).1 = 1 → ∃ p', SignAt s 40 p p') ∧ ((ntok s p).1 = 2 → ∃ p', SignAt s 41 p p') ∧ ((ntok s p).1 = 4 → runTo blankB s p < s.size ∧ digitB (at_ s (runTo blankB s p)) = true ∧ (ntok s p).2.2 = digitEnd s (runTo blankB s p)) := by
  by_cases he : runTo blankB s p = s.size
  · rw [ntok_end he]
    exact ⟨fun h => absurd h (by simp), fun h => absurd h (by simp), fun h => absurd h (by simp)⟩
  · have hk : runTo blankB s p < s.size := by have := runTo_le blankB s hp; omega
    rw [ntok_in he]
    show ((scanAt good s (runTo blankB s p)).1 = 1 → _) ∧ ((scanAt good s (runTo blankB s p)).1 = 2 → _) ∧ ((scanAt good s (runTo blankB s p)).1 = 4 → _ ∧ _ ∧ (scanAt good s (runTo blankB s p)).2 = _)
    unfold scanAt
    by_cases h1 : at_ s (runTo blankB s p) = 40
    · rw [if_pos h1]
      exact ⟨fun _ => ⟨_, hk, h1, rfl⟩, fun h => absurd h (by simp), fun h => absurd h (by simp)⟩
    rw [if_neg h1]
    by_cases h2 : at_ s (runTo blankB s p) = 41
    · rw [if_pos h2]
      exact ⟨fun h => absurd h (by simp), fun _ => ⟨_, hk, h2, rfl⟩, fun h => absurd h (by simp)⟩
    rw [if_neg h2]
    by_cases h3 : digitB (at_ s (runTo blankB s p)) = true
    · rw [if_pos h3]
      exact ⟨fun h => absurd h (by simp), fun h => absurd h (by simp), fun _ => ⟨hk, h3, rfl⟩⟩
    rw [if_neg h3]
    refine ⟨?_, ?_, ?_⟩ <;> (repeat' split) <;> intro h <;> simp at h

/-- What a reading comes to. -/
def Got (R : Value → Nat → Prop) (N : Prop) (a : Nat) (w : World) (sc : Nat) (s : ByteArray) (e : Ending) (w' : World) : Prop :=
  (∃ v p', R v p' ∧ e = .returned v ∧ ScAt w' sc s p' ∧ Touched w sc w') ∨ (N ∧ Thrown w sc a e w')

section
variable (sc : Nat) (s : ByteArray) (p : Nat) (w : World) (hs : s.size ≤ 200000) (hp : p ≤ s.size) (h : ScAt w sc s p) (ht : Tabs3 w) (hsc : 11 < sc)
include hs hp h ht hsc

theorem sign_total (c kd : Nat) (hc : (c = 40 ∧ kd = 1) ∨ (c = 41 ∧ kd = 2)) (v : Value) (hv : InKinds w v [kd]) (hne : ∀ b n cap, v = .slice (some ⟨b, 0, none⟩) n cap → b ≠ sc) :
    Calls Tryz.prog 30 #[.pointer (some ⟨sc, 0, none⟩), v] w fun e w' => Got (fun _ p' => SignAt s c p p') (∀ p', ¬ SignAt s c p p') (runTo blankB s p) w sc s e w' := by
  by_cases hx : ∃ p', SignAt s c p p'
  · obtain ⟨p', hx⟩ := hx
    refine (expect_calls sc s p kd _ p' _ [kd] v w (hx.nexts hs hp kd hc) h ht.b.a hsc hv hne (by simp)).mono ?_
    rintro e w' ⟨rfl, h1, h2⟩
    exact .inl ⟨_, p', hx, rfl, h1, h2⟩
  · refine (expect_bad sc s p _ _ _ _ [kd] v w (next_all hs hp) h ht.b.a hsc hv hne (by simp) ?_).mono ?_
    · rcases hc with ⟨rfl, rfl⟩ | ⟨rfl, rfl⟩
      · simpa using fun h => hx ((kind_is hp).1 h)
      · simpa using fun h => hx ((kind_is hp).2.1 h)
    · intro e w' h1
      exact .inr ⟨fun p' h => hx ⟨p', h⟩, h1⟩

theorem name_total : Calls Tryz.prog 49 #[.pointer (some ⟨sc, 0, none⟩)] w fun e w' => Got (fun v p' => ∃ q, v = .string q ∧ WordAt s q p p') (∀ q p', ¬ WordAt s q p p') (runTo blankB s p) w sc s e w' := by
  by_cases hx : ∃ q p', WordAt s q p p'
  · obtain ⟨q, p', hx⟩ := hx
    refine (pname_calls sc s p p' q w hs hp hx h ht.b.a hsc).mono ?_
    rintro e w' ⟨rfl, h1, h2⟩
    exact .inl ⟨_, p', ⟨q, rfl, hx⟩, rfl, h1, h2⟩
  · have hn : isNameB (tok s p).t = false := by
      rw [← Bool.not_eq_true]
      exact fun hn => hx ⟨_, _, tok_word hp hn⟩
    refine (pname_none sc s p w hs hp hn h ht.b.a hsc).mono ?_
    intro e w' h1
    exact .inr ⟨fun q p' h => hx ⟨q, p', h⟩, h1⟩

theorem dword_total : Calls Tryz.prog 47 #[.pointer (some ⟨sc, 0, none⟩), .func (.func 48) #[] #[]] w fun e w' => Got (fun v p' => ∃ kd : Nat, v = .int .i64 (kd : Nat) ∧ (1 ≤ kd ∧ kd ≤ 3) ∧ WordAt s (dword kd) p p') (∀ kd p', 1 ≤ kd ∧ kd ≤ 3 → ¬ WordAt s (dword kd) p p') (runTo blankB s p) w sc s e w' := by
  by_cases hn : isNameB (tok s p).t = true
  · have hw := tok_word hp hn
    by_cases hk : ∃ kd, (1 ≤ kd ∧ kd ≤ 3) ∧ (tok s p).t = dword kd
    · obtain ⟨kd, hk, e⟩ := hk
      rw [e] at hw
      refine (dword_calls sc s p _ _ kd (dword kd) w (hw.nexts hs hp) h ht hsc hk.1 hk.2 rfl).mono ?_
      rintro e w' ⟨rfl, h1, h2⟩
      exact .inl ⟨_, _, ⟨kd, rfl, hk, hw⟩, rfl, h1, h2⟩
    · have h1 : ∀ k, 1 ≤ k ∧ k ≤ 3 → (tok s p).t ≠ dword k := fun k hk' e => hk ⟨k, hk', e⟩
      refine (dword_other sc s p _ _ _ w (hw.nexts hs hp) h ht hsc (fun e => by rw [e] at hn; simp [isNameB] at hn) (h1 1 (by omega)) (h1 2 (by omega)) (h1 3 (by omega))).mono ?_
      intro e w' h2
      exact .inr ⟨fun k p' hk' hx => hk ⟨k, hk', (hw.same hx).1⟩, h2⟩
  · rw [Bool.not_eq_true] at hn
    refine (dword_none sc s p w hs hp hn h ht hsc).mono ?_
    intro e w' h2
    exact .inr ⟨fun k p' _ hx => absurd hn (by have := word_tok hx; rw [this.1, this.2]; simp), h2⟩

theorem cword_total : Calls Tryz.prog 47 #[.pointer (some ⟨sc, 0, none⟩), .func (.func 78) #[] #[]] w fun e w' => Got (fun _ p' => WordAt s cword p p') (∀ p', ¬ WordAt s cword p p') (runTo blankB s p) w sc s e w' := by
  by_cases hn : isNameB (tok s p).t = true
  · have hw := tok_word hp hn
    by_cases hk : (tok s p).t = cword
    · rw [hk] at hw
      refine (cword_calls sc s p _ _ 1 cword w (hw.nexts hs hp) h ht hsc rfl rfl).mono ?_
      rintro e w' ⟨rfl, h1, h2⟩
      exact .inl ⟨_, _, hw, rfl, h1, h2⟩
    · refine (cword_other sc s p _ _ _ w (hw.nexts hs hp) h ht hsc hk).mono ?_
      intro e w' h2
      exact .inr ⟨fun p' hx => hk (hw.same hx).1, h2⟩
  · rw [Bool.not_eq_true] at hn
    refine (cword_none sc s p w hs hp hn h ht hsc).mono ?_
    intro e w' h2
    exact .inr ⟨fun p' hx => absurd hn (by have := word_tok hx; rw [this.1, this.2]; simp), h2⟩

theorem term_got (D : Nat) (hD : 200000 < D) : Calls Tryz.prog 52 #[.pointer (some ⟨sc, 0, none⟩)] w fun e w' => (∃ t p', RT s D t p p' ∧ TermOf w sc s D t p' e w') ∨ (∃ a, FT s D p a ∧ Thrown w sc a e w') := by
  rcases term_total hs D p hp (by omega) with ⟨t, p', hr⟩ | ⟨a, hf⟩
  · refine ((sterm_both s hs sc hsc D).1 t p p' w hr hp h ht.b).mono ?_
    intro e w' h1
    exact .inl ⟨t, p', hr, h1⟩
  · refine ((sterm_both s hs sc hsc D).2 p a w hf hp h ht.b).mono ?_
    intro e w' h1
    exact .inr ⟨a, hf, h1⟩
end

theorem num_pos {d : ByteArray} (hg : Digs d) {v : Int} (h : numOf d 99 = some v) : 0 ≤ v := by
  have h2 : numOf d 99999 = some v := by
    unfold numOf at h ⊢
    split at h
    · cases h
    · rename_i h0
      rw [if_neg h0]
      cases hx : Lib.atoiAll d.data.toList with
      | ok u =>
        rw [hx] at h
        simp only [] at h ⊢
        split at h
        · cases h
        · rw [if_neg (by omega)]; exact h
      | _ => rw [hx] at h; simp at h
  rw [numOf_digits hg] at h2
  split at h2
  · cases h2
  · injection h2 with h2; omega

set_option maxRecDepth 100000 in
set_option maxHeartbeats 4000000 in
theorem num_total (sc : Nat) (s : ByteArray) (p : Nat) (w : World) (hs : s.size ≤ 200000) (hp : p ≤ s.size) (h : ScAt w sc s p) (ht : Tabs3 w) (hsc : 11 < sc) :
    Calls Tryz.prog 51 #[.pointer (some ⟨sc, 0, none⟩), .int .i64 99] w fun e w' => Got (fun v p' => ∃ n : Nat, v = .int .i64 (n : Nat) ∧ NumAt s n p p') (∀ n p', ¬ NumAt s n p p') (runTo blankB s p) w sc s e w' := by
  have hlt := h.lt
  have hT0 := ht.alloc (.cells #[.int .i64 4] 71)
  by_cases hk : (ntok s p).1 = 4
  · obtain ⟨k1, k2, k3⟩ := (kind_is hp).2.2 hk
    have hn := next_all hs hp
    rw [hk, k3] at hn
    have he := digitEnd_le k1
    have hge := digitEnd_ge s (runTo blankB s p)
    have htx : ntext s p = s.extract (runTo blankB s p) (digitEnd s (runTo blankB s p)) := by
      unfold ntext
      rw [if_neg (by omega), ntok_at, k3]
    rw [htx] at hn
    obtain ⟨t, hte⟩ : ∃ t, t = s.extract (runTo blankB s p) (digitEnd s (runTo blankB s p)) := ⟨_, rfl⟩
    rw [← hte] at hn
    have hdg : Digs t := by
      rw [hte]
      have h2 := run_digs (s := s) (a := runTo blankB s p) (q := digitEnd s (runTo blankB s p)) (by omega) (runTo_step k1 k2)
      exact h2
    have hsz : t.size ≤ 1000000000 := by rw [hte, ByteArray.size_extract]; omega
    have hNum : ∀ n : Nat, numOf t 99 = some (n : Int) → NumAt s n p (digitEnd s (runTo blankB s p)) := fun n e => ⟨k1, k2, rfl, by rw [← hte]; exact e⟩
    have hNo : numOf t 99 = none → ∀ n p', ¬ NumAt s n p p' := fun e n p' hx => by
      have hx' := hx.2.2.2
      rw [hx.2.2.1, ← hte, e] at hx'
      cases hx'
    have hpos : ∀ v, numOf t 99 = some v → 0 ≤ v := fun v e => num_pos hdg e
    have K1 := hide (expect_calls sc s p 4 _ _ t [4] (.slice (some ⟨w.heap.size, 0, none⟩) 1 1) _ hn (h.alloc (.cells #[.int .i64 4] 71)) hT0.b.a hsc (kinds1 4) (fun b n cap e => by injection e with e; injection e with e; injection e with e; omega) (by simp))
    have HT := hide hT0
    have HNum := hide hNum
    have HNo := hide hNo
    have HPos := hide hpos
    have K2 : Hid (∀ W, Tabs3 W → Calls Tryz.prog 76 #[.string t, .int .i64 99] W fun e w' => e = .returned (.tuple #[.int .i64 ((numOf t 99).getD 0), .bool (numOf t 99).isSome]) ∧ Below W.heap.size W w') := fun W hW => number_calls t 99 W hsz hdg hW.b.a
    clear h ht hn hT0 hdg hsz hNum hNo hte htx hpos k2 hk k3
    generalize hq : digitEnd s (runTo blankB s p) = p' at *
    generalize runTo blankB s p = k at *
    clear hq
    go_enter Tryz.func51, Tryz.ntmps51
    go_wp2_with (go_at_call 30; refine K1.out.mono ?_)
    rintro e w1 ⟨rfl, hS1, hT1⟩
    have hS2 := hS1.alloc (.cells #[.int .i64 (4 : Nat), .int .i64 (k : Nat), .string t] 73)
    have hT2 := hT1.trans (Touched.alloc w1 sc (.cells #[.int .i64 (4 : Nat), .int .i64 (k : Nat), .string t] 73))
    have K3 := hide (K2.out _ (HT.out.touched hT2 hsc))
    have hz1 := hT1.size
    have HS2 := hide hS2
    have HT2 := hide ((Touched.alloc w sc (.cells #[.int .i64 4] 71)).trans hT2)
    clear hS1 hT1 hS2 hT2
    obtain ⟨r, hr⟩ : ∃ r, r = numOf t 99 := ⟨_, rfl⟩
    rw [← hr] at K3 HNo HNum HPos
    clear hr K2
    cases r with
    | none =>
      go_wp2_with (go_at_call 76; refine K3.out.mono ?_)
      rintro e w2 ⟨rfl, hb⟩
      have d0 : w2.cell? ⟨w1.heap.size, 0, none⟩ = some (.int .i64 4) := by rw [hb.cell (by simp)]; simp
      have d1 : w2.cell? ⟨w1.heap.size, 1, none⟩ = some (.int .i64 (k : Nat)) := by rw [hb.cell (by simp)]; simp
      have d2 : w2.cell? ⟨w1.heap.size, 2, none⟩ = some (.string t) := by rw [hb.cell (by simp)]; simp
      have HT3 := hide (HT2.out.later hb)
      have K4 := hide (misplaced_calls 4 k t sc w2)
      clear hb
      go_wp2_with (go_at_call 46; refine K4.out.mono ?_)
      intro e w3 h3
      have H3 := hide (h3.from HT3.out)
      obtain ⟨fb, rfl, -⟩ := h3
      go_wp2_with fail
      exact ⟨rfl, .inr ⟨HNo.out (by trivial), H3.out⟩⟩
    | some v =>
      have hv := HPos.out v rfl
      obtain ⟨n, rfl⟩ : ∃ n : Nat, v = (n : Int) := ⟨v.toNat, by omega⟩
      have HN := hide (HNum.out n rfl)
      clear HNo HNum HPos hv
      go_wp2_with (go_at_call 76; refine K3.out.mono ?_)
      rintro e w2 ⟨rfl, hb⟩
      have HS3 := hide (HS2.out.below hb)
      have HT3 := hide (HT2.out.later hb)
      have HF : Hid (Got (fun v p' => ∃ n : Nat, v = .int .i64 (n : Nat) ∧ NumAt s n p p') (∀ n p', ¬ NumAt s n p p') k w sc s (.returned (.int .i64 (n : Nat))) w2) := .inl ⟨_, p', ⟨n, rfl, HN.out⟩, rfl, HS3.out, HT3.out⟩
      clear hb
      go_wp2_with fail
      go_ret
      exact HF.out
  · have K1 := hide (expect_bad sc s p _ _ _ _ [4] (.slice (some ⟨w.heap.size, 0, none⟩) 1 1) _ (next_all hs hp) (h.alloc (.cells #[.int .i64 4] 71)) hT0.b.a hsc (kinds1 4) (fun b n cap e => by injection e with e; injection e with e; injection e with e; omega) (by simp) (by simpa using hk))
    have HN : Hid (∀ n p', ¬ NumAt s n p p') := fun n p' hx => by
      apply hk
      have he : runTo blankB s p ≠ s.size := by have := hx.1; omega
      rw [ntok_in he]
      show (scanAt good s (runTo blankB s p)).1 = 4
      unfold scanAt
      have hd := hx.2.1
      rw [if_neg (fun e => by rw [e] at hd; simp [digitB] at hd), if_neg (fun e => by rw [e] at hd; simp [digitB] at hd), if_pos hd]
    clear h ht hT0 hk
    go_enter Tryz.func51, Tryz.ntmps51
    go_wp2_with (go_at_call 30; refine K1.out.mono ?_)
    intro e w1 h1
    have H1 := hide (h1.from (Touched.alloc w sc _))
    obtain ⟨fb, rfl, -⟩ := h1
    go_wp2_with fail
    exact ⟨rfl, .inr ⟨HN.out, H1.out⟩⟩

end Go.Proofs.YtjlibnijecdgcaaGreatDoor

/- The contract of params: names in brackets. -/
namespace Go.Proofs.YtjlibnijecdgcaaGreatDoor
open Go.RowKit

/-- While names are read. -/
structure NmsRd (w : World) (sc : Nat) (s : ByteArray) (p1 : Nat) (ns : List ByteArray) (pk : Nat) (rv : Value) (W : World) : Prop where
  seq : SeqG (WordAt s) ns p1 pk
  le : pk ≤ s.size
  few : ns.length ≤ pk
  scan : ScAt W sc s pk
  old : Touched w sc W
  own : W.ownsRow w.heap.size 9 1 rv ns.length (ns.map .string)

/-- What params comes to. -/
def ParEnd (w : World) (sc : Nat) (s : ByteArray) (p : Nat) (e : Ending) (w' : World) : Prop :=
  (∃ ps p' A c, ParamsAt s ps p p' ∧ e = .returned (.slice A ps.length c) ∧ w'.ownsRow w.heap.size 9 1 (.slice A ps.length c) ps.length (ps.map .string) ∧ ps.length ≤ s.size ∧ ScAt w' sc s p' ∧ Touched w sc w') ∨ (∃ a, bParams s p a ∧ Thrown w sc a e w')

theorem own_row_slice {w : World} {base T z n : Nat} {v : Value} {xs : List Value} (h : w.ownsRow base T z v n xs) : ∃ A c, v = .slice A n c := by
  rcases h.2 with ⟨e, h0⟩ | ⟨g, cap, cur, e, _⟩
  · exact ⟨none, 0, by rw [e, h0]⟩
  · exact ⟨_, _, e⟩
theorem tok_of_shut {s : ByteArray} {p p' : Nat} (h : SignAt s 41 p p') : (tok s p).t = ⟨#[41]⟩ := shut_tok h

theorem Tryz.info9' : (Tryz.prog.info? 9).map (fun i => (i.zero, i.size, i.bytes)) = some (some (.string ⟨#[]⟩), 1, 16) := by kernel_rfl

set_option maxRecDepth 100000 in
set_option maxHeartbeats 8000000 in
theorem params_total (sc : Nat) (s : ByteArray) (p : Nat) (w : World) (hs : s.size ≤ 200000) (hp : p ≤ s.size) (h : ScAt w sc s p) (ht : Tabs3 w) (hsc : 11 < sc) :
    Calls Tryz.prog 50 #[.pointer (some ⟨sc, 0, none⟩)] w fun e w' => ParEnd w sc s p e w' := by
  have hlt := h.lt
  have hT0 := ht.alloc (.cells #[.int .i64 1] 71)
  have K1 := hide (sign_total sc s p _ hs hp (h.alloc (.cells #[.int .i64 1] 71)) hT0 hsc 40 1 (.inl ⟨rfl, rfl⟩) (.slice (some ⟨w.heap.size, 0, none⟩) 1 1) (kinds1 1) (fun b n cap e => by injection e with e; injection e with e; injection e with e; omega))
  have HTb := hide ht
  obtain ⟨i0, hi, hz0, hz1, hz2⟩ := infoParts Tryz.info9'
  clear h ht hT0
  go_enter Tryz.func50, Tryz.ntmps50
  go_wp2_with (go_at_call 30; refine K1.out.mono ?_)
  intro e w1 h9
  rcases h9 with ⟨v1, p1, hs1, rfl, hS1, hT1⟩ | ⟨hno, hth⟩
  · have hT1' : Touched w sc w1 := (Touched.alloc w sc _).trans hT1
    have HSt : Hid (NmsRd w sc s p1 [] p1 (.slice none 0 0) w1) := ⟨rfl, hs1.le, by simp, hS1, hT1', World.ownsRow_nil _ _ _ _⟩
    have HS1 := hide hs1
    clear hS1 hT1 hT1' hs1 K1
    go_wp2_with fail
    go_loopg [3] (s.size - p1) (fun g v wr => ∃ (ns : List ByteArray) (pk : Nat), pk + g = s.size ∧ Hid (NmsRd w sc s p1 ns pk v wr))
    case atStart => exact ⟨[], p1, by have := HSt.out.le; omega, HSt.out⟩
    case round =>
      clear HSt
      obtain ⟨ns, pk, hpk, HM⟩ := hrel
      obtain ⟨ao, cc, hu⟩ := own_row_slice HM.out.own
      subst hu
      have htw := HTb.out.touched HM.out.old hsc
      have hslt := HM.out.scan.lt
      have KB := hide (before_calls sc s pk wr hs HM.out.le HM.out.scan htw.b.a)
      by_cases hc : (tok s pk).t = ⟨#[41]⟩
      · rw [show decide ((tok s pk).t = ⟨#[41]⟩) = true from by simp [hc]] at KB
        obtain ⟨px, hx⟩ : ∃ px, SignAt s 41 pk px := ⟨_, tok_shut HM.out.le hc⟩
        have HX := hide hx
        clear hx hc
        go_wp2_with (go_at_call 31; refine KB.out.mono ?_)
        intro e W1 h9
        first | (subst h9; intro hb1) | (obtain ⟨rfl, hb1⟩ := h9)
        have K2 := hide (sign_total sc s pk _ hs HM.out.le ((HM.out.scan.below hb1).alloc (.cells #[.int .i64 2] 71)) ((htw.later hb1).alloc (.cells #[.int .i64 2] 71)) hsc 41 2 (.inr ⟨rfl, rfl⟩) (.slice (some ⟨W1.heap.size, 0, none⟩) 1 1) (kinds1 2) (fun b n cap e => by injection e with e; injection e with e; injection e with e; have := hb1.size; omega))
        have HB1 := hide hb1
        clear hb1 KB htw
        go_wp2_with (go_at_call 30; refine K2.out.mono ?_)
        intro e w2 h9
        rcases h9 with ⟨v2, p2, hs2, rfl, hS2, hT2⟩ | ⟨hno, hth⟩
        · have hB : Touched wr sc w2 := ((Touched.of_below HB1.out).trans (Touched.alloc W1 sc _)).trans hT2
          have HF : Hid (ParEnd w sc s p (.returned (.slice ao ns.length cc)) w2) := .inl ⟨ns, p2, ao, cc, ⟨p1, pk, HS1.out, namesAt_iff.2 HM.out.seq, hs2⟩, rfl, HM.out.own.kept (row := some sc) hB (.inr (fun e => by have := (HM.out.own.lt sc e).1; omega)), by have := HM.out.few; have := HM.out.le; omega, hS2, HM.out.old.trans hB⟩
          clear hB hs2 hS2 hT2 K2
          go_wp2_with fail
          go_ret
          exact HF.out
        · exact absurd HX.out (hno px)
      · rw [show decide ((tok s pk).t = ⟨#[41]⟩) = false from by simp [hc]] at KB
        have HNc := hide hc
        clear hc
        go_wp2_with (go_at_call 31; refine KB.out.mono ?_)
        intro e W1 h9
        first | (subst h9; intro hb1) | (obtain ⟨rfl, hb1⟩ := h9)
        have K2 := hide (name_total sc s pk W1 hs HM.out.le (HM.out.scan.below hb1) (htw.later hb1) hsc)
        have HB1 := hide hb1
        clear hb1 KB htw
        go_wp2_with (go_at_call 49; refine K2.out.mono ?_)
        intro e w2 h9
        rcases h9 with ⟨v2, p2, ⟨q, rfl, hw2⟩, rfl, hS2, hT2⟩ | ⟨hno, hth⟩
        · have hB : Touched wr sc w2 := (Touched.of_below HB1.out).trans hT2
          have hlt2 := hw2.lt.1
          have hle2 := hw2.le
          have hz2' := hB.size
          have hfew := HM.out.few
          have hpl := HM.out.le
          have HO5 := hide ((HM.out.own.kept (row := some sc) hB (.inr (fun e => by have := (HM.out.own.lt sc e).1; omega))).alloc (.cells #[.string q] 9))
          have HBt := hide hB
          have HS2 := hide hS2
          have HW2 := hide hw2
          clear hB hS2 hT2 hw2 K2
          go_wp2_with (at_builtin; refine wpList_append_placed _ rfl _ _ 39 rfl w.heap.size 9 i0 (.string ⟨#[]⟩) 1 16 Tryz.underlying39 hi hz0 hz1 hz2 rfl (by decide) (.slice ao ns.length cc) ns.length (ns.map .string) rfl HO5.out ⟨w2.heap.size, 0, none⟩ 1 1 [.string q] rfl rfl ?c1 ?c2 (by decide) ?c3 ?c4 ?c5 ?_)
          case c1 => exact cell_one_new w2 (.string q) 9
          case c2 => intro u hu; simp at hu; subst hu; rfl
          case c3 => unfold maxLen; omega
          case c4 => have := HM.out.old.size; omega
          case c5 => have := HM.out.old.size; simp; omega
          intro v' w6 hown6 hgr6 hpl6
          have hT7 : Touched w sc w6 := by
            refine ⟨hgr6.os.trans (HBt.out.os.trans HM.out.old.os), hgr6.tape.trans (HBt.out.tape.trans HM.out.old.tape), hgr6.output.trans (HBt.out.output.trans HM.out.old.output), by have := hgr6.size; simp at this; have := HM.out.old.size; omega, fun b hb hne => ?_⟩
            have hzo := HM.out.old.size
            rw [hgr6.block b (by simp; omega) (fun e => by have := (HM.out.own.lt _ e.symm).1; omega), Below.heap_alloc _ _ _ (by omega), HBt.out.block b (by omega) hne]
            exact HM.out.old.block b hb hne
          have HNx : Hid (NmsRd w sc s p1 (ns ++ [q]) p2 v' w6) := by
            refine ⟨HM.out.seq.snoc HW2.out, hle2, by simp; omega, ?_, hT7, ?_⟩
            · exact (HS2.out.alloc _).of_block (hgr6.block sc (by simp; have := HM.out.old.size; omega) (fun e => by have := (HM.out.own.lt _ e.symm).1; omega))
            · simpa using hown6
          clear hT7 hown6 hgr6 hpl6
          go_wp2_with fail
          go_roundg (s.size - p2)
          case measure => omega
          case rel => exact ⟨ns ++ [q], p2, by omega, HNx.out⟩
        · have HF : Hid (ParEnd w sc s p e w2) := .inr ⟨_, .inr ⟨(), p1, HS1.out, ns, pk, HM.out.seq, fun q h => HNc.out (tok_of_shut h), hno, rfl⟩, hth.from (HM.out.old.trans (Touched.of_below HB1.out))⟩
          obtain ⟨fb, rfl, -⟩ := hth
          go_wp2_with fail
          exact ⟨rfl, HF.out⟩
  · have HF : Hid (ParEnd w sc s p e w1) := .inr ⟨_, .inl ⟨hno, rfl⟩, hth.from (Touched.alloc w sc _)⟩
    obtain ⟨fb, rfl, -⟩ := hth
    go_wp2_with fail
    exact ⟨rfl, HF.out⟩

end Go.Proofs.YtjlibnijecdgcaaGreatDoor
