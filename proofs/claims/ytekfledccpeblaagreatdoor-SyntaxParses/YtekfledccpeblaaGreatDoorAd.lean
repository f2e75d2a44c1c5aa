/- What the program's scanner holds, against the language's token. No walk. -/
import Derived.Test.YtekfledccpeblaaGreatDoorTo

namespace Go.Proofs.YtekfledccpeblaaGreatDoor
open Go.RowKit

/-- What is no number, nor the beginning of one. -/
def NotNum (t : ByteArray) : Prop := t.size = 0 ∨ (digitB (at_ t 0) = false ∧ (t.size = 1 ∨ digitB (at_ t 1) = false ∨ (at_ t 0 ≠ 43 ∧ at_ t 0 ≠ 45)))
/-- What no atom and no tactic begins with. -/
def Odd (t : ByteArray) : Prop := t ≠ sAt ∧ t ≠ sHole ∧ t ≠ wProp ∧ t ≠ wType ∧ t ≠ wSort ∧ t ≠ sOpen ∧ ∀ q ∈ tacWords, t ≠ q
/-- The scanner's kind, text and rest are those of the token. -/
structure PT (tk : LTok) (e : Nat) (k : Nat) (t : ByteArray) (r : Nat) : Prop where
  good : tk.kd ≤ 3 → k = tk.kd ∧ t = tk.t ∧ r = e
  bad : tk.kd = 4 → (k = 4 ∨ k = 2) ∧ Odd t
  num : k = 2 → Digs t ∧ 0 < t.size ∧ ((tk.kd = 2 ∧ t.size ≤ 2 ∧ ¬ (t.size = 2 ∧ at_ t 0 = 48)) ∨ (tk.kd = 4 ∧ (2 < t.size ∨ (t.size = 2 ∧ at_ t 0 = 48))))
  not : k ≠ 2 → NotNum t

theorem suf_part {s : ByteArray} {p n : Nat} (h : p + n ≤ s.size) : (s.extract p s.size).extract 0 n = s.extract p (p + n) := by
  rw [ByteArray.extract_extract]
  congr 1
  omega
theorem tac_size {q : ByteArray} (h : q ∈ tacWords) : 4 ≤ q.size ∧ q.size ≤ 11 ∧ alphaB (at_ q 0) = true := by
  have : ∀ q ∈ tacWords, (decide (4 ≤ q.size) && decide (q.size ≤ 11) && alphaB (at_ q 0)) = true := by decide +kernel
  have := this q h
  simpa [and_assoc] using this
theorem odd_long {t : ByteArray} (h : 40 < t.size) : Odd t := by
  refine ⟨?_, ?_, ?_, ?_, ?_, ?_, fun q hq e => ?_⟩
  any_goals (rintro rfl; revert h; decide)
  have := tac_size hq
  rw [← e] at this
  omega
theorem odd_byte {t : ByteArray} (h : t.size = 1) (h1 : oneB (at_ t 0) = false) : Odd t := by
  refine ⟨?_, ?_, ?_, ?_, ?_, ?_, fun q hq e => ?_⟩
  any_goals (rintro rfl; revert h h1; decide)
  have := tac_size hq
  rw [← e] at this
  omega
theorem odd_digit {t : ByteArray} (h : digitB (at_ t 0) = true) : Odd t := by
  refine ⟨?_, ?_, ?_, ?_, ?_, ?_, fun q hq e => ?_⟩
  any_goals (rintro rfl; revert h; decide)
  have := (tac_size hq).2.2
  rw [← e] at this
  simp [alphaB, digitB] at this h
  omega
theorem notNum_alpha {t : ByteArray} (h : alphaB (at_ t 0) = true) : NotNum t := by
  refine .inr ⟨?_, .inr (.inr ?_)⟩
  · simp [alphaB, digitB] at h ⊢; omega
  · simp [alphaB] at h; omega
theorem digs_of {s : ByteArray} {p : Nat} (h : p ≤ s.size) : Digs (s.extract p (runTo digitB s p)) := run_digs h rfl

theorem adv_tok {s : ByteArray} {p : Nat} (h : p < s.size) :
    p + (tokN (s.extract p s.size)).2 ≤ s.size ∧ PT (lexAt s p).1 (lexAt s p).2 (tokN (s.extract p s.size)).1 (s.extract p (p + (tokN (s.extract p s.size)).2)) (p + (tokN (s.extract p s.size)).2) := by
  have hz := suf_size (s := s) (p := p)
  have ha0 : at_ (s.extract p s.size) 0 = at_ s p := by rw [suf_at (by omega), Nat.add_zero]
  have hn := suf_name (s := s) (p := p) (by omega)
  have hnl := lnameEnd_le (s := s) (p := p) (by omega)
  have hd := suf_run0 (f := digitB) (s := s) (p := p) (by omega)
  have hdl := runTo_le digitB s (k := p) (by omega)
  have hlp : ∀ n, p + n ≤ s.size → 0 < n → at_ (s.extract p (p + n)) 0 = at_ s p := fun n h1 h2 => by rw [at_extract h1 (by omega), Nat.add_zero]
  have hsz : ∀ n, p + n ≤ s.size → (s.extract p (p + n)).size = n := fun n h1 => by rw [ByteArray.size_extract]; omega
  unfold tokN lexAt
  rw [ha0]
  by_cases ha : alphaB (at_ s p) = true
  · rw [if_pos ha, if_pos ha]
    have h4 : p < lnameEnd s p := by
      have h5 := runTo_more (f := partB) h (by simp [partB, ha])
      have h6 := (dots_le (s := s) (q := runTo partB s p) (runTo_le partB s (by omega))).1
      unfold lnameEnd
      omega
    generalize lnameEnd (s.extract p s.size) 0 = n at *
    simp only
    rw [hn] at h4 hnl ⊢
    rw [suf_part (by omega), show p + n - p = n by omega]
    refine ⟨by omega, ?_⟩
    have hz' := hsz n (by omega)
    have hal : alphaB (at_ (s.extract p (p + n)) 0) = true := by rw [hlp n (by omega) (by omega)]; exact ha
    unfold nkind
    by_cases hw : isWord (s.extract p (p + n)) = true
    · have h40 : ¬ 40 < n := fun h40 => by
        have : ∀ q ∈ lwords, q.size ≤ 40 := by decide +kernel
        simp only [isWord, List.any_eq_true, decide_eq_true_eq] at hw
        obtain ⟨q, hq, e⟩ := hw
        have := this q hq
        rw [← e, hz'] at this
        omega
      rw [if_neg h40, if_pos hw, if_pos hw]
      exact ⟨fun _ => ⟨rfl, rfl, rfl⟩, fun h => absurd h (by simp), fun h => absurd h (by simp), fun _ => notNum_alpha hal⟩
    · rw [if_neg hw, if_neg hw, hz']
      by_cases h40 : 40 < n
      · rw [if_pos h40, if_pos h40]
        exact ⟨fun h => absurd h (by simp), fun _ => ⟨.inl rfl, odd_long (by omega)⟩, fun h => absurd h (by simp), fun _ => notNum_alpha hal⟩
      · rw [if_neg h40, if_neg h40]
        exact ⟨fun _ => ⟨rfl, rfl, rfl⟩, fun h => absurd h (by simp), fun h => absurd h (by simp), fun _ => notNum_alpha hal⟩
  · rw [if_neg ha, if_neg ha]
    by_cases hdg : digitB (at_ s p) = true
    · rw [if_pos hdg, if_pos hdg]
      have h4 := runTo_more (f := digitB) h hdg
      have hD := digs_of (s := s) (p := p) (by omega)
      generalize runTo digitB (s.extract p s.size) 0 = n at *
      simp only
      rw [hd] at h4 hdl hD ⊢
      rw [show p + n - p = n by omega]
      refine ⟨by omega, ?_⟩
      have hz' := hsz n (by omega)
      have h00 := hlp n (by omega) (by omega)
      have hod : Odd (s.extract p (p + n)) := odd_digit (by rw [h00]; exact hdg)
      by_cases hb : 2 < n ∨ (n = 2 ∧ at_ s p = 48)
      · rw [if_pos hb]
        exact ⟨fun h => absurd h (by simp), fun _ => ⟨.inr rfl, hod⟩, fun _ => ⟨hD, by omega, .inr ⟨rfl, by rw [hz', h00]; exact hb⟩⟩, fun h => absurd rfl h⟩
      · rw [if_neg hb]
        exact ⟨fun _ => ⟨rfl, rfl, rfl⟩, fun h => absurd h (by simp), fun _ => ⟨hD, by omega, .inl ⟨rfl, by omega, by rw [hz', h00]; omega⟩⟩, fun h => absurd rfl h⟩
    · rw [if_neg hdg, if_neg hdg]
      unfold signLen
      rw [hz, ha0]
      have hd' : digitB (at_ s p) = false := by simpa using hdg
      by_cases h2 : p + 1 < s.size ∧ twoB (at_ s p) (at_ s (p + 1)) = true
      · have h2' : 1 < s.size - p ∧ twoB (at_ s p) (at_ (s.extract p s.size) 1) = true := ⟨by omega, by rw [suf_at (by omega)]; exact h2.2⟩
        rw [if_pos h2, if_pos h2']
        refine ⟨by show p + 2 ≤ s.size; omega, ?_⟩
        have hn2 : NotNum (s.extract p (p + 2)) := by
          refine .inr ⟨by rw [hlp 2 (by omega) (by omega)]; exact hd', .inr (.inl ?_)⟩
          rw [at_extract (by omega) (by omega)]
          have := h2.2
          simp [twoB] at this
          simp [digitB]
          omega
        exact ⟨fun _ => ⟨rfl, rfl, rfl⟩, fun h => absurd h (by simp), fun h => absurd h (by simp), fun _ => hn2⟩
      · have h2' : ¬ (1 < s.size - p ∧ twoB (at_ s p) (at_ (s.extract p s.size) 1) = true) := fun ⟨x1, x2⟩ => h2 ⟨by omega, by rw [suf_at (by omega)] at x2; exact x2⟩
        rw [if_neg h2, if_neg h2']
        have hn1 : NotNum (s.extract p (p + 1)) := .inr ⟨by rw [hlp 1 (by omega) (by omega)]; exact hd', .inl (hsz 1 (by omega))⟩
        by_cases h1 : oneB (at_ s p) = true
        · rw [if_pos h1, if_pos h1]
          refine ⟨by show p + 1 ≤ s.size; omega, ?_⟩
          exact ⟨fun _ => ⟨rfl, rfl, rfl⟩, fun h => absurd h (by simp), fun h => absurd h (by simp), fun _ => hn1⟩
        · rw [if_neg h1, if_neg h1]
          refine ⟨by show p + 1 ≤ s.size; omega, ?_⟩
          exact ⟨fun h => absurd h (by simp), fun _ => ⟨.inl rfl, odd_byte (hsz 1 (by omega)) (by rw [hlp 1 (by omega) (by omega)]; simpa using h1)⟩, fun h => absurd h (by simp), fun _ => hn1⟩
theorem end_tok (n : Nat) : PT ⟨0, ⟨#[]⟩, n⟩ n 0 ⟨#[]⟩ n := ⟨fun _ => ⟨rfl, rfl, rfl⟩, fun h => absurd h (by simp), fun h => absurd h (by simp), fun _ => .inl rfl⟩
theorem lexAt_at (s : ByteArray) (p : Nat) : (lexAt s p).1.at_ = p := by unfold lexAt; repeat' (first | rfl | split)

end Go.Proofs.YtekfledccpeblaaGreatDoor

/- The contracts of the scanner's advance, is, took, refuse, expect, take, name. -/
namespace Go.Proofs.YtekfledccpeblaaGreatDoor
open Go.RowKit

theorem SgT.touched {w w' : World} {b : Nat} (h : SgT w) (ht : Touched w b w') (hb : b ≠ 3) : SgT w' := h.of_block (ht.at h.lt (fun e => hb e.symm))
theorem SgT.later {w w' : World} (h : SgT w) (ht : Below w.heap.size w w') : SgT w' := h.of_block (ht.block 3 h.lt)

/-- The scanner stands at a token. -/
def ScT (w : World) (b : Nat) (T : TypeId) (x : List Value) (s : ByteArray) (tk : LTok) (e : Nat) : Prop := ∃ (k : Nat) (t : ByteArray) (r : Nat), ScW w b T x s (k : Nat) (tk.at_ : Nat) t (r : Nat) ∧ PT tk e k t r ∧ t.size ≤ s.size

set_option maxRecDepth 100000 in
set_option maxHeartbeats 4000000 in
theorem advance_calls (b : Nat) (T : TypeId) (x : List Value) (s : ByteArray) (k a : Int) (t : ByteArray) (r : Nat) (w : World) (h : ScW w b T x s k a t (r : Nat)) (hs : s.size ≤ 200000) (hr : r ≤ s.size) (hg : SgT w) (hb : b ≠ 3) :
    Calls Tryz.prog 35 #[.pointer (some ⟨b, 0, none⟩)] w fun e w' => e = .returned (.tuple #[]) ∧ ScT w' b T x s (lex s r).1 (lex s r).2 ∧ Touched w b w' := by
  have KS := hide (skipBlanks_calls b T x s k a t r w h hs hr)
  have hsl := skip_le hr
  have HG := hide hg
  have HL : Hid (lex s r = if skip s r = s.size then (⟨0, ⟨#[]⟩, s.size⟩, s.size) else lexAt s (skip s r)) := rfl
  clear h hg
  generalize lex s r = lx at *
  generalize skip s r = p at *
  go_enter Tryz.func35, Tryz.ntmps35
  go_wp2_with (go_at_call 56; refine KS.out.mono ?_)
  rintro e w1 ⟨rfl, h1, hT1⟩
  have c0 := h1.c0
  have c4 := h1.c4
  have f1 := h1.f 1
  have f2 := h1.f 2
  have f3 := h1.f 3
  have f4 := h1.f 4
  have hlt := h1.lt
  have H1 := hide h1
  have HT1 := hide hT1
  have HG1 := hide (HG.out.touched hT1 hb)
  clear h1 hT1 KS
  by_cases hp : p = s.size
  · subst hp
    have HE : Hid (lx = (⟨0, ⟨#[]⟩, s.size⟩, s.size)) := hide (by rw [HL.out, if_pos rfl])
    have d1 := H1.out.c1
    have d2 := H1.out.c2
    have d3 := H1.out.c3
    go_wp2_with fail
    refine bodyPost_ret (results_none rfl _ _ _) rfl ?_
    refine ⟨rfl, ?_, ((HT1.out.set 1 _).set 2 _).set 3 _⟩
    rw [HE.out]
    exact ⟨0, ⟨#[]⟩, s.size, ((H1.out.set1 0).set2 (s.size : Nat)).set3 ⟨#[]⟩, end_tok _, Nat.zero_le _⟩
  · have HE : Hid (lx = lexAt s p) := hide (by rw [HL.out, if_neg hp])
    have e1 : ((p : Int) == (s.size : Int)) = false := by simp; omega
    have KT := hide (tokenOf_calls (s.extract p s.size) w1 (by rw [suf_size]; omega) (by rw [suf_size]; omega) HG1.out)
    obtain ⟨hle, hpt⟩ := adv_tok (s := s) (p := p) (by omega)
    have HPT := hide hpt
    clear hpt hp
    generalize (tokN (s.extract p s.size)).2 = n at *
    generalize (tokN (s.extract p s.size)).1 = kd at *
    have HW : Hid (IntKind.i64.wrap ((p : Int) + (n : Int)) = (p : Int) + n) := hide (by rw [IntKind.wrap_i64]; omega)
    go_wp2_with (go_at_call 57; refine KT.out.mono ?_; rintro e w' ⟨rfl, rfl⟩)
    have h2 := H1.out.set4 ((p : Int) + n)
    have hT2 := HT1.out.set 4 (.int .i64 ((p : Int) + n))
    generalize w'.setCell ⟨b, 4, none⟩ (.int .i64 ((p : Int) + n)) = w2 at *
    have c0 := h2.c0
    have c4 := h2.c4
    have f1 := h2.f 1
    have f2 := h2.f 2
    have f3 := h2.f 3
    have hlt := h2.lt
    have d1 := h2.c1
    have d2 := h2.c2
    have d3 := h2.c3
    have H2 := hide h2
    have HT2 := hide hT2
    have hge : (p : Int) ≤ (p : Int) + (n : Int) := by omega
    have hle' : (p : Int) + (n : Int) ≤ (s.size : Int) := by omega
    clear h2 hT2 H1 HT1 KT
    go_region_held3 (fun w' => w'.cell? ⟨b, 0, none⟩ = some (.string s) ∧ w'.cell? ⟨b, 4, none⟩ = some (.int .i64 ((p : Int) + n))) (simp [*, World.cell?_setCell_other]) (fail)
    go_end0
    have hq : ((p : Int) + (n : Int)).toNat = p + n := by omega
    rw [hq]
    have hB : ∀ W : World, Below W.heap.size W W.drew := fun W => (Below.refl _ _).drew
    refine ⟨rfl, ?_, (((HT2.out.set 1 _).set 2 _).set 3 _).later (hB _)⟩
    rw [HE.out]
    refine ⟨kd, _, p + n, ?_, HPT.out, by rw [ByteArray.size_extract]; omega⟩
    rw [lexAt_at]
    have := ((((H2.out.set1 (kd : Nat)).set2 (p : Nat)).set3 (s.extract p (p + n)))).later (hB _)
    simpa using this

/-- The reader stands at a state: a scanner that knows the grammar. -/
def RdS (w : World) (rb : Nat) (mv : Value) (s : ByteArray) (st : FS) : Prop := st.code = 0 ∧ ∃ c : Int, ScT w rb 81 [mv, .int .i64 c] s st.t st.e
theorem RdS.code {w : World} {rb : Nat} {mv : Value} {s : ByteArray} {st : FS} (h : RdS w rb mv s st) : st.code = 0 := h.1
theorem RdS.lt {w : World} {rb : Nat} {mv : Value} {s : ByteArray} {st : FS} (h : RdS w rb mv s st) : rb < w.heap.size := by obtain ⟨_, c, k, t, r, h, _⟩ := h; exact h.lt
theorem RdS.of_block {w w' : World} {rb : Nat} {mv : Value} {s : ByteArray} {st : FS} (h : RdS w rb mv s st) (he : w'.heap[rb]? = w.heap[rb]?) : RdS w' rb mv s st := by
  obtain ⟨h0, c, k, t, r, h, hp⟩ := h; exact ⟨h0, c, k, t, r, h.of_block he, hp⟩
theorem RdS.later {w w' : World} {rb : Nat} {mv : Value} {s : ByteArray} {st : FS} (h : RdS w rb mv s st) (hb : Below w.heap.size w w') : RdS w' rb mv s st := h.of_block (hb.block _ h.lt)
theorem RdS.alloc {w : World} {rb : Nat} {mv : Value} {s : ByteArray} {st : FS} (h : RdS w rb mv s st) (o : Obj) : RdS (w.alloc o) rb mv s st := h.of_block (Below.heap_alloc _ _ _ h.lt)
/-- A fault was thrown: that code, that place; of what was there the reader alone has turned. -/
def Threw (w : World) (rb code a : Nat) (e : Ending) (w' : World) : Prop :=
  ∃ fb : Nat, e = .panicked [{ v := .iface 69 (.pointer (some ⟨fb, 0, none⟩)), recovered := false }] ∧ w.heap.size ≤ fb ∧ w'.heap[fb]? = some (.cells #[.int .i64 (code : Nat), .int .i64 (a : Nat)] 33 (0, 0)) ∧ Touched w rb w'
theorem Threw.from {w w0 w' : World} {rb code a : Nat} {e : Ending} (h : Threw w rb code a e w') (ht : Touched w0 rb w) : Threw w0 rb code a e w' := by
  obtain ⟨fb, he, h1, h2, h3⟩ := h
  exact ⟨fb, he, Nat.le_trans ht.size h1, h2, ht.trans h3⟩
/-- What a call of the reader comes to: it answers, and the reader stands where it should; or the fault is thrown. -/
def RP (w : World) (rb : Nat) (mv : Value) (s : ByteArray) (st' : FS) (G : Ending → World → Prop) (e : Ending) (w' : World) : Prop :=
  (st'.code = 0 ∧ G e w' ∧ RdS w' rb mv s st' ∧ Touched w rb w') ∨ (st'.code ≠ 0 ∧ Threw w rb 1 st'.fat e w')

set_option maxHeartbeats 1000000 in
theorem throwAt_calls (code a rb : Nat) (w : World) : Calls Tryz.prog 20 #[.int .i64 (code : Nat), .int .i64 (a : Nat)] w fun e w' => Threw w rb code a e w' := by
  go_enter Tryz.func20, Tryz.ntmps20
  go_wp2_with fail
  exact ⟨rfl, w.heap.size, rfl, Nat.le_refl _, heap_alloc_new _ _, Touched.alloc _ _ _⟩
set_option maxHeartbeats 1000000 in
theorem throw_calls (code rb : Nat) (w : World) : Calls Tryz.prog 11 #[.int .i64 (code : Nat)] w fun e w' => Threw w rb code 0 e w' := by
  have K := hide (throwAt_calls code 0 rb w)
  go_enter Tryz.func11, Tryz.ntmps11
  go_wp2_with (go_at_call 20; refine K.out.mono ?_)
  intro e w1 h1
  obtain ⟨fb, rfl, h2⟩ := h1
  have H2 := hide h2
  clear h2
  go_wp2_with fail
  exact ⟨rfl, fb, rfl, H2.out⟩

section
variable (rb : Nat) (mv : Value) (s : ByteArray) (st : FS) (w : World) (h : RdS w rb mv s st) (hs : s.size ≤ 200000) (ho : st.Ok s) (hg : SgT w) (hb : rb ≠ 3)
include h

set_option maxHeartbeats 1000000 in
theorem refuse_calls : Calls Tryz.prog 59 #[.pointer (some ⟨rb, 0, none⟩)] w fun e w' => Threw w rb 1 st.t.at_ e w' := by
  obtain ⟨h0, c, k, t, r, h, hp⟩ := h
  have c2 := h.c2
  have K := hide (throwAt_calls 1 st.t.at_ rb w)
  clear h hp
  go_enter Tryz.func59, Tryz.ntmps59
  go_wp2_with (go_at_call 20; refine K.out.mono ?_)
  intro e w1 h1
  obtain ⟨fb, rfl, h2⟩ := h1
  have H2 := hide h2
  clear h2
  go_wp2_with fail
  exact ⟨rfl, fb, rfl, H2.out⟩

include hs ho hg hb
/-- The next token is taken. -/
theorem adv_calls (h1 : st.t.kd ≤ 3) : Calls Tryz.prog 35 #[.pointer (some ⟨rb, 0, none⟩)] w fun e w' => e = .returned (.tuple #[]) ∧ RdS w' rb mv s (st.step s) ∧ Touched w rb w' := by
  obtain ⟨h0, c, k, t, r, h, hp, hz⟩ := h
  obtain ⟨_, _, hr⟩ := hp.good h1
  subst hr
  refine (advance_calls rb 81 _ s _ _ t st.e w h hs ho.le hg hb).mono ?_
  rintro e w' ⟨rfl, h2, h3⟩
  refine ⟨rfl, ?_, h3⟩
  unfold FS.step
  rw [if_pos h0]
  exact ⟨h0, c, h2⟩
end

end Go.Proofs.YtekfledccpeblaaGreatDoor
