/- The contract of tacticKinds: the kinds of tactics by their words. -/
import Derived.Test.YtekfledccpeblaaGreatDoorDf
import Derived.Maps.OwnSet
import Derived.Defers
import Derived.Recover

namespace Go.Proofs.YtekfledccpeblaaGreatDoor
open Go.RowKit Go.Maps

/-- A map of words that was made since. -/
def TMB (w0 : World) (b n : Nat) (f : ByteArray → Nat) (w : World) : Prop := w0.heap.size ≤ b ∧ Below w0.heap.size w0 w ∧ ∃ D : DataW Empty, w.ownsMap Tryz.prog 9 (plainElem Tryz.prog 3) b n D ∧ ∀ p : ByteArray, p.size ≤ 200000 → D.atKey (.string p.data.toList) (.lit (.int .i64 0)) = .lit (.int .i64 (f p : Nat))
theorem TMB.made (w : World) : TMB w w.heap.size 0 (fun _ => 0) (w.alloc (.map #[] 0)) := ⟨Nat.le_refl _, (Below.refl _ _).alloc (Nat.le_refl _) _, .map [], World.ownsMap_made _ _ _ _, fun _ _ => rfl⟩
theorem wpList_insTM {w0 w : World} {ops : Array Oper} {rest : List Oper} {o : Oper} {a : Act} {Q : Exit → Act → World → Prop} {b n : Nat} {f : ByteArray → Nat} (hg : o.guard = none) (m x v : Operand) (hop : o.op = Op.insert 78 m x v) (p : ByteArray) (c : Nat)
    (hm : a.eval m = .map (some b)) (h : TMB w0 b n f w) (hn : n < 100) (hx : a.eval x = .string p) (hp : p.size ≤ 200000) (hv : a.eval v = .int .i64 (c : Nat)) (hc : c ≤ 100)
    (hK : ∀ w', TMB w0 b (n + 1) (fun q => if q = p then c else f q) w' → wpList Tryz.prog ops Q rest (a.put o.dst undef) w') : wpList Tryz.prog ops Q (o :: rest) a w := by
  obtain ⟨hb, hB, D, ho, hf⟩ := h
  refine wpList_plain hg fun K' hK' => ?_
  obtain ⟨w', hrun, r1, r2⟩ := ho.update (t := 78) (string_keyed Tryz.underlying9) Tryz.underlying78 (by unfold maxLen; omega) (WideMaps.keyOf_string_mk Tryz.underlying9 (by unfold maxLen; omega : p.size ≤ maxLen)) (d := .lit (.int .i64 (c : Nat))) (ps := []) (plainElem_int Tryz.underlying3 (WalkArith.wf_i64 (n := (c : Int)) (by omega)))
  unfold Oper.wp
  simp [execOp, hop, hm, hx, hv, hrun, Result.andThen]
  refine hK' _ _ (hK w' ⟨hb, hB.grown r2 hB.size (fun k e => by injection e with e; omega), _, r1, fun q hq => ?_⟩)
  by_cases e : q = p
  · subst e
    simp only [if_true]
    exact atKey_put_same ho.isMap ((string_keyed Tryz.underlying9).key (WideMaps.keyOf_string_mk Tryz.underlying9 (by unfold maxLen; omega : q.size ≤ maxLen))) _ _
  · show _ = DataW.lit (.int .i64 ((if q = p then c else f q : Nat) : Nat))
    rw [if_neg e, ← hf q hq]
    exact atKey_put_other (fun e' => e (WideShapes.bytes_inj (by injection e'))) _ _
/-- All words stand there. -/
theorem words_all (q : ByteArray) : (if q = ⟨#[115, 121, 109, 109]⟩ then 13 else if q = ⟨#[115, 105, 109, 112, 108]⟩ then 12 else if q = ⟨#[101, 120, 105, 115, 116, 115]⟩ then 11 else if q = ⟨#[99, 111, 110, 115, 116, 114, 117, 99, 116, 111, 114]⟩ then 10 else if q = ⟨#[104, 97, 118, 101]⟩ then 9 else if q = ⟨#[114, 101, 119, 114, 105, 116, 101]⟩ then 8 else if q = ⟨#[99, 97, 115, 101, 115]⟩ then 7 else if q = ⟨#[105, 110, 100, 117, 99, 116, 105, 111, 110]⟩ then 6 else if q = ⟨#[114, 101, 102, 108]⟩ then 5 else if q = ⟨#[97, 115, 115, 117, 109, 112, 116, 105, 111, 110]⟩ then 4 else if q = ⟨#[97, 112, 112, 108, 121]⟩ then 3 else if q = ⟨#[101, 120, 97, 99, 116]⟩ then 2 else if q = ⟨#[105, 110, 116, 114, 111]⟩ then 1 else 0 : Nat) = wordNo q tacWords 1 := by
  by_cases h : q ∈ tacWords
  · have hall : ∀ q ∈ tacWords, (if q = ⟨#[115, 121, 109, 109]⟩ then 13 else if q = ⟨#[115, 105, 109, 112, 108]⟩ then 12 else if q = ⟨#[101, 120, 105, 115, 116, 115]⟩ then 11 else if q = ⟨#[99, 111, 110, 115, 116, 114, 117, 99, 116, 111, 114]⟩ then 10 else if q = ⟨#[104, 97, 118, 101]⟩ then 9 else if q = ⟨#[114, 101, 119, 114, 105, 116, 101]⟩ then 8 else if q = ⟨#[99, 97, 115, 101, 115]⟩ then 7 else if q = ⟨#[105, 110, 100, 117, 99, 116, 105, 111, 110]⟩ then 6 else if q = ⟨#[114, 101, 102, 108]⟩ then 5 else if q = ⟨#[97, 115, 115, 117, 109, 112, 116, 105, 111, 110]⟩ then 4 else if q = ⟨#[97, 112, 112, 108, 121]⟩ then 3 else if q = ⟨#[101, 120, 97, 99, 116]⟩ then 2 else if q = ⟨#[105, 110, 116, 114, 111]⟩ then 1 else 0 : Nat) = wordNo q tacWords 1 := by decide +kernel
    exact hall q h
  · rw [wordNo_none tacWords 1 fun x hx e => h (by rw [e]; exact hx)]
    simp only [tacWords, List.mem_cons, List.not_mem_nil, not_or, or_false] at h
    obtain ⟨h1, h2, h3, h4, h5, h6, h7, h8, h9, h10, h11, h12, h13⟩ := h
    rw [if_neg h13, if_neg h12, if_neg h11, if_neg h10, if_neg h9, if_neg h8, if_neg h7, if_neg h6, if_neg h5, if_neg h4, if_neg h3, if_neg h2, if_neg h1]
/-- The map that the reader wants. -/
theorem TMB.tac {w0 w : World} {b n : Nat} {f : ByteArray → Nat} (h : TMB w0 b n f w) (hn : n ≤ 13) (hf : ∀ q, f q = wordNo q tacWords 1) : w0.heap.size ≤ b ∧ Below w0.heap.size w0 w ∧ b < w.heap.size ∧ ∃ D : DataW Empty, w.ownsMap Tryz.prog 9 (plainElem Tryz.prog 3) b 13 D ∧ ∀ t : ByteArray, t.size ≤ 200000 → D.atKey (.string t.data.toList) (.lit (.int .i64 0)) = .lit (.int .i64 (wordNo t tacWords 1 : Nat)) := by
  obtain ⟨hb, hB, D, ho, hf'⟩ := h
  exact ⟨hb, hB, ho.lt, D, ho.mono hn, fun t ht => by rw [hf' t ht, hf]⟩

set_option maxRecDepth 100000 in
set_option maxHeartbeats 8000000 in
theorem tacticKinds_calls (w : World) : Calls Tryz.prog 22 #[] w fun e w' => ∃ mb, e = .returned (.map (some mb)) ∧ w.heap.size ≤ mb ∧ Below w.heap.size w w' ∧ mb < w'.heap.size ∧ ∃ D : DataW Empty, w'.ownsMap Tryz.prog 9 (plainElem Tryz.prog 3) mb 13 D ∧ ∀ t : ByteArray, t.size ≤ 200000 → D.atKey (.string t.data.toList) (.lit (.int .i64 0)) = .lit (.int .i64 (wordNo t tacWords 1 : Nat)) := by
  have H0 := TMB.made w
  have hmk : (Instr.makeMap 78 none).run Tryz.prog w = .ok (.map (some w.heap.size)) (w.alloc (.map #[] 0)) := by rfl
  go_enter Tryz.func22, Tryz.ntmps22
  go_wp2_with (first | (refine wpList_insTM (w0 := w) rfl _ _ _ rfl ⟨#[105, 110, 116, 114, 111]⟩ 1 rfl (by assumption) (by omega) rfl (by decide) rfl (by omega) ?_; intro w' hw') | (refine wpList_insTM (w0 := w) rfl _ _ _ rfl ⟨#[101, 120, 97, 99, 116]⟩ 2 rfl (by assumption) (by omega) rfl (by decide) rfl (by omega) ?_; intro w' hw') | (refine wpList_insTM (w0 := w) rfl _ _ _ rfl ⟨#[97, 112, 112, 108, 121]⟩ 3 rfl (by assumption) (by omega) rfl (by decide) rfl (by omega) ?_; intro w' hw') | (refine wpList_insTM (w0 := w) rfl _ _ _ rfl ⟨#[97, 115, 115, 117, 109, 112, 116, 105, 111, 110]⟩ 4 rfl (by assumption) (by omega) rfl (by decide) rfl (by omega) ?_; intro w' hw') | (refine wpList_insTM (w0 := w) rfl _ _ _ rfl ⟨#[114, 101, 102, 108]⟩ 5 rfl (by assumption) (by omega) rfl (by decide) rfl (by omega) ?_; intro w' hw') | (refine wpList_insTM (w0 := w) rfl _ _ _ rfl ⟨#[105, 110, 100, 117, 99, 116, 105, 111, 110]⟩ 6 rfl (by assumption) (by omega) rfl (by decide) rfl (by omega) ?_; intro w' hw') | (refine wpList_insTM (w0 := w) rfl _ _ _ rfl ⟨#[99, 97, 115, 101, 115]⟩ 7 rfl (by assumption) (by omega) rfl (by decide) rfl (by omega) ?_; intro w' hw') | (refine wpList_insTM (w0 := w) rfl _ _ _ rfl ⟨#[114, 101, 119, 114, 105, 116, 101]⟩ 8 rfl (by assumption) (by omega) rfl (by decide) rfl (by omega) ?_; intro w' hw') | (refine wpList_insTM (w0 := w) rfl _ _ _ rfl ⟨#[104, 97, 118, 101]⟩ 9 rfl (by assumption) (by omega) rfl (by decide) rfl (by omega) ?_; intro w' hw') | (refine wpList_insTM (w0 := w) rfl _ _ _ rfl ⟨#[99, 111, 110, 115, 116, 114, 117, 99, 116, 111, 114]⟩ 10 rfl (by assumption) (by omega) rfl (by decide) rfl (by omega) ?_; intro w' hw') | (refine wpList_insTM (w0 := w) rfl _ _ _ rfl ⟨#[101, 120, 105, 115, 116, 115]⟩ 11 rfl (by assumption) (by omega) rfl (by decide) rfl (by omega) ?_; intro w' hw') | (refine wpList_insTM (w0 := w) rfl _ _ _ rfl ⟨#[115, 105, 109, 112, 108]⟩ 12 rfl (by assumption) (by omega) rfl (by decide) rfl (by omega) ?_; intro w' hw') | (refine wpList_insTM (w0 := w) rfl _ _ _ rfl ⟨#[115, 121, 109, 109]⟩ 13 rfl (by assumption) (by omega) rfl (by decide) rfl (by omega) ?_; intro w' hw'))
  go_ret
  obtain ⟨h1, h2, h3, D, h4, h5⟩ := (by assumption : TMB w w.heap.size 13 _ _).tac (Nat.le_refl _) words_all
  exact ⟨_, rfl, h1, h2, h3, D, h4, h5⟩
end Go.Proofs.YtekfledccpeblaaGreatDoor

/- The contracts of newScanner, newReader, Parse's closure. -/
namespace Go.Proofs.YtekfledccpeblaaGreatDoor
open Go.RowKit

theorem Tryz.size76 : (Tryz.prog.info? 76).map (·.size) = some 5 := by kernel_rfl
/-- The reader's first state. -/
abbrev st00 : FS := ⟨⟨0, ⟨#[]⟩, 0⟩, 0, 0, 0⟩
theorem first_step (s : ByteArray) : FS.step s st00 = ⟨(lex s 0).1, (lex s 0).2, 0, 0⟩ := rfl
theorem first_ok (s : ByteArray) : (FS.step s st00).Ok s := by
  rw [first_step]
  exact ⟨⟨0, lex_fit (Nat.zero_le _)⟩, by simp⟩
theorem first_left (s : ByteArray) : (FS.step s st00).left s < 2 * s.size + 2 := by
  unfold FS.left
  split <;> omega
/-- A text's commands, and the first fault. -/
def textG (s : ByteArray) : List Cm × FS := commandsN s (2 * s.size + 2) (2 * s.size + 2) [] (FS.step s st00)

set_option maxRecDepth 100000 in
set_option maxHeartbeats 4000000 in
theorem newScanner_calls (s : ByteArray) (w : World) (hs : s.size ≤ 200000) (ht : Tb w) :
    Calls Tryz.prog 21 #[.string s] w fun e w' => ∃ (k : Nat) (t : ByteArray) (r : Nat), e = .returned (.agg #[.string s, .int .i64 (k : Nat), .int .i64 ((lex s 0).1.at_ : Nat), .string t, .int .i64 (r : Nat)]) ∧ PT (lex s 0).1 (lex s 0).2 k t r ∧ t.size ≤ s.size ∧ Below w.heap.size w w' := by
  have hB2 : Below w.heap.size w ((w.alloc (.cells #[.string ⟨#[]⟩, .int .i64 0, .int .i64 0, .string ⟨#[]⟩, .int .i64 0] 76)).alloc (.cells #[.string s, .int .i64 0, .int .i64 0, .string ⟨#[]⟩, .int .i64 0] 76)) := ((Below.refl _ _).alloc (Nat.le_refl _) _).alloc (by simp) _
  have hbv := heap_alloc2_new w (.cells #[.string ⟨#[]⟩, .int .i64 0, .int .i64 0, .string ⟨#[]⟩, .int .i64 0] 76) (.cells #[.string s, .int .i64 0, .int .i64 0, .string ⟨#[]⟩, .int .i64 0] 76)
  have hbr := heap_alloc2_old w (.cells #[.string ⟨#[]⟩, .int .i64 0, .int .i64 0, .string ⟨#[]⟩, .int .i64 0] 76) (.cells #[.string s, .int .i64 0, .int .i64 0, .string ⟨#[]⟩, .int .i64 0] 76)
  have ht10 := ht.lt
  have KA := hide (advance_calls (w.heap.size + 1) 76 [] s 0 0 ⟨#[]⟩ 0 _ hbv hs (Nat.zero_le _) (ht.sg.later hB2) (by omega))
  have HB2 := hide hB2
  have hsz : ((w.alloc (.cells #[.string ⟨#[]⟩, .int .i64 0, .int .i64 0, .string ⟨#[]⟩, .int .i64 0] 76)).alloc (.cells #[.string s, .int .i64 0, .int .i64 0, .string ⟨#[]⟩, .int .i64 0] 76)).heap.size = w.heap.size + 2 := by simp
  generalize lex s 0 = lx at *
  go_enter Tryz.func21, Tryz.ntmps21
  go_upto_region 2 with fail
  clear hbv hB2
  generalize ((w.alloc (.cells #[.string ⟨#[]⟩, .int .i64 0, .int .i64 0, .string ⟨#[]⟩, .int .i64 0] 76)).alloc (.cells #[.string s, .int .i64 0, .int .i64 0, .string ⟨#[]⟩, .int .i64 0] 76)) = W2 at *
  go_wp2_with (go_at_call 35; refine KA.out.mono ?_)
  rintro e W3 ⟨rfl, hS3, hT3⟩
  obtain ⟨k, t, r, hw3, hp3, hz3⟩ := hS3
  have hbr3 := (hT3.at (k := w.heap.size) (by omega) (by omega)).trans hbr
  have c0 := hw3.c0
  have c1 := hw3.c1
  have c2 := hw3.c2
  have c3 := hw3.c3
  have c4 := hw3.c4
  obtain ⟨r0, r1, r2, r3, r4, rf⟩ := cells5 hbr3
  have HR5 := hide (set5 hbr3 (.string s) (.int .i64 (k : Nat)) (.int .i64 (lx.1.at_ : Nat)) (.string t) (.int .i64 (r : Nat)))
  have HP3 := hide hp3
  have HB3 : Hid (Below w.heap.size w W3) := hide (HB2.out.trans (hT3.below (by omega) (by omega)))
  clear hw3 hp3 hbr3 hbr hT3 KA hsz
  go_wp2_with fail
  refine bodyPost_ret (results_cell_row rfl _ _ w.heap.size 76 _ (0, 0) _ rfl HR5.out Tryz.underlying76 rfl Tryz.size76) rfl ?_
  exact ⟨k, t, r, rfl, HP3.out, hz3, ((((HB3.out.setCell (p := ⟨w.heap.size, 0, none⟩) (Nat.le_refl _) _).setCell (p := ⟨w.heap.size, 1, none⟩) (Nat.le_refl _) _).setCell (p := ⟨w.heap.size, 2, none⟩) (Nat.le_refl _) _).setCell (p := ⟨w.heap.size, 3, none⟩) (Nat.le_refl _) _).setCell (p := ⟨w.heap.size, 4, none⟩) (Nat.le_refl _) _⟩

set_option maxRecDepth 100000 in
set_option maxHeartbeats 4000000 in
theorem newReader_calls (s : ByteArray) (w : World) (hs : s.size ≤ 200000) (ht : Tb w) :
    Calls Tryz.prog 12 #[.string s] w fun e w' => ∃ (rb : Nat) (mv : Value), e = .returned (.pointer (some ⟨rb, 0, none⟩)) ∧ w.heap.size ≤ rb ∧ Rdy w' rb mv s (FS.step s st00) ∧ Below w.heap.size w w' := by
  have KS := hide (newScanner_calls s w hs ht)
  have HT := hide ht
  have ht10 := ht.lt
  clear ht
  go_enter Tryz.func12, Tryz.ntmps12
  go_wp2_with (go_at_call 21; refine KS.out.mono ?_)
  intro e W1 h1
  obtain ⟨k, t, r, rfl, hp1, hz1, hB1⟩ := h1
  have KT := hide (tacticKinds_calls W1)
  have HP1 := hide hp1
  have HB1 := hide hB1
  have hl1 := hB1.size
  clear hp1 hB1 KS
  go_wp2_with (go_at_call 22; refine KT.out.mono ?_)
  intro e W2 h2
  obtain ⟨mb, rfl, hmb, hB2, hml, D, ho, ha⟩ := h2
  have HB2 := hide (HB1.out.trans (hB2.mono hl1))
  have hl2 := hB2.size
  have HTm : Hid (Rdy (W2.alloc (.cells #[.string s, .int .i64 (k : Nat), .int .i64 ((lex s 0).1.at_ : Nat), .string t, .int .i64 (r : Nat), .map (some mb), .int .i64 4194304] 81)) W2.heap.size (.map (some mb)) s (FS.step s st00)) := by
    refine ⟨⟨rfl, 4194304, k, t, r, heap_alloc_new _ _, HP1.out, hz1⟩, first_ok s, HT.out.later (HB2.out.alloc (by omega) _), ⟨mb, D, rfl, by omega, by simp; omega, ho.alloc _, ha⟩, hs, by omega⟩
  clear hB2 hml ho ha KT HP1 HB1 HT
  generalize (lex s 0).1.at_ = ta at *
  go_wp2_with fail
  go_ret
  exact ⟨W2.heap.size, .map (some mb), rfl, by omega, HTm.out, HB2.out.alloc (by omega) _⟩

theorem commandsN_end {s : ByteArray} (n : Nat) : ∀ (m : Nat) (l : List Cm) (st : FS), st.Ok s → st.left s < m → (commandsN s n m l st).2.code = 0 → (commandsN s n m l st).2.t.kd = 0
  | 0, _, _, _, h, _ => absurd h (by omega)
  | m + 1, l, st, ho, h, hc => by
    simp only [commandsN] at hc ⊢
    by_cases hp : st.code = 0 ∧ st.t.kd ≠ 0
    · rw [if_pos hp] at hc ⊢
      by_cases hk : kindNo st = 0
      · have hcf : (commandF s n st).2.code ≠ 0 := by rw [commandF_zero hk]; unfold FS.fail; rw [if_pos hp.1]; simp
        rw [commands_stop (fun h => hcf h.1)] at hc
        exact absurd hc hcf
      · have := commandF_left (n := n) ho hp.1 hk
        exact commandsN_end n m _ _ (commandF_fwd n st ho).ok (by omega) hc
    · rw [if_neg hp] at hc ⊢
      have hc' : st.code = 0 := hc
      exact Decidable.byContradiction fun h => hp ⟨hc', h⟩
theorem textG_end {s : ByteArray} (h : Lost (textG s).2) : (textG s).2.code ≠ 0 := fun hc => by
  have h0 := commandsN_end (s := s) (2 * s.size + 2) (2 * s.size + 2) [] (FS.step s st00) (first_ok s) (first_left s) hc
  rcases h with h | h
  · exact h hc
  · have h0' : (textG s).2.t.kd = 0 := h0
    omega
/-- A text is no commands: the fault's code and place. -/
def TextBad (s : ByteArray) (code a : Nat) : Prop := (s.size ≤ 200000 ∧ (textG s).2.code ≠ 0 ∧ code = 1 ∧ a = (textG s).2.fat) ∨ (200000 < s.size ∧ code = 2 ∧ a = 0)
/-- A text is commands. -/
def TextIs (s : ByteArray) : Prop := s.size ≤ 200000 ∧ (textG s).2.code = 0
/-- What the work comes to. -/
def Work (w : World) (s : ByteArray) (e : Ending) (w' : World) : Prop :=
  (∃ (A : Option Addr) (c : Nat), TextIs s ∧ e = .returned (.slice A (textG s).1.length c) ∧ CmsIn w' (fun b => w.heap.size ≤ b) A (textG s).1 ∧ Below w.heap.size w w') ∨ ∃ code a, TextBad s code a ∧ Threw w w.heap.size code a e w'
/-- What is answered. -/
def Answer (w : World) (s : ByteArray) (e : Ending) (w' : World) : Prop :=
  (∃ (A : Option Addr) (c : Nat), TextIs s ∧ e = .returned (.tuple #[.slice A (textG s).1.length c, .nilIface]) ∧ CmsIn w' (fun b => w.heap.size ≤ b) A (textG s).1 ∧ Below w.heap.size w w') ∨
  (∃ code a, TextBad s code a ∧ ∃ N : Nat, e = .returned (.tuple #[.slice none 0 0, .iface 69 (.pointer (some ⟨N, 0, none⟩))]) ∧ w.heap.size ≤ N ∧ w'.heap[N]? = some (.cells #[.int .i64 (code : Nat), .int .i64 (a : Nat)] 33 (0, 0)) ∧ Below w.heap.size w w')

set_option maxRecDepth 100000 in
set_option maxHeartbeats 4000000 in
theorem closure_calls (s : ByteArray) (xb : Nat) (w : World) (hm : s.size ≤ maxLen) (ht : Tb w) (c3 : w.cell? ⟨xb, 0, none⟩ = some (.string s)) :
    Calls Tryz.prog 10 #[.pointer (some ⟨xb, 0, none⟩)] w fun e w' => Work w s e w' := by
  unfold maxLen at hm
  by_cases hs : s.size ≤ 200000
  · have KN := hide (newReader_calls s w hs ht)
    have hs' : ¬ 200000 < s.size := by omega
    have q1 : decide ((200000 : Int) < (s.size : Int)) = false := by simp; omega
    have HFl : Hid (∀ W rb mv, Rdy W rb mv s (FS.step s st00) → Calls Tryz.prog 13 #[.pointer (some ⟨rb, 0, none⟩)] W fun e w' => RX W rb mv s (textG s).2 (CmsR W (textG s).1) e w') := hide fun W rb mv hW => file_calls (2 * s.size + 2) (by omega) _ W hW (first_left s)
    have HEn := hide (textG_end (s := s))
    have HWk : Hid (∀ W rb mv e w', Below w.heap.size w W → w.heap.size ≤ rb → RX W rb mv s (textG s).2 (CmsR W (textG s).1) e w' → Work w s e w') := hide fun W rb mv e w' hB hrb h => by
      have hz := hB.size
      rcases h with ⟨hc, ⟨A, c, he, hL⟩, hR, hT⟩ | ⟨hc, hth⟩
      · exact .inl ⟨A, c, ⟨hs, hc⟩, he, hL.keep fun b _ hb => ⟨Nat.le_trans hz hb, rfl⟩, hB.trans (hT.below hz hrb)⟩
      · have hcc := HEn.out hc
        obtain ⟨fb, he, hfb, hfc, hT⟩ := hth
        have hBt : Below w.heap.size w w' := hB.trans (hT.below hz hrb)
        exact .inr ⟨1, (textG s).2.fat, .inl ⟨hs, hcc, rfl, rfl⟩, fb, he, Nat.le_trans hz hfb, by rw [fp_of hcc] at hfc; exact hfc, Touched.of_below hBt⟩
    clear ht
    go_enter Tryz.func10, Tryz.ntmps10
    go_wp2_with (go_at_call 12; refine KN.out.mono ?_)
    intro e W1 h1
    obtain ⟨rb, mv, rfl, hrb, hR1, hB1⟩ := h1
    have KF := hide (HFl.out W1 rb mv hR1)
    have HB1 := hide hB1
    clear hR1 hB1 KN HFl
    go_wp2_with (go_at_call 13; refine KF.out.mono ?_)
    intro e W2 h2
    have HF := hide (HWk.out W1 rb mv e W2 HB1.out hrb h2)
    rcases h2 with ⟨-, ⟨A, c, rfl, -⟩, -, -⟩ | ⟨-, fb, rfl, -⟩
    · clear KF HWk HEn
      go_wp2_with fail
      go_ret
      exact HF.out
    · clear KF HWk HEn
      go_wp2_with fail
      exact ⟨rfl, HF.out⟩
  · have K := hide (throw_calls 2 w.heap.size w)
    have hs' : 200000 < s.size := by omega
    have q1 : decide ((200000 : Int) < (s.size : Int)) = true := by simp; omega
    clear hs
    go_enter Tryz.func10, Tryz.ntmps10
    go_wp2_with (go_at_call 11; refine K.out.mono ?_)
    intro e w1 h1
    have HF : Hid (Work w s e w1) := .inr ⟨2, 0, .inr ⟨hs', rfl, rfl⟩, h1⟩
    obtain ⟨fb, rfl, -⟩ := h1
    go_wp2_with fail
    exact ⟨rfl, HF.out⟩
end Go.Proofs.YtekfledccpeblaaGreatDoor

/- The contracts of fault.Caught and of Parse. -/
namespace Go.Proofs.YtekfledccpeblaaGreatDoor
open Go.RowKit

set_option maxRecDepth 100000 in
/-- The deferred closure, entered as a deferred call of a frame that returns: recover finds nothing: it turns nothing. -/
theorem catch_idle (p q : Addr) (w : World) :
    CallsD Tryz.prog 19 #[.pointer (some p), .pointer (some q)] .returning w fun e u' w' => e = .returned (.tuple #[]) ∧ u' = .returning ∧ w' = w := by
  refine callsD_of_wpS Tryz.func19 rfl fun c₀ cs hu => ?_
  apply wpS_seq
  apply wpS_region
  simp [wpOpsS, go_sem, recoverD, hu, Tryz.ntmps19, Exit.thenS]
  apply wpS_seq
  apply wpS_seq
  apply wpS_region
  simp [wpOpsS, go_sem, Exit.thenS]
  refine wpS_cond (t := true) (by simp [Act.eval, Array.replicate]) ?_
  simp only [if_true]
  refine wpS_of_wp (wp_ret ?_)
  cases c₀
  simp_all [bodyPostS, results, Tryz.results19, Exit.thenS]

theorem Tryz.isFault (v : Value) (w : World) : (Instr.typeAssert (.iface 69 v) 20 69 true).run Tryz.prog w = .ok (.tuple #[v, .bool true]) w := by kernel_rfl

set_option maxRecDepth 100000 in
set_option maxHeartbeats 4000000 in
/-- The deferred closure, entered as a deferred call of a frame that panics with a fault: it is recovered, and told as the error. -/
theorem catch_throw (b c fb : Nat) (x y : Value) (w : World) (hb : w.heap[b]? = some (.cells #[x] 27 (0, 0))) (hc : w.heap[c]? = some (.cells #[y] 29 (0, 0))) (hne : b ≠ c) :
    CallsD Tryz.prog 19 #[.pointer (some ⟨b, 0, none⟩), .pointer (some ⟨c, 0, none⟩)] (.panicking [{ v := .iface 69 (.pointer (some ⟨fb, 0, none⟩)), recovered := false }]) w fun e u' w' =>
      e = .returned (.tuple #[]) ∧ u' = .panicking [{ v := .iface 69 (.pointer (some ⟨fb, 0, none⟩)), recovered := true }] ∧
      w' = (w.setCell ⟨b, 0, none⟩ (.slice none 0 0)).setCell ⟨c, 0, none⟩ (.iface 69 (.pointer (some ⟨fb, 0, none⟩))) := by
  have hbl : b < w.heap.size := (Array.getElem?_eq_some_iff.1 hb).1
  have hcl : c < w.heap.size := (Array.getElem?_eq_some_iff.1 hc).1
  have b0 : w.cell? ⟨b, 0, none⟩ = some x := by simp [World.cell?, hb]
  have bf : ∀ i, w.frozen? ⟨b, i, none⟩ = false := fun i => by simp [World.frozen?, hb]
  have c0 : w.cell? ⟨c, 0, none⟩ = some y := by simp [World.cell?, hc]
  have cf : ∀ i, w.frozen? ⟨c, i, none⟩ = false := fun i => by simp [World.frozen?, hc]
  have hne' : ¬ b = c := hne
  have hne2 : ¬ c = b := fun e => hne e.symm
  have hta := Tryz.isFault
  clear hb hc hne
  refine callsD_of_wpS Tryz.func19 rfl fun c₀ cs hu => ?_
  apply wpS_seq
  apply wpS_region
  simp [wpOpsS, go_sem, recoverD, hu, Tryz.ntmps19, Exit.thenS]
  apply wpS_seq
  apply wpS_seq
  apply wpS_region
  simp [wpOpsS, go_sem, Exit.thenS]
  refine wpS_cond (t := false) (by simp [Act.eval, Array.replicate]) ?_
  simp only [Bool.false_eq_true, if_false]
  refine wpS_of_wp (wp_skip ?_)
  simp only [Exit.thenS]
  refine wpS_of_wp ?_
  change Code.wp _ _ _ { tmps := #[.pointer (some ⟨b, 0, none⟩), .pointer (some ⟨c, 0, none⟩), .iface 69 (.pointer (some ⟨fb, 0, none⟩)), undef, undef, undef, .iface 69 (.pointer (some ⟨fb, 0, none⟩)), .iface 69 (.pointer (some ⟨fb, 0, none⟩)), .bool false, undef, undef, undef, undef, undef, undef, undef, undef, undef, undef, undef], defers := [] } w
  go_wp2_with fail
  simp [bodyPostS, results, Tryz.results19, go_sem]

set_option maxRecDepth 100000 in
set_option maxHeartbeats 4000000 in
theorem caught_calls (p3 : Value) (s : ByteArray) (w : World) (K : ∀ W, Below w.heap.size w W → Calls Tryz.prog 10 #[p3] W fun e w' => Work W s e w') :
    Calls Tryz.prog 9 #[.func (.func 10) #[] #[p3]] w fun e w' => Answer w s e w' := by
  have hold : Below w.heap.size w ((w.alloc (.cells #[.slice none 0 0] 27)).alloc (.cells #[.nilIface] 29)) := ((Below.refl _ _).alloc (Nat.le_refl _) _).alloc (by simp) _
  have K1 := hide (K _ hold)
  have HO := hide hold
  have hmf : ∀ (fn : Fn) (first cap : Array Value) (w : World), (Instr.makeFunc fn first cap).run Tryz.prog w = .ok (.func fn first cap) w := fun _ _ _ _ => rfl
  clear K hold
  go_enter_defers Tryz.func9, Tryz.ntmps9
  go_wp2_with (go_at_call 10; refine K1.out.mono ?_)
  intro e w1 h1
  have hh : Touched ((w.alloc (.cells #[.slice none 0 0] 27)).alloc (.cells #[.nilIface] 29)) (w.heap.size + 2) w1 := by
    rcases h1 with ⟨_, _, _, _, _, hB⟩ | ⟨_, _, _, _, _, _, _, hT⟩
    · exact Touched.of_below hB
    · simpa using hT
  have hz1 := hh.size
  simp at hz1
  have hb0 : w1.heap[w.heap.size]? = some (.cells #[.slice none 0 0] 27 (0, 0)) := by
    rw [hh.block w.heap.size (by simp; omega) (by simp), Below.heap_alloc _ _ _ (by simp)]
    exact heap_alloc_new w _
  have hb1 : w1.heap[w.heap.size + 1]? = some (.cells #[.nilIface] 29 (0, 0)) := by
    rw [hh.block (w.heap.size + 1) (by simp) (by simp)]
    have := heap_alloc_new (w.alloc (.cells #[.slice none 0 0] 27)) (.cells #[.nilIface] 29)
    simpa using this
  have hB : Below w.heap.size w w1 := ((Touched.of_below HO.out).trans hh).below (B := w.heap.size) (Nat.le_refl _) (by omega)
  have hBs : ∀ u v, Below w.heap.size w ((w1.setCell ⟨w.heap.size, 0, none⟩ u).setCell ⟨w.heap.size + 1, 0, none⟩ v) := fun u v => (hB.setCell (p := ⟨w.heap.size, 0, none⟩) (Nat.le_refl _) _).setCell (p := ⟨w.heap.size + 1, 0, none⟩) (Nat.le_succ _) _
  have d0 : w1.cell? ⟨w.heap.size, 0, none⟩ = some (.slice none 0 0) := by simp [World.cell?, hb0]
  have d3 : ∀ i, w1.frozen? ⟨w.heap.size, i, none⟩ = false := fun i => by simp [World.frozen?, hb0]
  have e4 : w1.cell? ⟨w.heap.size + 1, 0, none⟩ = some .nilIface := by simp [World.cell?, hb1]
  have e5 : ∀ i, w1.frozen? ⟨w.heap.size + 1, i, none⟩ = false := fun i => by simp [World.frozen?, hb1]
  have d4 : w.heap.size < w1.heap.size := by omega
  have e7 : w.heap.size + 1 < w1.heap.size := by omega
  have HBs := hide hBs
  have Hb0 := hide hb0
  have Hb1 := hide hb1
  clear hh hB hBs hb0 hb1
  rcases h1 with ⟨A, c, hR, rfl, hV, -⟩ | ⟨code, a, hno, fb, rfl, hfb, hfc, -⟩
  · have HF : Hid (∀ W, (∀ b, b ≠ w.heap.size → b ≠ w.heap.size + 1 → W.heap[b]? = w1.heap[b]?) → Below w.heap.size w W → Answer w s (.returned (.tuple #[.slice A (textG s).1.length c, .nilIface])) W) := fun W hW hb =>
      .inl ⟨A, c, hR, rfl, hV.keep fun b _ hS => by simp at hS; exact ⟨by omega, hW b (by omega) (by omega)⟩, hb⟩
    clear hR hV
    go_wp2_with fail
    refine leaves_cons (f := 19) (args := #[.pointer (some ⟨w.heap.size, 0, none⟩), .pointer (some ⟨w.heap.size + 1, 0, none⟩)]) (by simp) (by simp [go_sem]) ?_
    refine (catch_idle ⟨w.heap.size, 0, none⟩ ⟨w.heap.size + 1, 0, none⟩ _).mono ?_
    rintro e u' w'' ⟨rfl, rfl, rfl⟩
    simp [Leaves, settle, results, Tryz.results9, go_sem, d0, e4]
    refine HF.out _ (fun b h0 h1 => ?_) (HBs.out _ _)
    rw [Below.heap_setCell _ _ _ _ (by show b ≠ w.heap.size + 1; exact h1), Below.heap_setCell _ _ _ _ (by show b ≠ w.heap.size; exact h0)]
  · have KC := hide (catch_throw w.heap.size (w.heap.size + 1) fb _ _ w1 Hb0.out Hb1.out (by omega))
    have HF : Hid (∀ W, W.heap[fb]? = some (.cells #[.int .i64 (code : Nat), .int .i64 (a : Nat)] 33 (0, 0)) → Below w.heap.size w W → Answer w s (.returned (.tuple #[.slice none 0 0, .iface 69 (.pointer (some ⟨fb, 0, none⟩))])) W) := fun W hfW hb => .inr ⟨code, a, hno, fb, rfl, by simp at hfb; omega, hfW, hb⟩
    have Hfb : Hid (w.heap.size + 2 ≤ fb) := by unfold Hid; simp at hfb; omega
    have Hfc := hide hfc
    clear hno hfb hfc
    go_wp2_with fail
    refine leaves_cons (f := 19) (args := #[.pointer (some ⟨w.heap.size, 0, none⟩), .pointer (some ⟨w.heap.size + 1, 0, none⟩)]) (by simp) (by simp [go_sem]) ?_
    refine KC.out.mono ?_
    intro e u' W hW
    obtain ⟨rfl, rfl, hW⟩ := hW
    have g0 : W.cell? ⟨w.heap.size, 0, none⟩ = some (.slice none 0 0) := by
      rw [hW]
      simp [World.cell?, World.setCell, Array.getElem?_modify, Hb0.out]
    have g1 : W.cell? ⟨w.heap.size + 1, 0, none⟩ = some (.iface 69 (.pointer (some ⟨fb, 0, none⟩))) := by
      rw [hW]
      simp [World.cell?, World.setCell, Array.getElem?_modify, Hb1.out]
    have HB := hide (HBs.out (.slice none 0 0) (.iface 69 (.pointer (some ⟨fb, 0, none⟩))))
    rw [← hW] at HB
    have HW2 : Hid (W.heap[fb]? = some (.cells #[.int .i64 (code : Nat), .int .i64 (a : Nat)] 33 (0, 0))) := by
      have := Hfb.out
      rw [hW, Below.heap_setCell _ _ _ _ (by show fb ≠ w.heap.size + 1; omega), Below.heap_setCell _ _ _ _ (by show fb ≠ w.heap.size; omega)]
      exact Hfc.out
    clear hW KC
    simp [Leaves, settle, results, Tryz.results9, go_sem, g0, g1]
    exact HF.out W HW2.out HB.out


theorem Answer.from {w w0 w' : World} {s : ByteArray} {e : Ending} (h : Answer w s e w') (hb : Below w0.heap.size w0 w) : Answer w0 s e w' := by
  have hz := hb.size
  rcases h with ⟨A, c, hR, he, hV, hB⟩ | ⟨code, a, hno, N, he, hN, hc, hB⟩
  · exact .inl ⟨A, c, hR, he, hV.keep fun b _ hS => ⟨Nat.le_trans hz hS, rfl⟩, hb.trans (hB.mono hz)⟩
  · exact .inr ⟨code, a, hno, N, he, by omega, hc, hb.trans (hB.mono hz)⟩
theorem Answer.form {w w' : World} {s : ByteArray} {e : Ending} (h : Answer w s e w') : ∃ (A : Option Addr) (n c : Nat) (f : Value), e = .returned (.tuple #[.slice A n c, f]) := by
  rcases h with ⟨A, c, _, he, _⟩ | ⟨_, _, _, N, he, _⟩
  · exact ⟨_, _, _, _, he⟩
  · exact ⟨_, _, _, _, he⟩

set_option maxRecDepth 100000 in
set_option maxHeartbeats 4000000 in
theorem parse_calls (s : ByteArray) (w : World) (hm : s.size ≤ maxLen) (ht : Tb w) : Calls Tryz.prog 5 #[.string s] w fun e w' => Answer w s e w' := by
  have hold : Below w.heap.size w (w.alloc (.cells #[.string s] 9)) := (Below.refl _ _).alloc (Nat.le_refl _) _
  have x3 : (w.alloc (.cells #[.string s] 9)).cell? ⟨w.heap.size, 0, none⟩ = some (.string s) := cell_of (heap_alloc_new _ _) 0 rfl
  have K1 := hide (caught_calls (.pointer (some ⟨w.heap.size, 0, none⟩)) s (w.alloc (.cells #[.string s] 9)) fun W hW => closure_calls s w.heap.size W hm ((ht.later hold).later hW) (cell_later hW x3))
  have HO := hide hold
  have hmf : ∀ (fn : Fn) (first cap : Array Value) (w : World), (Instr.makeFunc fn first cap).run Tryz.prog w = .ok (.func fn first cap) w := fun _ _ _ _ => rfl
  clear hold x3 ht
  go_enter Tryz.func5, Tryz.ntmps5
  go_wp2_with (go_at_call 9; refine K1.out.mono ?_)
  intro e w1 h1
  obtain ⟨A, n, c, f, rfl⟩ := h1.form
  have HF := hide (h1.from HO.out)
  clear h1 K1
  go_wp2_with fail
  refine bodyPost_ret (v := .tuple #[.slice A n c, f]) (by simp [results, Tryz.results5, go_sem]) rfl ?_
  exact HF.out
end Go.Proofs.YtekfledccpeblaaGreatDoor
