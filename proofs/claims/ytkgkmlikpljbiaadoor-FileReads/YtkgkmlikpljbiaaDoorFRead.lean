/- The contracts of fault.Caught, of notation.Read with its closure, of file.Parse. -/
import Derived.Test.YtkgkmlikpljbiaaDoorFFile
import Derived.Defers
import Derived.Recover
import Derived.Below

namespace Go.Proofs.YtkgkmlikpljbiaaDoor
open Go.RowKit

/-- Declarations in a row. -/
def DsV (W : World) (S : Nat → Prop) (D : Nat) (ds : List Dc) (A : Option Addr) : Prop := ∀ i (hi : i < ds.length), ∃ (g : Nat) (a : Array Value), A = some ⟨g, 0, none⟩ ∧ S g ∧ g < W.heap.size ∧ a.size = 15 ∧ (∀ q, q < 15 → W.cell? ⟨g, i * 15 + q, none⟩ = a[q]?) ∧ DeclV W S D ds[i] (.agg a)
theorem DsV.keep {W W' : World} {S S' : Nat → Prop} {D : Nat} {ds : List Dc} {A : Option Addr} (hd : DsV W S D ds A) (h : ∀ b, b < W.heap.size → S b → S' b ∧ W'.heap[b]? = W.heap[b]?) : DsV W' S' D ds A := fun i hi => by
  obtain ⟨g, a, e, hS, hl, hz, hc, hv⟩ := hd i hi
  obtain ⟨hS', hb⟩ := h g hl hS
  have hl' : g < W'.heap.size := by
    rcases Nat.lt_or_ge g W'.heap.size with h1 | h1
    · exact h1
    · rw [Array.getElem?_eq_none h1, Array.getElem?_eq_getElem hl] at hb; cases hb
  exact ⟨g, a, e, hS', hl', hz, fun q hq => (World.cell?_of_block hb).trans (hc q hq), hv.keep h⟩
theorem DsV.of_row {W : World} {D n0 : Nat} {ds : List Dc} {A : Option Addr} {c : Nat} {xs : List Value} (h : GRow (DK D ds) W 45 15 0 n0 ds.length (.slice A ds.length c) xs) : DsV W (fun b => n0 ≤ b) D ds A := by
  obtain ⟨A', c', e, hp⟩ := h.out (DK.keeps _ _)
  injection e with e1 e2 e3
  subst e1
  intro i hi
  obtain ⟨g, a, ea, hg, hz, hc, hj, hv⟩ := hp i hi
  have hl : g < W.heap.size := World.block_lt_of_cell? _ ⟨g, i * 15 + 0, none⟩ ((hc 0 (by omega)).trans (Array.getElem?_eq_getElem (by omega)))
  exact ⟨g, a, ea, hg, hl, hz, hc, hv.keep fun b _ hb => ⟨by omega, rfl⟩⟩

/-- The whole of a text is declarations. -/
def FileIs (s : ByteArray) (D : Nat) (ds : List Dc) : Prop := s.size ≤ 200000 ∧ ∃ p', DeclsAt s D ds 0 p' ∧ runTo blankB s p' = s.size ∧ ds.length ≤ s.size
/-- What the work comes to. -/
def Work (w : World) (s : ByteArray) (D : Nat) (e : Ending) (w' : World) : Prop :=
  (∃ (ds : List Dc) (A : Option Addr) (c : Nat), FileIs s D ds ∧ e = .returned (.slice A ds.length c) ∧ DsV w' (fun b => w.heap.size ≤ b) D ds A ∧ Below w.heap.size w w') ∨ ((∀ ds p', s.size ≤ 200000 → DeclsAt s D ds 0 p' → runTo blankB s p' ≠ s.size) ∧ ∃ code a, Threw w w.heap.size code a e w')
/-- What is answered. -/
def Answer (w : World) (s : ByteArray) (D : Nat) (e : Ending) (w' : World) : Prop :=
  (∃ (ds : List Dc) (A : Option Addr) (c : Nat), FileIs s D ds ∧ e = .returned (.tuple #[.slice A ds.length c, .nilIface]) ∧ DsV w' (fun b => w.heap.size ≤ b) D ds A ∧ Below w.heap.size w w') ∨
  ((∀ ds p', s.size ≤ 200000 → DeclsAt s D ds 0 p' → runTo blankB s p' ≠ s.size) ∧ ∃ N : Nat, e = .returned (.tuple #[.slice none 0 0, .iface 69 (.pointer (some ⟨N, 0, none⟩))]) ∧ Below w.heap.size w w')

theorem cell_later {w W : World} {a : Addr} {v : Value} (hb : Below w.heap.size w W) (h : w.cell? a = some v) : W.cell? a = some v := by
  rw [World.cell?_of_block (hb.block _ (World.block_lt_of_cell? _ _ h))]; exact h

set_option maxRecDepth 100000 in
set_option maxHeartbeats 4000000 in
theorem read1_calls (s : ByteArray) (D b3 b4 b5 : Nat) (w : World) (hm : s.size ≤ maxLen) (hD : 200000 < D) (ht : Tabs3 w)
    (c3 : w.cell? ⟨b3, 0, none⟩ = some (.string s)) (c4 : w.cell? ⟨b4, 0, none⟩ = some (.int .i64 200000)) (c5 : w.cell? ⟨b5, 0, none⟩ = some (.func (.func 7) #[] #[])) :
    Calls Tryd.prog 13 #[.pointer (some ⟨b3, 0, none⟩), .pointer (some ⟨b4, 0, none⟩), .pointer (some ⟨b5, 0, none⟩)] w fun e w' => Work w s D e w' := by
  unfold maxLen at hm
  have hlt := ht.lt
  by_cases hs : s.size ≤ 200000
  · have hold : Below w.heap.size w (w.alloc (.cells #[.string s, .int .i64 0] 55)) := (Below.refl _ _).alloc (Nat.le_refl _) _
    have hS0 : ScAt (w.alloc (.cells #[.string s, .int .i64 0] 55)) w.heap.size s 0 := by
      have := heap_alloc_new w (.cells #[.string s, .int .i64 0] 55)
      simpa [ScAt] using this
    have K1 := hide (decls_total w.heap.size s 0 D _ hs (Nat.zero_le _) hS0 (ht.alloc _) hlt hD)
    have d5 := cell_later hold c5
    have HTb := hide ht
    have HO := hide hold
    clear ht hold hS0
    go_enter Tryd.func13, Tryd.ntmps13
    go_wp2_with (go_at_call 7; refine K1.out.mono ?_)
    intro e w1 h1
    rcases h1 with ⟨ds, p', A, c, xs, hd, he, hp', hf, rfl, hrow, hS1, hT1⟩ | ⟨hno, code, a, hth⟩
    rotate_left
    · have HF : Hid (Work w s D e w1) := .inr ⟨fun ds p' _ h => hno ds p' h, code, a, hth.from (Touched.of_below HO.out)⟩
      obtain ⟨fb, rfl, -⟩ := hth
      go_wp2_with fail
      exact ⟨rfl, HF.out⟩
    have hTw : Touched w w.heap.size w1 := (Touched.of_below HO.out).trans hT1
    have hT2 := hTw.trans (Touched.alloc w1 w.heap.size (.cells #[.int .i64 0] 56))
    have hz1 := hTw.size
    have K2 := hide (expect_calls w.heap.size s p' 0 _ _ _ [0] (.slice (some ⟨w1.heap.size, 0, none⟩) 1 1) _ (end_nexts hs hp' he) (hS1.alloc (.cells #[.int .i64 0] 56)) (HTb.out.touched hT2 hlt).b.a hlt (kinds1 0) (fun b n cap e => by injection e with e; injection e with e; injection e with e; have := hS1.lt; omega) (by simp))
    have HR : Hid (FileIs s D ds) := ⟨hs, p', hd, he, hf⟩
    have HV : Hid (DsV w1 (fun b => w.heap.size + 1 ≤ b) D ds A) := by have := DsV.of_row hrow; exact this.keep fun b _ hb => ⟨by simpa using hb, rfl⟩
    have HT2 := hide hT2
    have hl1 := hS1.lt
    clear hS1 hT1 hTw hT2 hrow hd K1
    go_wp2_with (go_at_call 15; refine K2.out.mono ?_)
    rintro e w2 ⟨rfl, hS2, hT3⟩
    have HF : Hid (Work w s D (.returned (.slice A ds.length c)) w2) := by
      refine .inl ⟨ds, A, c, HR.out, rfl, HV.out.keep fun b hb hS => ⟨by omega, ?_⟩, (HT2.out.trans hT3).below (B := w.heap.size) (Nat.le_refl _) (Nat.le_refl _)⟩
      rw [hT3.block b (by simp; omega) (by simp; omega), Below.heap_alloc _ _ _ hb]
    clear hS2 hT3 K2
    go_wp2_with fail
    go_ret
    exact HF.out
  · have K := hide (throw_calls 2 w.heap.size w)
    have HS := hide hs
    have hs' : 200000 < s.size := by omega
    clear hs
    go_enter Tryd.func13, Tryd.ntmps13
    go_wp2_with (go_at_call 14; refine K.out.mono ?_)
    intro e w1 h1
    have HF : Hid (Work w s D e w1) := .inr ⟨fun ds p' h => absurd h HS.out, 2, 0, h1⟩
    obtain ⟨fb, rfl, -⟩ := h1
    go_wp2_with fail
    exact ⟨rfl, HF.out⟩

set_option maxRecDepth 100000 in
/-- The deferred closure, entered as a deferred call of a frame that returns: recover finds nothing: it turns nothing. -/
theorem catch_idle (p q : Addr) (w : World) :
    CallsD Tryd.prog 23 #[.pointer (some p), .pointer (some q)] .returning w fun e u' w' => e = .returned (.tuple #[]) ∧ u' = .returning ∧ w' = w := by
  refine callsD_of_wpS Tryd.func23 rfl fun c₀ cs hu => ?_
  apply wpS_seq
  apply wpS_region
  simp [wpOpsS, go_sem, recoverD, hu, Tryd.ntmps23, Exit.thenS]
  apply wpS_seq
  apply wpS_seq
  apply wpS_region
  simp [wpOpsS, go_sem, Exit.thenS]
  refine wpS_cond (t := true) (by simp [Act.eval, Array.replicate]) ?_
  simp only [if_true]
  refine wpS_of_wp (wp_ret ?_)
  cases c₀
  simp_all [bodyPostS, results, Tryd.results23, Exit.thenS]

theorem Tryd.isFault (v : Value) (w : World) : (Instr.typeAssert (.iface 69 v) 20 69 true).run Tryd.prog w = .ok (.tuple #[v, .bool true]) w := by kernel_rfl

set_option maxRecDepth 100000 in
set_option maxHeartbeats 4000000 in
/-- The deferred closure, entered as a deferred call of a frame that panics with a fault: it is recovered, and told as the error. -/
theorem catch_throw (b c fb : Nat) (x y : Value) (w : World) (hb : w.heap[b]? = some (.cells #[x] 23 (0, 0))) (hc : w.heap[c]? = some (.cells #[y] 25 (0, 0))) (hne : b ≠ c) :
    CallsD Tryd.prog 23 #[.pointer (some ⟨b, 0, none⟩), .pointer (some ⟨c, 0, none⟩)] (.panicking [{ v := .iface 69 (.pointer (some ⟨fb, 0, none⟩)), recovered := false }]) w fun e u' w' =>
      e = .returned (.tuple #[]) ∧ u' = .panicking [{ v := .iface 69 (.pointer (some ⟨fb, 0, none⟩)), recovered := true }] ∧
      w' = (w.setCell ⟨b, 0, none⟩ (.slice none 0 0)).setCell ⟨c, 0, none⟩ (.iface 69 (.pointer (some ⟨fb, 0, none⟩))) := by
  have hbl : b < w.heap.size := (Array.getElem?_eq_some_iff.1 hb).1
  have hcl : c < w.heap.size := (Array.getElem?_eq_some_iff.1 hc).1
  have b0 : w.cell? ⟨b, 0, none⟩ = some x := by simp [World.cell?, hb]
  have bf : ∀ i, w.frozen? ⟨b, i, none⟩ = false := fun i => by simp [World.frozen?, hb]
  have c0 : w.cell? ⟨c, 0, none⟩ = some y := by simp [World.cell?, hc]
  have cf : ∀ i, w.frozen? ⟨c, i, none⟩ = false := fun i => by simp [World.frozen?, hc]
  have hne' : ¬ b = c := hne
  have hne2 : ¬ c = b := fun e => hne e.symm
  have hta := Tryd.isFault
  clear hb hc hne
  refine callsD_of_wpS Tryd.func23 rfl fun c₀ cs hu => ?_
  apply wpS_seq
  apply wpS_region
  simp [wpOpsS, go_sem, recoverD, hu, Tryd.ntmps23, Exit.thenS]
  apply wpS_seq
  apply wpS_seq
  apply wpS_region
  simp [wpOpsS, go_sem, Exit.thenS]
  refine wpS_cond (t := false) (by simp [Act.eval, Array.replicate]) ?_
  simp only [Bool.false_eq_true, if_false]
  refine wpS_of_wp (wp_skip ?_)
  simp only [Exit.thenS]
  refine wpS_of_wp ?_
  change Code.wp _ _ _ { tmps := #[.pointer (some ⟨b, 0, none⟩), .pointer (some ⟨c, 0, none⟩), .iface 69 (.pointer (some ⟨fb, 0, none⟩)), undef, undef, undef, .iface 69 (.pointer (some ⟨fb, 0, none⟩)), .iface 69 (.pointer (some ⟨fb, 0, none⟩)), .bool false, undef, undef, undef, undef, undef, undef, undef, undef, undef, undef, undef], defers := [] } w
  go_wp2_with fail
  simp [bodyPostS, results, Tryd.results23, go_sem]

set_option maxRecDepth 100000 in
set_option maxHeartbeats 4000000 in
theorem caught_calls (p3 p4 p5 : Value) (s : ByteArray) (D : Nat) (w : World) (K : ∀ W, Below w.heap.size w W → Calls Tryd.prog 13 #[p3, p4, p5] W fun e w' => Work W s D e w') :
    Calls Tryd.prog 12 #[.func (.func 13) #[] #[p3, p4, p5]] w fun e w' => Answer w s D e w' := by
  have hold : Below w.heap.size w ((w.alloc (.cells #[.slice none 0 0] 23)).alloc (.cells #[.nilIface] 25)) := ((Below.refl _ _).alloc (Nat.le_refl _) _).alloc (by simp) _
  have K1 := hide (K _ hold)
  have HO := hide hold
  have hmf : ∀ (fn : Fn) (first cap : Array Value) (w : World), (Instr.makeFunc fn first cap).run Tryd.prog w = .ok (.func fn first cap) w := fun _ _ _ _ => rfl
  clear K hold
  go_enter_defers Tryd.func12, Tryd.ntmps12
  go_wp2_with (go_at_call 13; refine K1.out.mono ?_)
  intro e w1 h1
  have hh : Touched ((w.alloc (.cells #[.slice none 0 0] 23)).alloc (.cells #[.nilIface] 25)) (w.heap.size + 2) w1 := by
    rcases h1 with ⟨_, _, _, _, _, _, hB⟩ | ⟨_, _, _, _, _, _, _, hT⟩
    · exact Touched.of_below hB
    · simpa using hT
  have hz1 := hh.size
  simp at hz1
  have hb0 : w1.heap[w.heap.size]? = some (.cells #[.slice none 0 0] 23 (0, 0)) := by
    rw [hh.block w.heap.size (by simp; omega) (by simp), Below.heap_alloc _ _ _ (by simp)]
    exact heap_alloc_new w _
  have hb1 : w1.heap[w.heap.size + 1]? = some (.cells #[.nilIface] 25 (0, 0)) := by
    rw [hh.block (w.heap.size + 1) (by simp) (by simp)]
    have := heap_alloc_new (w.alloc (.cells #[.slice none 0 0] 23)) (.cells #[.nilIface] 25)
    simpa using this
  have hB : Below w.heap.size w w1 := ((Touched.of_below HO.out).trans hh).below (B := w.heap.size) (Nat.le_refl _) (by omega)
  have hBs : ∀ u v, Below w.heap.size w ((w1.setCell ⟨w.heap.size, 0, none⟩ u).setCell ⟨w.heap.size + 1, 0, none⟩ v) := fun u v => (hB.setCell (p := ⟨w.heap.size, 0, none⟩) (Nat.le_refl _) _).setCell (p := ⟨w.heap.size + 1, 0, none⟩) (Nat.le_succ _) _
  have d0 : w1.cell? ⟨w.heap.size, 0, none⟩ = some (.slice none 0 0) := by simp [World.cell?, hb0]
  have d3 : ∀ i, w1.frozen? ⟨w.heap.size, i, none⟩ = false := fun i => by simp [World.frozen?, hb0]
  have e4 : w1.cell? ⟨w.heap.size + 1, 0, none⟩ = some .nilIface := by simp [World.cell?, hb1]
  have e5 : ∀ i, w1.frozen? ⟨w.heap.size + 1, i, none⟩ = false := fun i => by simp [World.frozen?, hb1]
  have d4 : w.heap.size < w1.heap.size := by omega
  have e7 : w.heap.size + 1 < w1.heap.size := by omega
  have HBs := hide hBs
  have Hb0 := hide hb0
  have Hb1 := hide hb1
  clear hh hB hBs hb0 hb1
  rcases h1 with ⟨ds, A, c, hR, rfl, hV, -⟩ | ⟨hno, code, a, fb, rfl, hfb, -⟩
  · have HF : Hid (∀ W, (∀ b, b ≠ w.heap.size → b ≠ w.heap.size + 1 → W.heap[b]? = w1.heap[b]?) → Below w.heap.size w W → Answer w s D (.returned (.tuple #[.slice A ds.length c, .nilIface])) W) := fun W hW hb =>
      .inl ⟨ds, A, c, hR, rfl, hV.keep fun b _ hS => by simp at hS; exact ⟨by omega, hW b (by omega) (by omega)⟩, hb⟩
    clear hR hV
    go_wp2_with fail
    refine leaves_cons (f := 23) (args := #[.pointer (some ⟨w.heap.size, 0, none⟩), .pointer (some ⟨w.heap.size + 1, 0, none⟩)]) (by simp) (by simp [go_sem]) ?_
    refine (catch_idle ⟨w.heap.size, 0, none⟩ ⟨w.heap.size + 1, 0, none⟩ _).mono ?_
    rintro e u' w'' ⟨rfl, rfl, rfl⟩
    simp [Leaves, settle, results, Tryd.results12, go_sem, d0, e4]
    refine HF.out _ (fun b h0 h1 => ?_) (HBs.out _ _)
    rw [Below.heap_setCell _ _ _ _ (by show b ≠ w.heap.size + 1; exact h1), Below.heap_setCell _ _ _ _ (by show b ≠ w.heap.size; exact h0)]
  · have KC := hide (catch_throw w.heap.size (w.heap.size + 1) fb _ _ w1 Hb0.out Hb1.out (by omega))
    have HF : Hid (∀ W, Below w.heap.size w W → Answer w s D (.returned (.tuple #[.slice none 0 0, .iface 69 (.pointer (some ⟨fb, 0, none⟩))])) W) := fun W hb => .inr ⟨hno, fb, rfl, hb⟩
    clear hno hfb
    go_wp2_with fail
    refine leaves_cons (f := 23) (args := #[.pointer (some ⟨w.heap.size, 0, none⟩), .pointer (some ⟨w.heap.size + 1, 0, none⟩)]) (by simp) (by simp [go_sem]) ?_
    refine KC.out.mono ?_
    intro e u' W hW
    obtain ⟨rfl, rfl, hW⟩ := hW
    have g0 : W.cell? ⟨w.heap.size, 0, none⟩ = some (.slice none 0 0) := by
      rw [hW]
      simp [World.cell?, World.setCell, Array.getElem?_modify, Hb0.out]
    have g1 : W.cell? ⟨w.heap.size + 1, 0, none⟩ = some (.iface 69 (.pointer (some ⟨fb, 0, none⟩))) := by
      rw [hW]
      simp [World.cell?, World.setCell, Array.getElem?_modify, Hb1.out]
    have HB := hide (HBs.out (.slice none 0 0) (.iface 69 (.pointer (some ⟨fb, 0, none⟩))))
    rw [← hW] at HB
    clear hW KC
    simp [Leaves, settle, results, Tryd.results12, go_sem, g0, g1]
    exact HF.out W HB.out

/-- The boxes of Read's three parameters. -/
abbrev boxes (w : World) (s : ByteArray) : World := ((w.alloc (.cells #[.string s] 9)).alloc (.cells #[.int .i64 200000] 3)).alloc (.cells #[.func (.func 7) #[] #[]] 33)
theorem boxes_at (w : World) (s : ByteArray) : Below w.heap.size w (boxes w s) ∧ (boxes w s).cell? ⟨w.heap.size, 0, none⟩ = some (.string s) ∧ (boxes w s).cell? ⟨w.heap.size + 1, 0, none⟩ = some (.int .i64 200000) ∧ (boxes w s).cell? ⟨w.heap.size + 1 + 1, 0, none⟩ = some (.func (.func 7) #[] #[]) := by
  refine ⟨(((Below.refl _ _).alloc (Nat.le_refl _) _).alloc (by simp) _).alloc (by simp <;> omega) _, ?_, ?_, ?_⟩
  · rw [World.cell?_alloc_past _ _ _ (by simp <;> omega), World.cell?_alloc_past _ _ _ (by simp)]; simp [World.cell?_alloc_at]
  · rw [World.cell?_alloc_past _ _ _ (by simp)]; simp [World.cell?_alloc_at]
  · simp [World.cell?_alloc_at]

theorem Answer.from {w w0 w' : World} {s : ByteArray} {D : Nat} {e : Ending} (h : Answer w s D e w') (hb : Below w0.heap.size w0 w) : Answer w0 s D e w' := by
  have hz := hb.size
  rcases h with ⟨ds, A, c, hR, he, hV, hB⟩ | ⟨hno, N, he, hB⟩
  · exact .inl ⟨ds, A, c, hR, he, hV.keep fun b _ hS => ⟨by omega, rfl⟩, hb.trans (hB.mono hz)⟩
  · exact .inr ⟨hno, N, he, hb.trans (hB.mono hz)⟩
theorem Answer.form {w w' : World} {s : ByteArray} {D : Nat} {e : Ending} (h : Answer w s D e w') : ∃ (A : Option Addr) (n c : Nat) (f : Value), e = .returned (.tuple #[.slice A n c, f]) := by
  rcases h with ⟨ds, A, c, _, he, _⟩ | ⟨_, N, he, _⟩
  · exact ⟨_, _, _, _, he⟩
  · exact ⟨_, _, _, _, he⟩

set_option maxRecDepth 100000 in
set_option maxHeartbeats 4000000 in
theorem read_calls (s : ByteArray) (D : Nat) (w : World) (hm : s.size ≤ maxLen) (hD : 200000 < D) (ht : Tabs3 w) :
    Calls Tryd.prog 6 #[.string s, .int .i64 200000, .func (.func 7) #[] #[]] w fun e w' => Answer w s D e w' := by
  obtain ⟨hold, x3, x4, x5⟩ := boxes_at w s
  have K1 := hide (caught_calls (.pointer (some ⟨w.heap.size, 0, none⟩)) (.pointer (some ⟨w.heap.size + 1, 0, none⟩)) (.pointer (some ⟨w.heap.size + 1 + 1, 0, none⟩)) s D (boxes w s) fun W hW => read1_calls s D _ _ _ W hm hD ((ht.later hold).later hW) (cell_later hW x3) (cell_later hW x4) (cell_later hW x5))
  have HO := hide hold
  have hmf : ∀ (fn : Fn) (first cap : Array Value) (w : World), (Instr.makeFunc fn first cap).run Tryd.prog w = .ok (.func fn first cap) w := fun _ _ _ _ => rfl
  clear hold x3 x4 x5 ht
  go_enter Tryd.func6, Tryd.ntmps6
  go_wp2_with (go_at_call 12; refine K1.out.mono ?_)
  intro e w1 h1
  obtain ⟨A, n, c, f, rfl⟩ := h1.form
  have HF := hide (h1.from HO.out)
  clear h1 K1
  go_wp2_with fail
  refine bodyPost_ret (v := .tuple #[.slice A n c, f]) (by simp [results, Tryd.results6, go_sem]) rfl ?_
  exact HF.out

set_option maxHeartbeats 1000000 in
theorem fparse_calls (s : ByteArray) (D : Nat) (w : World) (hm : s.size ≤ maxLen) (hD : 200000 < D) (ht : Tabs3 w) :
    Calls Tryd.prog 4 #[.string s] w fun e w' => Answer w s D e w' := by
  have K1 := hide (read_calls s D w hm hD ht)
  go_enter Tryd.func4, Tryd.ntmps4
  go_wp2_with (go_at_call 6; refine K1.out.mono ?_)
  intro e w1 h1
  obtain ⟨A, n, c, f, rfl⟩ := h1.form
  have HF := hide h1
  clear h1 K1
  go_wp2_with fail
  refine bodyPost_ret (v := .tuple #[.slice A n c, f]) (by simp [results, Tryd.results4, go_sem]) rfl ?_
  exact HF.out

end Go.Proofs.YtkgkmlikpljbiaaDoor
