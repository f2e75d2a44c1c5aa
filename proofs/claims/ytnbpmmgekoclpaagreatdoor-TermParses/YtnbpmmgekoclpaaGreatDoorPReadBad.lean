/- The contract of notation.Read at a text that is no term. -/
import Derived.Test.YtnbpmmgekoclpaaGreatDoorPRead
namespace Go.Proofs.YtnbpmmgekoclpaaGreatDoor
open Go.RowKit

theorem Tryz.isFault (v : Value) (w : World) : (Instr.typeAssert (.iface 52 v) 20 52 true).run Tryz.prog w = .ok (.tuple #[v, .bool true]) w := by kernel_rfl

set_option maxRecDepth 100000 in
set_option maxHeartbeats 4000000 in
/-- The deferred closure, entered as a deferred call of a frame that panics with a fault: it is recovered, and told as the error. -/
theorem catch_throw (b c fb : Nat) (x0 x1 x2 x3 x4 y : Value) (w : World) (hb : w.heap[b]? = some (.cells #[x0, x1, x2, x3, x4] 30 (0, 0))) (hc : w.heap[c]? = some (.cells #[y] 32 (0, 0))) (hne : b ≠ c) :
    CallsD Tryz.prog 15 #[.pointer (some ⟨b, 0, none⟩), .pointer (some ⟨c, 0, none⟩)] (.panicking [{ v := .iface 52 (.pointer (some ⟨fb, 0, none⟩)), recovered := false }]) w fun e u' w' =>
      e = .returned (.tuple #[]) ∧ u' = .panicking [{ v := .iface 52 (.pointer (some ⟨fb, 0, none⟩)), recovered := true }] ∧
      w' = ((((((w.setCell ⟨b, 0, none⟩ (.int .i64 0)).setCell ⟨b, 1, none⟩ (.int .i64 0)).setCell ⟨b, 2, none⟩ (.string ⟨#[]⟩)).setCell ⟨b, 3, none⟩ (.slice none 0 0)).setCell ⟨b, 4, none⟩ (.slice none 0 0)).setCell ⟨c, 0, none⟩ (.iface 52 (.pointer (some ⟨fb, 0, none⟩)))).alloc ztm := by
  have hbl : b < w.heap.size := (Array.getElem?_eq_some_iff.1 hb).1
  have hcl : c < w.heap.size := (Array.getElem?_eq_some_iff.1 hc).1
  have b0 : w.cell? ⟨b, 0, none⟩ = some x0 := by simp [World.cell?, hb]
  have b1 : w.cell? ⟨b, 1, none⟩ = some x1 := by simp [World.cell?, hb]
  have b2 : w.cell? ⟨b, 2, none⟩ = some x2 := by simp [World.cell?, hb]
  have b3 : w.cell? ⟨b, 3, none⟩ = some x3 := by simp [World.cell?, hb]
  have b4 : w.cell? ⟨b, 4, none⟩ = some x4 := by simp [World.cell?, hb]
  have bf : ∀ i, w.frozen? ⟨b, i, none⟩ = false := fun i => by simp [World.frozen?, hb]
  have c0 : w.cell? ⟨c, 0, none⟩ = some y := by simp [World.cell?, hc]
  have cf : ∀ i, w.frozen? ⟨c, i, none⟩ = false := fun i => by simp [World.frozen?, hc]
  have hne' : ¬ b = c := hne
  have hne2 : ¬ c = b := fun e => hne e.symm
  have hn1 : ¬ b = w.heap.size := by omega
  have hn2 : ¬ c = w.heap.size := by omega
  have hta := Tryz.isFault
  clear hb hc hne
  refine callsD_of_wpS Tryz.func15 rfl fun c₀ cs hu => ?_
  apply wpS_seq
  apply wpS_region
  simp [wpOpsS, go_sem, recoverD, hu, Tryz.ntmps15, Exit.thenS]
  apply wpS_seq
  apply wpS_seq
  apply wpS_region
  simp [wpOpsS, go_sem, Exit.thenS]
  refine wpS_cond (t := false) (by simp [Act.eval, Array.replicate]) ?_
  simp only [Bool.false_eq_true, if_false]
  refine wpS_of_wp (wp_skip ?_)
  simp only [Exit.thenS]
  refine wpS_of_wp ?_
  change Code.wp _ _ _ { tmps := #[.pointer (some ⟨b, 0, none⟩), .pointer (some ⟨c, 0, none⟩), .iface 52 (.pointer (some ⟨fb, 0, none⟩)), undef, undef, undef, .iface 52 (.pointer (some ⟨fb, 0, none⟩)), .iface 52 (.pointer (some ⟨fb, 0, none⟩)), .bool false, undef, undef, undef, undef, undef, undef, undef, undef, undef, undef, undef], defers := [] } w
  go_wp2_with fail
  simp [bodyPostS, results, Tryz.results15, go_sem]

/-- A fault is answered, and the zero term. -/
def Faulted (w : World) (code a : Nat) (e : Ending) (w' : World) : Prop :=
  ∃ N : Nat, e = .returned (.tuple #[.agg #[.int .i64 0, .int .i64 0, .string ⟨#[]⟩, .slice none 0 0, .slice none 0 0], .iface 52 (.pointer (some ⟨N, 0, none⟩))]) ∧ w'.heap[N]? = some (.cells #[.int .i64 (code : Nat), .int .i64 (a : Nat)] 36 (0, 0)) ∧ Below w.heap.size w w'

/-- The world behind the closure: the results' blocks, the fault's, what was there. -/
theorem caught {w w1 : World} {fb code a : Nat} {y : Value} (hfb : w.heap.size + 3 ≤ fb) (hF : w1.heap[fb]? = some (.cells #[.int .i64 (code : Nat), .int .i64 (a : Nat)] 36 (0, 0))) {x0 x1 x2 x3 x4 : Value} (hb : w1.heap[w.heap.size]? = some (.cells #[x0, x1, x2, x3, x4] 30 (0, 0))) (hc : w1.heap[w.heap.size + 1]? = some (.cells #[y] 32 (0, 0))) (hB : Below w.heap.size w w1) {W : World}
    (hW : W = ((((((w1.setCell ⟨w.heap.size, 0, none⟩ (.int .i64 0)).setCell ⟨w.heap.size, 1, none⟩ (.int .i64 0)).setCell ⟨w.heap.size, 2, none⟩ (.string ⟨#[]⟩)).setCell ⟨w.heap.size, 3, none⟩ (.slice none 0 0)).setCell ⟨w.heap.size, 4, none⟩ (.slice none 0 0)).setCell ⟨w.heap.size + 1, 0, none⟩ (.iface 52 (.pointer (some ⟨fb, 0, none⟩)))).alloc ztm) :
    W.cell? ⟨w.heap.size, 0, none⟩ = some (.int .i64 0) ∧ W.cell? ⟨w.heap.size, 1, none⟩ = some (.int .i64 0) ∧ W.cell? ⟨w.heap.size, 2, none⟩ = some (.string ⟨#[]⟩) ∧ W.cell? ⟨w.heap.size, 3, none⟩ = some (.slice none 0 0) ∧ W.cell? ⟨w.heap.size, 4, none⟩ = some (.slice none 0 0) ∧ W.cell? ⟨w.heap.size + 1, 0, none⟩ = some (.iface 52 (.pointer (some ⟨fb, 0, none⟩))) ∧
    W.heap[fb]? = some (.cells #[.int .i64 (code : Nat), .int .i64 (a : Nat)] 36 (0, 0)) ∧ Below w.heap.size w W := by
  have hl : w.heap.size < w1.heap.size := (Array.getElem?_eq_some_iff.1 hb).1
  have hl1 : w.heap.size + 1 < w1.heap.size := (Array.getElem?_eq_some_iff.1 hc).1
  have hlf : fb < w1.heap.size := (Array.getElem?_eq_some_iff.1 hF).1
  have hB0 : W.heap[w.heap.size]? = some (.cells #[.int .i64 0, .int .i64 0, .string ⟨#[]⟩, .slice none 0 0, .slice none 0 0] 30 (0, 0)) := by
    rw [hW, Below.heap_alloc _ _ _ (by simp [World.setCell]; omega), Below.heap_setCell _ _ _ _ (by show w.heap.size ≠ w.heap.size + 1; omega)]
    simp [World.setCell, Array.getElem?_modify, hb]
  have hB1 : W.heap[w.heap.size + 1]? = some (.cells #[.iface 52 (.pointer (some ⟨fb, 0, none⟩))] 32 (0, 0)) := by
    rw [hW, Below.heap_alloc _ _ _ (by simp [World.setCell]; omega)]
    simp [World.setCell, Array.getElem?_modify, hc]
  refine ⟨by simp [World.cell?, hB0], by simp [World.cell?, hB0], by simp [World.cell?, hB0], by simp [World.cell?, hB0], by simp [World.cell?, hB0], by simp [World.cell?, hB1], ?_, ?_⟩
  · rw [hW, Below.heap_alloc _ _ _ (by simp [World.setCell]; omega), Below.heap_setCell _ _ _ _ (by show fb ≠ w.heap.size + 1; omega), Below.heap_setCell _ _ _ _ (by show fb ≠ w.heap.size; omega), Below.heap_setCell _ _ _ _ (by show fb ≠ w.heap.size; omega), Below.heap_setCell _ _ _ _ (by show fb ≠ w.heap.size; omega), Below.heap_setCell _ _ _ _ (by show fb ≠ w.heap.size; omega), Below.heap_setCell _ _ _ _ (by show fb ≠ w.heap.size; omega)]
    exact hF
  · rw [hW]
    exact ((((((hB.setCell (p := ⟨w.heap.size, 0, none⟩) (Nat.le_refl _) _).setCell (p := ⟨w.heap.size, 1, none⟩) (Nat.le_refl _) _).setCell (p := ⟨w.heap.size, 2, none⟩) (Nat.le_refl _) _).setCell (p := ⟨w.heap.size, 3, none⟩) (Nat.le_refl _) _).setCell (p := ⟨w.heap.size, 4, none⟩) (Nat.le_refl _) _).setCell (p := ⟨w.heap.size + 1, 0, none⟩) (Nat.le_succ _) _).alloc (by simp [World.setCell]; omega) _

set_option maxRecDepth 100000 in
set_option maxHeartbeats 4000000 in
theorem read_fails (s : ByteArray) (dd a : Nat) (w : World) (hs : s.size ≤ 20000) (hr : FT s dd 0 a) (ht : Tabs2 w) :
    Calls Tryz.prog 9 #[.string s, .int .i64 20000, .func (.func 10) #[] #[]] w fun e w' => Faulted w 1 a e w' := by
  have hlt := ht.lt
  have hold : Below w.heap.size w (((w.alloc ztm).alloc (.cells #[.nilIface] 32)).alloc (.cells #[.string s, .int .i64 0] 55)) := (((Below.refl _ _).alloc (Nat.le_refl _) _).alloc (by simp) _).alloc (by simp; omega) _
  have hS0 : ScAt (((w.alloc ztm).alloc (.cells #[.nilIface] 32)).alloc (.cells #[.string s, .int .i64 0] 55)) (w.heap.size + 2) s 0 := by
    have := heap_alloc_new ((w.alloc ztm).alloc (.cells #[.nilIface] 32)) (.cells #[.string s, .int .i64 0] 55)
    simpa [ScAt] using this
  have K1 := hide ((sterm_both s hs (w.heap.size + 2) (by omega) dd).2 0 a _ hr (Nat.zero_le _) hS0 (ht.below hold hlt))
  have HO := hide hold
  have hmf : ∀ (fn : Fn) (first cap : Array Value) (w : World), (Instr.makeFunc fn first cap).run Tryz.prog w = .ok (.func fn first cap) w := fun _ _ _ _ => rfl
  clear ht hold hS0 hr
  go_enter_defers Tryz.func9, Tryz.ntmps9
  go_wp2_with (go_at_call 10; refine K1.out.mono ?_)
  intro e w1 h1
  obtain ⟨fb, rfl, hfb, hF, hT1⟩ := h1
  simp at hfb
  have hb0 : w1.heap[w.heap.size]? = some (.cells #[.int .i64 0, .int .i64 0, .string ⟨#[]⟩, .slice none 0 0, .slice none 0 0] 30 (0, 0)) := by
    rw [hT1.block w.heap.size (by simp; omega) (by simp), Below.heap_alloc _ _ _ (by simp; omega), Below.heap_alloc _ _ _ (by simp)]
    exact heap_alloc_new w ztm
  have hb1 : w1.heap[w.heap.size + 1]? = some (.cells #[.nilIface] 32 (0, 0)) := by
    rw [hT1.block (w.heap.size + 1) (by simp) (by simp), Below.heap_alloc _ _ _ (by simp)]
    have := heap_alloc_new (w.alloc ztm) (.cells #[.nilIface] 32)
    simpa using this
  have hB : Below w.heap.size w w1 := ((Touched.of_below HO.out).trans hT1).below (B := w.heap.size) (Nat.le_refl _) (by omega)
  have HC := hide (fun W hW => caught (W := W) (by omega) hF hb0 hb1 hB hW)
  have KC := hide (catch_throw w.heap.size (w.heap.size + 1) fb _ _ _ _ _ _ w1 hb0 hb1 (by omega))
  clear hF hb0 hb1 hB hT1 hfb
  go_wp2_with fail
  refine leaves_cons (f := 15) (args := #[.pointer (some ⟨w.heap.size, 0, none⟩), .pointer (some ⟨w.heap.size + 1, 0, none⟩)]) (by simp) (by simp [go_sem]) ?_
  refine KC.out.mono ?_
  intro e u' W hW
  obtain ⟨rfl, rfl, hW⟩ := hW
  obtain ⟨g0, g1, g2, gx3, gx4, g3, g4, g5⟩ := HC.out W hW
  clear hW HC KC
  simp [Leaves, settle, results, Tryz.results9, go_sem, g0, g1, g2, gx3, gx4, g3]
  exact ⟨fb, rfl, g4, g5⟩

set_option maxRecDepth 100000 in
set_option maxHeartbeats 4000000 in
theorem read_more (s : ByteArray) (dd : Nat) (t : Tm) (p' : Nat) (w : World) (hs : s.size ≤ 20000) (hr : RT s dd t 0 p') (he : runTo blankB s p' ≠ s.size) (ht : Tabs2 w) :
    Calls Tryz.prog 9 #[.string s, .int .i64 20000, .func (.func 10) #[] #[]] w fun e w' => Faulted w 1 (runTo blankB s p') e w' := by
  have hlt := ht.lt
  have hold : Below w.heap.size w (((w.alloc ztm).alloc (.cells #[.nilIface] 32)).alloc (.cells #[.string s, .int .i64 0] 55)) := (((Below.refl _ _).alloc (Nat.le_refl _) _).alloc (by simp) _).alloc (by simp; omega) _
  have hS0 : ScAt (((w.alloc ztm).alloc (.cells #[.nilIface] 32)).alloc (.cells #[.string s, .int .i64 0] 55)) (w.heap.size + 2) s 0 := by
    have := heap_alloc_new ((w.alloc ztm).alloc (.cells #[.nilIface] 32)) (.cells #[.string s, .int .i64 0] 55)
    simpa [ScAt] using this
  have K1 := hide ((sterm_both s hs (w.heap.size + 2) (by omega) dd).1 t 0 p' _ hr (Nat.zero_le _) hS0 (ht.below hold hlt))
  have HTb := hide ht
  have HO := hide hold
  have HLe := hide hr.le
  have HE := hide he
  have hmf : ∀ (fn : Fn) (first cap : Array Value) (w : World), (Instr.makeFunc fn first cap).run Tryz.prog w = .ok (.func fn first cap) w := fun _ _ _ _ => rfl
  clear ht hold hS0 hr he
  go_enter_defers Tryz.func9, Tryz.ntmps9
  go_wp2_with (go_at_call 10; refine K1.out.mono ?_)
  rintro e w1 ⟨k, n, nm, A, la, lc, A', ta, tc, rfl, hp, hS1, hT1⟩
  have hz1 := hT1.size
  simp at hz1
  have hb0 : w1.heap[w.heap.size]? = some (.cells #[.int .i64 0, .int .i64 0, .string ⟨#[]⟩, .slice none 0 0, .slice none 0 0] 30 (0, 0)) := by
    rw [hT1.block w.heap.size (by simp; omega) (by simp), Below.heap_alloc _ _ _ (by simp; omega), Below.heap_alloc _ _ _ (by simp)]
    exact heap_alloc_new w ztm
  have hb1 : w1.heap[w.heap.size + 1]? = some (.cells #[.nilIface] 32 (0, 0)) := by
    rw [hT1.block (w.heap.size + 1) (by simp) (by simp), Below.heap_alloc _ _ _ (by simp)]
    have := heap_alloc_new (w.alloc ztm) (.cells #[.nilIface] 32)
    simpa using this
  have d0 : w1.cell? ⟨w.heap.size, 0, none⟩ = some (.int .i64 0) := by simp [World.cell?, hb0]
  have d1 : w1.cell? ⟨w.heap.size, 1, none⟩ = some (.int .i64 0) := by simp [World.cell?, hb0]
  have d2 : w1.cell? ⟨w.heap.size, 2, none⟩ = some (.string ⟨#[]⟩) := by simp [World.cell?, hb0]
  have dx3 : w1.cell? ⟨w.heap.size, 3, none⟩ = some (.slice none 0 0) := by simp [World.cell?, hb0]
  have dx4 : w1.cell? ⟨w.heap.size, 4, none⟩ = some (.slice none 0 0) := by simp [World.cell?, hb0]
  have d3 : ∀ i, w1.frozen? ⟨w.heap.size, i, none⟩ = false := fun i => by simp [World.frozen?, hb0]
  have d4 : w.heap.size < w1.heap.size := by omega
  have hTw : Touched w (w.heap.size + 2) w1 := (Touched.of_below HO.out).trans hT1
  have hf := sfilled5' hS1 hTw (.int .i64 k) (.int .i64 n) (.string nm) (.slice A la lc) (.slice A' ta tc)
  have hB0 : (((((w1.setCell ⟨w.heap.size, 0, none⟩ (.int .i64 k)).setCell ⟨w.heap.size, 1, none⟩ (.int .i64 n)).setCell ⟨w.heap.size, 2, none⟩ (.string nm)).setCell ⟨w.heap.size, 3, none⟩ (.slice A la lc)).setCell ⟨w.heap.size, 4, none⟩ (.slice A' ta tc)).heap[w.heap.size]? = some (.cells #[.int .i64 k, .int .i64 n, .string nm, .slice A la lc, .slice A' ta tc] 30 (0, 0)) := by
    simp [World.setCell, Array.getElem?_modify, hb0]
  have hB1 : (((((w1.setCell ⟨w.heap.size, 0, none⟩ (.int .i64 k)).setCell ⟨w.heap.size, 1, none⟩ (.int .i64 n)).setCell ⟨w.heap.size, 2, none⟩ (.string nm)).setCell ⟨w.heap.size, 3, none⟩ (.slice A la lc)).setCell ⟨w.heap.size, 4, none⟩ (.slice A' ta tc)).heap[w.heap.size + 1]? = some (.cells #[.nilIface] 32 (0, 0)) := by
    rw [Below.heap_setCell _ _ _ _ (by show w.heap.size + 1 ≠ w.heap.size; omega), Below.heap_setCell _ _ _ _ (by show w.heap.size + 1 ≠ w.heap.size; omega), Below.heap_setCell _ _ _ _ (by show w.heap.size + 1 ≠ w.heap.size; omega), Below.heap_setCell _ _ _ _ (by show w.heap.size + 1 ≠ w.heap.size; omega), Below.heap_setCell _ _ _ _ (by show w.heap.size + 1 ≠ w.heap.size; omega)]
    exact hb1
  have hsz : (((((w1.setCell ⟨w.heap.size, 0, none⟩ (.int .i64 k)).setCell ⟨w.heap.size, 1, none⟩ (.int .i64 n)).setCell ⟨w.heap.size, 2, none⟩ (.string nm)).setCell ⟨w.heap.size, 3, none⟩ (.slice A la lc)).setCell ⟨w.heap.size, 4, none⟩ (.slice A' ta tc)).heap.size = w1.heap.size := by simp [World.setCell]
  have hkd : (ntok s p').1 ≠ 0 := by
    rw [ntok_in HE.out]
    have := runTo_le blankB s HLe.out
    have h1 := (scanAt_end (good := good) (s := s) (k := runTo blankB s p') (by have := HE.out; omega)).2.2.2
    show (scanAt good s (runTo blankB s p')).1 ≠ 0
    omega
  have K2 := hide (expect_bad (w.heap.size + 2) s p' _ _ _ _ [0] (.slice (some ⟨w1.heap.size, 0, none⟩) 1 1) _ (next_all hs HLe.out) (hf.1.alloc (.cells #[.int .i64 0] 56)) ((HTb.out.touched hf.2 (by omega)).a.below ((Below.refl _ _).alloc (Nat.le_refl _) _) (by rw [hsz]; omega)) (by omega) ⟨by simp, w1.heap.size, 1, rfl, fun i hi => by match i, hi with | 0, _ => simp [World.cell?_alloc_at, hsz]⟩ (fun b n cap e => by injection e with e; injection e with e; injection e with e; omega) (by simp) (by simpa using hkd))
  have HTf := hide hf.2
  have HB0 := hide hB0
  have HB1 := hide hB1
  have HSz := hide hsz
  clear hf hb0 hb1 hB0 hB1 hp hS1 hT1 hTw hsz hkd
  go_wp2_with (go_at_call 16; refine K2.out.mono ?_)
  intro e w2 h2
  obtain ⟨fb, rfl, hfb, hF, hT2⟩ := h2
  simp [HSz.out] at hfb
  have hc0 : w2.heap[w.heap.size]? = some (.cells #[.int .i64 k, .int .i64 n, .string nm, .slice A la lc, .slice A' ta tc] 30 (0, 0)) := by
    rw [hT2.block w.heap.size (by simp; omega) (by simp), Below.heap_alloc _ _ _ (by rw [HSz.out]; omega)]
    exact HB0.out
  have hc1 : w2.heap[w.heap.size + 1]? = some (.cells #[.nilIface] 32 (0, 0)) := by
    rw [hT2.block (w.heap.size + 1) (by simp; omega) (by simp), Below.heap_alloc _ _ _ (by rw [HSz.out]; omega)]
    exact HB1.out
  have hB : Below w.heap.size w w2 := ((HTf.out.trans (Touched.alloc _ _ _)).trans hT2).below (B := w.heap.size) (Nat.le_refl _) (by omega)
  have HC := hide (fun W hW => caught (W := W) (by omega) hF hc0 hc1 hB hW)
  have KC := hide (catch_throw w.heap.size (w.heap.size + 1) fb _ _ _ _ _ _ w2 hc0 hc1 (by omega))
  clear hF hc0 hc1 hB hT2 hfb d0 d1 d2 dx3 dx4 d3 d4
  go_wp2_with fail
  refine leaves_cons (f := 15) (args := #[.pointer (some ⟨w.heap.size, 0, none⟩), .pointer (some ⟨w.heap.size + 1, 0, none⟩)]) (by simp) (by simp [go_sem]) ?_
  refine KC.out.mono ?_
  intro e u' W hW
  obtain ⟨rfl, rfl, hW⟩ := hW
  obtain ⟨g0, g1, g2, gx3, gx4, g3, g4, g5⟩ := HC.out W hW
  clear hW HC KC
  simp [Leaves, settle, results, Tryz.results9, go_sem, g0, g1, g2, gx3, gx4, g3]
  exact ⟨fb, rfl, g4, g5⟩

end Go.Proofs.YtnbpmmgekoclpaaGreatDoor
