/- The contracts of fault.Caught, of notation.Read with its closure, at a text that is a level, and at one that is too long. -/
import Derived.Test.YtmpepnckfghepaaDoorBrackBad
import Derived.Defers
import Derived.Recover
import Derived.Test.YtmpepnckfghepaaDoorBrack
import Derived.Below
import Derived.WalkSpells
namespace Go.Proofs.YtmpepnckfghepaaDoor
open Go.RowKit

/-- What the work makes: a level in new blocks. -/
def Made1 (w : World) (l : LvB) (e : Ending) (w' : World) : Prop :=
  ∃ (k : Int) (nm : ByteArray) (A : Option Addr) (la lc : Nat), e = .returned (.agg #[.int .i64 k, .string nm, .slice A la lc]) ∧ InP w' (fun b => w.heap.size ≤ b) l (.agg #[.int .i64 k, .string nm, .slice A la lc]) ∧ Below w.heap.size w w'
/-- What is answered: the term, and no fault. -/
def Made2 (w : World) (l : LvB) (e : Ending) (w' : World) : Prop :=
  ∃ (k : Int) (nm : ByteArray) (A : Option Addr) (la lc : Nat), e = .returned (.tuple #[.agg #[.int .i64 k, .string nm, .slice A la lc], .nilIface]) ∧ InP w' (fun b => w.heap.size ≤ b) l (.agg #[.int .i64 k, .string nm, .slice A la lc]) ∧ Below w.heap.size w w'

theorem three_set {W : World} {c b : Nat} (h : b ≠ c) (u0 u1 u2 : Value) : (((W.setCell ⟨c, 0, none⟩ u0).setCell ⟨c, 1, none⟩ u1).setCell ⟨c, 2, none⟩ u2).heap[b]? = W.heap[b]? := by
  rw [Below.heap_setCell _ _ _ _ (by show b ≠ c; exact h), Below.heap_setCell _ _ _ _ (by show b ≠ c; exact h), Below.heap_setCell _ _ _ _ (by show b ≠ c; exact h)]
theorem three_below {B : Nat} {w W : World} {c : Nat} (h : Below B w W) (hc : B ≤ c) (u0 u1 u2 : Value) : Below B w (((W.setCell ⟨c, 0, none⟩ u0).setCell ⟨c, 1, none⟩ u1).setCell ⟨c, 2, none⟩ u2) :=
  ((h.setCell (p := ⟨c, 0, none⟩) hc _).setCell (p := ⟨c, 1, none⟩) hc _).setCell (p := ⟨c, 2, none⟩) hc _

set_option maxRecDepth 100000 in
set_option maxHeartbeats 4000000 in
theorem read1_calls (s : ByteArray) (l : LvB) (p' b3 b4 b5 : Nat) (w : World) (hs : s.size ≤ 20000) (hr : Reads s l 0 p') (he : runTo blankB s p' = s.size) (ht : Tabs w)
    (c3 : w.cell? ⟨b3, 0, none⟩ = some (.string s)) (c4 : w.cell? ⟨b4, 0, none⟩ = some (.int .i64 20000)) (c5 : w.cell? ⟨b5, 0, none⟩ = some (.func (.func 10) #[] #[])) :
    Calls Tryd.prog 15 #[.pointer (some ⟨b3, 0, none⟩), .pointer (some ⟨b4, 0, none⟩), .pointer (some ⟨b5, 0, none⟩)] w fun e w' => Made1 w l e w' := by
  have hlt := ht.lt
  have h0 : Below w.heap.size w (w.alloc zlev) := (Below.refl _ _).alloc (Nat.le_refl _) _
  have hold : Below w.heap.size w ((w.alloc zlev).alloc (.cells #[.string s, .int .i64 0] 53)) := h0.alloc (by simp) _
  have hS0 : ScAt ((w.alloc zlev).alloc (.cells #[.string s, .int .i64 0] 53)) (w.heap.size + 1) s 0 := by
    have := heap_alloc_new (w.alloc zlev) (.cells #[.string s, .int .i64 0] 53)
    simpa [ScAt] using this
  have K1 := hide (slevel_calls s hs (w.heap.size + 1) (by omega) l.nodes l 0 p' _ (Nat.le_refl _) hr (Nat.zero_le _) hS0 (ht.below hold hlt))
  have d3 := cell_later h0 c3
  have d4 := cell_later h0 c4
  have d5 := cell_later hold c5
  have HTb := hide ht
  have HO := hide hold
  have HLe := hide hr.le
  have HE := hide he
  clear ht hold hS0 hr he h0 c3 c4 c5
  go_enter Tryd.func15, Tryd.ntmps15
  go_wp2_with (go_at_call 10; refine K1.out.mono ?_)
  rintro e w1 ⟨k, nm, A, la, lc, rfl, hp, hS1, hT1⟩
  have hz1 := hT1.size
  simp at hz1
  have hb0 : w1.heap[w.heap.size]? = some (.cells #[.int .i64 0, .string ⟨#[]⟩, .slice none 0 0] 29 (0, 0)) := by
    rw [hT1.block w.heap.size (by simp; omega) (by simp), Below.heap_alloc _ _ _ (by simp)]
    exact heap_alloc_new w zlev
  have hTw : Touched w (w.heap.size + 1) w1 := (Touched.of_below HO.out).trans hT1
  have hT2 : Touched w (w.heap.size + 1) ((w1.alloc (.cells #[.int .i64 k, .string nm, .slice A la lc] 29)).alloc (.cells #[.int .i64 0] 54)) := (hTw.trans (Touched.alloc _ _ _)).trans (Touched.alloc _ _ _)
  have HP : Hid (InP w1 (fun b => w.heap.size + 2 ≤ b) l (.agg #[.int .i64 k, .string nm, .slice A la lc])) := hp.keep fun b _ hb => ⟨by simpa using hb, rfl⟩
  have K2 := hide (expect_calls (w.heap.size + 1) s p' 0 _ _ _ [0] (.slice (some ⟨w1.heap.size + 1, 0, none⟩) 1 1) _ (end_nexts hs HLe.out HE.out) ((hS1.alloc (.cells #[.int .i64 k, .string nm, .slice A la lc] 29)).alloc (.cells #[.int .i64 0] 54)) (HTb.out.touched hT2 (by omega)) (by omega) ⟨by simp, w1.heap.size + 1, 1, rfl, fun i hi => by match i, hi with | 0, _ => simp [World.cell?_alloc_at]⟩ (fun b n cap e => by injection e with e; injection e with e; injection e with e; omega) (by simp))
  have HTw := hide hTw
  have HB0 := hide hb0
  clear hb0 hp hS1 hT1 hTw hT2
  go_wp2_with (go_at_call 17; refine K2.out.mono ?_)
  rintro e w2 ⟨rfl, hS2, hT2⟩
  have hz2 := hT2.size
  simp at hz2
  have hc0 : w2.heap[w.heap.size]? = some (.cells #[.int .i64 0, .string ⟨#[]⟩, .slice none 0 0] 29 (0, 0)) := by
    rw [hT2.block w.heap.size (by simp; omega) (by simp), Below.heap_alloc _ _ _ (by simp; omega), Below.heap_alloc _ _ _ (by omega)]
    exact HB0.out
  have hc1 : w2.heap[w1.heap.size]? = some (.cells #[.int .i64 k, .string nm, .slice A la lc] 29 (0, 0)) := by
    rw [hT2.block w1.heap.size (by simp; omega) (by simp; omega), Below.heap_alloc _ _ _ (by simp)]
    exact heap_alloc_new _ _
  have e0 : w2.cell? ⟨w.heap.size, 0, none⟩ = some (.int .i64 0) := by simp [World.cell?, hc0]
  have e1 : w2.cell? ⟨w.heap.size, 1, none⟩ = some (.string ⟨#[]⟩) := by simp [World.cell?, hc0]
  have e2 : w2.cell? ⟨w.heap.size, 2, none⟩ = some (.slice none 0 0) := by simp [World.cell?, hc0]
  have ef : ∀ i, w2.frozen? ⟨w.heap.size, i, none⟩ = false := fun i => by simp [World.frozen?, hc0]
  have f0 : w2.cell? ⟨w1.heap.size, 0, none⟩ = some (.int .i64 k) := by simp [World.cell?, hc1]
  have f1 : w2.cell? ⟨w1.heap.size, 1, none⟩ = some (.string nm) := by simp [World.cell?, hc1]
  have f2 : w2.cell? ⟨w1.heap.size, 2, none⟩ = some (.slice A la lc) := by simp [World.cell?, hc1]
  have e6 : w.heap.size < w2.heap.size := by omega
  have hIn : ∀ b, w.heap.size + 2 ≤ b → b < w1.heap.size → w2.heap[b]? = w1.heap[b]? := fun b hb hb1 => by
    rw [hT2.block b (by simp; omega) (by simp; omega), Below.heap_alloc _ _ _ (by simp; omega), Below.heap_alloc _ _ _ hb1]
  have hBl : Below w.heap.size w w2 := (((HTw.out.trans (Touched.alloc _ _ _)).trans (Touched.alloc _ _ _)).trans hT2).below (B := w.heap.size) (Nat.le_refl _) (by omega)
  have HIn := hide hIn
  have HBl := hide hBl
  clear hS2 hT2 hc0 hc1 hIn hBl
  go_wp2_with fail
  refine bodyPost_ret (v := .agg #[.int .i64 k, .string nm, .slice A la lc]) (by simp [results, Tryd.results15, go_sem, e0, e1, e2]) rfl ?_
  refine ⟨k, nm, A, la, lc, rfl, ?_, three_below HBl.out (Nat.le_refl _) _ _ _⟩
  exact HP.out.keep fun b hb hS => ⟨by omega, by rw [three_set (by omega)]; exact HIn.out b hS hb⟩

set_option maxRecDepth 100000 in
set_option maxHeartbeats 4000000 in
theorem read1_long (s : ByteArray) (b3 b4 b5 : Nat) (w : World) (hs : 20000 < s.size) (hm : s.size ≤ maxLen)
    (c3 : w.cell? ⟨b3, 0, none⟩ = some (.string s)) (c4 : w.cell? ⟨b4, 0, none⟩ = some (.int .i64 20000)) :
    Calls Tryd.prog 15 #[.pointer (some ⟨b3, 0, none⟩), .pointer (some ⟨b4, 0, none⟩), .pointer (some ⟨b5, 0, none⟩)] w fun e w' => Threw w w.heap.size 2 0 e w' := by
  unfold maxLen at hm
  have h0 : Below w.heap.size w (w.alloc zlev) := (Below.refl _ _).alloc (Nat.le_refl _) _
  have d3 := cell_later h0 c3
  have d4 := cell_later h0 c4
  have K := hide (throw_calls 2 w.heap.size (w.alloc zlev))
  clear c3 c4 h0
  go_enter Tryd.func15, Tryd.ntmps15
  go_wp2_with (go_at_call 16; refine K.out.mono ?_)
  intro e w1 h1
  have h2 := h1.from (Touched.alloc w w.heap.size zlev)
  obtain ⟨fb, rfl, h3⟩ := h2
  have H2 := hide h3
  clear h1 h3
  go_wp2_with fail
  exact ⟨rfl, fb, rfl, H2.out⟩

/-- What is thrown, whatever new block was written on the way. -/
theorem Threw.new {w w' : World} {sc code a : Nat} {e : Ending} (h : Threw w sc code a e w') (hsc : w.heap.size ≤ sc) : Threw w w.heap.size code a e w' := by
  obtain ⟨fb, he, h1, h2, h3⟩ := h
  exact ⟨fb, he, h1, h2, Touched.of_below (h3.below (B := w.heap.size) (Nat.le_refl _) hsc)⟩

set_option maxRecDepth 100000 in
set_option maxHeartbeats 4000000 in
theorem read1_fails (s : ByteArray) (a b3 b4 b5 : Nat) (w : World) (hs : s.size ≤ 20000) (hr : Fails s 0 a) (ht : Tabs w)
    (c3 : w.cell? ⟨b3, 0, none⟩ = some (.string s)) (c4 : w.cell? ⟨b4, 0, none⟩ = some (.int .i64 20000)) (c5 : w.cell? ⟨b5, 0, none⟩ = some (.func (.func 10) #[] #[])) :
    Calls Tryd.prog 15 #[.pointer (some ⟨b3, 0, none⟩), .pointer (some ⟨b4, 0, none⟩), .pointer (some ⟨b5, 0, none⟩)] w fun e w' => Threw w w.heap.size 1 a e w' := by
  have hlt := ht.lt
  have h0 : Below w.heap.size w (w.alloc zlev) := (Below.refl _ _).alloc (Nat.le_refl _) _
  have hold : Below w.heap.size w ((w.alloc zlev).alloc (.cells #[.string s, .int .i64 0] 53)) := h0.alloc (by simp) _
  have hS0 : ScAt ((w.alloc zlev).alloc (.cells #[.string s, .int .i64 0] 53)) (w.heap.size + 1) s 0 := by
    have := heap_alloc_new (w.alloc zlev) (.cells #[.string s, .int .i64 0] 53)
    simpa [ScAt] using this
  have K1 := hide (slevel_fails s hs (w.heap.size + 1) (by omega) hr _ (Nat.zero_le _) hS0 (ht.below hold hlt))
  have d3 := cell_later h0 c3
  have d4 := cell_later h0 c4
  have d5 := cell_later hold c5
  have HO := hide hold
  clear ht hold hS0 hr h0 c3 c4 c5
  go_enter Tryd.func15, Tryd.ntmps15
  go_wp2_with (go_at_call 10; refine K1.out.mono ?_)
  intro e w1 h1
  have h2 := (h1.from (Touched.of_below HO.out)).new (by omega)
  obtain ⟨fb, rfl, h3⟩ := h2
  have H2 := hide h3
  clear h1 h3
  go_wp2_with fail
  exact ⟨rfl, fb, rfl, H2.out⟩

set_option maxRecDepth 100000 in
set_option maxHeartbeats 4000000 in
theorem read1_more (s : ByteArray) (l : LvB) (p' b3 b4 b5 : Nat) (w : World) (hs : s.size ≤ 20000) (hr : Reads s l 0 p') (he : runTo blankB s p' ≠ s.size) (ht : Tabs w)
    (c3 : w.cell? ⟨b3, 0, none⟩ = some (.string s)) (c4 : w.cell? ⟨b4, 0, none⟩ = some (.int .i64 20000)) (c5 : w.cell? ⟨b5, 0, none⟩ = some (.func (.func 10) #[] #[])) :
    Calls Tryd.prog 15 #[.pointer (some ⟨b3, 0, none⟩), .pointer (some ⟨b4, 0, none⟩), .pointer (some ⟨b5, 0, none⟩)] w fun e w' => Threw w w.heap.size 1 (runTo blankB s p') e w' := by
  have hlt := ht.lt
  have h0 : Below w.heap.size w (w.alloc zlev) := (Below.refl _ _).alloc (Nat.le_refl _) _
  have hold : Below w.heap.size w ((w.alloc zlev).alloc (.cells #[.string s, .int .i64 0] 53)) := h0.alloc (by simp) _
  have hS0 : ScAt ((w.alloc zlev).alloc (.cells #[.string s, .int .i64 0] 53)) (w.heap.size + 1) s 0 := by
    have := heap_alloc_new (w.alloc zlev) (.cells #[.string s, .int .i64 0] 53)
    simpa [ScAt] using this
  have K1 := hide (slevel_calls s hs (w.heap.size + 1) (by omega) l.nodes l 0 p' _ (Nat.le_refl _) hr (Nat.zero_le _) hS0 (ht.below hold hlt))
  have d3 := cell_later h0 c3
  have d4 := cell_later h0 c4
  have d5 := cell_later hold c5
  have HTb := hide ht
  have HO := hide hold
  have HLe := hide hr.le
  have HE := hide he
  clear ht hold hS0 hr he h0 c3 c4 c5
  go_enter Tryd.func15, Tryd.ntmps15
  go_wp2_with (go_at_call 10; refine K1.out.mono ?_)
  rintro e w1 ⟨k, nm, A, la, lc, rfl, hp, hS1, hT1⟩
  have hz1 := hT1.size
  simp at hz1
  have hTw : Touched w (w.heap.size + 1) w1 := (Touched.of_below HO.out).trans hT1
  have hT2 : Touched w (w.heap.size + 1) ((w1.alloc (.cells #[.int .i64 k, .string nm, .slice A la lc] 29)).alloc (.cells #[.int .i64 0] 54)) := (hTw.trans (Touched.alloc _ _ _)).trans (Touched.alloc _ _ _)
  have hkd : (ntok s p').1 ≠ 0 := by
    rw [ntok_in HE.out]
    have := runTo_le blankB s HLe.out
    have h1 := (scanAt_end (good := good) (s := s) (k := runTo blankB s p') (by have := HE.out; omega)).2.2.2
    show (scanAt good s (runTo blankB s p')).1 ≠ 0
    omega
  have K2 := hide (expect_bad (w.heap.size + 1) s p' _ _ _ _ [0] (.slice (some ⟨w1.heap.size + 1, 0, none⟩) 1 1) _ (next_all hs HLe.out) ((hS1.alloc (.cells #[.int .i64 k, .string nm, .slice A la lc] 29)).alloc (.cells #[.int .i64 0] 54)) (HTb.out.touched hT2 (by omega)) (by omega) ⟨by simp, w1.heap.size + 1, 1, rfl, fun i hi => by match i, hi with | 0, _ => simp [World.cell?_alloc_at]⟩ (fun b n cap e => by injection e with e; injection e with e; injection e with e; omega) (by simp) (by simpa using hkd))
  have HT2 := hide hT2
  clear hp hS1 hT1 hTw hT2 hkd
  go_wp2_with (go_at_call 17; refine K2.out.mono ?_)
  intro e w2 h2
  have h3 := (h2.from HT2.out).new (by omega)
  obtain ⟨fb, rfl, h4⟩ := h3
  have H2 := hide h4
  clear h2 h4
  go_wp2_with fail
  exact ⟨rfl, fb, rfl, H2.out⟩

set_option maxRecDepth 100000 in
/-- The deferred closure, entered as a deferred call of a frame that returns: recover finds nothing: it turns nothing. -/
theorem catch_idle (p q : Addr) (w : World) :
    CallsD Tryd.prog 26 #[.pointer (some p), .pointer (some q)] .returning w fun e u' w' => e = .returned (.tuple #[]) ∧ u' = .returning ∧ w' = w := by
  refine callsD_of_wpS Tryd.func26 rfl fun c₀ cs hu => ?_
  apply wpS_seq
  apply wpS_region
  simp [wpOpsS, go_sem, recoverD, hu, Tryd.ntmps26, Exit.thenS]
  apply wpS_seq
  apply wpS_seq
  apply wpS_region
  simp [wpOpsS, go_sem, Exit.thenS]
  refine wpS_cond (t := true) (by simp [Act.eval, Array.replicate]) ?_
  simp only [if_true]
  refine wpS_of_wp (wp_ret ?_)
  cases c₀
  simp_all [bodyPostS, results, Tryd.results26, Exit.thenS]


theorem Tryd.isFault (v : Value) (w : World) : (Instr.typeAssert (.iface 62 v) 20 62 true).run Tryd.prog w = .ok (.tuple #[v, .bool true]) w := by kernel_rfl

set_option maxRecDepth 100000 in
set_option maxHeartbeats 4000000 in
/-- The deferred closure, entered as a deferred call of a frame that panics with a fault: it is recovered, and told as the error. -/
theorem catch_throw (b c fb : Nat) (x0 x1 x2 y : Value) (w : World) (hb : w.heap[b]? = some (.cells #[x0, x1, x2] 29 (0, 0))) (hc : w.heap[c]? = some (.cells #[y] 31 (0, 0))) (hne : b ≠ c) :
    CallsD Tryd.prog 26 #[.pointer (some ⟨b, 0, none⟩), .pointer (some ⟨c, 0, none⟩)] (.panicking [{ v := .iface 62 (.pointer (some ⟨fb, 0, none⟩)), recovered := false }]) w fun e u' w' =>
      e = .returned (.tuple #[]) ∧ u' = .panicking [{ v := .iface 62 (.pointer (some ⟨fb, 0, none⟩)), recovered := true }] ∧
      w' = ((((w.setCell ⟨b, 0, none⟩ (.int .i64 0)).setCell ⟨b, 1, none⟩ (.string ⟨#[]⟩)).setCell ⟨b, 2, none⟩ (.slice none 0 0)).setCell ⟨c, 0, none⟩ (.iface 62 (.pointer (some ⟨fb, 0, none⟩)))).alloc zlev := by
  have hbl : b < w.heap.size := (Array.getElem?_eq_some_iff.1 hb).1
  have hcl : c < w.heap.size := (Array.getElem?_eq_some_iff.1 hc).1
  have b0 : w.cell? ⟨b, 0, none⟩ = some x0 := by simp [World.cell?, hb]
  have b1 : w.cell? ⟨b, 1, none⟩ = some x1 := by simp [World.cell?, hb]
  have b2 : w.cell? ⟨b, 2, none⟩ = some x2 := by simp [World.cell?, hb]
  have bf : ∀ i, w.frozen? ⟨b, i, none⟩ = false := fun i => by simp [World.frozen?, hb]
  have c0 : w.cell? ⟨c, 0, none⟩ = some y := by simp [World.cell?, hc]
  have cf : ∀ i, w.frozen? ⟨c, i, none⟩ = false := fun i => by simp [World.frozen?, hc]
  have hne' : ¬ b = c := hne
  have hne2 : ¬ c = b := fun e => hne e.symm
  have hn1 : ¬ b = w.heap.size := by omega
  have hn2 : ¬ c = w.heap.size := by omega
  have hta := Tryd.isFault
  clear hb hc hne
  refine callsD_of_wpS Tryd.func26 rfl fun c₀ cs hu => ?_
  apply wpS_seq
  apply wpS_region
  simp [wpOpsS, go_sem, recoverD, hu, Tryd.ntmps26, Exit.thenS]
  apply wpS_seq
  apply wpS_seq
  apply wpS_region
  simp [wpOpsS, go_sem, Exit.thenS]
  refine wpS_cond (t := false) (by simp [Act.eval, Array.replicate]) ?_
  simp only [Bool.false_eq_true, if_false]
  refine wpS_of_wp (wp_skip ?_)
  simp only [Exit.thenS]
  refine wpS_of_wp ?_
  change Code.wp _ _ _ { tmps := #[.pointer (some ⟨b, 0, none⟩), .pointer (some ⟨c, 0, none⟩), .iface 62 (.pointer (some ⟨fb, 0, none⟩)), undef, undef, undef, .iface 62 (.pointer (some ⟨fb, 0, none⟩)), .iface 62 (.pointer (some ⟨fb, 0, none⟩)), .bool false, undef, undef, undef, undef, undef, undef, undef, undef, undef, undef, undef], defers := [] } w
  go_wp2_with fail
  simp [bodyPostS, results, Tryd.results26, go_sem]

/-- A fault is answered, and the zero term. -/
def Faulted (w : World) (code a : Nat) (e : Ending) (w' : World) : Prop :=
  ∃ N : Nat, e = .returned (.tuple #[.agg #[.int .i64 0, .string ⟨#[]⟩, .slice none 0 0], .iface 62 (.pointer (some ⟨N, 0, none⟩))]) ∧ w'.heap[N]? = some (.cells #[.int .i64 (code : Nat), .int .i64 (a : Nat)] 35 (0, 0)) ∧ Below w.heap.size w w'

/-- The world behind the closure: the results' blocks, the fault's, what was there. -/
theorem caught {w w1 : World} {fb code a : Nat} {y : Value} (hfb : w.heap.size + 2 ≤ fb) (hF : w1.heap[fb]? = some (.cells #[.int .i64 (code : Nat), .int .i64 (a : Nat)] 35 (0, 0))) {x0 x1 x2 : Value} (hb : w1.heap[w.heap.size]? = some (.cells #[x0, x1, x2] 29 (0, 0))) (hc : w1.heap[w.heap.size + 1]? = some (.cells #[y] 31 (0, 0))) (hB : Below w.heap.size w w1) {W : World}
    (hW : W = ((((w1.setCell ⟨w.heap.size, 0, none⟩ (.int .i64 0)).setCell ⟨w.heap.size, 1, none⟩ (.string ⟨#[]⟩)).setCell ⟨w.heap.size, 2, none⟩ (.slice none 0 0)).setCell ⟨w.heap.size + 1, 0, none⟩ (.iface 62 (.pointer (some ⟨fb, 0, none⟩)))).alloc zlev) :
    W.cell? ⟨w.heap.size, 0, none⟩ = some (.int .i64 0) ∧ W.cell? ⟨w.heap.size, 1, none⟩ = some (.string ⟨#[]⟩) ∧ W.cell? ⟨w.heap.size, 2, none⟩ = some (.slice none 0 0) ∧ W.cell? ⟨w.heap.size + 1, 0, none⟩ = some (.iface 62 (.pointer (some ⟨fb, 0, none⟩))) ∧
    W.heap[fb]? = some (.cells #[.int .i64 (code : Nat), .int .i64 (a : Nat)] 35 (0, 0)) ∧ Below w.heap.size w W := by
  have hl : w.heap.size < w1.heap.size := (Array.getElem?_eq_some_iff.1 hb).1
  have hl1 : w.heap.size + 1 < w1.heap.size := (Array.getElem?_eq_some_iff.1 hc).1
  have hlf : fb < w1.heap.size := (Array.getElem?_eq_some_iff.1 hF).1
  have hB0 : W.heap[w.heap.size]? = some (.cells #[.int .i64 0, .string ⟨#[]⟩, .slice none 0 0] 29 (0, 0)) := by
    rw [hW, Below.heap_alloc _ _ _ (by simp [World.setCell]; omega), Below.heap_setCell _ _ _ _ (by show w.heap.size ≠ w.heap.size + 1; omega)]
    simp [World.setCell, Array.getElem?_modify, hb]
  have hB1 : W.heap[w.heap.size + 1]? = some (.cells #[.iface 62 (.pointer (some ⟨fb, 0, none⟩))] 31 (0, 0)) := by
    rw [hW, Below.heap_alloc _ _ _ (by simp [World.setCell]; omega)]
    simp [World.setCell, Array.getElem?_modify, hc]
  refine ⟨by simp [World.cell?, hB0], by simp [World.cell?, hB0], by simp [World.cell?, hB0], by simp [World.cell?, hB1], ?_, ?_⟩
  · rw [hW, Below.heap_alloc _ _ _ (by simp [World.setCell]; omega), Below.heap_setCell _ _ _ _ (by show fb ≠ w.heap.size + 1; omega), Below.heap_setCell _ _ _ _ (by show fb ≠ w.heap.size; omega), Below.heap_setCell _ _ _ _ (by show fb ≠ w.heap.size; omega), Below.heap_setCell _ _ _ _ (by show fb ≠ w.heap.size; omega)]
    exact hF
  · rw [hW]
    exact ((((hB.setCell (p := ⟨w.heap.size, 0, none⟩) (Nat.le_refl _) _).setCell (p := ⟨w.heap.size, 1, none⟩) (Nat.le_refl _) _).setCell (p := ⟨w.heap.size, 2, none⟩) (Nat.le_refl _) _).setCell (p := ⟨w.heap.size + 1, 0, none⟩) (Nat.le_succ _) _).alloc (by simp [World.setCell]; omega) _


set_option maxRecDepth 100000 in
set_option maxHeartbeats 4000000 in
theorem caught_calls (p3 p4 p5 : Value) (l : LvB) (w : World) (K : ∀ W, Below w.heap.size w W → Calls Tryd.prog 15 #[p3, p4, p5] W fun e w' => Made1 W l e w') :
    Calls Tryd.prog 14 #[.func (.func 15) #[] #[p3, p4, p5]] w fun e w' => Made2 w l e w' := by
  have hold : Below w.heap.size w ((w.alloc zlev).alloc (.cells #[.nilIface] 31)) := ((Below.refl _ _).alloc (Nat.le_refl _) _).alloc (by simp) _
  have K1 := hide (K _ hold)
  have HO := hide hold
  have hmf : ∀ (fn : Fn) (first cap : Array Value) (w : World), (Instr.makeFunc fn first cap).run Tryd.prog w = .ok (.func fn first cap) w := fun _ _ _ _ => rfl
  clear K hold
  go_enter_defers Tryd.func14, Tryd.ntmps14
  go_wp2_with (go_at_call 15; refine K1.out.mono ?_)
  rintro e w1 ⟨k, nm, A, la, lc, rfl, hp, hB⟩
  have hz1 := hB.size
  simp at hz1
  have hb0 : w1.heap[w.heap.size]? = some (.cells #[.int .i64 0, .string ⟨#[]⟩, .slice none 0 0] 29 (0, 0)) := by
    rw [hB.block w.heap.size (by simp; omega), Below.heap_alloc _ _ _ (by simp)]
    exact heap_alloc_new w zlev
  have hb1 : w1.heap[w.heap.size + 1]? = some (.cells #[.nilIface] 31 (0, 0)) := by
    rw [hB.block (w.heap.size + 1) (by simp)]
    have := heap_alloc_new (w.alloc zlev) (.cells #[.nilIface] 31)
    simpa using this
  have d0 : w1.cell? ⟨w.heap.size, 0, none⟩ = some (.int .i64 0) := by simp [World.cell?, hb0]
  have d1 : w1.cell? ⟨w.heap.size, 1, none⟩ = some (.string ⟨#[]⟩) := by simp [World.cell?, hb0]
  have d2 : w1.cell? ⟨w.heap.size, 2, none⟩ = some (.slice none 0 0) := by simp [World.cell?, hb0]
  have d3 : ∀ i, w1.frozen? ⟨w.heap.size, i, none⟩ = false := fun i => by simp [World.frozen?, hb0]
  have e4 : w1.cell? ⟨w.heap.size + 1, 0, none⟩ = some .nilIface := by simp [World.cell?, hb1]
  have e5 : ∀ i, w1.frozen? ⟨w.heap.size + 1, i, none⟩ = false := fun i => by simp [World.frozen?, hb1]
  have d4 : w.heap.size < w1.heap.size := by omega
  have e7 : w.heap.size + 1 < w1.heap.size := by omega
  have HP := hide hp
  have HB := hide (HO.out.trans (hB.mono (by simp; omega)))
  clear hp hB hb0 hb1
  go_wp2_with fail
  refine leaves_cons (f := 26) (args := #[.pointer (some ⟨w.heap.size, 0, none⟩), .pointer (some ⟨w.heap.size + 1, 0, none⟩)]) (by simp) (by simp [go_sem]) ?_
  refine (catch_idle ⟨w.heap.size, 0, none⟩ ⟨w.heap.size + 1, 0, none⟩ _).mono ?_
  rintro e u' w'' ⟨rfl, rfl, rfl⟩
  simp [Leaves, settle, results, Tryd.results14, go_sem, d0, d1, d2, e4]
  refine ⟨k, nm, A, la, lc, by first | rfl | simp, ?_, ?_⟩
  · refine HP.out.keep fun b hb hS => ⟨by simp at hS; omega, ?_⟩
    simp at hS
    rw [Below.heap_setCell _ _ _ _ (by show b ≠ w.heap.size + 1; omega)]
    exact three_set (by omega) _ _ _
  · exact (three_below HB.out (Nat.le_refl _) _ _ _).setCell (p := ⟨w.heap.size + 1, 0, none⟩) (Nat.le_succ _) _

set_option maxRecDepth 100000 in
set_option maxHeartbeats 4000000 in
theorem caught_throws (p3 p4 p5 : Value) (code a : Nat) (w : World) (K : ∀ W, Below w.heap.size w W → Calls Tryd.prog 15 #[p3, p4, p5] W fun e w' => Threw W W.heap.size code a e w') :
    Calls Tryd.prog 14 #[.func (.func 15) #[] #[p3, p4, p5]] w fun e w' => Faulted w code a e w' := by
  have hold : Below w.heap.size w ((w.alloc zlev).alloc (.cells #[.nilIface] 31)) := ((Below.refl _ _).alloc (Nat.le_refl _) _).alloc (by simp) _
  have K1 := hide (K _ hold)
  have HO := hide hold
  have hmf : ∀ (fn : Fn) (first cap : Array Value) (w : World), (Instr.makeFunc fn first cap).run Tryd.prog w = .ok (.func fn first cap) w := fun _ _ _ _ => rfl
  clear K hold
  go_enter_defers Tryd.func14, Tryd.ntmps14
  go_wp2_with (go_at_call 15; refine K1.out.mono ?_)
  intro e w1 h1
  obtain ⟨fb, rfl, hfb, hF, hT1⟩ := h1
  simp at hfb hT1
  have hb0 : w1.heap[w.heap.size]? = some (.cells #[.int .i64 0, .string ⟨#[]⟩, .slice none 0 0] 29 (0, 0)) := by
    rw [hT1.block w.heap.size (by simp; omega) (by simp; omega), Below.heap_alloc _ _ _ (by simp)]
    exact heap_alloc_new w zlev
  have hb1 : w1.heap[w.heap.size + 1]? = some (.cells #[.nilIface] 31 (0, 0)) := by
    rw [hT1.block (w.heap.size + 1) (by simp) (by simp)]
    have := heap_alloc_new (w.alloc zlev) (.cells #[.nilIface] 31)
    simpa using this
  have hB : Below w.heap.size w w1 := ((Touched.of_below HO.out).trans hT1).below (B := w.heap.size) (Nat.le_refl _) (by omega)
  have HC := hide (fun W hW => caught (W := W) (by omega) hF hb0 hb1 hB hW)
  have KC := hide (catch_throw w.heap.size (w.heap.size + 1) fb _ _ _ _ w1 hb0 hb1 (by omega))
  clear hF hb0 hb1 hB hT1 hfb
  go_wp2_with fail
  refine leaves_cons (f := 26) (args := #[.pointer (some ⟨w.heap.size, 0, none⟩), .pointer (some ⟨w.heap.size + 1, 0, none⟩)]) (by simp) (by simp [go_sem]) ?_
  refine KC.out.mono ?_
  intro e u' W hW
  obtain ⟨rfl, rfl, hW⟩ := hW
  obtain ⟨g0, g1, g2, g3, g4, g5⟩ := HC.out W hW
  clear hW HC KC
  simp [Leaves, settle, results, Tryd.results14, go_sem, g0, g1, g2, g3]
  exact ⟨fb, rfl, g4, g5⟩

/-- The boxes of Read's three parameters. -/
abbrev boxes (w : World) (s : ByteArray) : World := (((w.alloc (.cells #[.string s] 9)).alloc (.cells #[.int .i64 20000] 3)).alloc (.cells #[.func (.func 10) #[] #[]] 41)).alloc zlev
theorem boxes_at (w : World) (s : ByteArray) : Below w.heap.size w (boxes w s) ∧ (boxes w s).cell? ⟨w.heap.size, 0, none⟩ = some (.string s) ∧ (boxes w s).cell? ⟨w.heap.size + 1, 0, none⟩ = some (.int .i64 20000) ∧ (boxes w s).cell? ⟨w.heap.size + 1 + 1, 0, none⟩ = some (.func (.func 10) #[] #[]) ∧ (boxes w s).heap[w.heap.size + 1 + 1 + 1]? = some zlev := by
  refine ⟨((((Below.refl _ _).alloc (Nat.le_refl _) _).alloc (by simp) _).alloc (by simp <;> omega) _).alloc (by simp <;> omega) _, ?_, ?_, ?_, ?_⟩
  · rw [World.cell?_alloc_past _ _ _ (by simp <;> omega), World.cell?_alloc_past _ _ _ (by simp <;> omega), World.cell?_alloc_past _ _ _ (by simp)]; simp [World.cell?_alloc_at]
  · rw [World.cell?_alloc_past _ _ _ (by simp <;> omega), World.cell?_alloc_past _ _ _ (by simp)]; simp [World.cell?_alloc_at]
  · rw [World.cell?_alloc_past _ _ _ (by simp)]; simp [World.cell?_alloc_at]
  · have := heap_alloc_new (((w.alloc (.cells #[.string s] 9)).alloc (.cells #[.int .i64 20000] 3)).alloc (.cells #[.func (.func 10) #[] #[]] 41)) zlev
    simpa using this

set_option maxRecDepth 100000 in
set_option maxHeartbeats 4000000 in
theorem read_calls (s : ByteArray) (l : LvB) (p' : Nat) (w : World) (hs : s.size ≤ 20000) (hr : Reads s l 0 p') (he : runTo blankB s p' = s.size) (ht : Tabs w) :
    Calls Tryd.prog 9 #[.string s, .int .i64 20000, .func (.func 10) #[] #[]] w fun e w' => Made2 w l e w' := by
  obtain ⟨hold, x3, x4, x5, xz⟩ := boxes_at w s
  have K1 := hide (caught_calls (.pointer (some ⟨w.heap.size, 0, none⟩)) (.pointer (some ⟨w.heap.size + 1, 0, none⟩)) (.pointer (some ⟨w.heap.size + 1 + 1, 0, none⟩)) l (boxes w s) fun W hW => read1_calls s l p' _ _ _ W hs hr he ((ht.below hold ht.lt).below hW (Nat.lt_of_lt_of_le ht.lt hold.size)) (cell_later hW x3) (cell_later hW x4) (cell_later hW x5))
  have HO := hide hold
  have HZ := hide xz
  have hmf : ∀ (fn : Fn) (first cap : Array Value) (w : World), (Instr.makeFunc fn first cap).run Tryd.prog w = .ok (.func fn first cap) w := fun _ _ _ _ => rfl
  clear hold x3 x4 x5 xz ht hr he
  go_enter Tryd.func9, Tryd.ntmps9
  go_wp2_with (go_at_call 14; refine K1.out.mono ?_)
  rintro e w1 ⟨k, nm, A, la, lc, rfl, hp, hB⟩
  have hz1 := hB.size
  simp at hz1
  have hb0 : w1.heap[w.heap.size + 1 + 1 + 1]? = some (.cells #[.int .i64 0, .string ⟨#[]⟩, .slice none 0 0] 29 (0, 0)) := by
    rw [hB.block (w.heap.size + 1 + 1 + 1) (by simp)]
    exact HZ.out
  have d0 : w1.cell? ⟨w.heap.size + 1 + 1 + 1, 0, none⟩ = some (.int .i64 0) := by simp [World.cell?, hb0]
  have d1 : w1.cell? ⟨w.heap.size + 1 + 1 + 1, 1, none⟩ = some (.string ⟨#[]⟩) := by simp [World.cell?, hb0]
  have d2 : w1.cell? ⟨w.heap.size + 1 + 1 + 1, 2, none⟩ = some (.slice none 0 0) := by simp [World.cell?, hb0]
  have d3 : ∀ i, w1.frozen? ⟨w.heap.size + 1 + 1 + 1, i, none⟩ = false := fun i => by simp [World.frozen?, hb0]
  have d4 : w.heap.size + 1 + 1 + 1 < w1.heap.size := by omega
  have HP := hide hp
  have HB := hide (HO.out.trans (hB.mono (by simp; omega)))
  clear hp hB hb0
  go_wp2_with fail
  refine bodyPost_ret (v := .tuple #[.agg #[.int .i64 k, .string nm, .slice A la lc], .nilIface]) (by simp [results, Tryd.results9, go_sem, d0, d1, d2]) rfl ?_
  refine ⟨k, nm, A, la, lc, rfl, ?_, three_below HB.out (by omega) _ _ _⟩
  refine HP.out.keep fun b hb hS => ⟨by simp at hS; omega, ?_⟩
  simp at hS
  exact three_set (by omega) _ _ _

set_option maxRecDepth 100000 in
set_option maxHeartbeats 4000000 in
theorem read_faults (s : ByteArray) (code a : Nat) (w : World) (K : ∀ W, Below (boxes w s).heap.size (boxes w s) W → Calls Tryd.prog 15 #[.pointer (some ⟨w.heap.size, 0, none⟩), .pointer (some ⟨w.heap.size + 1, 0, none⟩), .pointer (some ⟨w.heap.size + 1 + 1, 0, none⟩)] W fun e w' => Threw W W.heap.size code a e w') :
    Calls Tryd.prog 9 #[.string s, .int .i64 20000, .func (.func 10) #[] #[]] w fun e w' => Faulted w code a e w' := by
  obtain ⟨hold, -, -, -, xz⟩ := boxes_at w s
  have K1 := hide (caught_throws (.pointer (some ⟨w.heap.size, 0, none⟩)) (.pointer (some ⟨w.heap.size + 1, 0, none⟩)) (.pointer (some ⟨w.heap.size + 1 + 1, 0, none⟩)) code a (boxes w s) K)
  have HO := hide hold
  have HZ := hide xz
  have hmf : ∀ (fn : Fn) (first cap : Array Value) (w : World), (Instr.makeFunc fn first cap).run Tryd.prog w = .ok (.func fn first cap) w := fun _ _ _ _ => rfl
  clear hold xz K
  go_enter Tryd.func9, Tryd.ntmps9
  go_wp2_with (go_at_call 14; refine K1.out.mono ?_)
  rintro e w1 ⟨N, rfl, hF, hB⟩
  have hz1 := hB.size
  simp at hz1
  have hb0 : w1.heap[w.heap.size + 1 + 1 + 1]? = some (.cells #[.int .i64 0, .string ⟨#[]⟩, .slice none 0 0] 29 (0, 0)) := by
    rw [hB.block (w.heap.size + 1 + 1 + 1) (by simp)]
    exact HZ.out
  have hN : N ≠ w.heap.size + 1 + 1 + 1 := fun e => by rw [e, hb0] at hF; simp at hF
  have d0 : w1.cell? ⟨w.heap.size + 1 + 1 + 1, 0, none⟩ = some (.int .i64 0) := by simp [World.cell?, hb0]
  have d1 : w1.cell? ⟨w.heap.size + 1 + 1 + 1, 1, none⟩ = some (.string ⟨#[]⟩) := by simp [World.cell?, hb0]
  have d2 : w1.cell? ⟨w.heap.size + 1 + 1 + 1, 2, none⟩ = some (.slice none 0 0) := by simp [World.cell?, hb0]
  have d3 : ∀ i, w1.frozen? ⟨w.heap.size + 1 + 1 + 1, i, none⟩ = false := fun i => by simp [World.frozen?, hb0]
  have d4 : w.heap.size + 1 + 1 + 1 < w1.heap.size := by omega
  have HF := hide hF
  have HB := hide (HO.out.trans (hB.mono (by simp; omega)))
  clear hF hB hb0
  go_wp2_with fail
  refine bodyPost_ret (v := .tuple #[.agg #[.int .i64 0, .string ⟨#[]⟩, .slice none 0 0], .iface 62 (.pointer (some ⟨N, 0, none⟩))]) (by simp [results, Tryd.results9, go_sem, d0, d1, d2]) rfl ?_
  exact ⟨N, rfl, by rw [three_set hN]; exact HF.out, three_below HB.out (by omega) _ _ _⟩

/-- Read at a text that is no level. -/
theorem read_fails (s : ByteArray) (a : Nat) (w : World) (hs : s.size ≤ 20000) (hr : Fails s 0 a) (ht : Tabs w) :
    Calls Tryd.prog 9 #[.string s, .int .i64 20000, .func (.func 10) #[] #[]] w fun e w' => Faulted w 1 a e w' :=
  read_faults s 1 a w fun V hV => by
    obtain ⟨hO, x3, x4, x5, _⟩ := boxes_at w s
    have h2 := ht.below hO ht.lt
    exact read1_fails s a _ _ _ V hs hr (h2.below hV h2.lt) (cell_later hV x3) (cell_later hV x4) (cell_later hV x5)
/-- Read at a text that goes on behind a level. -/
theorem read_more (s : ByteArray) (l : LvB) (p' : Nat) (w : World) (hs : s.size ≤ 20000) (hr : Reads s l 0 p') (he : runTo blankB s p' ≠ s.size) (ht : Tabs w) :
    Calls Tryd.prog 9 #[.string s, .int .i64 20000, .func (.func 10) #[] #[]] w fun e w' => Faulted w 1 (runTo blankB s p') e w' :=
  read_faults s 1 _ w fun V hV => by
    obtain ⟨hO, x3, x4, x5, _⟩ := boxes_at w s
    have h2 := ht.below hO ht.lt
    exact read1_more s l p' _ _ _ V hs hr he (h2.below hV h2.lt) (cell_later hV x3) (cell_later hV x4) (cell_later hV x5)
/-- Read at a text that is too long. -/
theorem read_long (s : ByteArray) (w : World) (hs : 20000 < s.size) (hm : s.size ≤ maxLen) :
    Calls Tryd.prog 9 #[.string s, .int .i64 20000, .func (.func 10) #[] #[]] w fun e w' => Faulted w 2 0 e w' :=
  read_faults s 2 0 w fun V hV => by
    obtain ⟨_, x3, x4, _, _⟩ := boxes_at w s
    exact read1_long s _ _ _ V hs hm (cell_later hV x3) (cell_later hV x4)

end Go.Proofs.YtmpepnckfghepaaDoor
