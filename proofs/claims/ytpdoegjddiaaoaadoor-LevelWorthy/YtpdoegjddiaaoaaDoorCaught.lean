/- The contracts of fault.Caught, of notation.Read with its closure, at a text that is a level, and at one that is too long. -/
import Derived.Defers
import Derived.Recover
import Derived.Test.YtpdoegjddiaaoaaDoorBrack
import Derived.Below
import Derived.WalkSpells
namespace Go.Proofs.YtpdoegjddiaaoaaDoor
open Go.RowKit

/-- What the work makes: a level in new blocks. -/
def Made1 (w : World) (l : LvB) (e : Ending) (w' : World) : Prop :=
  ∃ (k : Int) (nm : ByteArray) (A : Option Addr) (la lc : Nat), e = .returned (.agg #[.int .i64 k, .string nm, .slice A la lc]) ∧ InP w' (fun b => w.heap.size ≤ b) l (.agg #[.int .i64 k, .string nm, .slice A la lc]) ∧ Below w.heap.size w w'
/-- What is answered: the term, and no fault. -/
def Made2 (w : World) (l : LvB) (e : Ending) (w' : World) : Prop :=
  ∃ (k : Int) (nm : ByteArray) (A : Option Addr) (la lc : Nat), e = .returned (.tuple #[.agg #[.int .i64 k, .string nm, .slice A la lc], .nilIface]) ∧ InP w' (fun b => w.heap.size ≤ b) l (.agg #[.int .i64 k, .string nm, .slice A la lc]) ∧ Below w.heap.size w w'

theorem three_set {W : World} {c b : Nat} (h : b ≠ c) (u0 u1 u2 : Value) : (((W.setCell ⟨c, 0, none⟩ u0).setCell ⟨c, 1, none⟩ u1).setCell ⟨c, 2, none⟩ u2).heap[b]? = W.heap[b]? := by
  rw [Below.heap_setCell _ _ _ _ (by show b ≠ c; exact h), Below.heap_setCell _ _ _ _ (by show b ≠ c; exact h), Below.heap_setCell _ _ _ _ (by show b ≠ c; exact h)]
theorem three_below {B : Nat} {w W : World} {c : Nat} (h : Below B w W) (hc : B ≤ c) (u0 u1 u2 : Value) : Below B w (((W.setCell ⟨c, 0, none⟩ u0).setCell ⟨c, 1, none⟩ u1).setCell ⟨c, 2, none⟩ u2) :=
  ((h.setCell (p := ⟨c, 0, none⟩) hc _).setCell (p := ⟨c, 1, none⟩) hc _).setCell (p := ⟨c, 2, none⟩) hc _

set_option maxRecDepth 100000 in
set_option maxHeartbeats 4000000 in
theorem read1_calls (s : ByteArray) (l : LvB) (p' b3 b4 b5 : Nat) (w : World) (hs : s.size ≤ 20000) (hr : Reads s l 0 p') (he : runTo blankB s p' = s.size) (ht : Tabs w)
    (c3 : w.cell? ⟨b3, 0, none⟩ = some (.string s)) (c4 : w.cell? ⟨b4, 0, none⟩ = some (.int .i64 20000)) (c5 : w.cell? ⟨b5, 0, none⟩ = some (.func (.func 25) #[] #[])) :
    Calls Tryd.prog 41 #[.pointer (some ⟨b3, 0, none⟩), .pointer (some ⟨b4, 0, none⟩), .pointer (some ⟨b5, 0, none⟩)] w fun e w' => Made1 w l e w' := by
  have hlt := ht.lt
  have h0 : Below w.heap.size w (w.alloc zlev) := (Below.refl _ _).alloc (Nat.le_refl _) _
  have hold : Below w.heap.size w ((w.alloc zlev).alloc (.cells #[.string s, .int .i64 0] 85)) := h0.alloc (by simp) _
  have hS0 : ScAt ((w.alloc zlev).alloc (.cells #[.string s, .int .i64 0] 85)) (w.heap.size + 1) s 0 := by
    have := heap_alloc_new (w.alloc zlev) (.cells #[.string s, .int .i64 0] 85)
    simpa [ScAt] using this
  have K1 := hide (slevel_calls s hs (w.heap.size + 1) (by omega) l.nodes l 0 p' _ (Nat.le_refl _) hr (Nat.zero_le _) hS0 (ht.below hold hlt))
  have d3 := cell_later h0 c3
  have d4 := cell_later h0 c4
  have d5 := cell_later hold c5
  have HTb := hide ht
  have HO := hide hold
  have HLe := hide hr.le
  have HE := hide he
  clear ht hold hS0 hr he h0 c3 c4 c5
  go_enter Tryd.func41, Tryd.ntmps41
  go_wp2_with (go_at_call 25; refine K1.out.mono ?_)
  rintro e w1 ⟨k, nm, A, la, lc, rfl, hp, hS1, hT1⟩
  have hz1 := hT1.size
  simp at hz1
  have hb0 : w1.heap[w.heap.size]? = some (.cells #[.int .i64 0, .string ⟨#[]⟩, .slice none 0 0] 28 (0, 0)) := by
    rw [hT1.block w.heap.size (by simp; omega) (by simp), Below.heap_alloc _ _ _ (by simp)]
    exact heap_alloc_new w zlev
  have hTw : Touched w (w.heap.size + 1) w1 := (Touched.of_below HO.out).trans hT1
  have hT2 : Touched w (w.heap.size + 1) ((w1.alloc (.cells #[.int .i64 k, .string nm, .slice A la lc] 28)).alloc (.cells #[.int .i64 0] 86)) := (hTw.trans (Touched.alloc _ _ _)).trans (Touched.alloc _ _ _)
  have HP : Hid (InP w1 (fun b => w.heap.size + 2 ≤ b) l (.agg #[.int .i64 k, .string nm, .slice A la lc])) := hp.keep fun b _ hb => ⟨by simpa using hb, rfl⟩
  have K2 := hide (expect_calls (w.heap.size + 1) s p' 0 _ _ _ [0] (.slice (some ⟨w1.heap.size + 1, 0, none⟩) 1 1) _ (end_nexts hs HLe.out HE.out) ((hS1.alloc (.cells #[.int .i64 k, .string nm, .slice A la lc] 28)).alloc (.cells #[.int .i64 0] 86)) (HTb.out.touched hT2 (by omega)) (by omega) ⟨by simp, w1.heap.size + 1, 1, rfl, fun i hi => by match i, hi with | 0, _ => simp [World.cell?_alloc_at]⟩ (fun b n cap e => by injection e with e; injection e with e; injection e with e; omega) (by simp))
  have HTw := hide hTw
  have HB0 := hide hb0
  clear hb0 hp hS1 hT1 hTw hT2
  go_wp2_with (go_at_call 43; refine K2.out.mono ?_)
  rintro e w2 ⟨rfl, hS2, hT2⟩
  have hz2 := hT2.size
  simp at hz2
  have hc0 : w2.heap[w.heap.size]? = some (.cells #[.int .i64 0, .string ⟨#[]⟩, .slice none 0 0] 28 (0, 0)) := by
    rw [hT2.block w.heap.size (by simp; omega) (by simp), Below.heap_alloc _ _ _ (by simp; omega), Below.heap_alloc _ _ _ (by omega)]
    exact HB0.out
  have hc1 : w2.heap[w1.heap.size]? = some (.cells #[.int .i64 k, .string nm, .slice A la lc] 28 (0, 0)) := by
    rw [hT2.block w1.heap.size (by simp; omega) (by simp; omega), Below.heap_alloc _ _ _ (by simp)]
    exact heap_alloc_new _ _
  have e0 : w2.cell? ⟨w.heap.size, 0, none⟩ = some (.int .i64 0) := by simp [World.cell?, hc0]
  have e1 : w2.cell? ⟨w.heap.size, 1, none⟩ = some (.string ⟨#[]⟩) := by simp [World.cell?, hc0]
  have e2 : w2.cell? ⟨w.heap.size, 2, none⟩ = some (.slice none 0 0) := by simp [World.cell?, hc0]
  have ef : ∀ i, w2.frozen? ⟨w.heap.size, i, none⟩ = false := fun i => by simp [World.frozen?, hc0]
  have f0 : w2.cell? ⟨w1.heap.size, 0, none⟩ = some (.int .i64 k) := by simp [World.cell?, hc1]
  have f1 : w2.cell? ⟨w1.heap.size, 1, none⟩ = some (.string nm) := by simp [World.cell?, hc1]
  have f2 : w2.cell? ⟨w1.heap.size, 2, none⟩ = some (.slice A la lc) := by simp [World.cell?, hc1]
  have e6 : w.heap.size < w2.heap.size := by omega
  have hIn : ∀ b, w.heap.size + 2 ≤ b → b < w1.heap.size → w2.heap[b]? = w1.heap[b]? := fun b hb hb1 => by
    rw [hT2.block b (by simp; omega) (by simp; omega), Below.heap_alloc _ _ _ (by simp; omega), Below.heap_alloc _ _ _ hb1]
  have hBl : Below w.heap.size w w2 := (((HTw.out.trans (Touched.alloc _ _ _)).trans (Touched.alloc _ _ _)).trans hT2).below (B := w.heap.size) (Nat.le_refl _) (by omega)
  have HIn := hide hIn
  have HBl := hide hBl
  clear hS2 hT2 hc0 hc1 hIn hBl
  go_wp2_with fail
  refine bodyPost_ret (v := .agg #[.int .i64 k, .string nm, .slice A la lc]) (by simp [results, Tryd.results41, go_sem, e0, e1, e2]) rfl ?_
  refine ⟨k, nm, A, la, lc, rfl, ?_, three_below HBl.out (Nat.le_refl _) _ _ _⟩
  exact HP.out.keep fun b hb hS => ⟨by omega, by rw [three_set (by omega)]; exact HIn.out b hS hb⟩

set_option maxRecDepth 100000 in
/-- The deferred closure, entered as a deferred call of a frame that returns: recover finds nothing: it turns nothing. -/
theorem catch_idle (p q : Addr) (w : World) :
    CallsD Tryd.prog 52 #[.pointer (some p), .pointer (some q)] .returning w fun e u' w' => e = .returned (.tuple #[]) ∧ u' = .returning ∧ w' = w := by
  refine callsD_of_wpS Tryd.func52 rfl fun c₀ cs hu => ?_
  apply wpS_seq
  apply wpS_region
  simp [wpOpsS, go_sem, recoverD, hu, Tryd.ntmps52, Exit.thenS]
  apply wpS_seq
  apply wpS_seq
  apply wpS_region
  simp [wpOpsS, go_sem, Exit.thenS]
  refine wpS_cond (t := true) (by simp [Act.eval, Array.replicate]) ?_
  simp only [if_true]
  refine wpS_of_wp (wp_ret ?_)
  cases c₀
  simp_all [bodyPostS, results, Tryd.results52, Exit.thenS]


set_option maxRecDepth 100000 in
set_option maxHeartbeats 4000000 in
theorem caught_calls (p3 p4 p5 : Value) (l : LvB) (w : World) (K : ∀ W, Below w.heap.size w W → Calls Tryd.prog 41 #[p3, p4, p5] W fun e w' => Made1 W l e w') :
    Calls Tryd.prog 40 #[.func (.func 41) #[] #[p3, p4, p5]] w fun e w' => Made2 w l e w' := by
  have hold : Below w.heap.size w ((w.alloc zlev).alloc (.cells #[.nilIface] 41)) := ((Below.refl _ _).alloc (Nat.le_refl _) _).alloc (by simp) _
  have K1 := hide (K _ hold)
  have HO := hide hold
  have hmf : ∀ (fn : Fn) (first cap : Array Value) (w : World), (Instr.makeFunc fn first cap).run Tryd.prog w = .ok (.func fn first cap) w := fun _ _ _ _ => rfl
  clear K hold
  go_enter_defers Tryd.func40, Tryd.ntmps40
  go_wp2_with (go_at_call 41; refine K1.out.mono ?_)
  rintro e w1 ⟨k, nm, A, la, lc, rfl, hp, hB⟩
  have hz1 := hB.size
  simp at hz1
  have hb0 : w1.heap[w.heap.size]? = some (.cells #[.int .i64 0, .string ⟨#[]⟩, .slice none 0 0] 28 (0, 0)) := by
    rw [hB.block w.heap.size (by simp; omega), Below.heap_alloc _ _ _ (by simp)]
    exact heap_alloc_new w zlev
  have hb1 : w1.heap[w.heap.size + 1]? = some (.cells #[.nilIface] 41 (0, 0)) := by
    rw [hB.block (w.heap.size + 1) (by simp)]
    have := heap_alloc_new (w.alloc zlev) (.cells #[.nilIface] 41)
    simpa using this
  have d0 : w1.cell? ⟨w.heap.size, 0, none⟩ = some (.int .i64 0) := by simp [World.cell?, hb0]
  have d1 : w1.cell? ⟨w.heap.size, 1, none⟩ = some (.string ⟨#[]⟩) := by simp [World.cell?, hb0]
  have d2 : w1.cell? ⟨w.heap.size, 2, none⟩ = some (.slice none 0 0) := by simp [World.cell?, hb0]
  have d3 : ∀ i, w1.frozen? ⟨w.heap.size, i, none⟩ = false := fun i => by simp [World.frozen?, hb0]
  have e4 : w1.cell? ⟨w.heap.size + 1, 0, none⟩ = some .nilIface := by simp [World.cell?, hb1]
  have e5 : ∀ i, w1.frozen? ⟨w.heap.size + 1, i, none⟩ = false := fun i => by simp [World.frozen?, hb1]
  have d4 : w.heap.size < w1.heap.size := by omega
  have e7 : w.heap.size + 1 < w1.heap.size := by omega
  have HP := hide hp
  have HB := hide (HO.out.trans (hB.mono (by simp; omega)))
  clear hp hB hb0 hb1
  go_wp2_with fail
  refine leaves_cons (f := 52) (args := #[.pointer (some ⟨w.heap.size, 0, none⟩), .pointer (some ⟨w.heap.size + 1, 0, none⟩)]) (by simp) (by simp [go_sem]) ?_
  refine (catch_idle ⟨w.heap.size, 0, none⟩ ⟨w.heap.size + 1, 0, none⟩ _).mono ?_
  rintro e u' w'' ⟨rfl, rfl, rfl⟩
  simp [Leaves, settle, results, Tryd.results40, go_sem, d0, d1, d2, e4]
  refine ⟨k, nm, A, la, lc, by first | rfl | simp, ?_, ?_⟩
  · refine HP.out.keep fun b hb hS => ⟨by simp at hS; omega, ?_⟩
    simp at hS
    rw [Below.heap_setCell _ _ _ _ (by show b ≠ w.heap.size + 1; omega)]
    exact three_set (by omega) _ _ _
  · exact (three_below HB.out (Nat.le_refl _) _ _ _).setCell (p := ⟨w.heap.size + 1, 0, none⟩) (Nat.le_succ _) _

/-- The boxes of Read's three parameters. -/
abbrev boxes (w : World) (s : ByteArray) : World := (((w.alloc (.cells #[.string s] 9)).alloc (.cells #[.int .i64 20000] 3)).alloc (.cells #[.func (.func 25) #[] #[]] 63)).alloc zlev
theorem boxes_at (w : World) (s : ByteArray) : Below w.heap.size w (boxes w s) ∧ (boxes w s).cell? ⟨w.heap.size, 0, none⟩ = some (.string s) ∧ (boxes w s).cell? ⟨w.heap.size + 1, 0, none⟩ = some (.int .i64 20000) ∧ (boxes w s).cell? ⟨w.heap.size + 1 + 1, 0, none⟩ = some (.func (.func 25) #[] #[]) ∧ (boxes w s).heap[w.heap.size + 1 + 1 + 1]? = some zlev := by
  refine ⟨((((Below.refl _ _).alloc (Nat.le_refl _) _).alloc (by simp) _).alloc (by simp <;> omega) _).alloc (by simp <;> omega) _, ?_, ?_, ?_, ?_⟩
  · rw [World.cell?_alloc_past _ _ _ (by simp <;> omega), World.cell?_alloc_past _ _ _ (by simp <;> omega), World.cell?_alloc_past _ _ _ (by simp)]; simp [World.cell?_alloc_at]
  · rw [World.cell?_alloc_past _ _ _ (by simp <;> omega), World.cell?_alloc_past _ _ _ (by simp)]; simp [World.cell?_alloc_at]
  · rw [World.cell?_alloc_past _ _ _ (by simp)]; simp [World.cell?_alloc_at]
  · have := heap_alloc_new (((w.alloc (.cells #[.string s] 9)).alloc (.cells #[.int .i64 20000] 3)).alloc (.cells #[.func (.func 25) #[] #[]] 63)) zlev
    simpa using this

set_option maxRecDepth 100000 in
set_option maxHeartbeats 4000000 in
theorem read_calls (s : ByteArray) (l : LvB) (p' : Nat) (w : World) (hs : s.size ≤ 20000) (hr : Reads s l 0 p') (he : runTo blankB s p' = s.size) (ht : Tabs w) :
    Calls Tryd.prog 24 #[.string s, .int .i64 20000, .func (.func 25) #[] #[]] w fun e w' => Made2 w l e w' := by
  obtain ⟨hold, x3, x4, x5, xz⟩ := boxes_at w s
  have K1 := hide (caught_calls (.pointer (some ⟨w.heap.size, 0, none⟩)) (.pointer (some ⟨w.heap.size + 1, 0, none⟩)) (.pointer (some ⟨w.heap.size + 1 + 1, 0, none⟩)) l (boxes w s) fun W hW => read1_calls s l p' _ _ _ W hs hr he ((ht.below hold ht.lt).below hW (Nat.lt_of_lt_of_le ht.lt hold.size)) (cell_later hW x3) (cell_later hW x4) (cell_later hW x5))
  have HO := hide hold
  have HZ := hide xz
  have hmf : ∀ (fn : Fn) (first cap : Array Value) (w : World), (Instr.makeFunc fn first cap).run Tryd.prog w = .ok (.func fn first cap) w := fun _ _ _ _ => rfl
  clear hold x3 x4 x5 xz ht hr he
  go_enter Tryd.func24, Tryd.ntmps24
  go_wp2_with (go_at_call 40; refine K1.out.mono ?_)
  rintro e w1 ⟨k, nm, A, la, lc, rfl, hp, hB⟩
  have hz1 := hB.size
  simp at hz1
  have hb0 : w1.heap[w.heap.size + 1 + 1 + 1]? = some (.cells #[.int .i64 0, .string ⟨#[]⟩, .slice none 0 0] 28 (0, 0)) := by
    rw [hB.block (w.heap.size + 1 + 1 + 1) (by simp)]
    exact HZ.out
  have d0 : w1.cell? ⟨w.heap.size + 1 + 1 + 1, 0, none⟩ = some (.int .i64 0) := by simp [World.cell?, hb0]
  have d1 : w1.cell? ⟨w.heap.size + 1 + 1 + 1, 1, none⟩ = some (.string ⟨#[]⟩) := by simp [World.cell?, hb0]
  have d2 : w1.cell? ⟨w.heap.size + 1 + 1 + 1, 2, none⟩ = some (.slice none 0 0) := by simp [World.cell?, hb0]
  have d3 : ∀ i, w1.frozen? ⟨w.heap.size + 1 + 1 + 1, i, none⟩ = false := fun i => by simp [World.frozen?, hb0]
  have d4 : w.heap.size + 1 + 1 + 1 < w1.heap.size := by omega
  have HP := hide hp
  have HB := hide (HO.out.trans (hB.mono (by simp; omega)))
  clear hp hB hb0
  go_wp2_with fail
  refine bodyPost_ret (v := .tuple #[.agg #[.int .i64 k, .string nm, .slice A la lc], .nilIface]) (by simp [results, Tryd.results24, go_sem, d0, d1, d2]) rfl ?_
  refine ⟨k, nm, A, la, lc, rfl, ?_, three_below HB.out (by omega) _ _ _⟩
  refine HP.out.keep fun b hb hS => ⟨by simp at hS; omega, ?_⟩
  simp at hS
  exact three_set (by omega) _ _ _

end Go.Proofs.YtpdoegjddiaaoaaDoor
