/- The contracts of notation.Read and level.Parse at a text that is a level. -/
import Derived.Test.YtkfdfepomdhiaaaDoorBrack
import Derived.Defers
import Derived.Recover
namespace Go.Proofs.YtkfdfepomdhiaaaDoor
open Go.RowKit

set_option maxRecDepth 100000 in
/-- The deferred closure, entered as a deferred call of a frame that returns: recover finds nothing: it turns nothing. -/
theorem catch_idle (p q : Addr) (w : World) :
    CallsD Tryd.prog 14 #[.pointer (some p), .pointer (some q)] .returning w fun e u' w' => e = .returned (.tuple #[]) ∧ u' = .returning ∧ w' = w := by
  refine callsD_of_wpS Tryd.func14 rfl fun c₀ cs hu => ?_
  apply wpS_seq
  apply wpS_region
  simp [wpOpsS, go_sem, recoverD, hu, Tryd.ntmps14, Exit.thenS]
  apply wpS_seq
  apply wpS_seq
  apply wpS_region
  simp [wpOpsS, go_sem, Exit.thenS]
  refine wpS_cond (t := true) (by simp [Act.eval, Array.replicate]) ?_
  simp only [if_true]
  refine wpS_of_wp (wp_ret ?_)
  cases c₀
  simp_all [bodyPostS, results, Tryd.results14, Exit.thenS]

set_option maxRecDepth 100000 in
set_option maxHeartbeats 4000000 in
theorem read_calls (s : ByteArray) (l : LvB) (p' : Nat) (w : World) (hs : s.size ≤ 20000) (hr : Reads s l 0 p') (he : runTo blankB s p' = s.size) (ht : Tabs w) :
    Calls Tryd.prog 9 #[.string s, .int .i64 20000, .func (.func 10) #[] #[]] w fun e w' => ∃ (k : Int) (nm : ByteArray) (A : Option Addr) (n cap : Nat), e = .returned (.tuple #[.agg #[.int .i64 k, .string nm, .slice A n cap], .nilIface]) ∧ InP w' (fun b => w.heap.size ≤ b) l (.agg #[.int .i64 k, .string nm, .slice A n cap]) ∧ Below w.heap.size w w' := by
  have hlt := ht.lt
  have hold : Below w.heap.size w (((w.alloc zlev).alloc (.cells #[.nilIface] 31)).alloc (.cells #[.string s, .int .i64 0] 53)) := (((Below.refl _ _).alloc (Nat.le_refl _) _).alloc (by simp) _).alloc (by simp; omega) _
  have hS0 : ScAt (((w.alloc zlev).alloc (.cells #[.nilIface] 31)).alloc (.cells #[.string s, .int .i64 0] 53)) (w.heap.size + 2) s 0 := by
    have := heap_alloc_new ((w.alloc zlev).alloc (.cells #[.nilIface] 31)) (.cells #[.string s, .int .i64 0] 53)
    simpa [ScAt] using this
  have K1 := hide (slevel_calls s hs (w.heap.size + 2) (by omega) l.nodes l 0 p' _ (Nat.le_refl _) hr (Nat.zero_le _) hS0 (ht.below hold hlt))
  have HTb := hide ht
  have HO := hide hold
  have HLe := hide hr.le
  have HE := hide he
  have hmf : ∀ (fn : Fn) (first cap : Array Value) (w : World), (Instr.makeFunc fn first cap).run Tryd.prog w = .ok (.func fn first cap) w := fun _ _ _ _ => rfl
  clear ht hold hS0 hr he
  go_enter_defers Tryd.func9, Tryd.ntmps9
  go_wp2_with (go_at_call 10; refine K1.out.mono ?_)
  rintro e w1 ⟨k, nm, A, n, cap, rfl, hp, hS1, hT1⟩
  have hz1 := hT1.size
  simp at hz1
  have hb0 : w1.heap[w.heap.size]? = some (.cells #[.int .i64 0, .string ⟨#[]⟩, .slice none 0 0] 29 (0, 0)) := by
    rw [hT1.block w.heap.size (by simp; omega) (by simp), Below.heap_alloc _ _ _ (by simp; omega), Below.heap_alloc _ _ _ (by simp)]
    exact heap_alloc_new w zlev
  have hb1 : w1.heap[w.heap.size + 1]? = some (.cells #[.nilIface] 31 (0, 0)) := by
    rw [hT1.block (w.heap.size + 1) (by simp) (by simp), Below.heap_alloc _ _ _ (by simp)]
    have := heap_alloc_new (w.alloc zlev) (.cells #[.nilIface] 31)
    simpa using this
  have d0 : w1.cell? ⟨w.heap.size, 0, none⟩ = some (.int .i64 0) := by simp [World.cell?, hb0]
  have d1 : w1.cell? ⟨w.heap.size, 1, none⟩ = some (.string ⟨#[]⟩) := by simp [World.cell?, hb0]
  have d2 : w1.cell? ⟨w.heap.size, 2, none⟩ = some (.slice none 0 0) := by simp [World.cell?, hb0]
  have d3 : ∀ i, w1.frozen? ⟨w.heap.size, i, none⟩ = false := fun i => by simp [World.frozen?, hb0]
  have d4 : w.heap.size < w1.heap.size := by omega
  have hTw : Touched w (w.heap.size + 2) w1 := (Touched.of_below HO.out).trans hT1
  have hf := filled3 (Nat.le_refl w.heap.size) (by omega) hS1 hTw (.int .i64 k) (.string nm) (.slice A n cap)
  have hB0 : (((w1.setCell ⟨w.heap.size, 0, none⟩ (.int .i64 k)).setCell ⟨w.heap.size, 1, none⟩ (.string nm)).setCell ⟨w.heap.size, 2, none⟩ (.slice A n cap)).heap[w.heap.size]? = some (.cells #[.int .i64 k, .string nm, .slice A n cap] 29 (0, 0)) := by
    simp [World.setCell, Array.getElem?_modify, hb0]
  have hB1 : (((w1.setCell ⟨w.heap.size, 0, none⟩ (.int .i64 k)).setCell ⟨w.heap.size, 1, none⟩ (.string nm)).setCell ⟨w.heap.size, 2, none⟩ (.slice A n cap)).heap[w.heap.size + 1]? = some (.cells #[.nilIface] 31 (0, 0)) := by
    rw [Below.heap_setCell _ _ _ _ (by show w.heap.size + 1 ≠ w.heap.size; omega), Below.heap_setCell _ _ _ _ (by show w.heap.size + 1 ≠ w.heap.size; omega), Below.heap_setCell _ _ _ _ (by show w.heap.size + 1 ≠ w.heap.size; omega)]
    exact hb1
  have hIn : ∀ b, w.heap.size + 3 ≤ b → (((w1.setCell ⟨w.heap.size, 0, none⟩ (.int .i64 k)).setCell ⟨w.heap.size, 1, none⟩ (.string nm)).setCell ⟨w.heap.size, 2, none⟩ (.slice A n cap)).heap[b]? = w1.heap[b]? := fun b hb => by
    rw [Below.heap_setCell _ _ _ _ (by show b ≠ w.heap.size; omega), Below.heap_setCell _ _ _ _ (by show b ≠ w.heap.size; omega), Below.heap_setCell _ _ _ _ (by show b ≠ w.heap.size; omega)]
  have hsz : (((w1.setCell ⟨w.heap.size, 0, none⟩ (.int .i64 k)).setCell ⟨w.heap.size, 1, none⟩ (.string nm)).setCell ⟨w.heap.size, 2, none⟩ (.slice A n cap)).heap.size = w1.heap.size := by simp [World.setCell]
  have HP : Hid (InP w1 (fun b => w.heap.size + 3 ≤ b) l (.agg #[.int .i64 k, .string nm, .slice A n cap])) := hp.keep fun b _ hb => ⟨by simpa using hb, rfl⟩
  have K2 := hide (expect_calls (w.heap.size + 2) s p' 0 _ _ _ [0] (.slice (some ⟨w1.heap.size, 0, none⟩) 1 1) _ (end_nexts hs HLe.out HE.out) (hf.1.alloc (.cells #[.int .i64 0] 54)) ((HTb.out.touched hf.2 (by omega)).below ((Below.refl _ _).alloc (Nat.le_refl _) _) (by rw [hsz]; omega)) (by omega) ⟨by simp, w1.heap.size, 1, rfl, fun i hi => by match i, hi with | 0, _ => simp [World.cell?_alloc_at, hsz]⟩ (fun b n cap e => by injection e with e; injection e with e; injection e with e; omega) (by simp))
  have HTf := hide hf.2
  have HB0 := hide hB0
  have HB1 := hide hB1
  have HIn := hide hIn
  have HSz := hide hsz
  clear hf hb0 hb1 hB0 hB1 hIn hp hS1 hT1 hTw hsz
  go_wp2_with (go_at_call 15; refine K2.out.mono ?_)
  rintro e w2 ⟨rfl, hS2, hT2⟩
  have hz2 := hT2.size
  simp [HSz.out] at hz2
  have hc0 : w2.heap[w.heap.size]? = some (.cells #[.int .i64 k, .string nm, .slice A n cap] 29 (0, 0)) := by
    rw [hT2.block w.heap.size (by simp; omega) (by simp), Below.heap_alloc _ _ _ (by rw [HSz.out]; omega)]
    exact HB0.out
  have hc1 : w2.heap[w.heap.size + 1]? = some (.cells #[.nilIface] 31 (0, 0)) := by
    rw [hT2.block (w.heap.size + 1) (by simp; omega) (by simp), Below.heap_alloc _ _ _ (by rw [HSz.out]; omega)]
    exact HB1.out
  have e0 : w2.cell? ⟨w.heap.size, 0, none⟩ = some (.int .i64 k) := by simp [World.cell?, hc0]
  have e1 : w2.cell? ⟨w.heap.size, 1, none⟩ = some (.string nm) := by simp [World.cell?, hc0]
  have e2 : w2.cell? ⟨w.heap.size, 2, none⟩ = some (.slice A n cap) := by simp [World.cell?, hc0]
  have e3 : ∀ i, w2.frozen? ⟨w.heap.size, i, none⟩ = false := fun i => by simp [World.frozen?, hc0]
  have e4 : w2.cell? ⟨w.heap.size + 1, 0, none⟩ = some .nilIface := by simp [World.cell?, hc1]
  have e5 : ∀ i, w2.frozen? ⟨w.heap.size + 1, i, none⟩ = false := fun i => by simp [World.frozen?, hc1]
  have e6 : w.heap.size < w2.heap.size := by omega
  have e7 : w.heap.size + 1 < w2.heap.size := by omega
  have HT2 := hide hT2
  clear hS2 hT2 d0 d1 d2 d3 d4 hc0 hc1
  go_wp2_with fail
  refine leaves_cons (f := 14) (args := #[.pointer (some ⟨w.heap.size, 0, none⟩), .pointer (some ⟨w.heap.size + 1, 0, none⟩)]) (by simp) (by simp [go_sem]) ?_
  refine (catch_idle ⟨w.heap.size, 0, none⟩ ⟨w.heap.size + 1, 0, none⟩ _).mono ?_
  rintro e u' w'' ⟨rfl, rfl, rfl⟩
  simp [Leaves, settle, results, Tryd.results9, go_sem, e0, e1, e2, e4]
  refine ⟨k, nm, A, n, cap, ⟨rfl, rfl, rfl, rfl, rfl⟩, ?_, ?_⟩
  · have hk := HP.out.keep (w' := (((w2.setCell ⟨w.heap.size, 0, none⟩ (.int .i64 k)).setCell ⟨w.heap.size, 1, none⟩ (.string nm)).setCell ⟨w.heap.size, 2, none⟩ (.slice A n cap)).setCell ⟨w.heap.size + 1, 0, none⟩ .nilIface) (S' := fun b => w.heap.size ≤ b) fun b hb hS => ⟨by omega, by
      rw [Below.heap_setCell _ _ _ _ (by show b ≠ w.heap.size + 1; omega), Below.heap_setCell _ _ _ _ (by show b ≠ w.heap.size; omega), Below.heap_setCell _ _ _ _ (by show b ≠ w.heap.size; omega), Below.heap_setCell _ _ _ _ (by show b ≠ w.heap.size; omega),
        HT2.out.block b (by simp [HSz.out]; omega) (by simp; omega), Below.heap_alloc _ _ _ (by rw [HSz.out]; exact hb)]
      exact HIn.out b hS⟩
    exact hk
  · have ht := (HTf.out.trans (Touched.alloc _ _ _)).trans HT2.out
    have hb := ht.below (B := w.heap.size) (Nat.le_refl _) (by omega)
    exact (((hb.setCell (p := ⟨w.heap.size, 0, none⟩) (Nat.le_refl _) _).setCell (p := ⟨w.heap.size, 1, none⟩) (Nat.le_refl _) _).setCell (p := ⟨w.heap.size, 2, none⟩) (Nat.le_refl _) _).setCell (p := ⟨w.heap.size + 1, 0, none⟩) (Nat.le_succ _) _

end Go.Proofs.YtkfdfepomdhiaaaDoor
