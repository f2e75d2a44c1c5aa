/- The contract of notation.Read at a text that is a term. -/
import Derived.Test.YtnbpmmgekoclpaaGreatDoorPTerm
import Derived.Defers
import Derived.Recover
namespace Go.Proofs.YtnbpmmgekoclpaaGreatDoor
open Go.RowKit

theorem sfilled5' {w W : World} {p : Nat} {s : ByteArray} (hS : ScAt W (w.heap.size + 2) s p) (hT : Touched w (w.heap.size + 2) W) (u0 u1 u2 u3 u4 : Value) :
    ScAt (((((W.setCell ⟨w.heap.size, 0, none⟩ u0).setCell ⟨w.heap.size, 1, none⟩ u1).setCell ⟨w.heap.size, 2, none⟩ u2).setCell ⟨w.heap.size, 3, none⟩ u3).setCell ⟨w.heap.size, 4, none⟩ u4) (w.heap.size + 2) s p ∧
    Touched w (w.heap.size + 2) (((((W.setCell ⟨w.heap.size, 0, none⟩ u0).setCell ⟨w.heap.size, 1, none⟩ u1).setCell ⟨w.heap.size, 2, none⟩ u2).setCell ⟨w.heap.size, 3, none⟩ u3).setCell ⟨w.heap.size, 4, none⟩ u4) := by
  constructor
  · refine hS.of_block ?_
    rw [Below.heap_setCell _ _ _ _ (by show w.heap.size + 2 ≠ w.heap.size; omega), Below.heap_setCell _ _ _ _ (by show w.heap.size + 2 ≠ w.heap.size; omega), Below.heap_setCell _ _ _ _ (by show w.heap.size + 2 ≠ w.heap.size; omega), Below.heap_setCell _ _ _ _ (by show w.heap.size + 2 ≠ w.heap.size; omega), Below.heap_setCell _ _ _ _ (by show w.heap.size + 2 ≠ w.heap.size; omega)]
  · exact ((((hT.setNew (a := ⟨w.heap.size, 0, none⟩) (Nat.le_refl _) _).setNew (a := ⟨w.heap.size, 1, none⟩) (Nat.le_refl _) _).setNew (a := ⟨w.heap.size, 2, none⟩) (Nat.le_refl _) _).setNew (a := ⟨w.heap.size, 3, none⟩) (Nat.le_refl _) _).setNew (a := ⟨w.heap.size, 4, none⟩) (Nat.le_refl _) _

set_option maxRecDepth 100000 in
/-- The deferred closure, entered as a deferred call of a frame that returns: recover finds nothing: it turns nothing. -/
theorem catch_idle (p q : Addr) (w : World) :
    CallsD Tryz.prog 15 #[.pointer (some p), .pointer (some q)] .returning w fun e u' w' => e = .returned (.tuple #[]) ∧ u' = .returning ∧ w' = w := by
  refine callsD_of_wpS Tryz.func15 rfl fun c₀ cs hu => ?_
  apply wpS_seq
  apply wpS_region
  simp [wpOpsS, go_sem, recoverD, hu, Tryz.ntmps15, Exit.thenS]
  apply wpS_seq
  apply wpS_seq
  apply wpS_region
  simp [wpOpsS, go_sem, Exit.thenS]
  refine wpS_cond (t := true) (by simp [Act.eval, Array.replicate]) ?_
  simp only [if_true]
  refine wpS_of_wp (wp_ret ?_)
  cases c₀
  simp_all [bodyPostS, results, Tryz.results15, Exit.thenS]

set_option maxRecDepth 100000 in
set_option maxHeartbeats 4000000 in
theorem read_calls (s : ByteArray) (dd : Nat) (t : Tm) (p' : Nat) (w : World) (hs : s.size ≤ 20000) (hr : RT s dd t 0 p') (he : runTo blankB s p' = s.size) (ht : Tabs2 w) :
    Calls Tryz.prog 9 #[.string s, .int .i64 20000, .func (.func 10) #[] #[]] w fun e w' => ∃ (k n : Int) (nm : ByteArray) (A : Option Addr) (la lc : Nat) (A' : Option Addr) (ta tc : Nat), e = .returned (.tuple #[.agg #[.int .i64 k, .int .i64 n, .string nm, .slice A la lc, .slice A' ta tc], .nilIface]) ∧ InTm w' (fun b => w.heap.size ≤ b) dd t (.agg #[.int .i64 k, .int .i64 n, .string nm, .slice A la lc, .slice A' ta tc]) ∧ Below w.heap.size w w' := by
  have hlt := ht.lt
  have hold : Below w.heap.size w (((w.alloc ztm).alloc (.cells #[.nilIface] 32)).alloc (.cells #[.string s, .int .i64 0] 55)) := (((Below.refl _ _).alloc (Nat.le_refl _) _).alloc (by simp) _).alloc (by simp; omega) _
  have hS0 : ScAt (((w.alloc ztm).alloc (.cells #[.nilIface] 32)).alloc (.cells #[.string s, .int .i64 0] 55)) (w.heap.size + 2) s 0 := by
    have := heap_alloc_new ((w.alloc ztm).alloc (.cells #[.nilIface] 32)) (.cells #[.string s, .int .i64 0] 55)
    simpa [ScAt] using this
  have K1 := hide ((sterm_both s hs (w.heap.size + 2) (by omega) dd).1 t 0 p' _ hr (Nat.zero_le _) hS0 (ht.below hold hlt))
  have HTb := hide ht
  have HO := hide hold
  have HLe := hide hr.le
  have HE := hide he
  have hmf : ∀ (fn : Fn) (first cap : Array Value) (w : World), (Instr.makeFunc fn first cap).run Tryz.prog w = .ok (.func fn first cap) w := fun _ _ _ _ => rfl
  clear ht hold hS0 hr he
  go_enter_defers Tryz.func9, Tryz.ntmps9
  go_wp2_with (go_at_call 10; refine K1.out.mono ?_)
  rintro e w1 ⟨k, n, nm, A, la, lc, A', ta, tc, rfl, hp, hS1, hT1⟩
  have hz1 := hT1.size
  simp at hz1
  have hb0 : w1.heap[w.heap.size]? = some (.cells #[.int .i64 0, .int .i64 0, .string ⟨#[]⟩, .slice none 0 0, .slice none 0 0] 30 (0, 0)) := by
    rw [hT1.block w.heap.size (by simp; omega) (by simp), Below.heap_alloc _ _ _ (by simp; omega), Below.heap_alloc _ _ _ (by simp)]
    exact heap_alloc_new w ztm
  have hb1 : w1.heap[w.heap.size + 1]? = some (.cells #[.nilIface] 32 (0, 0)) := by
    rw [hT1.block (w.heap.size + 1) (by simp) (by simp), Below.heap_alloc _ _ _ (by simp)]
    have := heap_alloc_new (w.alloc ztm) (.cells #[.nilIface] 32)
    simpa using this
  have d0 : w1.cell? ⟨w.heap.size, 0, none⟩ = some (.int .i64 0) := by simp [World.cell?, hb0]
  have d1 : w1.cell? ⟨w.heap.size, 1, none⟩ = some (.int .i64 0) := by simp [World.cell?, hb0]
  have d2 : w1.cell? ⟨w.heap.size, 2, none⟩ = some (.string ⟨#[]⟩) := by simp [World.cell?, hb0]
  have dx3 : w1.cell? ⟨w.heap.size, 3, none⟩ = some (.slice none 0 0) := by simp [World.cell?, hb0]
  have dx4 : w1.cell? ⟨w.heap.size, 4, none⟩ = some (.slice none 0 0) := by simp [World.cell?, hb0]
  have d3 : ∀ i, w1.frozen? ⟨w.heap.size, i, none⟩ = false := fun i => by simp [World.frozen?, hb0]
  have d4 : w.heap.size < w1.heap.size := by omega
  have hTw : Touched w (w.heap.size + 2) w1 := (Touched.of_below HO.out).trans hT1
  have hf := sfilled5' hS1 hTw (.int .i64 k) (.int .i64 n) (.string nm) (.slice A la lc) (.slice A' ta tc)
  have hB0 : (((((w1.setCell ⟨w.heap.size, 0, none⟩ (.int .i64 k)).setCell ⟨w.heap.size, 1, none⟩ (.int .i64 n)).setCell ⟨w.heap.size, 2, none⟩ (.string nm)).setCell ⟨w.heap.size, 3, none⟩ (.slice A la lc)).setCell ⟨w.heap.size, 4, none⟩ (.slice A' ta tc)).heap[w.heap.size]? = some (.cells #[.int .i64 k, .int .i64 n, .string nm, .slice A la lc, .slice A' ta tc] 30 (0, 0)) := by
    simp [World.setCell, Array.getElem?_modify, hb0]
  have hB1 : (((((w1.setCell ⟨w.heap.size, 0, none⟩ (.int .i64 k)).setCell ⟨w.heap.size, 1, none⟩ (.int .i64 n)).setCell ⟨w.heap.size, 2, none⟩ (.string nm)).setCell ⟨w.heap.size, 3, none⟩ (.slice A la lc)).setCell ⟨w.heap.size, 4, none⟩ (.slice A' ta tc)).heap[w.heap.size + 1]? = some (.cells #[.nilIface] 32 (0, 0)) := by
    rw [Below.heap_setCell _ _ _ _ (by show w.heap.size + 1 ≠ w.heap.size; omega), Below.heap_setCell _ _ _ _ (by show w.heap.size + 1 ≠ w.heap.size; omega), Below.heap_setCell _ _ _ _ (by show w.heap.size + 1 ≠ w.heap.size; omega), Below.heap_setCell _ _ _ _ (by show w.heap.size + 1 ≠ w.heap.size; omega), Below.heap_setCell _ _ _ _ (by show w.heap.size + 1 ≠ w.heap.size; omega)]
    exact hb1
  have hIn : ∀ b, w.heap.size + 3 ≤ b → (((((w1.setCell ⟨w.heap.size, 0, none⟩ (.int .i64 k)).setCell ⟨w.heap.size, 1, none⟩ (.int .i64 n)).setCell ⟨w.heap.size, 2, none⟩ (.string nm)).setCell ⟨w.heap.size, 3, none⟩ (.slice A la lc)).setCell ⟨w.heap.size, 4, none⟩ (.slice A' ta tc)).heap[b]? = w1.heap[b]? := fun b hb => by
    rw [Below.heap_setCell _ _ _ _ (by show b ≠ w.heap.size; omega), Below.heap_setCell _ _ _ _ (by show b ≠ w.heap.size; omega), Below.heap_setCell _ _ _ _ (by show b ≠ w.heap.size; omega), Below.heap_setCell _ _ _ _ (by show b ≠ w.heap.size; omega), Below.heap_setCell _ _ _ _ (by show b ≠ w.heap.size; omega)]
  have hsz : (((((w1.setCell ⟨w.heap.size, 0, none⟩ (.int .i64 k)).setCell ⟨w.heap.size, 1, none⟩ (.int .i64 n)).setCell ⟨w.heap.size, 2, none⟩ (.string nm)).setCell ⟨w.heap.size, 3, none⟩ (.slice A la lc)).setCell ⟨w.heap.size, 4, none⟩ (.slice A' ta tc)).heap.size = w1.heap.size := by simp [World.setCell]
  have HP : Hid (InTm w1 (fun b => w.heap.size + 3 ≤ b) dd t (.agg #[.int .i64 k, .int .i64 n, .string nm, .slice A la lc, .slice A' ta tc])) := hp.keep fun b _ hb => ⟨by simpa using hb, rfl⟩
  have K2 := hide (expect_calls (w.heap.size + 2) s p' 0 _ _ _ [0] (.slice (some ⟨w1.heap.size, 0, none⟩) 1 1) _ (end_nexts hs HLe.out HE.out) (hf.1.alloc (.cells #[.int .i64 0] 56)) ((HTb.out.touched hf.2 (by omega)).a.below ((Below.refl _ _).alloc (Nat.le_refl _) _) (by rw [hsz]; omega)) (by omega) ⟨by simp, w1.heap.size, 1, rfl, fun i hi => by match i, hi with | 0, _ => simp [World.cell?_alloc_at, hsz]⟩ (fun b n cap e => by injection e with e; injection e with e; injection e with e; omega) (by simp))
  have HTf := hide hf.2
  have HB0 := hide hB0
  have HB1 := hide hB1
  have HIn := hide hIn
  have HSz := hide hsz
  clear hf hb0 hb1 hB0 hB1 hIn hp hS1 hT1 hTw hsz
  go_wp2_with (go_at_call 16; refine K2.out.mono ?_)
  rintro e w2 ⟨rfl, hS2, hT2⟩
  have hz2 := hT2.size
  simp [HSz.out] at hz2
  have hc0 : w2.heap[w.heap.size]? = some (.cells #[.int .i64 k, .int .i64 n, .string nm, .slice A la lc, .slice A' ta tc] 30 (0, 0)) := by
    rw [hT2.block w.heap.size (by simp; omega) (by simp), Below.heap_alloc _ _ _ (by rw [HSz.out]; omega)]
    exact HB0.out
  have hc1 : w2.heap[w.heap.size + 1]? = some (.cells #[.nilIface] 32 (0, 0)) := by
    rw [hT2.block (w.heap.size + 1) (by simp; omega) (by simp), Below.heap_alloc _ _ _ (by rw [HSz.out]; omega)]
    exact HB1.out
  have e0 : w2.cell? ⟨w.heap.size, 0, none⟩ = some (.int .i64 k) := by simp [World.cell?, hc0]
  have e1 : w2.cell? ⟨w.heap.size, 1, none⟩ = some (.int .i64 n) := by simp [World.cell?, hc0]
  have e2 : w2.cell? ⟨w.heap.size, 2, none⟩ = some (.string nm) := by simp [World.cell?, hc0]
  have ex3 : w2.cell? ⟨w.heap.size, 3, none⟩ = some (.slice A la lc) := by simp [World.cell?, hc0]
  have ex4 : w2.cell? ⟨w.heap.size, 4, none⟩ = some (.slice A' ta tc) := by simp [World.cell?, hc0]
  have e3 : ∀ i, w2.frozen? ⟨w.heap.size, i, none⟩ = false := fun i => by simp [World.frozen?, hc0]
  have e4 : w2.cell? ⟨w.heap.size + 1, 0, none⟩ = some .nilIface := by simp [World.cell?, hc1]
  have e5 : ∀ i, w2.frozen? ⟨w.heap.size + 1, i, none⟩ = false := fun i => by simp [World.frozen?, hc1]
  have e6 : w.heap.size < w2.heap.size := by omega
  have e7 : w.heap.size + 1 < w2.heap.size := by omega
  have HT2 := hide hT2
  clear hS2 hT2 d0 d1 d2 dx3 dx4 d3 d4 hc0 hc1
  go_wp2_with fail
  refine leaves_cons (f := 15) (args := #[.pointer (some ⟨w.heap.size, 0, none⟩), .pointer (some ⟨w.heap.size + 1, 0, none⟩)]) (by simp) (by simp [go_sem]) ?_
  refine (catch_idle ⟨w.heap.size, 0, none⟩ ⟨w.heap.size + 1, 0, none⟩ _).mono ?_
  rintro e u' w'' ⟨rfl, rfl, rfl⟩
  simp [Leaves, settle, results, Tryz.results9, go_sem, e0, e1, e2, ex3, ex4, e4]
  refine ⟨k, n, nm, A, la, lc, A', ta, tc, ⟨rfl, rfl, rfl, ⟨rfl, rfl, rfl⟩, rfl, rfl, rfl⟩, ?_, ?_⟩
  · have hk := HP.out.keep (w' := (((((w2.setCell ⟨w.heap.size, 0, none⟩ (.int .i64 k)).setCell ⟨w.heap.size, 1, none⟩ (.int .i64 n)).setCell ⟨w.heap.size, 2, none⟩ (.string nm)).setCell ⟨w.heap.size, 3, none⟩ (.slice A la lc)).setCell ⟨w.heap.size, 4, none⟩ (.slice A' ta tc)).setCell ⟨w.heap.size + 1, 0, none⟩ .nilIface) (S' := fun b => w.heap.size ≤ b) fun b hb hS => ⟨by omega, by
      rw [Below.heap_setCell _ _ _ _ (by show b ≠ w.heap.size + 1; omega), Below.heap_setCell _ _ _ _ (by show b ≠ w.heap.size; omega), Below.heap_setCell _ _ _ _ (by show b ≠ w.heap.size; omega), Below.heap_setCell _ _ _ _ (by show b ≠ w.heap.size; omega), Below.heap_setCell _ _ _ _ (by show b ≠ w.heap.size; omega), Below.heap_setCell _ _ _ _ (by show b ≠ w.heap.size; omega),
        HT2.out.block b (by simp [HSz.out]; omega) (by simp; omega), Below.heap_alloc _ _ _ (by rw [HSz.out]; exact hb)]
      exact HIn.out b hS⟩
    exact hk
  · have ht := (HTf.out.trans (Touched.alloc _ _ _)).trans HT2.out
    have hb := ht.below (B := w.heap.size) (Nat.le_refl _) (by omega)
    exact (((((hb.setCell (p := ⟨w.heap.size, 0, none⟩) (Nat.le_refl _) _).setCell (p := ⟨w.heap.size, 1, none⟩) (Nat.le_refl _) _).setCell (p := ⟨w.heap.size, 2, none⟩) (Nat.le_refl _) _).setCell (p := ⟨w.heap.size, 3, none⟩) (Nat.le_refl _) _).setCell (p := ⟨w.heap.size, 4, none⟩) (Nat.le_refl _) _).setCell (p := ⟨w.heap.size + 1, 0, none⟩) (Nat.le_succ _) _

end Go.Proofs.YtnbpmmgekoclpaaGreatDoor
