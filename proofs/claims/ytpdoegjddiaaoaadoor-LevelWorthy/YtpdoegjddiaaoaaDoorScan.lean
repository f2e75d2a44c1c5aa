/- The contract of the scanner's skip: it moves over a run of bytes. -/
import Derived.Test.YtpdoegjddiaaoaaDoorBytes
import Derived.Test.YtpdoegjddiaaoaaDoorLater
import Derived.Test.YtpdoegjddiaaoaaDoorWrite
namespace Go.Proofs.YtpdoegjddiaaoaaDoor
open Go.RowKit

/-- The scanner of a text, at a place. -/
def ScAt (w : World) (sc : Nat) (s : ByteArray) (p : Nat) : Prop := w.heap[sc]? = some (.cells #[.string s, .int .i64 (p : Nat)] 85 (0, 0))
section
variable {w w' : World} {sc p : Nat} {s : ByteArray}
theorem ScAt.lt (h : ScAt w sc s p) : sc < w.heap.size := (Array.getElem?_eq_some_iff.1 h).1
theorem ScAt.c0 (h : ScAt w sc s p) : w.cell? ⟨sc, 0, none⟩ = some (.string s) := by unfold ScAt at h; simp [World.cell?, h]
theorem ScAt.c1 (h : ScAt w sc s p) : w.cell? ⟨sc, 1, none⟩ = some (.int .i64 (p : Nat)) := by unfold ScAt at h; simp [World.cell?, h]
theorem ScAt.f (h : ScAt w sc s p) (i : Nat) : w.frozen? ⟨sc, i, none⟩ = false := by unfold ScAt at h; simp [World.frozen?, h]
theorem ScAt.set (h : ScAt w sc s p) (q : Nat) : ScAt (w.setCell ⟨sc, 1, none⟩ (.int .i64 (q : Nat))) sc s q := by unfold ScAt at *; simp [World.setCell, Array.getElem?_modify, h]
theorem ScAt.of_block (h : ScAt w sc s p) (he : w'.heap[sc]? = w.heap[sc]?) : ScAt w' sc s p := by unfold ScAt at *; rw [he]; exact h
theorem ScAt.alloc (h : ScAt w sc s p) (o : Obj) : ScAt (w.alloc o) sc s p := h.of_block (Below.heap_alloc _ _ _ h.lt)
theorem ScAt.below (h : ScAt w sc s p) (hb : Below w.heap.size w w') : ScAt w' sc s p := h.of_block (hb.block _ h.lt)
end

theorem Touched.setSelf {w w' : World} {m : Nat} (h : Touched w m w') {a : Addr} (ha : a.block = m) (u : Value) : Touched w m (w'.setCell a u) :=
  ⟨h.os, h.tape, h.output, by simp [World.setCell]; exact h.size, fun k hk hne => by rw [Below.heap_setCell _ _ _ _ (by rw [ha]; intro e; exact hne (by rw [e]))]; exact h.block k hk hne⟩
theorem Touched.later {w w' w'' : World} {m : Nat} (h : Touched w m w') (hb : Below w'.heap.size w' w'') : Touched w m w'' := h.trans (Touched.of_below hb)

/-- The numbers of the table of shapes, as they are laid. -/
structure Parts (w : World) : Prop where
  n0 : w.cell? ⟨0, 1, none⟩ = some (.int .i64 0)
  n1 : w.cell? ⟨0, 3, none⟩ = some (.int .i64 1)
  n2 : w.cell? ⟨0, 5, none⟩ = some (.int .i64 2)
  n3 : w.cell? ⟨0, 7, none⟩ = some (.int .i64 2)
  n4 : w.cell? ⟨0, 9, none⟩ = some (.int .i64 0)

/-- The two tables, as they are laid. -/
structure Tabs (w : World) : Prop where
  t : Table w
  s : Spans w
  n : Parts w
theorem Tabs.of_blocks {w w' : World} (h : Tabs w) (h0 : w'.heap[0]? = w.heap[0]?) (h1 : w'.heap[1]? = w.heap[1]?) : Tabs w' :=
  ⟨⟨(World.cell?_of_block h0).trans h.t.t0, (World.cell?_of_block h0).trans h.t.t1, (World.cell?_of_block h0).trans h.t.t2, (World.cell?_of_block h0).trans h.t.t3, (World.cell?_of_block h0).trans h.t.t4⟩, h.s.of_block h1, ⟨(World.cell?_of_block h0).trans h.n.n0, (World.cell?_of_block h0).trans h.n.n1, (World.cell?_of_block h0).trans h.n.n2, (World.cell?_of_block h0).trans h.n.n3, (World.cell?_of_block h0).trans h.n.n4⟩⟩
theorem Tabs.lt {w : World} (h : Tabs w) : 1 < w.heap.size := World.block_lt_of_cell? _ _ h.s.c0
theorem Tabs.touched {w w' : World} {sc : Nat} (h : Tabs w) (ht : Touched w sc w') (hs : 1 < sc) : Tabs w' :=
  h.of_blocks (ht.block 0 (by have := h.lt; omega) (by simp; omega)) (ht.block 1 h.lt (by simp; omega))
theorem Tabs.below {w w' : World} {B : Nat} (h : Tabs w) (hb : Below B w w') (hs : 1 < B) : Tabs w' := h.of_blocks (hb.block 0 (by omega)) (hb.block 1 hs)

/-- A test of a byte. -/
structure Tests (F : FuncId) (f : Nat → Bool) : Prop where
  enter : ∀ (args : Array Value) (w' : World), Sem.run Tryd.prog (callFunc F args) w' = .ok (.enter F args) w'
  calls : ∀ (c : Nat) (w : World), c < 256 → Tabs w → Calls Tryd.prog F #[.int .u8 c] w fun e w' => e = .returned (.bool (f c)) ∧ Below w.heap.size w w'

theorem digit_tests : Tests 64 digitB := ⟨fun args w' => by simp [go_sem], fun c w hc _ => isDigit_calls c w hc⟩
theorem name_tests : Tests 67 (fun c => nameB c false) := ⟨fun args w' => by simp [go_sem], fun c w hc ht => continuesName_calls c w hc ht.s⟩

set_option maxRecDepth 100000 in
set_option maxHeartbeats 4000000 in
theorem skip_calls (F : FuncId) (f : Nat → Bool) (hF : Tests F f) (sc : Nat) (s : ByteArray) (p : Nat) (w : World) (h : ScAt w sc s p) (hs : s.size ≤ 20000) (hp : p ≤ s.size) (ht : Tabs w) (hsc : 1 < sc) :
    Calls Tryd.prog 59 #[.pointer (some ⟨sc, 0, none⟩), .func (.func F) #[] #[]] w fun e w' => e = .returned (.tuple #[]) ∧ ScAt w' sc s (runTo f s p) ∧ Touched w sc w' := by
  have HF := hide hF
  have HT := hide ht
  have H0 := hide h
  have hen := hF.enter
  clear hF ht h
  go_enter Tryd.func59, Tryd.ntmps59
  go_wp2_with fail
  go_loopg [] (s.size - p) (fun g wr => ∃ k : Nat, k + g = s.size ∧ Hid (runTo f s k = runTo f s p) ∧ Hid (ScAt wr sc s k) ∧ Hid (Touched w sc wr))
  case atStart => exact ⟨p, by omega, rfl, H0, Touched.refl _ _⟩
  case round =>
    obtain ⟨k, hkg, HR, HS, HTo⟩ := hrel
    have c0 := HS.out.c0
    have c1 := HS.out.c1
    have hlt := HS.out.lt
    by_cases hk : k < s.size
    · have e1 : decide ((k : Int) < (s.size : Int)) = true := by simp; omega
      have HC : Hid (∀ W, Below wr.heap.size wr W → Calls Tryd.prog F #[.int .u8 (at_ s k)] W fun e w' => e = .returned (.bool (f (at_ s k))) ∧ Below W.heap.size W w') := fun W hW => HF.out.calls _ W (at_lt s k) ((HT.out.touched HTo.out hsc).below hW (by omega))
      rw [← at_eq hk] at HC
      have q0 : ∀ x : Later wr.heap.size wr, x.W.cell? ⟨sc, 0, none⟩ = some (.string s) := fun x => cell_later x.h c0
      have q1 : ∀ x : Later wr.heap.size wr, x.W.cell? ⟨sc, 1, none⟩ = some (.int .i64 (k : Nat)) := fun x => cell_later x.h c1
      by_cases hf : f (at_ s k) = true
      · have HRn := hide ((runTo_step hk hf).symm.trans HR.out)
        rw [at_eq hk, hf, ← at_eq hk] at HC
        go_wp2_with fail
        refine wp_region_later (by kernel_rfl) (by kernel_rfl) (Below.refl wr.heap.size wr) ?_
        have hst := Later.some wr.heap.size wr
        iterate 21 quiet_step (fail)
        quiet_step (exact Later.calls HC.out (Nat.le_refl _) _)
        quiet_step (fail)
        refine wpQuiet_nil ?_
        intro _ hw'
        obtain ⟨x, rfl⟩ := hw'
        have hSx := HS.out.below x.h
        have y1 := hSx.c1
        have y2 := hSx.f 1
        have y3 := hSx.lt
        have HSx := hide hSx
        have HTx := hide (HTo.out.later x.h)
        clear hSx q0 q1
        go_wp2_with fail
        go_roundg (s.size - (k + 1))
        case measure => omega
        case rel => exact ⟨k + 1, by omega, HRn, by have := HSx.out.set (k + 1); simpa [Hid] using this, HTx.out.setSelf rfl _⟩
      · have hf' : f (at_ s k) = false := by simpa using hf
        have HRn := hide ((runTo_stop (s := s) (k := k) hf').symm.trans HR.out)
        rw [at_eq hk, hf', ← at_eq hk] at HC
        clear hf hf'
        go_wp2_with fail
        refine wp_region_later (by kernel_rfl) (by kernel_rfl) (Below.refl wr.heap.size wr) ?_
        have hst := Later.some wr.heap.size wr
        iterate 21 quiet_step (fail)
        quiet_step (exact Later.calls HC.out (Nat.le_refl _) _)
        quiet_step (fail)
        refine wpQuiet_nil ?_
        intro _ hw'
        obtain ⟨x, rfl⟩ := hw'
        have HSx := hide (HS.out.below x.h)
        have HTx := hide (HTo.out.later x.h)
        clear q0 q1
        go_wp2_with fail
        go_end0
        exact ⟨rfl, by rw [← HRn.out]; exact HSx.out, HTx.out⟩
    · have e1 : decide ((k : Int) < (s.size : Int)) = false := by simp; omega
      have HRn := hide ((runTo_end (f := f) (s := s) (k := k) (by omega)).symm.trans HR.out)
      go_wp2_with fail
      go_quiet (fail)
      go_wp2_with fail
      go_end0
      exact ⟨rfl, by rw [← HRn.out]; exact HS.out.below (below_drewN (Below.refl _ _) _), HTo.out.later (below_drewN (Below.refl _ _) _)⟩

end Go.Proofs.YtpdoegjddiaaoaaDoor
