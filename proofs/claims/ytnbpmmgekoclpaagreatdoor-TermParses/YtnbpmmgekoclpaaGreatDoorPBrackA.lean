/- The contract of the scanner's termInBrackets: what stands while it is walked. -/
import Derived.Test.YtnbpmmgekoclpaaGreatDoorPLevels
namespace Go.Proofs.YtnbpmmgekoclpaaGreatDoor
open Go.RowKit

/-- A term was read: it lies in new blocks; the scanner stands behind it. -/
def TermOf (w : World) (sc : Nat) (s : ByteArray) (d : Nat) (t : Tm) (p' : Nat) (e : Ending) (w' : World) : Prop :=
  ∃ (k n : Int) (nm : ByteArray) (A : Option Addr) (la lc : Nat) (A' : Option Addr) (ta tc : Nat), e = .returned (.agg #[.int .i64 k, .int .i64 n, .string nm, .slice A la lc, .slice A' ta tc]) ∧ InTm w' (fun b => w.heap.size ≤ b) d t (.agg #[.int .i64 k, .int .i64 n, .string nm, .slice A la lc, .slice A' ta tc]) ∧ ScAt w' sc s p' ∧ Touched w sc w'

/-- A call that reads a term, as one step of a region that draws its order. -/
theorem step_sterm {ops : Array Oper} {o : Oper} {a : Act} {w : World} {K : Act → World → Prop} {Q : Exit → Act → World → Prop} {E : Prop} {args : Array Value} {f : FuncId} {sc d p' : Nat} {s : ByteArray} {t : Tm}
    (hg : o.guard = none) (hrun : (execOp a.eval o).run Tryz.prog w = .ok (.enter f args) w) (hc : Calls Tryz.prog f args w fun e w' => TermOf w sc s d t p' e w')
    (hK : ∀ (k n : Int) (nm : ByteArray) (A : Option Addr) (la lc : Nat) (A' : Option Addr) (ta tc : Nat) (w' : World), InTm w' (fun b => w.heap.size ≤ b) d t (.agg #[.int .i64 k, .int .i64 n, .string nm, .slice A la lc, .slice A' ta tc]) → ScAt w' sc s p' → Touched w sc w' → K (a.put o.dst (.agg #[.int .i64 k, .int .i64 n, .string nm, .slice A la lc, .slice A' ta tc])) w') :
    if Region.wanted o (yielded ops a.tmps) = true then Oper.wp Tryz.prog o a w K Q else E := by
  have hw : Region.wanted o (yielded ops a.tmps) = true := by simp [Region.wanted, hg]
  rw [if_pos hw]
  unfold Oper.wp
  rw [hrun]
  refine hc.mono ?_
  rintro e w' ⟨k, n, nm, A, la, lc, A', ta, tc, rfl, h1, h2, h3⟩
  exact hK k n nm A la lc A' ta tc w' h1 h2 h3

/-- A call that throws, where a term was asked for. -/
theorem step_throwT {ops : Array Oper} {o : Oper} {a : Act} {w : World} {K : Act → World → Prop} {Q : Exit → Act → World → Prop} {E : Prop} {args : Array Value} {f : FuncId} {sc a0 : Nat}
    (hg : o.guard = none) (hrun : (execOp a.eval o).run Tryz.prog w = .ok (.enter f args) w) (hc : Calls Tryz.prog f args w fun e w' => Threw w sc 1 a0 e w')
    (hQ : ∀ (fb : Nat) (w' : World), Threw w sc 1 a0 (.panicked [{ v := .iface 52 (.pointer (some ⟨fb, 0, none⟩)), recovered := false }]) w' → Q (.panic [{ v := .iface 52 (.pointer (some ⟨fb, 0, none⟩)), recovered := false }]) a w')
    (hK : ∀ (k n : Int) (nm : ByteArray) (A : Option Addr) (la lc : Nat) (A' : Option Addr) (ta tc : Nat) (w' : World), Hid False → K (a.put o.dst (.agg #[.int .i64 k, .int .i64 n, .string nm, .slice A la lc, .slice A' ta tc])) w') :
    if Region.wanted o (yielded ops a.tmps) = true then Oper.wp Tryz.prog o a w K Q else E := by
  have hw : Region.wanted o (yielded ops a.tmps) = true := by simp [Region.wanted, hg]
  rw [if_pos hw]
  unfold Oper.wp
  rw [hrun]
  refine hc.mono ?_
  intro e w' h
  obtain ⟨fb, rfl, h1⟩ := h
  have _ := hK
  exact hQ fb w' ⟨fb, rfl, h1⟩

/-- How many levels a shape asks for. -/
def lvn (kd : Nat) : Int := if kd = 1 then 1 else if kd = 2 then -1 else 0

/-- The name and the levels have come. (c: the term's variable.) -/
def PDone (w : World) (sc : Nat) (s : ByteArray) (c kd p4 : Nat) (nm : ByteArray) (ls : List LvB) (wx : World) : Prop :=
  ∃ (A : Option Addr) (lc : Nat), TVar 30 wx c kd 0 nm (.slice A ls.length lc) (.slice none 0 0) ∧ wx.cell? ⟨c + 1, 3, none⟩ = some (.int .i64 (tparts kd : Nat)) ∧ ScAt wx sc s p4 ∧ Touched (w.alloc ztm) sc wx ∧ LvsIn wx (fun b => c + 2 ≤ b ∧ b < wx.heap.size) A ls ∧ c + 2 ≤ wx.heap.size

/-- While the parts of a term are read. -/
structure TReading (w wc : World) (sc c : Nat) (s : ByteArray) (kd d : Nat) (nm : ByteArray) (rl : Value) (ts : List Tm) (k pe : Nat) (rv : Value) (xs : List Value) (W : World) : Prop where
  var : TVar 30 W c kd 0 nm rl rv
  row : TRow W 30 d wc.heap.size (ts.take k) rv xs
  scan : ∃ pk, Seq (RT s d) (ts.drop k) pk pe ∧ pk ≤ s.size ∧ ScAt W sc s pk
  old : Touched (w.alloc ztm) sc W
  size : wc.heap.size ≤ W.heap.size
  keep : ∀ b, c + 2 ≤ b → b < wc.heap.size → W.heap[b]? = wc.heap[b]?

theorem TReading.next {w wc W w5 w6 : World} {sc c kd d k pe pn g cap' la lc ta tc : Nat} {s nm : ByteArray} {rl rv : Value} {ts : List Tm} {xs : List Value} {k1 m1 : Int} {nm1 : ByteArray} {A A' : Option Addr} (h : TReading w wc sc c s kd d nm rl ts k pe rv xs W) (hkl : k < ts.length) (hsc : sc < w.heap.size) (hc : w.heap.size + 1 ≤ c) (hcn : c + 2 ≤ wc.heap.size)
    (hr2 : Seq (RT s d) (ts.drop (k + 1)) pn pe) (hpn : pn ≤ s.size) (hT5 : Touched W sc w5) (hS5 : ScAt w5 sc s pn) (hin : InTm w5 (fun b => W.heap.size ≤ b) d ts[k] (.agg #[.int .i64 k1, .int .i64 m1, .string nm1, .slice A la lc, .slice A' ta tc]))
    (hown : w6.ownsRow wc.heap.size 30 5 (.slice (some ⟨g, 0, none⟩) (xs.length + 1) cap') (xs.length + 1) (flat xs ++ [.int .i64 k1, .int .i64 m1, .string nm1, .slice A la lc, .slice A' ta tc]))
    (hgr : (w5.alloc (.cells #[.int .i64 k1, .int .i64 m1, .string nm1, .slice A la lc, .slice A' ta tc] 30)).grownBy w6 rv.ownBlock)
    (hpl : (Value.slice (some ⟨g, 0, none⟩) (xs.length + 1) cap').ownBlock = rv.ownBlock ∨ (Value.slice (some ⟨g, 0, none⟩) (xs.length + 1) cap').ownBlock = some (w5.alloc (.cells #[.int .i64 k1, .int .i64 m1, .string nm1, .slice A la lc, .slice A' ta tc] 30)).heap.size) :
    TReading w wc sc c s kd d nm rl ts (k + 1) pe (.slice (some ⟨g, 0, none⟩) (xs.length + 1) cap') (xs ++ [.agg #[.int .i64 k1, .int .i64 m1, .string nm1, .slice A la lc, .slice A' ta tc]]) (w6.setCell ⟨c, 4, none⟩ (.slice (some ⟨g, 0, none⟩) (xs.length + 1) cap')) := by
  have hz5 := hT5.size
  have hz6 := hgr.size
  have hzo := h.old.size
  have hzs := h.size
  simp at hz6 hzo
  have hnob : ∀ b, b < wc.heap.size → rv.ownBlock ≠ some b := fun b hb e => by have := (h.row.own.lt b e).1; omega
  have hblk : ∀ b, b < wc.heap.size → b ≠ sc → w6.heap[b]? = W.heap[b]? := fun b hb hne => by
    rw [hgr.block b (by simp; omega) (fun e => hnob b hb e.symm), Below.heap_alloc _ _ _ (by omega)]
    exact hT5.at (by omega) hne
  refine ⟨?_, ?_, ⟨pn, hr2, hpn, ?_⟩, ?_, ?_, ?_⟩
  · exact (h.var.of_block (hblk c (by omega) (by omega))).setA _
  · rw [List.take_succ_eq_append_getElem hkl]
    exact h.row.next (q := 4) (c := c) (m := W.heap.size) (by omega) (by omega) (fun g e => (h.row.own.lt g e).2) hz5 (fun b hb hS => hT5.at hb (by omega)) hin hown hgr hpl _
  · refine hS5.of_block ?_
    rw [Below.heap_setCell _ _ _ _ (by show sc ≠ c; omega), hgr.block sc (by simp; omega) (fun e => hnob sc (by omega) e.symm), Below.heap_alloc _ _ _ (by omega)]
  · refine ⟨hgr.os.trans (hT5.os.trans h.old.os), hgr.tape.trans (hT5.tape.trans h.old.tape), hgr.output.trans (hT5.output.trans h.old.output), by simp [World.setCell]; omega, fun b hb hne => ?_⟩
    have hb' : b < w.heap.size + 1 := by simpa using hb
    rw [Below.heap_setCell _ _ _ _ (by show b ≠ c; omega), hblk b (by omega) (by simpa using hne)]
    exact h.old.block b hb hne
  · simp [World.setCell]; omega
  · intro b hb1 hb2
    rw [Below.heap_setCell _ _ _ _ (by show b ≠ c; omega), hblk b hb2 (by omega)]
    exact h.keep b hb1 hb2

/-- The result's block is filled; the scanner stands as it stood. -/
theorem sfilled5 {w W : World} {sc p : Nat} {s : ByteArray} (hsc : sc < w.heap.size) (hS : ScAt W sc s p) (hT : Touched w sc W) (u0 u1 u2 u3 u4 : Value) :
    ScAt (((((W.setCell ⟨w.heap.size, 0, none⟩ u0).setCell ⟨w.heap.size, 1, none⟩ u1).setCell ⟨w.heap.size, 2, none⟩ u2).setCell ⟨w.heap.size, 3, none⟩ u3).setCell ⟨w.heap.size, 4, none⟩ u4) sc s p ∧
    Touched w sc (((((W.setCell ⟨w.heap.size, 0, none⟩ u0).setCell ⟨w.heap.size, 1, none⟩ u1).setCell ⟨w.heap.size, 2, none⟩ u2).setCell ⟨w.heap.size, 3, none⟩ u3).setCell ⟨w.heap.size, 4, none⟩ u4) := by
  constructor
  · refine hS.of_block ?_
    rw [Below.heap_setCell _ _ _ _ (by show sc ≠ w.heap.size; omega), Below.heap_setCell _ _ _ _ (by show sc ≠ w.heap.size; omega), Below.heap_setCell _ _ _ _ (by show sc ≠ w.heap.size; omega), Below.heap_setCell _ _ _ _ (by show sc ≠ w.heap.size; omega), Below.heap_setCell _ _ _ _ (by show sc ≠ w.heap.size; omega)]
  · exact ((((hT.setNew (a := ⟨w.heap.size, 0, none⟩) (Nat.le_refl _) _).setNew (a := ⟨w.heap.size, 1, none⟩) (Nat.le_refl _) _).setNew (a := ⟨w.heap.size, 2, none⟩) (Nat.le_refl _) _).setNew (a := ⟨w.heap.size, 3, none⟩) (Nat.le_refl _) _).setNew (a := ⟨w.heap.size, 4, none⟩) (Nat.le_refl _) _

/-- A term's value, stored into the result's block. -/
theorem sterm_stored {w W : World} {sc d p : Nat} {s nm : ByteArray} {t : Tm} {k n : Int} {A A' : Option Addr} {la lc ta tc : Nat} (hsc : sc < w.heap.size) (hS : ScAt W sc s p) (hT : Touched w sc W) (hin : InTm W (fun b => w.heap.size + 1 ≤ b) d t (.agg #[.int .i64 k, .int .i64 n, .string nm, .slice A la lc, .slice A' ta tc])) :
    TermOf w sc s d t p (.returned (.agg #[.int .i64 k, .int .i64 n, .string nm, .slice A la lc, .slice A' ta tc])) (((((W.setCell ⟨w.heap.size, 0, none⟩ (.int .i64 k)).setCell ⟨w.heap.size, 1, none⟩ (.int .i64 n)).setCell ⟨w.heap.size, 2, none⟩ (.string nm)).setCell ⟨w.heap.size, 3, none⟩ (.slice A la lc)).setCell ⟨w.heap.size, 4, none⟩ (.slice A' ta tc)) := by
  have hf := sfilled5 hsc hS hT (.int .i64 k) (.int .i64 n) (.string nm) (.slice A la lc) (.slice A' ta tc)
  refine ⟨k, n, nm, A, la, lc, A', ta, tc, rfl, hin.keep fun b hb hb1 => ⟨by omega, ?_⟩, hf.1, hf.2⟩
  rw [Below.heap_setCell _ _ _ _ (by show b ≠ w.heap.size; omega), Below.heap_setCell _ _ _ _ (by show b ≠ w.heap.size; omega), Below.heap_setCell _ _ _ _ (by show b ≠ w.heap.size; omega), Below.heap_setCell _ _ _ _ (by show b ≠ w.heap.size; omega), Below.heap_setCell _ _ _ _ (by show b ≠ w.heap.size; omega)]

/-- The whole, out of its variable and its row. -/
theorem TReading.made {w wc W w7 : World} {sc c kd d pe lc ta tc : Nat} {s nm : ByteArray} {A A' : Option Addr} {ls : List LvB} {ts : List Tm} {xs : List Value} (h : TReading w wc sc c s kd d nm (.slice A ls.length lc) ts ts.length pe (.slice A' ta tc) xs W) (hsc : sc < w.heap.size) (hc : w.heap.size + 1 ≤ c) (hcn : c + 2 ≤ wc.heap.size) (hl : LvsIn wc (fun b => c + 2 ≤ b ∧ b < wc.heap.size) A ls) (hT : Touched W sc w7) :
    InTm w7 (fun b => w.heap.size + 1 ≤ b) (d + 1) (.node kd 0 nm ls ts) (.agg #[.int .i64 kd, .int .i64 0, .string nm, .slice A ls.length lc, .slice A' ta tc]) := by
  have hRow := h.row
  rw [List.take_length] at hRow
  obtain ⟨A1, c1, e, hparts⟩ := hRow.made
  cases e
  have hzs := h.size
  refine ⟨A, lc, A', tc, rfl, ?_, fun i hi => ?_⟩
  · refine hl.keep fun b hb hb2 => ⟨by show w.heap.size + 1 ≤ b; omega, ?_⟩
    rw [hT.at (by omega) (by omega)]
    exact h.keep b hb2.1 hb2.2
  · obtain ⟨b, x, hA, hb, hF, hI⟩ := hparts i hi
    exact ⟨b, x, hA, by show w.heap.size + 1 ≤ b; omega, hF.of_block (hT.at hF.lt (by omega)), hI.keep fun b hb hb2 => ⟨by show w.heap.size + 1 ≤ b; omega, hT.at hb (by omega)⟩⟩

end Go.Proofs.YtnbpmmgekoclpaaGreatDoor
