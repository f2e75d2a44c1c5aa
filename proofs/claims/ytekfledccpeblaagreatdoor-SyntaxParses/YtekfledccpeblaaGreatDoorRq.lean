/- The contracts of raised and successors: levels by value. -/
import Derived.Test.YtekfledccpeblaaGreatDoorNu
import Derived.Maps.OwnOps

namespace Go.Proofs.YtekfledccpeblaaGreatDoor
open Go.RowKit

/-- A level was made: its value, its parts in blocks of that kind. -/
def LvR (S : Nat → Prop) (l : LvB) (e : Ending) (w' : World) : Prop := ∃ (k : Int) (nm : ByteArray) (A : Option Addr) (n c : Nat), e = .returned (.agg #[.int .i64 k, .string nm, .slice A n c]) ∧ InP w' S l (.agg #[.int .i64 k, .string nm, .slice A n c])
/-- A level's variable. -/
def LBox (w : World) (b : Nat) (k : Int) (nm : ByteArray) (v : Value) : Prop := w.heap[b]? = some (.cells #[.int .i64 k, .string nm, v] 96 (0, 0))
section
variable {w w' : World} {b : Nat} {k : Int} {nm : ByteArray} {v : Value}
theorem LBox.lt (h : LBox w b k nm v) : b < w.heap.size := (Array.getElem?_eq_some_iff.1 h).1
theorem LBox.c0 (h : LBox w b k nm v) : w.cell? ⟨b, 0, none⟩ = some (.int .i64 k) := cell_of h 0 rfl
theorem LBox.c1 (h : LBox w b k nm v) : w.cell? ⟨b, 1, none⟩ = some (.string nm) := cell_of h 1 rfl
theorem LBox.c2 (h : LBox w b k nm v) : w.cell? ⟨b, 2, none⟩ = some v := cell_of h 2 rfl
theorem LBox.f (h : LBox w b k nm v) (i : Nat) : w.frozen? ⟨b, i, none⟩ = false := frozen_of h i
theorem LBox.of_block (h : LBox w b k nm v) (he : w'.heap[b]? = w.heap[b]?) : LBox w' b k nm v := by unfold LBox at *; rw [he]; exact h
theorem LBox.set3 (h : LBox w b k nm v) (k' : Int) (nm' : ByteArray) (v' : Value) : LBox (((w.setCell ⟨b, 0, none⟩ (.int .i64 k')).setCell ⟨b, 1, none⟩ (.string nm')).setCell ⟨b, 2, none⟩ v') b k' nm' v' := by
  unfold LBox at *; simp [World.setCell, Array.getElem?_modify, h]
end
abbrev set3 (W : World) (b : Nat) (u0 u1 u2 : Value) : World := ((W.setCell ⟨b, 0, none⟩ u0).setCell ⟨b, 1, none⟩ u1).setCell ⟨b, 2, none⟩ u2
theorem set3_block {W : World} {b r : Nat} {u0 u1 u2 : Value} (h : b ≠ r) : (set3 W r u0 u1 u2).heap[b]? = W.heap[b]? := by
  unfold set3; rw [Below.heap_setCell _ _ _ _ h, Below.heap_setCell _ _ _ _ h, Below.heap_setCell _ _ _ _ h]
theorem set3_below {w W : World} {r n : Nat} {u0 u1 u2 : Value} (hr : n ≤ r) (hb : Below n w W) : Below n w (set3 W r u0 u1 u2) :=
  ((hb.setCell (p := ⟨r, 0, none⟩) hr _).setCell (p := ⟨r, 1, none⟩) hr _).setCell (p := ⟨r, 2, none⟩) hr _
theorem set3_size {W : World} {r : Nat} {u0 u1 u2 : Value} : (set3 W r u0 u1 u2).heap.size = W.heap.size := by simp [set3, World.setCell]
theorem set3_touched {w W : World} {r m : Nat} {u0 u1 u2 : Value} (hr : w.heap.size ≤ r) (h : Touched w m W) : Touched w m (set3 W r u0 u1 u2) :=
  ((h.setNew (a := ⟨r, 0, none⟩) hr _).setNew (a := ⟨r, 1, none⟩) hr _).setNew (a := ⟨r, 2, none⟩) hr _
theorem InP.set3 {W : World} {S S' : Nat → Prop} {r : Nat} {u0 u1 u2 : Value} {l : LvB} {v : Value} (h : InP W S l v) (hS : ∀ b, b < W.heap.size → S b → S' b ∧ b ≠ r) : InP (set3 W r u0 u1 u2) S' l v :=
  h.keep fun b hb hs => ⟨(hS b hb hs).1, set3_block (hS b hb hs).2⟩
theorem three_at {W : World} {b : Nat} {k : Int} {nm : ByteArray} {A : Option Addr} {n c : Nat} (h : W.heap[b]? = some (.cells #[.int .i64 k, .string nm, .slice A n c] 96 (0, 0))) : Three W b 0 (.agg #[.int .i64 k, .string nm, .slice A n c]) :=
  ⟨k, nm, A, n, c, rfl, cell_of h 0 rfl, cell_of h 1 rfl, cell_of h 2 rfl⟩

set_option maxRecDepth 100000 in
set_option maxHeartbeats 4000000 in
theorem raised_calls (l : LvB) (n : Nat) (hn : n ≤ 200) (S : Nat → Prop) (k : Int) (nm : ByteArray) (A : Option Addr) (m c : Nat) (w : World) (h : InP w S l (.agg #[.int .i64 k, .string nm, .slice A m c])) :
    Calls Tryz.prog 125 #[.agg #[.int .i64 k, .string nm, .slice A m c], .int .i64 (n : Nat)] w fun e w' => LvR (fun b => S b ∨ w.heap.size ≤ b) (succN n l) e w' ∧ Below w.heap.size w w' := by
  have hw1 : Below w.heap.size w ((w.alloc (.cells #[.int .i64 k, .string nm, .slice A m c] 96)).alloc (.cells #[.int .i64 0, .string ⟨#[]⟩, .slice none 0 0] 96)) := ((Below.refl _ _).alloc (Nat.le_refl _) _).alloc (by simp) _
  have HI0 : Hid (InP ((w.alloc (.cells #[.int .i64 k, .string nm, .slice A m c] 96)).alloc (.cells #[.int .i64 0, .string ⟨#[]⟩, .slice none 0 0] 96)) (fun b => (S b ∧ b < w.heap.size) ∨ w.heap.size + 2 ≤ b) l (.agg #[.int .i64 k, .string nm, .slice A m c])) := h.keep fun b hb hs => ⟨.inl ⟨hs, hb⟩, hw1.block b hb⟩
  have HB0 : Hid (LBox ((w.alloc (.cells #[.int .i64 k, .string nm, .slice A m c] 96)).alloc (.cells #[.int .i64 0, .string ⟨#[]⟩, .slice none 0 0] 96)) w.heap.size k nm (.slice A m c)) := (Below.heap_alloc _ _ _ (by simp)).trans (heap_alloc_new _ _)
  have HR0 : Hid (LBox ((w.alloc (.cells #[.int .i64 k, .string nm, .slice A m c] 96)).alloc (.cells #[.int .i64 0, .string ⟨#[]⟩, .slice none 0 0] 96)) (w.heap.size + 1) 0 ⟨#[]⟩ (.slice none 0 0)) := by
    have := heap_alloc_new (w.alloc (.cells #[.int .i64 k, .string nm, .slice A m c] 96)) (.cells #[.int .i64 0, .string ⟨#[]⟩, .slice none 0 0] 96)
    simpa [Hid, LBox] using this
  have HW1 := hide hw1
  clear h hw1
  go_enter Tryz.func125, Tryz.ntmps125
  go_wp2_with fail
  go_loopg [6] n (fun g v wr => ∃ (j : Nat) (x : LvB) (k' : Int) (nm' : ByteArray) (A' : Option Addr) (m' c' : Nat), j + g = n ∧ v = .int .i64 (j : Nat) ∧ Hid (succN g x = succN n l) ∧ Hid (LBox wr w.heap.size k' nm' (.slice A' m' c')) ∧ Hid (LBox wr (w.heap.size + 1) 0 ⟨#[]⟩ (.slice none 0 0)) ∧ Hid (InP wr (fun b => (S b ∧ b < w.heap.size) ∨ w.heap.size + 2 ≤ b) x (.agg #[.int .i64 k', .string nm', .slice A' m' c'])) ∧ Hid (Below w.heap.size w wr))
  case atStart => exact ⟨0, l, k, nm, A, m, c, by omega, rfl, rfl, HB0.out, HR0.out, HI0.out, HW1.out⟩
  case round =>
    clear HB0 HR0 HI0 HW1
    obtain ⟨j, x, k', nm', A', m', c', hjg, rfl, HS, HB, HR, HI, HW⟩ := hrel
    have c0 := HB.out.c0
    have c1 := HB.out.c1
    have c2 := HB.out.c2
    have cf := HB.out.f
    have cl := HB.out.lt
    by_cases hj : j < n
    · have e1 : decide ((j : Int) < (n : Int)) = true := by simp; omega
      obtain ⟨g', rfl⟩ : ∃ g', gk = g' + 1 := ⟨gk - 1, by omega⟩
      go_wp2_with fail
      go_roundg g'
      case measure => omega
      case rel =>
        have hl2 := HR.out.lt
        have hz := set3_size (W := wr) (r := w.heap.size) (u0 := .int .i64 1) (u1 := .string ⟨#[]⟩) (u2 := .slice (some ⟨wr.heap.size, 0, none⟩) 1 1)
        have hal : ∀ b, b < wr.heap.size → ((set3 wr w.heap.size (.int .i64 1) (.string ⟨#[]⟩) (.slice (some ⟨wr.heap.size, 0, none⟩) 1 1)).alloc (.cells #[.int .i64 k', .string nm', .slice A' m' c'] 96)).heap[b]? = (set3 wr w.heap.size (.int .i64 1) (.string ⟨#[]⟩) (.slice (some ⟨wr.heap.size, 0, none⟩) 1 1)).heap[b]? := fun b hb => Below.heap_alloc _ _ _ (by rw [hz]; exact hb)
        have hnew := heap_alloc_new (set3 wr w.heap.size (.int .i64 1) (.string ⟨#[]⟩) (.slice (some ⟨wr.heap.size, 0, none⟩) 1 1)) (.cells #[.int .i64 k', .string nm', .slice A' m' c'] 96)
        rw [hz] at hnew
        refine ⟨j + 1, .succ x, 1, ⟨#[]⟩, some ⟨wr.heap.size, 0, none⟩, 1, 1, by omega, by go_num, HS.out, ?_, ?_, ?_, ?_⟩
        · exact (HB.out.set3 1 ⟨#[]⟩ _).of_block (hal _ (by omega))
        · exact HR.out.of_block ((hal _ hl2).trans (set3_block (by omega)))
        · refine ⟨wr.heap.size, 1, _, rfl, .inr (by omega), three_at hnew, HI.out.keep fun b hb hs => ⟨hs, (hal b hb).trans (set3_block (by omega))⟩⟩
        · exact (set3_below (Nat.le_refl _) HW.out).alloc (by rw [hz]; omega) _
    · have e1 : decide ((j : Int) < (n : Int)) = false := by simp; omega
      have hg0 : gk = 0 := by omega
      subst hg0
      have r0 := HR.out.c0
      have r1 := HR.out.c1
      have r2 := HR.out.c2
      have rf := HR.out.f
      have rl := HR.out.lt
      go_wp2_with fail
      refine bodyPost_ret (v := .agg #[.int .i64 k', .string nm', .slice A' m' c']) (by simp [results, Tryz.results125, go_sem, r0, r1, r2]) rfl ?_
      refine ⟨⟨k', nm', A', m', c', rfl, ?_⟩, set3_below (by omega) HW.out⟩
      have hS : succN n l = x := HS.out.symm
      rw [hS]
      exact InP.set3 HI.out (fun b _ hb => ⟨by rcases hb with hb | hb; exact .inl hb.1; exact .inr (by omega), by omega⟩)

theorem chain_le_nodes : ∀ l : LvB, chain l ≤ l.nodes
  | .succ a => by have := chain_le_nodes a; simp only [chain, Lv.nodes]; omega
  | .zero => by simp [chain]
  | .param _ => by simp [chain]
  | .max _ _ => by simp [chain]
  | .imax _ _ => by simp [chain]

set_option maxRecDepth 100000 in
set_option maxHeartbeats 4000000 in
theorem successors_calls (l : LvB) (S : Nat → Prop) (k : Int) (nm : ByteArray) (A : Option Addr) (m c : Nat) (w : World) (h : InP w S l (.agg #[.int .i64 k, .string nm, .slice A m c])) (hc : chain l ≤ 1000000) :
    Calls Tryz.prog 134 #[.agg #[.int .i64 k, .string nm, .slice A m c]] w fun e w' => e = .returned (.int .i64 (chain l : Nat)) ∧ Below w.heap.size w w' := by
  have hw1 : Below w.heap.size w (w.alloc (.cells #[.int .i64 k, .string nm, .slice A m c] 96)) := (Below.refl _ _).alloc (Nat.le_refl _) _
  have HI0 : Hid (InP (w.alloc (.cells #[.int .i64 k, .string nm, .slice A m c] 96)) (fun b => b < w.heap.size) l (.agg #[.int .i64 k, .string nm, .slice A m c])) := h.keep fun b hb hs => ⟨hb, hw1.block b hb⟩
  have HB0 : Hid (LBox (w.alloc (.cells #[.int .i64 k, .string nm, .slice A m c] 96)) w.heap.size k nm (.slice A m c)) := heap_alloc_new _ _
  have HW1 := hide hw1
  clear h hw1
  go_enter Tryz.func134, Tryz.ntmps134
  go_wp2_with fail
  go_loopg [3] (chain l) (fun g v wr => ∃ (j : Nat) (x : LvB) (k' : Int) (nm' : ByteArray) (A' : Option Addr) (m' c' : Nat), j + g = chain l ∧ v = .int .i64 (j : Nat) ∧ chain x = g ∧ Hid (LBox wr w.heap.size k' nm' (.slice A' m' c')) ∧ Hid (InP wr (fun b => b < w.heap.size) x (.agg #[.int .i64 k', .string nm', .slice A' m' c'])) ∧ Hid (Below w.heap.size w wr))
  case atStart => exact ⟨0, l, k, nm, A, m, c, by omega, rfl, rfl, HB0.out, HI0.out, HW1.out⟩
  case round =>
    clear HB0 HI0 HW1
    obtain ⟨j, x, k', nm', A', m', c', hjg, rfl, hcx, HB, HI, HW⟩ := hrel
    have c0 := HB.out.c0
    have c1 := HB.out.c1
    have c2 := HB.out.c2
    have cf := HB.out.f
    have cl := HB.out.lt
    have hcase : (∃ (y : LvB) (b cap : Nat) (v : Value), x = .succ y ∧ k' = 1 ∧ A' = some ⟨b, 0, none⟩ ∧ m' = 1 ∧ b < w.heap.size ∧ Three wr b 0 v ∧ InP wr (fun b => b < w.heap.size) y v) ∨ (k' ≠ 1 ∧ chain x = 0) := by
      have hI := HI.out
      cases x with
      | zero => injection hI with hI; simp at hI; exact .inr ⟨by rw [hI.1]; decide, rfl⟩
      | param p => injection hI with hI; simp at hI; exact .inr ⟨by rw [hI.1]; decide, rfl⟩
      | succ y =>
        obtain ⟨b, cap, v, e, hb, h3, hy⟩ := hI
        injection e with e
        simp at e
        exact .inl ⟨y, b, cap, v, rfl, e.1, e.2.2.1, e.2.2.2.1, hb, h3, hy⟩
      | max y z => obtain ⟨b, cap, v, u, e, _⟩ := hI; injection e with e; simp at e; exact .inr ⟨by rw [e.1]; decide, rfl⟩
      | imax y z => obtain ⟨b, cap, v, u, e, _⟩ := hI; injection e with e; simp at e; exact .inr ⟨by rw [e.1]; decide, rfl⟩
    rcases hcase with ⟨y, b, cap, v, rfl, rfl, rfl, rfl, hb, ⟨k2, nm2, A2, n2, c2', rfl, d0, d1, d2⟩, hy⟩ | ⟨hk, h0⟩
    · have HY := hide hy
      have hcy : chain y + 1 = gk := hcx
      rw [Nat.zero_add] at d1 d2
      have hne : ¬ b = w.heap.size := by omega
      clear hy
      go_wp2_with fail
      go_roundg (chain y)
      case measure => omega
      case rel =>
        refine ⟨j + 1, y, k2, nm2, A2, n2, c2', by omega, by go_num, rfl, HB.out.set3 _ _ _, InP.set3 HY.out (fun b _ hb => ⟨hb, by omega⟩), set3_below (Nat.le_refl _) HW.out⟩
    · have e1 : (k' == 1) = false := by simpa using hk
      have hg0 : gk = 0 := by omega
      clear hk
      go_wp2_with fail
      go_ret
      exact ⟨ret_int (by omega), HW.out⟩

end Go.Proofs.YtekfledccpeblaaGreatDoor

/- The reader with all that stands beside it; its calls told so. -/
namespace Go.Proofs.YtekfledccpeblaaGreatDoor
open Go.RowKit

/-- The tactics' kinds by their words: a map that is only read. -/
def TacM (w : World) (rb : Nat) (mv : Value) : Prop := ∃ (mb : Nat) (D : DataW Empty), mv = .map (some mb) ∧ mb ≠ rb ∧ mb < w.heap.size ∧ w.ownsMap Tryz.prog 9 (plainElem Tryz.prog 3) mb 13 D ∧ ∀ t : ByteArray, t.size ≤ 200000 → D.atKey (.string t.data.toList) (.lit (.int .i64 0)) = .lit (.int .i64 (wordNo t tacWords 1 : Nat))
theorem TacM.of_block {w w' : World} {rb : Nat} {mv : Value} (h : TacM w rb mv) (hb : ∀ b, b < w.heap.size → b ≠ rb → w'.heap[b]? = w.heap[b]?) (hl : w.heap.size ≤ w'.heap.size) : TacM w' rb mv := by
  obtain ⟨mb, D, e, h1, h2, h3, h4⟩ := h
  refine ⟨mb, D, e, h1, by omega, ?_, h4⟩
  unfold World.ownsMap at *
  rw [hb mb h2 h1]
  exact h3

/-- The reader stands at a state of a text, and all tables lie there. -/
structure Rdy (w : World) (rb : Nat) (mv : Value) (s : ByteArray) (st : FS) : Prop where
  rd : RdS w rb mv s st
  ok : st.Ok s
  tb : Tb w
  tac : TacM w rb mv
  hs : s.size ≤ 200000
  hb : 10 < rb
section
variable {w w' : World} {rb : Nat} {mv : Value} {s : ByteArray} {st st' : FS}
theorem Rdy.code (h : Rdy w rb mv s st) : st.code = 0 := h.rd.1
theorem Rdy.lt (h : Rdy w rb mv s st) : rb < w.heap.size := h.rd.lt
theorem Rdy.next (h : Rdy w rb mv s st) (hr : RdS w' rb mv s st') (ho : st'.Ok s) (ht : Touched w rb w') : Rdy w' rb mv s st' :=
  ⟨hr, ho, h.tb.touched ht h.hb, h.tac.of_block (fun _ hb hne => ht.at hb hne) ht.size, h.hs, h.hb⟩
theorem Rdy.touched (h : Rdy w rb mv s st) (ht : Touched w rb w') (he : w'.heap[rb]? = w.heap[rb]?) : Rdy w' rb mv s st := h.next (h.rd.of_block he) h.ok ht
theorem Rdy.later (h : Rdy w rb mv s st) (hb : Below w.heap.size w w') : Rdy w' rb mv s st := h.next (h.rd.later hb) h.ok (Touched.of_below hb)
theorem Rdy.alloc (h : Rdy w rb mv s st) (o : Obj) : Rdy (w.alloc o) rb mv s st := h.later ((Below.refl _ _).alloc (Nat.le_refl _) _)
theorem Rdy.drew (h : Rdy w rb mv s st) : Rdy w.drew rb mv s st := h.later (Below.refl _ _).drew
/-- A new block is written. -/
theorem Rdy.set (h : Rdy w rb mv s st) {p : Addr} (hp : p.block ≠ rb) (hn : 10 < p.block) (hm : ∀ mb, mv = .map (some mb) → p.block ≠ mb) (u : Value) : Rdy (w.setCell p u) rb mv s st := by
  have hz : (w.setCell p u).heap.size = w.heap.size := by simp [World.setCell]
  refine ⟨h.rd.of_block (Below.heap_setCell _ _ _ _ (fun e => hp e.symm)), h.ok, h.tb.of_blocks (fun k hk => Below.heap_setCell _ _ _ _ (by omega)) (by omega), ?_, h.hs, h.hb⟩
  obtain ⟨mb, D, e, h1, h2, h3, h4⟩ := h.tac
  refine ⟨mb, D, e, h1, by omega, ?_, h4⟩
  unfold World.ownsMap at *
  rw [Below.heap_setCell _ _ _ _ (fun e' => hm mb e e'.symm)]
  exact h3
end
theorem numF_ok {s : ByteArray} {st : FS} {most : Nat} (ho : st.Ok s) : (numF s most st).Ok s := by unfold numF; split; exact ho.step; exact ho.fail
/-- What a call of the reader comes to. -/
def RQ (w : World) (rb : Nat) (mv : Value) (s : ByteArray) (st' : FS) (G : Ending → World → Prop) (e : Ending) (w' : World) : Prop :=
  (st'.code = 0 ∧ G e w' ∧ Rdy w' rb mv s st' ∧ Touched w rb w') ∨ (st'.code ≠ 0 ∧ Threw w rb 1 st'.fat e w')
theorem RP.rq {w w' : World} {rb : Nat} {mv : Value} {s : ByteArray} {st st' : FS} {G : Ending → World → Prop} {e : Ending} (h : RP w rb mv s st' G e w') (h0 : Rdy w rb mv s st) (ho : st'.Ok s) : RQ w rb mv s st' G e w' := by
  rcases h with ⟨h1, h2, h3, h4⟩ | h
  · exact .inl ⟨h1, h2, h0.next h3 ho h4, h4⟩
  · exact .inr h
/-- The fault was thrown on the way. -/
theorem RQ.bad {w w0 w' : World} {rb : Nat} {mv : Value} {s : ByteArray} {st' fin : FS} {G : Ending → World → Prop} {e : Ending} (hc : st'.code ≠ 0) (h : Threw w rb 1 st'.fat e w') (ht : Touched w0 rb w) (hf : fin = st') : RQ w0 rb mv s fin G e w' := by
  subst hf; exact .inr ⟨hc, h.from ht⟩
section
variable {rb : Nat} {mv : Value} {s : ByteArray} {st : FS} {w : World} (h : Rdy w rb mv s st)
include h
theorem tookQ (q : ByteArray) : Calls Tryz.prog 58 #[.pointer (some ⟨rb, 0, none⟩), .string q] w fun e w' => e = .returned (.bool (st.is q)) ∧ Rdy w' rb mv s (if st.is q = true then st.step s else st) ∧ Touched w rb w' :=
  (took_calls rb mv s st w h.rd h.hs h.ok h.tb.sg (by have := h.hb; omega) q).mono fun _ _ ⟨h1, h2, h3⟩ => ⟨h1, h.next h2 (by split; exact h.ok.step; exact h.ok) h3, h3⟩
theorem expectQ (q : ByteArray) : Calls Tryz.prog 40 #[.pointer (some ⟨rb, 0, none⟩), .string q] w fun e w' => RQ w rb mv s (st.must s q) (fun e _ => e = .returned (.tuple #[])) e w' :=
  (expect_calls rb mv s st w h.rd h.hs h.ok h.tb.sg (by have := h.hb; omega) q).mono fun _ _ h1 => h1.rq h h.ok.must
theorem takeQ (h3 : st.t.kd ≤ 3) : Calls Tryz.prog 60 #[.pointer (some ⟨rb, 0, none⟩)] w fun e w' => e = .returned (.agg #[.int .i64 (st.t.kd : Nat), .int .i64 (st.t.at_ : Nat), .string st.t.t]) ∧ Rdy w' rb mv s (st.step s) ∧ Touched w rb w' :=
  (take_calls rb mv s st w h.rd h.hs h.ok h.tb.sg (by have := h.hb; omega) h3).mono fun _ _ ⟨h1, h2, h3⟩ => ⟨h1, h.next h2 h.ok.step h3, h3⟩
theorem nameQ : Calls Tryz.prog 37 #[.pointer (some ⟨rb, 0, none⟩)] w fun e w' => RQ w rb mv s (st.name s).2 (fun e _ => e = .returned (.agg #[.int .i64 1, .int .i64 (st.t.at_ : Nat), .string (st.name s).1])) e w' :=
  (name_calls rb mv s st w h.rd h.hs h.ok h.tb.sg (by have := h.hb; omega)).mono fun _ _ h1 => h1.rq h h.ok.name
theorem numberQ (most : Nat) (hm : most ≤ 99) : Calls Tryz.prog 97 #[.pointer (some ⟨rb, 0, none⟩), .int .i64 (most : Nat)] w fun e w' => RQ w rb mv s (numF s most st) (fun e _ => e = .returned (.int .i64 (decV st.t.t : Nat))) e w' :=
  (number_calls rb mv s st w h.rd h.hs h.ok h.tb h.hb most hm).mono fun _ _ h1 => h1.rq h (numF_ok h.ok)
theorem refuseQ : Calls Tryz.prog 59 #[.pointer (some ⟨rb, 0, none⟩)] w fun e w' => Threw w rb 1 st.t.at_ e w' := refuse_calls rb mv s st w h.rd
/-- The token's kind, as the reader looks at it. -/
theorem Rdy.kind : ∃ (k : Nat) (t : ByteArray), w.cell? ⟨rb, 1, none⟩ = some (.int .i64 (k : Nat)) ∧ w.cell? ⟨rb, 2, none⟩ = some (.int .i64 (st.t.at_ : Nat)) ∧ w.cell? ⟨rb, 3, none⟩ = some (.string t) ∧
    (∀ j : Nat, j ≤ 1 → ((k : Int) == (j : Int)) = (st.t.kd == j)) ∧ (st.t.kd ≤ 3 → k = st.t.kd ∧ t = st.t.t) ∧ (st.t.kd = 4 → Odd t ∧ (k = 4 ∨ k = 2)) ∧ t.size ≤ 200000 := by
  obtain ⟨h0, c, k, t, r, hw, hp, hz⟩ := h.rd
  refine ⟨k, t, hw.c1, hw.c2, hw.c3, fun j hj => ?_, fun h3 => ⟨(hp.good h3).1, (hp.good h3).2.1⟩, fun h4 => ⟨(hp.bad h4).2, (hp.bad h4).1⟩, by have := h.hs; omega⟩
  have hk4 := h.ok.kd
  by_cases h3 : st.t.kd ≤ 3
  · rw [(hp.good h3).1, Bool.eq_iff_iff]; simp; omega
  · have := (hp.bad (by omega)).1
    rw [Bool.eq_iff_iff]; simp; omega
end

end Go.Proofs.YtekfledccpeblaaGreatDoor
