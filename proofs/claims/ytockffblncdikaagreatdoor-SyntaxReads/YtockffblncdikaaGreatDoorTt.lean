/- The contract of tactic. -/
import Derived.Test.YtockffblncdikaaGreatDoorTn
import Derived.Deep.DeepCutAuto
import Derived.Deep.CutBlock
namespace Go.Proofs.YtockffblncdikaaGreatDoor
open Go.RowKit Go.Maps
set_option maxRecDepth 100000
set_option maxHeartbeats 16000000
abbrev tcs (k a : Int) (ns : Value) (m : Int) (es : Value) : Array Value := #[.int .i64 k, .int .i64 a, ns, .int .i64 m, es]
def TcP (W : World) (S : Nat -> Prop) (x : Tc) (v : Value) : Prop := ∃ (A : Option Addr) (c : Nat) (A' : Option Addr) (c' : Nat), v = .agg (tcs (x.kd : Nat) (x.at_ : Nat) (.slice A x.nms.length c) (x.num : Nat) (.slice A' x.xs.length c')) /\ SsIn W S A x.nms /\ XsIn W S A' x.xs
theorem SsIn.keep {w w' : World} {S S' : Nat -> Prop} {A : Option Addr} {l : List ByteArray} (h : SsIn w S A l) (hk : ∀ b, b < w.heap.size -> S b -> S' b /\ w'.heap[b]? = w.heap[b]?) : SsIn w' S' A l := fun i hi => by
 obtain ⟨b, e, hs, hc⟩ := h i hi; have h1 := hk b (World.block_lt_of_cell? _ _ hc) hs; exact ⟨b, e, h1.1, (World.cell?_of_block h1.2).trans hc⟩
theorem SsIn.nil (w : World) (S : Nat -> Prop) (A : Option Addr) : SsIn w S A [] := fun i hi => absurd hi (by simp)
theorem keep_TcP : Keep1 TcP := fun _ _ _ _ _ _ h ⟨A, c, A', c', e, h1, h2⟩ => ⟨A, c, A', c', e, h1.keep h, h2.keep h⟩
theorem Tryz.size66 : (Tryz.prog.info? 133).map (·.size) = some 5 := by kernel_rfl
section
variable {rb : Nat} {mv : Value} {s : ByteArray}
abbrev nilV : Value := .slice none 0 0
structure TSt (w : World) (rb : Nat) (mv : Value) (s : ByteArray) (k a : Int) (ns : Value) (m : Int) (es : Value) (st : FS) (W : World) : Prop where
 res : W.heap[w.heap.size]? = some (.cells (tcs 0 0 nilV 0 nilV) 133 (0, 0))
 var : W.heap[w.heap.size + 1]? = some (.cells (tcs k a ns m es) 133 (0, 0))
 rdy : Rdy W rb mv s st
 old : Touched w rb W
section
variable {w W W' : World} {k a m : Int} {ns es : Value} {st st' st0 : FS}
theorem TSt.lt (h : TSt w rb mv s k a ns m es st W) : w.heap.size + 1 < W.heap.size := (Array.getElem?_eq_some_iff.1 h.var).1
theorem TSt.touched (h : TSt w rb mv s k a ns m es st W) (hlt : rb < w.heap.size) (hR : Rdy W' rb mv s st') (hT : Touched W rb W') : TSt w rb mv s k a ns m es st' W' :=
 ⟨(hT.at (by have := h.lt; omega) (by omega)).trans h.res, (hT.at h.lt (by omega)).trans h.var, hR, h.old.trans hT⟩
theorem TSt.alloc (h : TSt w rb mv s k a ns m es st W) (hlt : rb < w.heap.size) (o : Obj) : TSt w rb mv s k a ns m es st (W.alloc o) := h.touched hlt (h.rdy.alloc o) (Touched.alloc _ _ _)
theorem TSt.set (h0 : Rdy w rb mv s st0) (h : TSt w rb mv s k a ns m es st W) (i : Nat) (v : Value) {ns' es' : Value} {m' : Int} (hv : (tcs k a ns m es).setIfInBounds i v = tcs k a ns' m' es') : TSt w rb mv s k a ns' m' es' st (W.setCell ⟨w.heap.size + 1, i, none⟩ v) := by
 have hlt := h0.lt; have hT : Touched w rb (W.setCell ⟨w.heap.size + 1, i, none⟩ v) := h.old.setNew (a := ⟨w.heap.size + 1, i, none⟩) (by show w.heap.size <= w.heap.size + 1; omega) _
 refine ⟨(Below.heap_setCell _ _ _ _ (by show w.heap.size ≠ w.heap.size + 1; omega)).trans h.res, ?_, h0.next (h.rdy.rd.of_block (Below.heap_setCell _ _ _ _ (by show rb ≠ w.heap.size + 1; omega))) h.rdy.ok hT, hT⟩
 rw [heap_setCell_same W _ i _ _ v h.var, hv]
theorem set5 {W : World} {b T : Nat} {v0 v1 v2 v3 v4 : Value} (h : W.heap[b]? = some (.cells #[v0, v1, v2, v3, v4] T (0, 0))) (x y z u v : Value) : (((((W.setCell ⟨b, 0, none⟩ x).setCell ⟨b, 1, none⟩ y).setCell ⟨b, 2, none⟩ z).setCell ⟨b, 3, none⟩ u).setCell ⟨b, 4, none⟩ v).heap[b]? = some (.cells #[x, y, z, u, v] T (0, 0)) := by
 simp [World.setCell, Array.getElem?_modify, h]
theorem cells5 {W : World} {b T : Nat} {v0 v1 v2 v3 v4 : Value} (h : W.heap[b]? = some (.cells #[v0, v1, v2, v3, v4] T (0, 0))) : W.cell? ⟨b, 0, none⟩ = some v0 /\ W.cell? ⟨b, 1, none⟩ = some v1 /\ W.cell? ⟨b, 2, none⟩ = some v2 /\ W.cell? ⟨b, 3, none⟩ = some v3 /\ W.cell? ⟨b, 4, none⟩ = some v4 /\ ∀ i, W.frozen? ⟨b, i, none⟩ = false :=
 ⟨cell_of h 0 rfl, cell_of h 1 rfl, cell_of h 2 rfl, cell_of h 3 rfl, cell_of h 4 rfl, frozen_of h⟩
end
def TcR (w : World) (x : Tc) (e : Ending) (w' : World) : Prop := ∃ a : Array Value, e = .returned (.agg a) /\ a.size = 5 /\ TcP w' (fun b => w.heap.size <= b) x (.agg a)
theorem tac_named {w W : World} {k a m : Int} {es : Value} {st st0 : FS} (h0 : Rdy w rb mv s st0) (h : TSt w rb mv s k a nilV m es st W) (nm : ByteArray) : ∃ W', W' = (W.setCell ⟨w.heap.size + 1, 2, none⟩ (.slice (some ⟨W.heap.size, 0, none⟩) 1 1)).alloc (.cells #[.string nm] 9) /\ TSt w rb mv s k a (.slice (some ⟨W.heap.size, 0, none⟩) 1 1) m es st W' /\ SsIn W' (fun b => w.heap.size + 2 <= b) (some ⟨W.heap.size, 0, none⟩) [nm] /\ (∀ b, b < W.heap.size -> b ≠ w.heap.size + 1 -> W'.heap[b]? = W.heap[b]?) /\ W'.heap.size = W.heap.size + 1 := by
 have hlt := h0.lt; have hl := h.lt; have hz : (W.setCell ⟨w.heap.size + 1, 2, none⟩ (.slice (some ⟨W.heap.size, 0, none⟩) 1 1)).heap.size = W.heap.size := by simp [World.setCell]
 refine ⟨_, rfl, (h.set h0 2 _ rfl).alloc hlt _, fun i hi => ?_, fun b hb hne => ?_, by simp [World.setCell, World.alloc]⟩
 . have hi0 : i = 0 := by simp at hi; omega
   subst hi0; refine ⟨W.heap.size, rfl, by show w.heap.size + 2 <= W.heap.size; omega, ?_⟩
   have := heap_alloc_new (W.setCell ⟨w.heap.size + 1, 2, none⟩ (.slice (some ⟨W.heap.size, 0, none⟩) 1 1)) (.cells #[.string nm] 9); rw [hz] at this; exact cell_of this 0 rfl
 . rw [Below.heap_alloc _ _ _ (by omega), Below.heap_setCell _ _ _ _ hne]
theorem tac_exprd {w W : World} {k a m : Int} {ns : Value} {st st0 : FS} {x : Ex} {xv : Array Value} (h0 : Rdy w rb mv s st0) (h : TSt w rb mv s k a ns m nilV st W) (hx : InX W (fun b => w.heap.size + 2 <= b) x xv) : ∃ W', W' = (W.setCell ⟨w.heap.size + 1, 4, none⟩ (.slice (some ⟨W.heap.size, 0, none⟩) 1 1)).alloc (.cells xv 59) /\ TSt w rb mv s k a ns m (.slice (some ⟨W.heap.size, 0, none⟩) 1 1) st W' /\ XsIn W' (fun b => w.heap.size + 2 <= b) (some ⟨W.heap.size, 0, none⟩) [x] /\ (∀ b, b < W.heap.size -> b ≠ w.heap.size + 1 -> W'.heap[b]? = W.heap[b]?) := by
 have hlt := h0.lt; have hl := h.lt; have hz : (W.setCell ⟨w.heap.size + 1, 4, none⟩ (.slice (some ⟨W.heap.size, 0, none⟩) 1 1)).heap.size = W.heap.size := by simp [World.setCell]
 have hk : ∀ b, b < W.heap.size -> b ≠ w.heap.size + 1 -> ((W.setCell ⟨w.heap.size + 1, 4, none⟩ (.slice (some ⟨W.heap.size, 0, none⟩) 1 1)).alloc (.cells xv 59)).heap[b]? = W.heap[b]? := fun b hb hne => by rw [Below.heap_alloc _ _ _ (by omega), Below.heap_setCell _ _ _ _ hne]
 refine ⟨_, rfl, (h.set h0 4 _ rfl).alloc hlt _, ⟨fun _ => xv, fun i hi => ?_, fun i hi => ?_⟩, hk⟩
 . have hi0 : i = 0 := by simp at hi; omega
   subst hi0; refine ⟨W.heap.size, rfl, by show w.heap.size + 2 <= W.heap.size; omega, ⟨hx.size, ?_⟩, fun q hq => ?_⟩
   . have := heap_alloc_new (W.setCell ⟨w.heap.size + 1, 4, none⟩ (.slice (some ⟨W.heap.size, 0, none⟩) 1 1)) (.cells xv 59)
     rw [hz] at this; exact frozen_of this
   have := heap_alloc_new (W.setCell ⟨w.heap.size + 1, 4, none⟩ (.slice (some ⟨W.heap.size, 0, none⟩) 1 1)) (.cells xv 59); rw [hz] at this; rw [Nat.zero_mul, Nat.zero_add]
   have hqz : q < xv.size := by rw [hx.size]; exact hq
   rw [cell_of this q (Array.getElem?_eq_getElem hqz), Array.getElem?_eq_getElem hqz]
 . have hi0 : i = 0 := by simp at hi; omega
   subst hi0; exact hx.keep fun b hb hs => ⟨hs, hk b hb (by have : w.heap.size + 2 <= b := hs; omega)⟩
theorem cells4 {W : World} {b T : Nat} {v0 v1 v2 v3 : Value} (h : W.heap[b]? = some (.cells #[v0, v1, v2, v3] T (0, 0))) : W.cell? ⟨b, 0, none⟩ = some v0 /\ W.cell? ⟨b, 1, none⟩ = some v1 /\ W.cell? ⟨b, 2, none⟩ = some v2 /\ W.cell? ⟨b, 3, none⟩ = some v3 :=
 ⟨cell_of h 0 rfl, cell_of h 1 rfl, cell_of h 2 rfl, cell_of h 3 rfl⟩
structure InSt (w : World) (n0 : Nat) (rb : Nat) (mv : Value) (s : ByteArray) (k a : Int) (ns : List (ByteArray × Nat)) (An : Option Addr) (l : List ByteArray) (st : FS) (A : Option Addr) (c : Nat) (ys : List Value) (W : World) : Prop where
 t : TSt w rb mv s k a (.slice A l.length c) 0 nilV st W
 row : GRow (KL StP l) W 9 1 0 n0 l.length (.slice A l.length c) ys
 nms : NsIn W (fun b => w.heap.size + 2 <= b /\ b < n0) An ns
 le : n0 <= W.heap.size
 big : w.heap.size + 2 <= n0
theorem NsIn.keep {w w' : World} {S S' : Nat -> Prop} {A : Option Addr} {l : List (ByteArray × Nat)} (h : NsIn w S A l) (hk : ∀ b, b < w.heap.size -> S b -> S' b /\ w'.heap[b]? = w.heap[b]?) : NsIn w' S' A l := fun i hi => by
 obtain ⟨b, e, hs, h0, h1, h2⟩ := h i hi; have hb := hk b (World.block_lt_of_cell? _ _ h0) hs
 exact ⟨b, e, hb.1, (World.cell?_of_block hb.2).trans h0, (World.cell?_of_block hb.2).trans h1, (World.cell?_of_block hb.2).trans h2⟩
theorem InSt.next {w W w6 : World} {n0 : Nat} {k a : Int} {ns : List (ByteArray × Nat)} {An : Option Addr} {l : List ByteArray} {st st0 : FS} {A : Option Addr} {c : Nat} {ys : List Value} {nm : ByteArray} {o o' : Obj} {rv : Value} (h0 : Rdy w rb mv s st0) (h : InSt w n0 rb mv s k a ns An l st A c ys W)
 (hown : w6.ownsRow n0 9 1 rv (l.length + 1) (flat ys ++ [.string nm])) (hgr : ((W.alloc o').alloc o).grownBy w6 (Value.slice A l.length c).ownBlock) (hpl : rv.ownBlock = (Value.slice A l.length c).ownBlock \/ rv.ownBlock = some ((W.alloc o').alloc o).heap.size) :
 ∃ A6 c6, rv = .slice A6 (l.length + 1) c6 /\ InSt w n0 rb mv s k a ns An (l ++ [nm]) st A6 c6 (ys ++ [.agg #[.string nm]]) (w6.setCell ⟨w.heap.size + 1, 2, none⟩ rv) := by
 have hlt := h0.lt; have hle := h.le; have hbig := h.big; have hG := GRow.snoc (w5 := W.alloc o') (rb := rb) (x := nm) (a := #[.string nm]) keep_StP h.row (Touched.alloc _ _ _) (by omega) hle rfl rfl hown hgr hpl
 obtain ⟨A6, c6, hv6⟩ := own_row_slice hown; subst hv6; refine ⟨A6, c6, rfl, ?_⟩; have hz : ((W.alloc o').alloc o).heap.size = W.heap.size + 2 := by simp
 have hkeep : ∀ b, b < n0 -> w6.heap[b]? = W.heap[b]? := fun b hb => by
  rw [hgr.block b (by omega) (fun e => by have := (h.row.own.lt _ e.symm).1; omega), Below.heap_alloc _ _ _ (by simp; omega), Below.heap_alloc _ _ _ (by omega)]
 have hT6 : Touched w rb w6 := ⟨hgr.os.trans h.t.old.os, hgr.tape.trans h.t.old.tape, hgr.output.trans h.t.old.output, by have := hgr.size; have := h.t.old.size; omega, fun b hb hne => (hkeep b (by omega)).trans (h.t.old.block b hb hne)⟩
 have hS6 : TSt w rb mv s k a (.slice A l.length c) 0 nilV st w6 := ⟨(hkeep _ (by omega)).trans h.t.res, (hkeep _ (by omega)).trans h.t.var, h0.next (h.t.rdy.rd.of_block (hkeep rb (by omega))) h.t.rdy.ok hT6, hT6⟩
 refine ⟨?_, ?_, ?_, ?_, hbig⟩
 . have := hS6.set h0 2 (.slice A6 (l.length + 1) c6) rfl
   simpa using this
 . have := hG.set (KL.keeps keep_StP _) (c := w.heap.size + 1) (q := 2) (by omega) (Nat.zero_le _) (.slice A6 (l.length + 1) c6)
   simpa using this
 . exact h.nms.keep fun b hb hs => ⟨hs, by rw [Below.heap_setCell _ _ _ _ (by show b ≠ w.heap.size + 1; have := hs.1; omega), hkeep b hs.2]⟩
 . have := hgr.size
   simp [World.setCell]
   omega
theorem InSt.strs {w W : World} {n0 : Nat} {k a : Int} {ns : List (ByteArray × Nat)} {An : Option Addr} {l : List ByteArray} {st : FS} {A : Option Addr} {c : Nat} {ys : List Value} (h : InSt w n0 rb mv s k a ns An l st A c ys W) : SsIn W (fun b => w.heap.size + 2 <= b) A l := by
 obtain ⟨A', c', e', hL⟩ := GRow.strs (l := l) h.row; injection e' with e1 e2 e3; subst e1; exact hL.keep fun b _ hs => ⟨by have : n0 <= b := hs; have := h.big; omega, rfl⟩
theorem tac_ret {w W : World} {st0 st' : FS} {fin : Tc × FS} {x : Tc} {A A' : Option Addr} {c c' : Nat} {tmps : Array Value} (h0 : Rdy w rb mv s st0) (hS : TSt w rb mv s (x.kd : Nat) (x.at_ : Nat) (.slice A x.nms.length c) (x.num : Nat) (.slice A' x.xs.length c') st' W) (hc : st'.code = 0) (hf : fin = (x, st'))
 (hA : SsIn W (fun b => w.heap.size + 2 <= b) A x.nms) (hX : XsIn W (fun b => w.heap.size + 2 <= b) A' x.xs) (hp : tmps.getD 2 undef = .pointer (some ⟨w.heap.size, 0, none⟩)) :
 bodyPost Tryz.prog Tryz.f73 (fun e w' => RX w rb mv s fin.2 (TcR w fin.1) e w') Exit.ret { tmps := tmps, defers := [] } (((((W.setCell ⟨w.heap.size, 0, none⟩ (.int .i64 (x.kd : Nat))).setCell ⟨w.heap.size, 1, none⟩ (.int .i64 (x.at_ : Nat))).setCell ⟨w.heap.size, 2, none⟩ (.slice A x.nms.length c)).setCell ⟨w.heap.size, 3, none⟩ (.int .i64 (x.num : Nat))).setCell ⟨w.heap.size, 4, none⟩ (.slice A' x.xs.length c')) := by
 have hlt := h0.lt; subst hf; have h5 := set5 hS.res (.int .i64 (x.kd : Nat)) (.int .i64 (x.at_ : Nat)) (.slice A x.nms.length c) (.int .i64 (x.num : Nat)) (.slice A' x.xs.length c')
 have hT : Touched w rb (((((W.setCell ⟨w.heap.size, 0, none⟩ (.int .i64 (x.kd : Nat))).setCell ⟨w.heap.size, 1, none⟩ (.int .i64 (x.at_ : Nat))).setCell ⟨w.heap.size, 2, none⟩ (.slice A x.nms.length c)).setCell ⟨w.heap.size, 3, none⟩ (.int .i64 (x.num : Nat))).setCell ⟨w.heap.size, 4, none⟩ (.slice A' x.xs.length c')) :=
  ((((hS.old.setNew (a := ⟨w.heap.size, 0, none⟩) (Nat.le_refl _) _).setNew (a := ⟨w.heap.size, 1, none⟩) (Nat.le_refl _) _).setNew (a := ⟨w.heap.size, 2, none⟩) (Nat.le_refl _) _).setNew (a := ⟨w.heap.size, 3, none⟩) (Nat.le_refl _) _).setNew (a := ⟨w.heap.size, 4, none⟩) (Nat.le_refl _) _
 have hne : ∀ b, b ≠ w.heap.size -> (((((W.setCell ⟨w.heap.size, 0, none⟩ (.int .i64 (x.kd : Nat))).setCell ⟨w.heap.size, 1, none⟩ (.int .i64 (x.at_ : Nat))).setCell ⟨w.heap.size, 2, none⟩ (.slice A x.nms.length c)).setCell ⟨w.heap.size, 3, none⟩ (.int .i64 (x.num : Nat))).setCell ⟨w.heap.size, 4, none⟩ (.slice A' x.xs.length c')).heap[b]? = W.heap[b]? := fun b hb => by
  rw [Below.heap_setCell _ _ _ _ hb, Below.heap_setCell _ _ _ _ hb, Below.heap_setCell _ _ _ _ hb, Below.heap_setCell _ _ _ _ hb, Below.heap_setCell _ _ _ _ hb]
 refine bodyPost_ret (results_cell_row rfl _ _ w.heap.size 133 _ (0, 0) _ hp h5 Tryz.underlying133 rfl Tryz.size66) rfl ?_
 refine .inl ⟨hc, ⟨_, rfl, rfl, A, c, A', c', rfl, hA.keep fun b _ hs => ?_, hX.keep fun b _ hs => ?_⟩, h0.next (hS.rdy.rd.of_block (hne rb (by omega))) hS.rdy.ok hT, hT⟩
 all_goals exact ⟨by have : w.heap.size + 2 <= b := hs; omega, hne b (by have : w.heap.size + 2 <= b := hs; omega)⟩
attribute [local go_sem ↓] ld43_eq
theorem tactic_calls (n : Nat) (hn : n <= 900000) (st : FS) (w : World) (h : Rdy w rb mv s st) (hl : st.left s < n) (hw : st.t.kd <= 3 -> st.t.kd ≠ 1 -> ∀ q ∈ tacWords, st.t.t ≠ q) :
 Calls Tryz.prog 73 #[.pointer (some ⟨rb, 0, none⟩)] w fun e w' => RX w rb mv s (tacticF s n st).2 (TcR w (tacticF s n st).1) e w' := by
 have H := hide h; have hlt := h.lt; have hco := h.code; have hok := h.ok; obtain ⟨fin, hfin⟩ : ∃ fin, fin = tacticF s n st := ⟨_, rfl⟩; rw [<- hfin]; have HF := hide hfin
 obtain ⟨kk, tt, q1, q2, q3, hk, hk3, hk4, htz⟩ := h.kind; obtain ⟨mb, D, hmv, hmr, hml, hown, hat⟩ := h.tac
 have hno : wordNo tt tacWords 1 = tacNo st := by
  by_cases h3 : st.t.kd <= 3
  . rw [(hk3 h3).2, tacNo_eq hco (hw h3)]
  . have h4 : st.t.kd = 4 := by have := hok.tok; obtain ⟨p, hp⟩ := this; have : st.t.kd <= 4 := hp.kd; omega
    rw [wordNo_none tacWords 1 (hk4 h4).1.2.2.2.2.2.2]; unfold tacNo FS.kin; rw [if_neg (by simp [h4])]
 have hc5 : w.cell? ⟨rb, 5, none⟩ = some mv := by
  obtain ⟨h0, c, k, t, r, hw', hp', hz'⟩ := h.rd; exact cell_of hw' 5 rfl
 have hlook : ∀ W : World, W.heap[mb]? = w.heap[mb]? -> (Instr.lookup 50 mv (.string tt) false).run Tryz.prog W = .ok (.int .i64 (tacNo st : Nat)) W := by
  intro W hW; have hownW : W.ownsMap Tryz.prog 9 (plainElem Tryz.prog 3) mb 13 D := by unfold World.ownsMap at *; rw [hW]; exact hown
  obtain ⟨c, hr, hc, _⟩ := hownW.lookup_int (t := 50) (string_keyed Tryz.underlying9) Tryz.underlying50 Tryz.underlying3 (by kernel_rfl) (WideMaps.keyOf_string_mk Tryz.underlying9 (by unfold maxLen; omega : tt.size <= maxLen))
  rw [hmv, hr]; rw [hat tt (by omega)] at hc; injection hc with hc; injection hc with _ hc; rw [<- hc, hno]
 have hk14 := tacNo_lt st; have HN := hide hno; clear hfin hk hk3 hk4 h hw hno hat hown hmr
 have F0 : ∀ W, Below w.heap.size w W -> W.cell? ⟨rb, 5, none⟩ = some mv /\ W.cell? ⟨rb, 3, none⟩ = some (.string tt) /\ W.cell? ⟨rb, 2, none⟩ = some (.int .i64 (st.t.at_ : Nat)) /\ (Instr.lookup 50 mv (.string tt) false).run Tryz.prog W = .ok (.int .i64 (tacNo st : Nat)) W := fun W hW => ⟨cell_later hW hc5, cell_later hW q3, cell_later hW q2, hlook W (hW.block _ hml)⟩
 clear hlook hc5 q1 q2 q3; have HF0 := hide F0; obtain ⟨k, hkk⟩ : ∃ k, k = tacNo st := ⟨_, rfl⟩; obtain ⟨ta, hta⟩ : ∃ a, a = st.t.at_ := ⟨_, rfl⟩; rw [<- hkk, <- hta] at F0; rw [<- hkk] at hk14; have HK := hide hkk
 have HA := hide hta; clear hkk hta hmv
 go_enter Tryz.func73, Tryz.ntmps73
 go_wp2_with fail
 have hB0 : Below w.heap.size w (w.alloc (.cells (tcs 0 0 (.slice none 0 0) 0 (.slice none 0 0)) 133)) := (Below.refl _ _).alloc (Nat.le_refl _) _
 go_upto_region 1 with fail
 go_cut [3] (fun v wx => v = .pointer (some ⟨w.heap.size + 1, 0, none⟩) /\ wx = ((w.alloc (.cells (tcs 0 0 nilV 0 nilV) 133)).alloc (.cells (tcs (k : Nat) (ta : Nat) nilV 0 nilV) 133)).drew)
 case first =>
  go_region_held3 (fun w' => w'.cell? ⟨rb, 5, none⟩ = some mv /\ w'.cell? ⟨rb, 3, none⟩ = some (.string tt) /\ w'.cell? ⟨rb, 2, none⟩ = some (.int .i64 (ta : Nat)) /\ (Instr.lookup 50 mv (.string tt) false).run Tryz.prog w' = .ok (.int .i64 (k : Nat)) w') (first | assumption | exact F0 _ hB0 | exact F0 _ hB0.drew | exact F0 _ (hB0.drew.alloc (by simp) _) | exact F0 _ (hB0.alloc (by simp) _).drew) (fail)
  all_goals
   go_wp2_with fail
   go_meet
   exact ⟨rfl, rfl⟩
 case rest =>
  obtain ⟨rfl, rfl⟩ := hcut
  have HS0 : Hid (TSt w rb mv s (k : Nat) (ta : Nat) nilV 0 nilV st ((w.alloc (.cells (tcs 0 0 nilV 0 nilV) 133)).alloc (.cells (tcs (k : Nat) (ta : Nat) nilV 0 nilV) 133)).drew) := by
   have hB : Below w.heap.size w ((w.alloc (.cells (tcs 0 0 nilV 0 nilV) 133)).alloc (.cells (tcs (k : Nat) (ta : Nat) nilV 0 nilV) 133)).drew := (((Below.refl _ _).alloc (Nat.le_refl _) _).alloc (by simp) _).drew
   exact ⟨heap_alloc2_old _ _ _, heap_alloc2_new _ _ _, H.out.later hB, Touched.of_below hB⟩
  generalize ((w.alloc (.cells (tcs 0 0 nilV 0 nilV) 133)).alloc (.cells (tcs (k : Nat) (ta : Nat) nilV 0 nilV) 133)).drew = W0 at *; obtain ⟨c0, c1, c2, c3, c4, cf⟩ := cells5 HS0.out.var; clear HF0 F0 hB0
  by_cases h0 : k = 0
  . have e0 : ((k : Int) == 0) = true := by simp; omega
    have KR := hide (refuseQ HS0.out.rdy)
    have HX : Hid (∀ e W1, Threw W0 rb 1 st.t.at_ e W1 -> RX w rb mv s fin.2 (TcR w fin.1) e W1) := hide fun e W1 hth => by
     rw [HF.out, tac_zero (by rw [<- HK.out]; exact h0)]
     exact RX.bad (st' := st.fail) (lost_of (by unfold FS.fail; rw [if_pos hco]; simp)) (by rw [fp_of (by unfold FS.fail; rw [if_pos hco]; simp)]; unfold FS.fail; rw [if_pos hco]; exact hth) HS0.out.old (Bdn.refl _)
    clear h0
    go_wp2_with (go_at_call 39; refine KR.out.mono ?_)
    intro e W1 hth; have HY := hide (HX.out e W1 hth); obtain ⟨fb, rfl, -⟩ := hth
    go_wp2_with fail
    exact ⟨rfl, HY.out⟩
  have e0 : ((k : Int) == 0) = false := by simp; omega
  have hk1 : st.kin 1 = true := by
   have := HK.out; unfold tacNo at this
   by_cases hq : st.kin 1 = true
   . exact hq
   . rw [if_neg hq] at this; exact absurd this h0
  have hkd : st.t.kd = 1 := by unfold FS.kin at hk1; simp at hk1; exact hk1.2
  have hlef := FS.step_left hok hco (by omega) (by omega); have HLe : Hid ((st.step s).left s < n) := hide (by omega); have KT := hide (takeQ HS0.out.rdy (by omega)); have hcs := hide (tac_cases k h0 hk14)
  have hco1 : (st.step s).code = 0 := by unfold FS.step; rw [if_pos hco]; exact hco
  have hok1 := hok.step; rw [hkd] at KT; have HK0 := hide h0; clear hkd hk1 hlef h0
  go_wp2_with (go_at_call 40; refine KT.out.mono ?_)
  rintro e W1 ⟨rfl, hR1, hT1⟩; have HS1 := hide (HS0.out.touched hlt hR1 hT1); obtain ⟨s0, s1, s2, s3⟩ := sh_cells hR1.tb.ts k hk14; have hkk14 : ((k : Nat) : Int) < 14 := by omega
  have hz1 := HS1.out.lt; obtain ⟨st1, hst1⟩ : ∃ x, x = st.step s := ⟨_, rfl⟩; rw [<- hst1] at HS1 HLe hco1 hok1
  have HS2 := hide fun b0 b1 b2 b3 => HS1.out.alloc hlt (.cells #[.bool b0, .bool b1, .bool b2, .bool b3] 148)
  have hsb := fun b0 b1 b2 b3 => heap_alloc_new W1 (.cells #[.bool b0, .bool b1, .bool b2, .bool b3] 148)
  have HCs := hide (cells5 HS1.out.var); have HST := hide hst1; clear hR1 hT1 KT c0 c1 c2 c3 c4 cf HS0 hst1
  rcases hcs.out with ⟨hk, hsh⟩ | ⟨hk, hsh⟩ | ⟨hk, hsh⟩ | ⟨hk, hsh⟩ | ⟨hk, hsh⟩ | ⟨hk, hsh⟩
  all_goals
   rw [hsh] at s0 s1 s2 s3
   simp only at s0 s1 s2 s3
   clear hsh hcs
  . -- intro
    have hnm : ((namesN s (n + 1) [] st1).1.map (·.1), (namesN s (n + 1) [] st1).2) = moreN s n [(st1.name s).1] (st1.name s).2 := names_more (s := s) n [((st1.name s).1, st1.t.at_)] (st1.name s).2
    have HFx : Hid (fin = (⟨k, ta, (namesN s (n + 1) [] st1).1.map (·.1), 0, []⟩, (namesN s (n + 1) [] st1).2)) := hide (by rw [HF.out, tac_names (by rw [<- HK.out]; exact hk), <- HST.out, <- hnm, HK.out, HA.out])
    clear hk hnm; have HS3 := hide (HS2.out false true false false); have hb3 := hsb false true false false; obtain ⟨c0, c1, c2, c3, c4, cf⟩ := HCs.out; clear hsb HS2 HCs
    go_upto_region 6 with fail
    obtain ⟨W2, hW2⟩ : ∃ W2, W2 = W1.alloc (.cells #[.bool false, .bool true, .bool false, .bool false] 148) := ⟨_, rfl⟩; have hsz2 : W1.heap.size < W2.heap.size := by rw [hW2]; simp
    rw [<- hW2] at HS3 hb3 ⊢; obtain ⟨p0, p1, p2, p3⟩ := cells4 hb3; clear c0 c1 c2 c3 c4 cf hW2 s0 s1 s2 s3; have KN := hide (names_calls n (by omega) st1 W2 HS3.out.rdy HLe.out)
    have HNl : Hid ((namesN s (n + 1) [] st1).1.length <= 1000000) := hide (by have := namesN_len s (n + 1) [] st1; simp at this; omega); generalize (namesN s (n + 1) [] st1).1 = nl at *
    generalize (namesN s (n + 1) [] st1).2 = st2 at *
    go_wp2_with (go_at_call 69; refine KN.out.mono ?_)
    intro e W4 h4
    rcases h4 with ⟨hc4, hG4, hR4, hT4⟩ | ⟨hc4, hth⟩
    rotate_left
    . have HX : Hid (RX w rb mv s fin.2 (TcR w fin.1) e W4) := RX.bad (lost_of hc4) (by rw [fp_of hc4]; exact hth) HS3.out.old (by rw [HFx.out]; exact Bdn.refl _)
      obtain ⟨fb, rfl, -⟩ := hth
      go_wp2_with fail
      exact ⟨rfl, HX.out⟩
    obtain ⟨An, cn, rfl, hN4⟩ := hG4; have HS4 := hide (HS3.out.touched hlt hR4 hT4); have hb4 := (hT4.at (k := W1.heap.size) hsz2 (by omega)).trans hb3; have hz4 := hT4.size; have hz2 := HS3.out.lt
    have hsl : W1.heap.size < W4.heap.size := by omega
    have HI0 : Hid (InSt w W4.heap.size rb mv s (k : Nat) (ta : Nat) nl An [] st2 none 0 [] W4) := ⟨HS4.out, GRow.start _ _ _ _ _ _, hN4.keep fun b hb hs => ⟨⟨by have : W2.heap.size <= b := hs; omega, hb⟩, rfl⟩, Nat.le_refl _, by omega⟩
    obtain ⟨i0, hi, hz0, hz1', hz2'⟩ := infoParts Tryz.info9'; obtain ⟨ln, hln⟩ : ∃ ln, ln = nl.length := ⟨_, rfl⟩; have HLn := hide hln; rw [<- hln] at HNl; rw [<- hln]
    clear hR4 hT4 KN HS3 p0 p1 p2 p3 hb3 hN4 HS4 hln
    go_wp2_with fail
    go_loopg [54] ln (fun g i wr => ∃ (l : List ByteArray) (A : Option Addr) (c : Nat) (ys : List Value), l.length + g = ln /\ i = .int .i64 (l.length : Nat) /\ Hid (l = (nl.take l.length).map (·.1)) /\ Hid (InSt w W4.heap.size rb mv s (k : Nat) (ta : Nat) nl An l st2 A c ys wr) /\ Hid (wr.heap[W1.heap.size]? = some (.cells #[.bool false, .bool true, .bool false, .bool false] 148 (0, 0))))
    case atStart => exact ⟨[], none, 0, [], by simp, rfl, rfl, HI0.out, hb4⟩
    case round =>
     clear HI0 hb4; obtain ⟨l, A, c, ys, hlg, rfl, HLl, HI, HB⟩ := hrel
     by_cases hj : l.length < ln
     . have hjj : decide (((l.length : Nat) : Int) < (ln : Int)) = true := by simp; omega
       have hjn : ((l.length : Nat) : Int) < ((ln : Nat) : Int) := by omega
       have hjl : l.length < nl.length := by rw [<- HLn.out]; exact hj
       obtain ⟨nb, rfl, hs3, n0, n1, n2⟩ := HI.out.nms l.length hjl
       have hLn : Hid (l ++ [nl[l.length].1] = (nl.take (l ++ [nl[l.length].1]).length).map (·.1)) := hide (by
        have h1 : nl.take (l.length + 1) = nl.take l.length ++ [nl[l.length]] := by rw [List.take_succ_eq_append_getElem hjl]
        simp only [List.length_append, List.length_cons, List.length_nil, Nat.zero_add]
        rw [h1, List.map_append, <- HLl.out]
        rfl)
       generalize nl[l.length].1 = nm1 at *; generalize nl[l.length].2 = ta1 at *; obtain ⟨c0, c1, c2, c3, c4, cf⟩ := cells5 HI.out.t.var; have hle := HI.out.le; have hlv := HI.out.t.lt
       have hlv' : w.heap.size < wr.heap.size := by omega
       have hbx := heap_alloc_new wr (.cells #[.int .i64 1, .int .i64 (ta1 : Nat), .string nm1] 46)
       have t2 : (wr.alloc (.cells #[.int .i64 1, .int .i64 (ta1 : Nat), .string nm1] 46)).cell? ⟨wr.heap.size, 2, none⟩ = some (.string nm1) := cell_of hbx 2 rfl
       have d2 : (wr.alloc (.cells #[.int .i64 1, .int .i64 (ta1 : Nat), .string nm1] 46)).cell? ⟨w.heap.size + 1, 2, none⟩ = some (.slice A l.length c) := (World.cell?_of_block (Below.heap_alloc _ _ _ hlv)).trans c2
       have HO := hide ((HI.out.row.own.alloc (.cells #[.int .i64 1, .int .i64 (ta1 : Nat), .string nm1] 46)).alloc (.cells #[.string nm1] 9))
       have hsz7 : (wr.alloc (.cells #[.int .i64 1, .int .i64 (ta1 : Nat), .string nm1] 46)).heap.size = wr.heap.size + 1 := by simp
       have hnl := HNl.out; clear HLl c0 c1 c3 c4
       go_upto_region 12 with fail
       clear n0 n1 n2 cf hbx; obtain ⟨W7, hW7⟩ : ∃ W7, W7 = wr.alloc (.cells #[.int .i64 1, .int .i64 (ta1 : Nat), .string nm1] 46) := ⟨_, rfl⟩; rw [<- hW7] at t2 d2 HO hsz7 ⊢; have HW7 := hide hW7; clear hW7 c2
       have hw7l : wr.heap.size < W7.heap.size := by omega
       have hw7m : w.heap.size + 1 < W7.heap.size := by omega
       have hw7b : W4.heap.size <= W7.heap.size := by omega
       clear hsz7
       go_wp2_with (at_builtin; refine wpList_append_placed _ rfl _ _ 54 rfl W4.heap.size 9 i0 _ 1 16 Tryz.underlying54 hi hz0 hz1' hz2' rfl (by decide) (.slice A l.length c) l.length (flat ys) rfl HO.out ⟨W7.heap.size, 0, none⟩ 1 1 [.string nm1] rfl rfl (cells_new _ [.string nm1] _) (by intro u hu; simp at hu; subst hu; rfl) (by decide) (by unfold maxLen; omega) (by omega) (by simp; omega) ?_)
       intro v' w6 hown6 hgr6 hpl6
       have hk6 : ∀ b, b < W4.heap.size -> w6.heap[b]? = wr.heap[b]? := fun b hb => by
        rw [hgr6.block b (by simp; omega) (fun e => by have := (HI.out.row.own.lt _ e.symm).1; omega), Below.heap_alloc _ _ _ (by omega), HW7.out, Below.heap_alloc _ _ _ (by omega)]
       have hv6 := (hk6 (w.heap.size + 1) (by have := HI.out.big; omega)).trans HI.out.t.var; have hb6 := (hk6 W1.heap.size hsl).trans HB.out; obtain ⟨-, -, y2, -, -, yf⟩ := cells5 hv6
       have hN := HI.out.next (o' := .cells #[.int .i64 1, .int .i64 (ta1 : Nat), .string nm1] 46) (o := .cells #[.string nm1] 9) (nm := nm1) (rv := v') (w6 := w6) H.out hown6 (by rw [<- HW7.out]; exact hgr6) (by rw [<- HW7.out]; simpa using hpl6)
       have HB6 : Hid ((w6.setCell ⟨w.heap.size + 1, 2, none⟩ v').heap[W1.heap.size]? = some (.cells #[.bool false, .bool true, .bool false, .bool false] 148 (0, 0))) := hide ((Below.heap_setCell _ _ _ _ (by show W1.heap.size ≠ w.heap.size + 1; omega)).trans hb6)
       obtain ⟨A6, c6, hv', hI6⟩ := hN; subst hv'; have HI6 := hide hI6; clear hown6 hgr6 hpl6 hk6 hv6 hb6 HO HW7 t2 d2 HI HB hI6
       go_wp2_with fail
       go_roundg (ln - (l.length + 1))
       case measure => omega
       case rel => exact ⟨l ++ [nm1], A6, c6, _, by simp; omega, by simp, hLn, HI6, HB6⟩
     . have hjj : decide (((l.length : Nat) : Int) < (ln : Int)) = false := by simp; omega
       have hll : Hid (l = nl.map (·.1)) := hide (by rw [HLl.out, List.take_of_length_le (by rw [<- HLn.out]; omega)]); have HFy : Hid (fin = (⟨k, ta, l, 0, []⟩, st2)) := hide (by rw [HFx.out, <- hll.out])
       obtain ⟨p0, p1, p2, p3⟩ := cells4 HB.out; obtain ⟨c0, c1, c2, c3, c4, cf⟩ := cells5 HI.out.t.var; obtain ⟨r0, r1, r2, r3, r4, rf⟩ := cells5 HI.out.t.res; clear HLl hll HFx HB
       go_wp2_with fail
       exact tac_ret (x := ⟨k, ta, l, 0, []⟩) (A := A) (A' := none) (c := c) (c' := 0) H.out HI.out.t hc4 HFy.out HI.out.strs (XsIn.nil _ _ _) rfl
  . -- induction, cases
    have HFx : Hid (fin = (⟨k, ta, [(st1.name s).1], 0, []⟩, (st1.name s).2)) := hide (by rw [HF.out, tac_name (by rw [<- HK.out]; exact hk), HST.out, HK.out, HA.out]); clear hk
    have HS3 := hide (HS2.out true false false false); have hb3 := hsb true false false false; obtain ⟨c0, c1, c2, c3, c4, cf⟩ := HCs.out; clear hsb HS2 HCs
    go_upto_region 6 with fail
    obtain ⟨W2, hW2⟩ : ∃ W2, W2 = W1.alloc (.cells #[.bool true, .bool false, .bool false, .bool false] 148) := ⟨_, rfl⟩; have hsz2 : W1.heap.size < W2.heap.size := by rw [hW2]; simp
    rw [<- hW2] at HS3 hb3 ⊢; obtain ⟨p0, p1, p2, p3⟩ := cells4 hb3; clear c0 c1 c2 c3 c4 cf hW2 s0 s1 s2 s3; have KN := hide (nameQ HS3.out.rdy); generalize (st1.name s).1 = nm at *
    generalize (st1.name s).2 = st2 at *; generalize st1.t.at_ = ta1 at *
    go_wp2_with (go_at_call 26; refine KN.out.mono ?_)
    intro e W4 h4
    rcases h4 with ⟨hc4, rfl, hR4, hT4⟩ | ⟨hc4, hth⟩
    rotate_left
    . have HX : Hid (RX w rb mv s fin.2 (TcR w fin.1) e W4) := RX.bad (lost_of hc4) (by rw [fp_of hc4]; exact hth) HS3.out.old (by rw [HFx.out]; exact Bdn.refl _)
      obtain ⟨fb, rfl, -⟩ := hth
      go_wp2_with fail
      exact ⟨rfl, HX.out⟩
    have HS4 := hide (HS3.out.touched hlt hR4 hT4); have hb4 := (hT4.at (k := W1.heap.size) hsz2 (by omega)).trans hb3
    have hfd : ∀ (w : World), (Instr.field 46 (.agg #[.int .i64 1, .int .i64 (ta1 : Nat), .string nm]) 2).run Tryz.prog w = .ok (.string nm) w := fun w => by kernel_rfl
    have hz4 := hT4.size; clear hR4 hT4 KN HS3 p0 p1 p2 p3 hb3; obtain ⟨c0, c1, c2, c3, c4, cf⟩ := cells5 HS4.out.var; have hl4 := HS4.out.lt; have hl4' : w.heap.size < W4.heap.size := by omega
    go_upto_region 8 with fail
    obtain ⟨W5, hW5, hS5, hN5, hk5, hz5⟩ := tac_named H.out HS4.out nm; rw [<- hW5]; have HS5 := hide hS5; have HN5 := hide hN5; have hb5 := (hk5 W1.heap.size (by omega) (by omega)).trans hb4
    obtain ⟨p0, p1, p2, p3⟩ := cells4 hb5; clear c0 c1 c2 c3 c4 cf hW5 hS5 hN5 hk5 HS4 hb4 hfd hl4 hl4'; obtain ⟨c0, c1, c2, c3, c4, cf⟩ := cells5 HS5.out.var; obtain ⟨r0, r1, r2, r3, r4, rf⟩ := cells5 HS5.out.res
    go_wp2_with fail
    exact tac_ret (x := ⟨k, ta, [nm], 0, []⟩) (A := some ⟨W4.heap.size, 0, none⟩) (A' := none) (c := 1) (c' := 0) H.out HS5.out hc4 HFx.out HN5.out (XsIn.nil _ _ _) rfl
  . -- have
    have HFx : Hid (fin = (⟨k, ta, [(st1.name s).1], 0, [(exprN s n ((st1.name s).2.must s sColon)).1]⟩, (exprN s n ((st1.name s).2.must s sColon)).2)) := hide (by rw [HF.out, tac_have (by rw [<- HK.out]; exact hk), HST.out, HK.out, HA.out])
    have HL2 : Hid (((st1.name s).2.must s sColon).left s < n) := hide (by have := ((Dn.refl hok1).name.must (q := sColon)).left; have := HLe.out; omega); clear hk; have HS3 := hide (HS2.out true false false true)
    have hb3 := hsb true false false true; obtain ⟨c0, c1, c2, c3, c4, cf⟩ := HCs.out; clear hsb HS2 HCs
    go_upto_region 6 with fail
    obtain ⟨W2, hW2⟩ : ∃ W2, W2 = W1.alloc (.cells #[.bool true, .bool false, .bool false, .bool true] 148) := ⟨_, rfl⟩; have hsz2 : W1.heap.size < W2.heap.size := by rw [hW2]; simp
    rw [<- hW2] at HS3 hb3 ⊢; obtain ⟨p0, p1, p2, p3⟩ := cells4 hb3; clear c0 c1 c2 c3 c4 cf hW2 s0 s1 s2 s3; have KN := hide (nameQ HS3.out.rdy); generalize (st1.name s).1 = nm at *
    generalize (st1.name s).2 = st2 at *; generalize st1.t.at_ = ta1 at *
    go_wp2_with (go_at_call 26; refine KN.out.mono ?_)
    intro e W4 h4
    rcases h4 with ⟨hc4, rfl, hR4, hT4⟩ | ⟨hc4, hth⟩
    rotate_left
    . have HX : Hid (RX w rb mv s fin.2 (TcR w fin.1) e W4) := RX.bad (lost_of hc4) (by rw [fp_of hc4]; exact hth) HS3.out.old (by rw [HFx.out]; exact (bdn_must _ sColon).trans (exprN_bfw n _))
      obtain ⟨fb, rfl, -⟩ := hth
      go_wp2_with fail
      exact ⟨rfl, HX.out⟩
    have HS4 := hide (HS3.out.touched hlt hR4 hT4); have hb4 := (hT4.at (k := W1.heap.size) hsz2 (by omega)).trans hb3
    have hfd : ∀ (w : World), (Instr.field 46 (.agg #[.int .i64 1, .int .i64 (ta1 : Nat), .string nm]) 2).run Tryz.prog w = .ok (.string nm) w := fun w => by kernel_rfl
    have hz4 := hT4.size; clear hR4 hT4 KN HS3 p0 p1 p2 p3 hb3; obtain ⟨c0, c1, c2, c3, c4, cf⟩ := cells5 HS4.out.var; have hl4 := HS4.out.lt; have hl4' : w.heap.size < W4.heap.size := by omega
    go_upto_region 8 with fail
    obtain ⟨W5, hW5, hS5, hN5, hk5, hz5⟩ := tac_named H.out HS4.out nm; rw [<- hW5]; have HS5 := hide hS5; have HN5 := hide hN5; have hb5 := (hk5 W1.heap.size (by omega) (by omega)).trans hb4
    obtain ⟨p0, p1, p2, p3⟩ := cells4 hb5; clear c0 c1 c2 c3 c4 cf hW5 hS5 hN5 hk5 HS4 hb4 hfd hl4 hl4'; have KM := hide (expectQ HS5.out.rdy sColon); have hl5 := HS5.out.lt; generalize st2.must s sColon = st3 at *
    go_wp2_with (go_at_call 29; refine KM.out.mono ?_)
    intro e W8 h8
    rcases h8 with ⟨hc8, rfl, hR8, hT8⟩ | ⟨hc8, hth⟩
    rotate_left
    . have HX : Hid (RX w rb mv s fin.2 (TcR w fin.1) e W8) := RX.bad (lost_of hc8) (by rw [fp_of hc8]; exact hth) HS5.out.old (by rw [HFx.out]; exact exprN_bfw n _)
      obtain ⟨fb, rfl, -⟩ := hth
      go_wp2_with fail
      exact ⟨rfl, HX.out⟩
    have HS8 := hide (HS5.out.touched hlt hR8 hT8); have hb8 := (hT8.at (k := W1.heap.size) (by omega) (by omega)).trans hb5
    have HN8 := hide (HN5.out.keep (S' := fun b => w.heap.size + 2 <= b) fun b hb hs => ⟨hs, hT8.at hb (by have : w.heap.size + 2 <= b := hs; omega)⟩); have hz8 := hT8.size; clear hR8 hT8 KM HS5 HN5 hb5
    have KX := hide (expr_all n hn st3 W8 HS8.out.rdy HL2.out); have hzx := HS8.out.lt; have HSx := hide HS8.out; clear p0 p1 p2 p3; obtain ⟨p0, p1, p2, p3⟩ := cells4 hb8
    go_wp2_with (go_at_call 30; refine KX.out.mono ?_)
    intro e W6 h6
    rcases h6 with ⟨hc6, hG6, hR6, hT6⟩ | ⟨hc6, hth⟩
    rotate_left
    . have HX : Hid (RX w rb mv s fin.2 (TcR w fin.1) e W6) := RX.bad hc6 hth HSx.out.old (by rw [HFx.out]; exact Bdn.refl _)
      obtain ⟨fb, rfl, -⟩ := hth
      go_wp2_with fail
      exact ⟨rfl, HX.out⟩
    obtain ⟨e6, rfl, hl6, xv, hxb, hxi⟩ := hG6; obtain ⟨kd, a, nm', ex, gi, inf, im, A1, m1, c1', A2, m2, c2', rfl⟩ := hxi.cells; have L6 := ld43_run (W := W6) (block_range hxb) rfl
    have HS6 := hide (HSx.out.touched hlt hR6 hT6); have hb6 := (hT6.at (k := W1.heap.size) (by omega) (by omega)).trans hb8; have hz6 := hT6.size
    have HXi : Hid (InX W6 (fun b => w.heap.size + 2 <= b) _ _) := hxi.mono fun b hb => by have : W8.heap.size <= b := hb; omega
    have HN6 := hide (HN8.out.keep (S' := fun b => w.heap.size + 2 <= b) fun b hb hs => ⟨hs, hT6.at hb (by have : w.heap.size + 2 <= b := hs; omega)⟩); clear hR6 hT6 KX p0 p1 p2 p3 hxi hxb
    obtain ⟨c0, c1, c2, c3, c4, cf⟩ := cells5 HS6.out.var; have hl7 := HS6.out.lt; have hl7' : w.heap.size < W6.heap.size := by omega
    go_upto_region 20 with fail
    obtain ⟨W7, hW7, hS7, hX7, hk7⟩ := tac_exprd H.out HS6.out HXi.out; rw [<- hW7]; have HS7 := hide hS7; have HX7 := hide hX7
    have HN7 := hide (HN6.out.keep (S' := fun b => w.heap.size + 2 <= b) fun b hb hs => ⟨hs, hk7 b hb (by have : w.heap.size + 2 <= b := hs; omega)⟩); clear c0 c1 c2 c3 c4 cf hW7 hS7 hX7 hk7 HS6 hb6 hl7 hl7' L6 HXi
    obtain ⟨c0, c1, c2, c3, c4, cf⟩ := cells5 HS7.out.var; obtain ⟨r0, r1, r2, r3, r4, rf⟩ := cells5 HS7.out.res
    go_wp2_with fail
    exact tac_ret (x := ⟨k, ta, [nm], 0, [(exprN s n st3).1]⟩) (A := some ⟨W4.heap.size, 0, none⟩) (A' := some ⟨W6.heap.size, 0, none⟩) (c := 1) (c' := 1) H.out HS7.out hc6 HFx.out HN7.out HX7.out rfl
  . -- exact and the like
    have HFx : Hid (fin = (⟨k, ta, [], 0, [(exprN s n st1).1]⟩, (exprN s n st1).2)) := hide (by rw [HF.out, tac_expr (by rw [<- HK.out]; exact hk), HST.out, HK.out, HA.out]); clear hk
    have HS3 := hide (HS2.out false false false true); have hb3 := hsb false false false true; obtain ⟨c0, c1, c2, c3, c4, cf⟩ := HCs.out; clear hsb HS2 HCs
    go_upto_region 6 with fail
    obtain ⟨W2, hW2⟩ : ∃ W2, W2 = W1.alloc (.cells #[.bool false, .bool false, .bool false, .bool true] 148) := ⟨_, rfl⟩; have hsz2 : W1.heap.size < W2.heap.size := by rw [hW2]; simp
    rw [<- hW2] at HS3 hb3 ⊢; obtain ⟨p0, p1, p2, p3⟩ := cells4 hb3; clear c0 c1 c2 c3 c4 cf hW2 s0 s1 s2 s3; have KX := hide (expr_all n hn st1 W2 HS3.out.rdy HLe.out); have hzx := HS3.out.lt
    have HSx := hide HS3.out; clear p0 p1 p2 p3; obtain ⟨p0, p1, p2, p3⟩ := cells4 hb3
    go_wp2_with (go_at_call 30; refine KX.out.mono ?_)
    intro e W6 h6
    rcases h6 with ⟨hc6, hG6, hR6, hT6⟩ | ⟨hc6, hth⟩
    rotate_left
    . have HX : Hid (RX w rb mv s fin.2 (TcR w fin.1) e W6) := RX.bad hc6 hth HSx.out.old (by rw [HFx.out]; exact Bdn.refl _)
      obtain ⟨fb, rfl, -⟩ := hth
      go_wp2_with fail
      exact ⟨rfl, HX.out⟩
    obtain ⟨e6, rfl, hl6, xv, hxb, hxi⟩ := hG6; obtain ⟨kd, a, nm', ex, gi, inf, im, A1, m1, c1', A2, m2, c2', rfl⟩ := hxi.cells; have L6 := ld43_run (W := W6) (block_range hxb) rfl
    have HS6 := hide (HSx.out.touched hlt hR6 hT6); have hb6 := (hT6.at (k := W1.heap.size) hsz2 (by omega)).trans hb3; have hz6 := hT6.size
    have HXi : Hid (InX W6 (fun b => w.heap.size + 2 <= b) _ _) := hxi.mono fun b hb => by have : W2.heap.size <= b := hb; omega
    clear hR6 hT6 KX p0 p1 p2 p3 hxi hxb; obtain ⟨c0, c1, c2, c3, c4, cf⟩ := cells5 HS6.out.var; have hl7 := HS6.out.lt; have hl7' : w.heap.size < W6.heap.size := by omega
    go_upto_region 20 with fail
    obtain ⟨W7, hW7, hS7, hX7, hk7⟩ := tac_exprd H.out HS6.out HXi.out; rw [<- hW7]; have HS7 := hide hS7; have HX7 := hide hX7; clear c0 c1 c2 c3 c4 cf hW7 hS7 hX7 hk7 HS6 hb6 hl7 hl7' L6 HXi
    obtain ⟨c0, c1, c2, c3, c4, cf⟩ := cells5 HS7.out.var; obtain ⟨r0, r1, r2, r3, r4, rf⟩ := cells5 HS7.out.res
    go_wp2_with fail
    exact tac_ret (x := ⟨k, ta, [], 0, [(exprN s n st1).1]⟩) (A := none) (A' := some ⟨W6.heap.size, 0, none⟩) (c := 0) (c' := 1) H.out HS7.out hc6 HFx.out (SsIn.nil _ _ _) HX7.out rfl
  . -- constructor
    have hnum : (st.step s).kin 2 = true -> decV (st.step s).t.t <= 99 := fun hq => num_small (by rw [<- HST.out]; exact HS1.out.rdy) hq
    obtain ⟨hf2, hf1⟩ := tac_num (s := s) (n := n) (by rw [<- HK.out]; exact hk) hnum; have HF2 : Hid (fin.2 = numF s 99 st1) := hide (by rw [HF.out, hf2, HST.out])
    have HFx : Hid ((numF s 99 st1).code = 0 -> fin = (⟨k, ta, [], decV st1.t.t, []⟩, numF s 99 st1)) := hide fun hq => by
     rw [HST.out] at hq ⊢; rw [HF.out, HK.out, HA.out]; exact Prod.ext (hf1 hq) hf2
    clear hk hf1 hf2 hnum; have HS3 := hide (HS2.out false false true false); have hb3 := hsb false false true false; obtain ⟨c0, c1, c2, c3, c4, cf⟩ := HCs.out; clear hsb HS2 HCs
    go_upto_region 6 with fail
    obtain ⟨W2, hW2⟩ : ∃ W2, W2 = W1.alloc (.cells #[.bool false, .bool false, .bool true, .bool false] 148) := ⟨_, rfl⟩; have hsz2 : W1.heap.size < W2.heap.size := by rw [hW2]; simp
    rw [<- hW2] at HS3 hb3 ⊢; obtain ⟨p0, p1, p2, p3⟩ := cells4 hb3; clear c0 c1 c2 c3 c4 cf hW2 s0 s1 s2 s3; have KN := hide (numberQ HS3.out.rdy 99 (by omega)); generalize decV st1.t.t = d at *
    generalize numF s 99 st1 = st2 at *
    go_wp2_with (go_at_call 89; refine KN.out.mono ?_)
    intro e W4 h4
    rcases h4 with ⟨hc4, rfl, hR4, hT4⟩ | ⟨hc4, hth⟩
    rotate_left
    . have HX : Hid (RX w rb mv s fin.2 (TcR w fin.1) e W4) := RX.bad (lost_of hc4) (by rw [fp_of hc4]; exact hth) HS3.out.old (by rw [HF2.out]; exact Bdn.refl _)
      obtain ⟨fb, rfl, -⟩ := hth
      go_wp2_with fail
      exact ⟨rfl, HX.out⟩
    have HS4 := hide (HS3.out.touched hlt hR4 hT4); have hb4 := (hT4.at (k := W1.heap.size) hsz2 (by omega)).trans hb3; have hz4 := hT4.size; clear hR4 hT4 KN HS3 p0 p1 p2 p3 hb3
    obtain ⟨c0, c1, c2, c3, c4, cf⟩ := cells5 HS4.out.var
    go_upto_region 18 with fail
    have HS5 := hide (HS4.out.set H.out 3 (.int .i64 (d : Nat)) rfl)
    have hb5 : (W4.setCell ⟨w.heap.size + 1, 3, none⟩ (.int .i64 (d : Nat))).heap[W1.heap.size]? = _ := (Below.heap_setCell _ _ _ _ (by show W1.heap.size ≠ w.heap.size + 1; omega)).trans hb4
    generalize W4.setCell ⟨w.heap.size + 1, 3, none⟩ (.int .i64 (d : Nat)) = W5 at *; clear c0 c1 c2 c3 c4 cf HS4 hb4; obtain ⟨p0, p1, p2, p3⟩ := cells4 hb5; obtain ⟨c0, c1, c2, c3, c4, cf⟩ := cells5 HS5.out.var
    obtain ⟨r0, r1, r2, r3, r4, rf⟩ := cells5 HS5.out.res
    go_wp2_with fail
    exact tac_ret (x := ⟨k, ta, [], d, []⟩) (A := none) (A' := none) (c := 0) (c' := 0) H.out HS5.out hc4 (HFx.out hc4) (SsIn.nil _ _ _) (XsIn.nil _ _ _) rfl
  . -- the bare ones
    have HFx : Hid (fin = (⟨k, ta, [], 0, []⟩, st1)) := hide (by rw [HF.out, tac_bare (by rw [<- HK.out]; exact HK0.out) (by rw [<- HK.out]; exact hk), HST.out, HK.out, HA.out])
    have HS3 := hide (HS2.out false false false false); have hb3 := hsb false false false false; obtain ⟨c0, c1, c2, c3, c4, cf⟩ := HCs.out; clear hk hsb HS2 HCs
    go_upto_region 6 with fail
    obtain ⟨W2, hW2⟩ : ∃ W2, W2 = W1.alloc (.cells #[.bool false, .bool false, .bool false, .bool false] 148) := ⟨_, rfl⟩; rw [<- hW2] at HS3 hb3 ⊢
    have p0 : W2.cell? ⟨W1.heap.size, 0, none⟩ = some (.bool false) := cell_of hb3 0 rfl; have p1 : W2.cell? ⟨W1.heap.size, 1, none⟩ = some (.bool false) := cell_of hb3 1 rfl
    have p2 : W2.cell? ⟨W1.heap.size, 2, none⟩ = some (.bool false) := cell_of hb3 2 rfl; have p3 : W2.cell? ⟨W1.heap.size, 3, none⟩ = some (.bool false) := cell_of hb3 3 rfl; clear c0 c1 c2 c3 c4 cf hW2 s0 s1 s2 s3
    obtain ⟨c0, c1, c2, c3, c4, cf⟩ := cells5 HS3.out.var; obtain ⟨r0, r1, r2, r3, r4, rf⟩ := cells5 HS3.out.res
    go_wp2_with fail
    exact tac_ret (x := ⟨k, ta, [], 0, []⟩) (A := none) (A' := none) (c := 0) (c' := 0) H.out HS3.out hco1 HFx.out (SsIn.nil _ _ _) (XsIn.nil _ _ _) rfl
end
end Go.Proofs.YtockffblncdikaaGreatDoor
