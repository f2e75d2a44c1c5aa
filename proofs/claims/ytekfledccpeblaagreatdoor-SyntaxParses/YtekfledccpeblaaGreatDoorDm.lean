/- The document's atoms: names without levels. -/
import Derived.Test.YtekfledccpeblaaGreatDoorDj

namespace Go.Proofs.YtekfledccpeblaaGreatDoor
open Go.RowKit

/-- A name as an expression, and its cells. -/
abbrev nmX (a : Nat) (nm : ByteArray) (ex gi : Bool) (ls : List LvB) : Ex := .node 1 a nm ex gi false false ls []
abbrev nmC (a : Nat) (nm : ByteArray) (ex gi : Bool) (v : Value) : Array Value := xcs 1 (a : Nat) nm ex gi false false v nilV
theorem nm_in (W : World) (S : Nat → Prop) (a : Nat) (nm : ByteArray) (ex gi : Bool) : InX W S (nmX a nm ex gi []) (nmC a nm ex gi nilV) := InX.of (LvsIn.nil _ _ _) (XsIn.nil _ _ _)
section
variable {fb eb : Nat} {s : ByteArray} {w W W' : World} {st st' : FS} {x x' : Ex} {xv xv' : Array Value}
theorem BSt.put (h : BSt w fb s st eb x xv W) (hf : fb < w.heap.size) (i : Nat) (v : Value) (hv : xv' = xv.setIfInBounds i v) (hx : InX (W.setCell ⟨eb, i, none⟩ v) (fun b => w.heap.size < b ∧ b ≠ eb) x' xv') : BSt w fb s st eb x' xv' (W.setCell ⟨eb, i, none⟩ v) := by
  have hg := h.gt
  have he : ∀ k, k ≠ eb → (W.setCell ⟨eb, i, none⟩ v).heap[k]? = W.heap[k]? := fun k hk => Below.heap_setCell _ _ _ _ (by show k ≠ eb; exact hk)
  exact ⟨⟨h.st.rd.of_block (he _ (by omega)), h.st.old.setNew (a := ⟨eb, i, none⟩) (Nat.le_of_lt hg) v, (he _ (by omega)).trans h.st.res⟩, hg, by rw [hv]; simp [World.setCell, Array.getElem?_modify, h.at_], hx⟩
theorem BSt.cell (h : BSt w fb s st eb x xv W) (i : Nat) {v : Value} (hv : xv[i]? = some v) : W.cell? ⟨eb, i, none⟩ = some v := cell_of h.at_ i hv
theorem BSt.fr (h : BSt w fb s st eb x xv W) (i : Nat) : W.frozen? ⟨eb, i, none⟩ = false := frozen_of h.at_ i
theorem BSt.name (h : BSt w fb s st eb x xv W) (hf : fb < w.heap.size) : Calls Tryz.prog 27 #[.pointer (some ⟨fb, 0, none⟩)] W fun e w' => e = .returned (.string (st.name s).1) ∧ BSt w fb s (st.name s).2 eb x xv w' :=
  (dname_calls h.st.rd).mono fun _ _ ⟨he, hd, hT⟩ => ⟨he, h.touched hf hd hT⟩
theorem atom_name {n : Nat} {E : FS → Ex × FS} (hn : st.kin 1 = true ∨ st.is sAt = true) : atomF s n E st = nameX s n st.t.at_ (st.is sAt) (if st.is sAt = true then st.step s else st) := by
  unfold atomF
  by_cases h1 : st.kin 1 = true
  · have hk : st.t.kd = 1 := by unfold FS.kin at h1; simp at h1; exact h1.2
    have h2 : st.is sAt = false := by
      cases hi : st.is sAt with
      | false => rfl
      | true => have := (FS.is_kd hi).2.1; omega
    rw [if_pos h1, h2, if_neg (by simp)]
  · have h2 : st.is sAt = true := hn.resolve_left h1
    rw [if_neg h1, if_pos h2, h2, if_pos rfl]
/-- What the first test finds where a name comes. -/
theorem some_name (hn : st.kin 1 = true ∨ st.is sAt = true) : ((st.code : Int) == 0) = true ∧ (((st.t.kd : Int) == 1) = true ∨ (((st.t.kd : Int) == 1) = false ∧ st.is sAt = true)) := by
  by_cases h1 : st.kin 1 = true
  · unfold FS.kin at h1
    simp at h1
    exact ⟨by rw [h1.1]; rfl, .inl (by rw [h1.2]; rfl)⟩
  · have h2 : st.is sAt = true := hn.resolve_left h1
    have hk := FS.is_kd h2
    exact ⟨by rw [hk.1]; rfl, .inr ⟨by rw [hk.2.1]; rfl, h2⟩⟩
end
section
variable {fb : Nat} {s : ByteArray} {w : World} {st : FS}
attribute [local go_sem ↓] ld43_eq st43_eq
set_option maxRecDepth 100000 in
set_option maxHeartbeats 4000000 in
theorem datom_name (n : Nat) (h : DR w fb s st) (hn : st.kin 1 = true ∨ st.is sAt = true) (hq : ((if st.is sAt = true then st.step s else st).name s).2.is sLevels = false) :
    Calls Tryz.prog 88 #[.pointer (some ⟨fb, 0, none⟩)] w fun e w' => DQ w fb s (atomF s n (exprN s n) st).2 (DX w (atomF s n (exprN s n) st).1) e w' := by
  rw [atom_name hn]
  unfold nameX
  simp only
  rw [if_neg (by rw [hq]; simp)]
  have hlt := h.lt
  have hA0 := ASt.start h
  obtain ⟨d0, d1, d2, d3, d4, d5, d6, df⟩ := hA0.rd.cells
  have HI := hide (dis_calls hA0.rd sAt)
  obtain ⟨q1, hq2⟩ := some_name hn
  have hm := BSt.make hA0 hlt hA0.lt (nm_in (w.alloc (.cells zx 43)) (fun b => (w.alloc (.cells zx 43)).heap.size ≤ b) st.t.at_ ⟨#[]⟩ false false)
  have ST := hm.1
  have KA := hide (hm.2.accept hlt sAt)
  have HR : Hid (st.is sAt = true → Calls Tryz.prog 25 #[.pointer (some ⟨fb, 0, none⟩), .string sAt] (w.alloc (.cells zx 43)) fun e w' => e = .returned (.bool true) ∧ w' = (w.alloc (.cells zx 43))) := hide (fun hs => by have := HI.out; rw [hs] at this; exact this)
  clear h hn HI hm
  simp only
  generalize hta : st.t.at_ = ta at *
  generalize hex : st.is sAt = ex at *
  generalize (if ex = true then st.step s else st) = st1 at *
  generalize hnm : (st1.name s).1 = nm at *
  generalize hs2 : (st1.name s).2 = st2 at *
  have HN : Hid (∀ eb x xv W, BSt w fb s st1 eb x xv W → Calls Tryz.prog 27 #[.pointer (some ⟨fb, 0, none⟩)] W fun e w' => e = .returned (.string nm) ∧ BSt w fb s st2 eb x xv w') := hide (fun eb x xv W hB => by have := hB.name hlt; rw [hnm, hs2] at this; exact this)
  have HL : Hid (∀ eb x xv W, BSt w fb s st2 eb x xv W → Calls Tryz.prog 28 #[.pointer (some ⟨fb, 0, none⟩), .string sLevels] W fun e w' => e = .returned (.bool false) ∧ BSt w fb s st2 eb x xv w') := hide (fun eb x xv W hB => hB.not hlt hq)
  clear hnm hs2 hq hta hA0
  generalize hw0 : w.alloc (.cells zx 43) = W0 at *
  rcases hq2 with q2 | ⟨q2, hs⟩
  rotate_left
  have KR := hide (HR.out hs)
  all_goals
    clear hex
    try clear hs
    go_enter Tryz.func88, Tryz.ntmps88
    go_upto_region 1 with fail
    try rw [hw0]
    clear hw0
    go_upto_region 4 with (go_at_call 25; refine KR.out.mono ?_; rintro e w' ⟨rfl, hw'⟩; rw [hw']; clear hw')
    clear ST d0 d1 d2 d3 d4 d5 d6 df
    generalize (W0.alloc (.cells zx 43)).setCells W0.heap.size 0 _ = W1 at *
    generalize W0.heap.size = eb at *
    go_upto_region 5 with (go_at_call 28; refine KA.out.mono ?_; rintro e W2 ⟨rfl, hB2⟩; have c3 := hB2.cell 3 rfl; have cf := hB2.fr 3; have HB2 := hide hB2; clear hB2)
    have hB3 := HB2.out.put hlt 3 (.bool ex) (xv' := nmC ta ⟨#[]⟩ ex false nilV) rfl (nm_in _ _ ta ⟨#[]⟩ ex false)
    clear c3 cf HB2 KA
    generalize World.setCell W2 _ _ = W3 at *
    have KN := hide (HN.out _ _ _ _ hB3)
    clear hB3 HN
    go_upto_region 6 with (go_at_call 27; refine KN.out.mono ?_; rintro e W4 ⟨rfl, hB4⟩; have c3 := hB4.cell 2 rfl; have cf := hB4.fr 2; have HB4 := hide hB4; clear hB4)
    have hB5 := HB4.out.put hlt 2 (.string nm) (xv' := nmC ta nm ex false nilV) rfl (nm_in _ _ ta nm ex false)
    clear c3 cf HB4 KN
    generalize World.setCell W4 _ _ = W5 at *
    have KL := hide (HL.out _ _ _ _ hB5)
    clear hB5 HL
    go_upto_region 7 with (go_at_call 28; refine KL.out.mono ?_; rintro e W6 ⟨rfl, hB6⟩; have c3 := hB6.cell 4 rfl; have cf := hB6.fr 4; have HB6 := hide hB6; clear hB6)
    have hB7 := HB6.out.put hlt 4 (.bool false) (xv' := nmC ta nm ex false nilV) rfl (nm_in _ _ ta nm ex false)
    clear c3 cf HB6 KL
    generalize World.setCell W6 _ _ = W7 at *
    have c4 := hB7.cell 4 rfl
    have LD := hB7.load
    have ST := hB7.stor
    have HB7 := hide hB7
    clear hB7
    go_wp2_with fail
    exact HB7.out.st.ret hlt (HB7.out.inx.mono fun b hb => hb.1) rfl rfl
end
end Go.Proofs.YtekfledccpeblaaGreatDoor

/- A variable with a field that grows while the document's reader reads: its memory. No walk. -/
namespace Go.Proofs.YtekfledccpeblaaGreatDoor
open Go.RowKit

/-- The variable lies in block eb, its i-th cell is a row of its own; behind V nothing else changed but the reader and new blocks. -/
structure Gw {α : Type} (P : World → (Nat → Prop) → α → Value → Prop) (T z : Nat) (V : World) (fb : Nat) (s : ByteArray) (st : FS) (eb ty i : Nat) (cs : Array Value) (l : List α) (A : Option Addr) (c : Nat) (ys : List Value) (W : World) : Prop where
  rd : DR W fb s st
  os : W.os = V.os
  tape : W.tape = V.tape
  output : W.output = V.output
  size : V.heap.size ≤ W.heap.size
  keep : ∀ b, b < V.heap.size → b ≠ fb → b ≠ eb → W.heap[b]? = V.heap[b]?
  flt : fb < V.heap.size
  elt : eb < V.heap.size
  ne : fb ≠ eb
  at_ : W.heap[eb]? = some (.cells cs ty (0, 0))
  fld : cs[i]? = some (.slice A l.length c)
  row : GRow (KL P l) W T z 0 V.heap.size l.length (.slice A l.length c) ys
section
variable {α : Type} {P : World → (Nat → Prop) → α → Value → Prop} {T z : Nat} {V : World} {fb : Nat} {s : ByteArray} {st st' : FS} {eb ty i : Nat} {cs : Array Value} {l : List α} {A : Option Addr} {c : Nat} {ys : List Value} {W W' w5 w6 : World} {x : α} {a : Array Value} {o : Obj} {v' : Value}
/-- It begins with nothing. -/
theorem Gw.start (hR : DR V fb s st) (he : V.heap[eb]? = some (.cells cs ty (0, 0))) (hne : fb ≠ eb) (hf : cs[i]? = some (.slice none 0 0)) : Gw P T z V fb s st eb ty i cs ([] : List α) none 0 [] V :=
  ⟨hR, rfl, rfl, rfl, Nat.le_refl _, fun _ _ _ _ => rfl, hR.lt, (Array.getElem?_eq_some_iff.1 he).1, hne, he, hf, GRow.start _ _ _ _ _ _⟩
theorem Gw.touched (hP : Keep1 P) (h : Gw P T z V fb s st eb ty i cs l A c ys W) (hR : DR W' fb s st') (hT : Touched W fb W') : Gw P T z V fb s st' eb ty i cs l A c ys W' := by
  have hz := h.size
  have hf := h.flt
  have he := h.elt
  exact ⟨hR, hT.os.trans h.os, hT.tape.trans h.tape, hT.output.trans h.output, Nat.le_trans h.size hT.size, fun b hb h1 h2 => (hT.at (by omega) h1).trans (h.keep b hb h1 h2), hf, he, h.ne, (hT.at (by omega) (Ne.symm h.ne)).trans h.at_, h.fld, h.row.touched (KL.keeps hP _) hT hf⟩
theorem Gw.drew (hP : Keep1 P) (h : Gw P T z V fb s st eb ty i cs l A c ys W) : Gw P T z V fb s st eb ty i cs l A c ys W.drew := h.touched hP (h.rd.later (Below.refl _ _).drew) (Touched.refl _ _).drew'
theorem Gw.accept (hP : Keep1 P) (h : Gw P T z V fb s st eb ty i cs l A c ys W) (q : ByteArray) : Calls Tryz.prog 28 #[.pointer (some ⟨fb, 0, none⟩), .string q] W fun e w' => e = .returned (.bool (st.is q)) ∧ Gw P T z V fb s (if st.is q = true then st.step s else st) eb ty i cs l A c ys w' :=
  (daccept_calls h.rd q).mono fun _ _ ⟨he, hd, hT⟩ => ⟨he, h.touched hP hd hT⟩
theorem Gw.not (hP : Keep1 P) (h : Gw P T z V fb s st eb ty i cs l A c ys W) {q : ByteArray} (hq : st.is q = false) : Calls Tryz.prog 28 #[.pointer (some ⟨fb, 0, none⟩), .string q] W fun e w' => e = .returned (.bool false) ∧ Gw P T z V fb s st eb ty i cs l A c ys w' :=
  (h.accept hP q).mono fun _ _ ⟨he, hd⟩ => by rw [hq, if_neg (by simp)] at hd; rw [hq] at he; exact ⟨he, hd⟩
theorem Gw.yes (hP : Keep1 P) (h : Gw P T z V fb s st eb ty i cs l A c ys W) {q : ByteArray} (hq : st.is q = true) : Calls Tryz.prog 28 #[.pointer (some ⟨fb, 0, none⟩), .string q] W fun e w' => e = .returned (.bool true) ∧ Gw P T z V fb s (st.step s) eb ty i cs l A c ys w' :=
  (h.accept hP q).mono fun _ _ ⟨he, hd⟩ => by rw [hq, if_pos rfl] at hd; rw [hq] at he; exact ⟨he, hd⟩
theorem Gw.must (hP : Keep1 P) (h : Gw P T z V fb s st eb ty i cs l A c ys W) (q : ByteArray) : Calls Tryz.prog 29 #[.pointer (some ⟨fb, 0, none⟩), .string q] W fun e w' => e = .returned (.tuple #[]) ∧ Gw P T z V fb s (st.must s q) eb ty i cs l A c ys w' :=
  (dmust_calls h.rd q).mono fun _ _ ⟨he, hd, hT⟩ => ⟨he, h.touched hP hd hT⟩
theorem Gw.lt (h : Gw P T z V fb s st eb ty i cs l A c ys W) : eb < W.heap.size := Nat.lt_of_lt_of_le h.elt h.size
theorem Gw.cell (h : Gw P T z V fb s st eb ty i cs l A c ys W) : W.cell? ⟨eb, i, none⟩ = some (.slice A l.length c) := cell_of h.at_ i h.fld
theorem Gw.froz (h : Gw P T z V fb s st eb ty i cs l A c ys W) : W.frozen? ⟨eb, i, none⟩ = false := frozen_of h.at_ i
/-- One more is read, appended, and the row stored. -/
theorem Gw.push (hP : Keep1 P) (h : Gw P T z V fb s st eb ty i cs l A c ys W) (hR : DR w5 fb s st') (hT : Touched W fb w5) (hx : P w5 (fun b => W.heap.size ≤ b) x (.agg a)) (ha : a.size = z)
    (hown : w6.ownsRow V.heap.size T z v' (l.length + 1) (flat ys ++ a.toList)) (hgr : (w5.alloc o).grownBy w6 (Value.slice A l.length c).ownBlock) (hpl : v'.ownBlock = (Value.slice A l.length c).ownBlock ∨ v'.ownBlock = some (w5.alloc o).heap.size) :
    ∃ A' c', v' = .slice A' (l ++ [x]).length c' ∧ w6.heap[eb]? = some (.cells cs ty (0, 0)) ∧ Gw P T z V fb s st' eb ty i (cs.setIfInBounds i v') (l ++ [x]) A' c' (ys ++ [.agg a]) (w6.setCell ⟨eb, i, none⟩ v') := by
  have hz := h.size
  have hf := h.flt
  have he := h.elt
  have hne := h.ne
  have hz5 := hT.size
  have hz6 : w5.heap.size + 1 ≤ w6.heap.size := by have := hgr.size; simp at this; exact this
  have hG := GRow.snoc hP h.row hT hf hz hx ha hown hgr hpl
  obtain ⟨A', c', hv⟩ := own_row_slice hown
  have hl : (l ++ [x]).length = l.length + 1 := by simp
  have hb6 : ∀ b, b < V.heap.size → w6.heap[b]? = w5.heap[b]? := fun b hb => by
    rw [hgr.block b (by simp; omega) (fun e => by have := (h.row.own.lt _ e.symm).1; omega)]
    exact Below.heap_alloc _ _ _ (by omega)
  have e6 : w6.heap[eb]? = some (.cells cs ty (0, 0)) := (hb6 eb he).trans ((hT.at (by omega) (Ne.symm hne)).trans h.at_)
  have hs : ∀ k, k ≠ eb → (w6.setCell ⟨eb, i, none⟩ v').heap[k]? = w6.heap[k]? := fun k hk => Below.heap_setCell _ _ _ _ (by show k ≠ eb; exact hk)
  have hi : i < cs.size := (Array.getElem?_eq_some_iff.1 h.fld).1
  have hbs := Below.setCell (B := 0) (Below.refl 0 w6) (p := ⟨eb, i, none⟩) (Nat.zero_le _) v'
  refine ⟨A', c', by rw [hl]; exact hv, e6, ⟨?_, ?_, ?_, ?_, ?_, fun b hb h1 h2 => ?_, hf, he, hne, ?_, ?_, ?_⟩⟩
  · exact hR.of_block ((hs _ hne).trans (hb6 fb hf))
  · exact hbs.os.trans (hgr.os.trans (hT.os.trans h.os))
  · exact hbs.tape.trans (hgr.tape.trans (hT.tape.trans h.tape))
  · exact hbs.output.trans (hgr.output.trans (hT.output.trans h.output))
  · have := hbs.size; omega
  · exact (hs b h2).trans ((hb6 b hb).trans ((hT.at (by omega) h1).trans (h.keep b hb h1 h2)))
  · simp [World.setCell, Array.getElem?_modify, e6]
  · rw [hl, ← hv]; simp [hi]
  · rw [hl, ← hv]
    have := GRow.set (KL.keeps hP _) hG (c := eb) (q := i) he (Nat.zero_le _) v'
    rw [hl] at this
    exact this
end
/-- A variable of the result beside it. -/
theorem Gw.ast {α : Type} {P : World → (Nat → Prop) → α → Value → Prop} {T z : Nat} {V : World} {fb : Nat} {s : ByteArray} {st st0 : FS} {eb ty i : Nat} {cs : Array Value} {l : List α} {A : Option Addr} {c : Nat} {ys : List Value} {w W : World} (h : Gw P T z V fb s st eb ty i cs l A c ys W) (hB : ASt w fb s st0 V) (hf : fb < w.heap.size) (hg : w.heap.size < eb) : ASt w fb s st W := by
  have hz := hB.old.size
  have hl := hB.lt
  exact ⟨h.rd, ⟨h.os.trans hB.old.os, h.tape.trans hB.old.tape, h.output.trans hB.old.output, Nat.le_trans hz h.size, fun k hk hne => (h.keep k (by omega) (fun e => hne (by rw [e])) (by omega)).trans (hB.old.block k hk hne)⟩, (h.keep _ hl (by omega) (by omega)).trans hB.res⟩
/-- A call within a region that draws its order. -/
theorem step_val {ops : Array Oper} {o : Oper} {a : Act} {w : World} {K : Act → World → Prop} {Q : Exit → Act → World → Prop} {E : Prop} {args : Array Value} {f : FuncId} {R : Ending → World → Prop}
    (hg : o.guard = none) (hrun : (execOp a.eval o).run Tryz.prog w = .ok (.enter f args) w) (hc : Calls Tryz.prog f args w R)
    (hK : ∀ (e : Ending) (w' : World), R e w' → ∃ v, e = .returned v ∧ K (a.put o.dst v) w') :
    if Region.wanted o (yielded ops a.tmps) = true then Oper.wp Tryz.prog o a w K Q else E := by
  have hw : Region.wanted o (yielded ops a.tmps) = true := by simp [Region.wanted, hg]
  rw [if_pos hw]
  unfold Oper.wp
  rw [hrun]
  refine hc.mono ?_
  intro e w' h
  obtain ⟨v, rfl, hk⟩ := hK e w' h
  exact hk
end Go.Proofs.YtekfledccpeblaaGreatDoor
