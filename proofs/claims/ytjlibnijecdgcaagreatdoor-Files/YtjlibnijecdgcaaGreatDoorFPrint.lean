/- The contract of Print: a declaration's text. -/
import Derived.Test.YtjlibnijecdgcaaGreatDoorFDecl0
import Derived.Test.YtjlibnijecdgcaaGreatDoorFSize
import Derived.Test.YtjlibnijecdgcaaGreatDoorFWord
import Derived.Test.YtjlibnijecdgcaaGreatDoorFJoin
import Derived.Test.YtjlibnijecdgcaaGreatDoorPrintT
import Derived.Laws.OwnMore
import Derived.Deep.CutBlock
import Derived.Deep.DeepCutAuto
import Derived.Deep.RegionHeld3

namespace Go.Proofs.YtjlibnijecdgcaaGreatDoor
open Go.RowKit

theorem intercalate_join : ∀ xs : List (List UInt8), Lib.join xs [32] = joinS xs
  | [] => rfl
  | [x] => by simp [Lib.join, joinS, spaced, List.intercalate]
  | x :: y :: xs => by
    have ih := intercalate_join (y :: xs)
    have e : Lib.join (x :: y :: xs) [32] = x ++ ([32] ++ Lib.join (y :: xs) [32]) := by simp [Lib.join, List.intercalate, List.intersperse]
    rw [e, ih]
    simp [joinS, spaced]

/-- All tables that reading and printing want. -/
structure TabsP (w : World) : Prop where
  t : Tabs3 w
  p : Pow10 w
theorem TabsP.later {w w' : World} (h : TabsP w) (hb : Below w.heap.size w w') : TabsP w' := ⟨h.t.later hb, h.p.below hb (by have := h.t.lt; omega)⟩

/-- Texts in brackets. -/
def inBB (xs : List ByteArray) : ByteArray := ⟨(inB (xs.map fun q => q.data.toList)).toArray⟩
theorem inBB_eq (xs : List ByteArray) : (⟨#[40]⟩ ++ blanked xs ++ ⟨#[41]⟩ : ByteArray) = inBB xs := by
  apply ByteArray.ext
  simp [inBB, blanked, inB, intercalate_join]
theorem brackets_calls (A : Option Addr) (c : Nat) (xs : List ByteArray) (w : World) (h : StrRow w A xs) (hN : xs.length ≤ 1000000) (hc : xs.length ≤ c) (hl : wide (xs.map fun q => q.data.toList) ≤ 400000000) :
    Calls Tryz.prog 21 #[.slice A xs.length c] w fun e w' => e = .returned (.string (inBB xs)) ∧ Below w.heap.size w w' := by
  rw [← inBB_eq]
  refine inBrackets_calls A c xs w h hN hc ?_
  have h1 := joinS_len (xs.map fun q => q.data.toList)
  have h2 : (blanked xs).size = (joinS (xs.map fun q => q.data.toList)).length := by
    show (Lib.join (xs.map (·.data.toList)) [32]).toArray.size = _
    rw [intercalate_join]
    simp
  omega

/-- Where Print's walk stands: the declaration's box; the parts. -/
structure PSt (w : World) (vs : Array Value) (P : List ByteArray) (rv : Value) (W : World) : Prop where
  var : W.heap[w.heap.size]? = some (.cells vs 46 (0, 0))
  old : Below w.heap.size w W
  row : W.ownsRow (w.heap.size + 1) 9 1 rv P.length (P.map .string)
section
variable {w : World} {vs : Array Value} {P : List ByteArray} {rv : Value} {W : World}
theorem PSt.lt (h : PSt w vs P rv W) : w.heap.size < W.heap.size := (Array.getElem?_eq_some_iff.1 h.var).1
theorem PSt.later (h : PSt w vs P rv W) {W' : World} (hb : Below W.heap.size W W') : PSt w vs P rv W' :=
  ⟨(hb.block _ h.lt).trans h.var, h.old.trans (hb.mono h.old.size), h.row.kept (row := none) ⟨hb.os, hb.tape, hb.output, hb.size, fun k hk _ => hb.block k hk⟩ (by cases hv : rv.ownBlock <;> simp)⟩
/-- One part more. -/
theorem PSt.push (h : PSt w vs P rv W) {q : ByteArray} {v' : Value} {W' : World} (ho : W'.ownsRow (w.heap.size + 1) 9 1 v' (P.length + 1) (P.map .string ++ [.string q])) (hg : (W.alloc (.cells #[.string q] 9)).grownBy W' rv.ownBlock) : PSt w vs (P ++ [q]) v' W' := by
  have hlt := h.lt
  have hz := hg.size
  have hn : ∀ b, b ≤ w.heap.size → some b ≠ rv.ownBlock := fun b hb e => by have := (h.row.lt b e.symm).1; omega
  refine ⟨?_, ?_, by simpa using ho⟩
  · rw [hg.block _ (by simp; omega) (hn _ (Nat.le_refl _)), Below.heap_alloc _ _ _ hlt]
    exact h.var
  · exact (h.old.alloc h.old.size _).grown hg (by simp; have := h.old.size; omega) (fun k hk => by have := (h.row.lt k hk).1; omega)
theorem PSt.strs (h : PSt w vs P rv W) : ∃ A c, rv = .slice A P.length c ∧ P.length ≤ c ∧ StrRow W A P := by
  rcases h.row.2 with ⟨e, h0⟩ | ⟨g, cap, cur, e, hb, hg, hc, hm, hs, htk⟩
  · rw [e, h0]
    exact ⟨none, 0, rfl, Nat.le_refl _, .inl (List.eq_nil_of_length_eq_zero h0)⟩
  · refine ⟨_, _, e, hc, .inr ⟨g, 0, rfl, (Array.getElem?_eq_some_iff.1 hg).1, fun j x hx => ?_⟩⟩
    have := h.row.cells (g := g) (by rw [e]; rfl) j (.string x) (by rw [List.getElem?_map, hx]; rfl)
    rw [Addr.add_lit] at this
    exact this
end

theorem cell_at {W : World} {c : Nat} {vs : Array Value} {T : TypeId} (h : W.heap[c]? = some (.cells vs T (0, 0))) (i : Nat) {v : Value} (hv : vs[i]? = some v) : W.cell? ⟨c, i, none⟩ = some v := by
  unfold World.cell?
  rw [h]
  exact hv
theorem PSt.start {w W0 W : World} {vs : Array Value} (hv : W0.heap[w.heap.size]? = some (.cells vs 46 (0, 0))) (ho : Below w.heap.size w W0) (hb : Below (w.heap.size + 1) W0 W) (a b c : ByteArray) :
    PSt w vs [a, b, c] (.slice (some ⟨W.heap.size, 0, none⟩) 3 3) (W.alloc (.cells #[.string a, .string b, .string c] 9)) := by
  have hl : w.heap.size < W0.heap.size := (Array.getElem?_eq_some_iff.1 hv).1
  have hz := hb.size
  refine ⟨?_, (ho.trans (hb.mono (by omega))).alloc (by omega) _, ?_⟩
  · rw [Below.heap_alloc _ _ _ (by omega), hb.block _ (by omega)]
    exact hv
  · exact World.ownsRow_lit (base := w.heap.size + 1) (e := 9) (size := 1) W #[.string a, .string b, .string c] 3 (by omega) (by unfold maxLen; omega) rfl
theorem nms_row {W : World} {S : Nat → Prop} {A : Option Addr} {ps : List ByteArray} (h : NmsIn W S A ps) : StrRow W A ps := by
  cases ps with
  | nil => exact .inl rfl
  | cons q ps =>
    obtain ⟨b, e, _, hc⟩ := h 0 (by simp)
    refine .inr ⟨b, 0, e, World.block_lt_of_cell? _ _ hc, fun j x hx => ?_⟩
    obtain ⟨hj, hx⟩ := List.getElem?_eq_some_iff.1 hx
    obtain ⟨b', e', _, hc'⟩ := h j hj
    rw [e] at e'
    injection e' with e'
    injection e' with e'
    subst e'
    rw [hx] at hc'
    simpa using hc'
theorem nms_on {W W' : World} {A : Option Addr} {ps : List ByteArray} (h : NmsIn W (fun _ => True) A ps) (hb : Below W.heap.size W W') : NmsIn W' (fun _ => True) A ps := h.keep fun b hb' _ => ⟨trivial, hb.block b hb'⟩
theorem InTm.on {W W' : World} {d : Nat} {t : Tm} {v : Value} (h : InTm W (fun _ => True) d t v) (hb : Below W.heap.size W W') : InTm W' (fun _ => True) d t v := h.keep fun b hb' _ => ⟨trivial, hb.block b hb'⟩
theorem TTab.trm {W : World} (h : TTab W) : TTable W := by
  have hcell : ∀ j v, tcs[j]? = some v → W.cell? ⟨3, j, none⟩ = some v := fun j v e => h.c j v e
  refine ⟨fun k hk => ?_, fun k hk => ?_, fun k hk => ?_, fun k hk => ?_⟩
  all_goals
    have : k = 0 ∨ k = 1 ∨ k = 2 ∨ k = 3 ∨ k = 4 ∨ k = 5 ∨ k = 6 := by omega
    rcases this with rfl | rfl | rfl | rfl | rfl | rfl | rfl <;> first | exact hcell _ _ rfl | exact ⟨_, hcell _ _ rfl⟩
theorem below_undrew {W W' : World} (h : Below W.drew.heap.size W.drew W') : Below W.heap.size W W' := ⟨h.os, h.tape, h.output, h.size, h.block⟩
/-- A call that answers a value and leaves all that is old alone, as a step of a region. -/
theorem step_value {ops : Array Oper} {o : Oper} {a : Act} {w : World} {K : Act → World → Prop} {Q : Exit → Act → World → Prop} {E : Prop} {args : Array Value} {f : FuncId} {v : Value}
    (hg : o.guard = none) (hrun : (execOp a.eval o).run Tryz.prog w = .ok (.enter f args) w) (hc : Calls Tryz.prog f args w fun e w' => e = .returned v ∧ Below w.heap.size w w')
    (hK : ∀ (w' : World), Below w.heap.size w w' → K (a.put o.dst v) w') :
    if Region.wanted o (yielded ops a.tmps) = true then Oper.wp Tryz.prog o a w K Q else E := by
  have hw : Region.wanted o (yielded ops a.tmps) = true := by simp [Region.wanted, hg]
  rw [if_pos hw]
  unfold Oper.wp
  rw [hrun]
  refine hc.mono ?_
  rintro e w' ⟨rfl, h2⟩
  exact hK w' h2
/-- A text of bytes. -/
abbrev ofL (l : List UInt8) : ByteArray := ⟨l.toArray⟩
/-- The parts of a printed declaration. -/
def partsB (D kd : Nat) (nm : ByteArray) (ps : List ByteArray) (ty vl : Tm) (ar : Nat) (cs : List (ByteArray × Tm)) : List ByteArray :=
  [dword kd, nm, inBB ps] ++ (if kd = 3 then [ofL (Lib.decDigits ar)] else []) ++ [ofL (textT D ty)] ++ (if kd = 2 then [ofL (textT D vl)] else []) ++ (if kd = 3 then cs.map fun c => ofL (ctext D c) else [])
theorem partsB_eq (D kd : Nat) (nm : ByteArray) (ps : List ByteArray) (ty vl : Tm) (ar : Nat) (cs : List (ByteArray × Tm)) : (partsB D kd nm ps ty vl ar cs).map (fun q => q.data.toList) = dparts D ⟨kd, nm, ps, ty, vl, ar, cs⟩ := by
  unfold partsB dparts inBB
  by_cases h2 : kd = 2
  · have h3 : ¬ kd = 3 := by omega
    simp [h2]
  · by_cases h3 : kd = 3
    · simp [h3]
    · simp [h2, h3]
theorem ctext_eq (D : Nat) (c : ByteArray × Tm) : inBB [cword, c.1, ofL (textT D c.2)] = ofL (ctext D c) := by
  unfold inBB ctext
  simp
theorem three_strs (w : World) (a b c : ByteArray) : StrRow (w.alloc (.cells #[.string a, .string b, .string c] 9)) (some ⟨w.heap.size, 0, none⟩) [a, b, c] := by
  refine .inr ⟨w.heap.size, 0, rfl, by simp, fun j x hx => ?_⟩
  match j, hx with
  | 0, hx => simp at hx; subst hx; simp
  | 1, hx => simp at hx; subst hx; simp
  | 2, hx => simp at hx; subst hx; simp
  | j + 3, hx => simp at hx
theorem cts_on {W W' : World} {D : Nat} {A : Option Addr} {cs : List (ByteArray × Tm)} (h : CtsIn W (fun _ => True) D A cs) (hb : Below W.heap.size W W') : CtsIn W' (fun _ => True) D A cs := h.keep fun b hb' _ => ⟨trivial, hb.block b hb'⟩
/-- Print of a term that lies there, not too large. -/
theorem tprint_calls {W : World} (D : Nat) (t : Tm) (v : Value) (ht : TabsP W) (hw : WfT D t) (hl : (textT D t).length ≤ 400000000) (h : InTm W (fun _ => True) D t v) : Calls Tryz.prog 23 #[v] W fun e w' => e = .returned (.string ⟨(textT D t).toArray⟩) ∧ Below W.heap.size W w' :=
  printT_calls D t v W hw h (by omega) ht.t.b.a.t (TTab.trm ht.t.b.b) ht.p (by have := ht.t.lt; omega)

set_option maxRecDepth 100000 in
set_option maxHeartbeats 16000000 in
theorem print_calls (D : Nat) (d : Dc) (v : Value) (w : World) (ht : TabsP w) (hf : FitD D d) (hv : DeclV w (fun _ => True) D d v) :
    Calls Tryz.prog 10 #[v] w fun e w' => e = .returned (.string ⟨(dtext D d).toArray⟩) ∧ Below w.heap.size w w' := by
  obtain ⟨kd, nm, ps, ty, vl, ar, cs⟩ := d
  obtain ⟨Ap, cp, kt, nt, nmt, At, lt, ct, At', lt', ct', kv, nv, nmv, Av, lv, cv, Av', lv', cv', Ac, cc, rfl, hN, hT, hV, hC, hcp⟩ := hv
  simp only at hN hT hV hC hcp
  have hk1 : 1 ≤ kd := hf.good.k1
  have hk3 : kd ≤ 3 := hf.good.k3
  have HT := hide ht
  have HF := hide hf
  have HN := hide hN
  have HTy := hide hT
  have HVl := hide hV
  have HCs := hide hC
  have HCp := hide hcp
  obtain ⟨pn, hpn⟩ : ∃ pn : Nat, pn = ps.length := ⟨_, rfl⟩
  obtain ⟨cn, hcn⟩ : ∃ cn : Nat, cn = cs.length := ⟨_, rfl⟩
  have HPn := hide hpn
  have HCn := hide hcn
  clear ht hf hN hT hV hC hcp
  show Calls Tryz.prog 10 #[.agg #[.int .i64 (kd : Nat), .string nm, .slice Ap ps.length cp, .int .i64 kt, .int .i64 nt, .string nmt, .slice At lt ct, .slice At' lt' ct', .int .i64 kv, .int .i64 nv, .string nmv, .slice Av lv cv, .slice Av' lv' cv', .int .i64 (ar : Nat), .slice Ac cs.length cc]] w _
  rw [← hpn, ← hcn]
  clear hpn hcn
  have HO : Hid (Below w.heap.size w (w.alloc (.cells #[.int .i64 (kd : Nat), .string nm, .slice Ap pn cp, .int .i64 kt, .int .i64 nt, .string nmt, .slice At lt ct, .slice At' lt' ct', .int .i64 kv, .int .i64 nv, .string nmv, .slice Av lv cv, .slice Av' lv' cv', .int .i64 (ar : Nat), .slice Ac cn cc] 46))) := (Below.refl _ _).alloc (Nat.le_refl _) _
  have HVar : Hid ((w.alloc (.cells #[.int .i64 (kd : Nat), .string nm, .slice Ap pn cp, .int .i64 kt, .int .i64 nt, .string nmt, .slice At lt ct, .slice At' lt' ct', .int .i64 kv, .int .i64 nv, .string nmv, .slice Av lv cv, .slice Av' lv' cv', .int .i64 (ar : Nat), .slice Ac cn cc] 46)).heap[w.heap.size]? = some (.cells #[.int .i64 (kd : Nat), .string nm, .slice Ap pn cp, .int .i64 kt, .int .i64 nt, .string nmt, .slice At lt ct, .slice At' lt' ct', .int .i64 kv, .int .i64 nv, .string nmv, .slice Av lv cv, .slice Av' lv' cv', .int .i64 (ar : Nat), .slice Ac cn cc] 46 (0, 0))) := heap_alloc_new w _
  go_enter Tryz.func10, Tryz.ntmps10
  go_upto_region 1 with fail
  generalize hW0 : w.alloc (.cells #[.int .i64 (kd : Nat), .string nm, .slice Ap pn cp, .int .i64 kt, .int .i64 nt, .string nmt, .slice At lt ct, .slice At' lt' ct', .int .i64 kv, .int .i64 nv, .string nmv, .slice Av lv cv, .slice Av' lv' cv', .int .i64 (ar : Nat), .slice Ac cn cc] 46) = W0 at *
  clear hW0
  go_cut [3] (fun v wx => Hid (PSt w #[.int .i64 (kd : Nat), .string nm, .slice Ap pn cp, .int .i64 kt, .int .i64 nt, .string nmt, .slice At lt ct, .slice At' lt' ct', .int .i64 kv, .int .i64 nv, .string nmv, .slice Av lv cv, .slice Av' lv' cv', .int .i64 (ar : Nat), .slice Ac cn cc] [dword kd, nm, inBB ps] v wx))
  case first =>
    as_aux_lemma =>
    have hv := HVar.out
    have el : w.heap.size < W0.heap.size := (Array.getElem?_eq_some_iff.1 hv).1
    have e0 : W0.cell? ⟨w.heap.size, 0, none⟩ = some (.int .i64 (kd : Nat)) := cell_at hv 0 rfl
    have e1 : W0.cell? ⟨w.heap.size, 1, none⟩ = some (.string nm) := cell_at hv 1 rfl
    have e2 : W0.cell? ⟨w.heap.size, 2, none⟩ = some (.slice Ap pn cp) := cell_at hv 2 rfl
    have KW : Hid (∀ W, Below (w.heap.size + 1) W0 W → Calls Tryz.prog 20 #[.int .i64 (kd : Nat)] W fun e w' => e = .returned (.string (dword kd)) ∧ Hid (Below (w.heap.size + 1) W0 w') ∧ w'.cell? ⟨w.heap.size, 0, none⟩ = some (.int .i64 (kd : Nat)) ∧ w'.cell? ⟨w.heap.size, 1, none⟩ = some (.string nm) ∧ w'.cell? ⟨w.heap.size, 2, none⟩ = some (.slice Ap pn cp)) := fun W hW => by
      have hb : Below w.heap.size w W := HO.out.trans (hW.mono (by omega))
      refine (wordOf_calls kd W hk1 hk3 (HT.out.later hb).t.f).mono ?_
      rintro e w' ⟨rfl, h'⟩
      have hW' : Below (w.heap.size + 1) W0 w' := hW.trans (h'.mono (by have := hW.size; omega))
      have hv' := (hW'.block w.heap.size (by omega)).trans HVar.out
      exact ⟨rfl, hW', cell_at hv' 0 rfl, cell_at hv' 1 rfl, cell_at hv' 2 rfl⟩
    have KB : Hid (∀ W, Below (w.heap.size + 1) W0 W → Calls Tryz.prog 21 #[.slice Ap pn cp] W fun e w' => e = .returned (.string (inBB ps)) ∧ Hid (Below (w.heap.size + 1) W0 w') ∧ w'.cell? ⟨w.heap.size, 0, none⟩ = some (.int .i64 (kd : Nat)) ∧ w'.cell? ⟨w.heap.size, 1, none⟩ = some (.string nm) ∧ w'.cell? ⟨w.heap.size, 2, none⟩ = some (.slice Ap pn cp)) := fun W hW => by
      have hb : Below w.heap.size w W := HO.out.trans (hW.mono (by omega))
      have hpl := HF.out.pl
      have hpw := HF.out.pw
      have h := brackets_calls Ap cp ps W (nms_row (nms_on HN.out hb)) (by simp only at hpl; omega) HCp.out hpw
      rw [← HPn.out] at h
      refine h.mono ?_
      rintro e w' ⟨rfl, h'⟩
      have hW' : Below (w.heap.size + 1) W0 w' := hW.trans (h'.mono (by have := hW.size; omega))
      have hv' := (hW'.block w.heap.size (by omega)).trans HVar.out
      exact ⟨rfl, hW', cell_at hv' 0 rfl, cell_at hv' 1 rfl, cell_at hv' 2 rfl⟩
    clear hv
    go_region_held3 (fun w' => w'.cell? ⟨w.heap.size, 0, none⟩ = some (.int .i64 (kd : Nat)) ∧ w'.cell? ⟨w.heap.size, 1, none⟩ = some (.string nm) ∧ w'.cell? ⟨w.heap.size, 2, none⟩ = some (.slice Ap pn cp)) (go_keep) (first
      | (go_at_call 20; refine (KW.out _ ?_).mono ?_; (repeat' (first | exact Below.refl _ _ | refine Below.drew ?_)); rintro e wq ⟨rfl, HQ, e0, e1, e2⟩)
      | (go_at_call 21; refine (KB.out _ ?_).mono ?_; (repeat' (first | exact HQ.out | refine Below.drew ?_)); rintro e wy ⟨rfl, HE, e0, e1, e2⟩))
    all_goals
      go_wp2_with fail
      go_meet
      case rel => exact PSt.start HVar.out HO.out HE.out _ _ _
  case rest =>
  as_aux_lemma =>
  rename World => wA
  obtain ⟨P0, hP0⟩ : ∃ P0 : List ByteArray, P0 = [dword kd, nm, inBB ps] := ⟨_, rfl⟩
  rw [← hP0] at hcut
  have hl0 : P0.length ≤ 3 := by rw [hP0]; simp
  have HP0 := hide hP0
  clear hP0 HO HVar
  obtain ⟨ao, cA, hu, -⟩ := hcut.out.strs
  subst hu
  have HA := hcut
  obtain ⟨i0, hi, hz0, hz1, hz2⟩ := infoParts Tryz.info9'
  have hv := HA.out.var
  have el := HA.out.lt
  have e0 : wA.cell? ⟨w.heap.size, 0, none⟩ = some (.int .i64 (kd : Nat)) := cell_at hv 0 rfl
  have e3 : wA.cell? ⟨w.heap.size, 3, none⟩ = some (.int .i64 kt) := cell_at hv 3 rfl
  have e4 : wA.cell? ⟨w.heap.size, 4, none⟩ = some (.int .i64 nt) := cell_at hv 4 rfl
  have e5 : wA.cell? ⟨w.heap.size, 5, none⟩ = some (.string nmt) := cell_at hv 5 rfl
  have e6 : wA.cell? ⟨w.heap.size, 6, none⟩ = some (.slice At lt ct) := cell_at hv 6 rfl
  have e7 : wA.cell? ⟨w.heap.size, 7, none⟩ = some (.slice At' lt' ct') := cell_at hv 7 rfl
  have e13 : wA.cell? ⟨w.heap.size, 13, none⟩ = some (.int .i64 (ar : Nat)) := cell_at hv 13 rfl
  clear hv
  go_upto_if 17 with fail
  go_cut [3] (fun v wx => ∃ P1 : List ByteArray, Hid (P1 = P0 ++ if kd = 3 then [ofL (Lib.decDigits ar)] else []) ∧ Hid (PSt w #[.int .i64 (kd : Nat), .string nm, .slice Ap pn cp, .int .i64 kt, .int .i64 nt, .string nmt, .slice At lt ct, .slice At' lt' ct', .int .i64 kv, .int .i64 nv, .string nmv, .slice Av lv cv, .slice Av' lv' cv', .int .i64 (ar : Nat), .slice Ac cn cc] P1 v wx))
  case first =>
    as_aux_lemma =>
    by_cases hk : kd = 3
    · have q3 : ((kd : Int) == 3) = true := by simp [hk]
      have HK := hide hk
      have har := HF.out.good.ar
      simp only at har
      have KI := hide (itoa_calls ar (by omega) wA (HT.out.later HA.out.old).p)
      clear hk har
      go_wp2_with (go_at_call 22; refine KI.out.mono ?_)
      rintro e w2 ⟨rfl, hb2⟩
      have H2 := hide (HA.out.later hb2)
      have hl2 := H2.out.lt
      have HO5 := hide (H2.out.row.alloc (.cells #[.string (ofL (Lib.decDigits ar))] 9))
      clear hb2 KI e0 e3 e4 e5 e6 e7 e13 el
      go_wp2_with (at_builtin; refine wpList_append_placed _ rfl _ _ 39 rfl (w.heap.size + 1) 9 i0 (.string ⟨#[]⟩) 1 16 Tryz.underlying39 hi hz0 hz1 hz2 rfl (by decide) (.slice ao P0.length cA) P0.length (P0.map .string) rfl HO5.out ⟨w2.heap.size, 0, none⟩ 1 1 [.string (ofL (Lib.decDigits ar))] rfl rfl ?c1 ?c2 (by decide) ?c3 ?c4 ?c5 ?_)
      case c1 => exact cell_one_new w2 _ 9
      case c2 => intro u hu; simp at hu; subst hu; rfl
      case c3 => unfold maxLen; omega
      case c4 => omega
      case c5 => simp; omega
      intro v' w6 hown6 hgr6 _
      have HN6 := hide (H2.out.push hown6 hgr6)
      clear hown6 hgr6
      go_wp2_with fail
      go_meet
      case rel => exact ⟨_, by rw [if_pos HK.out]; exact hide rfl, HN6.out⟩
    · have q3 : ((kd : Int) == 3) = false := by simp; omega
      have HK := hide hk
      clear hk
      go_wp2_with fail
      go_meet
      case rel => exact ⟨P0, by rw [if_neg HK.out, List.append_nil]; exact hide rfl, HA.out⟩
  case rest =>
  as_aux_lemma =>
  obtain ⟨P1, HP1, HB⟩ := hcut
  rename World => wB
  clear HA e0 e3 e4 e5 e6 e7 e13 el
  have hl1 : P1.length ≤ 4 := by rw [HP1.out, List.length_append]; split <;> simp <;> omega
  obtain ⟨ao1, cA1, hu, -⟩ := HB.out.strs
  subst hu
  have hv := HB.out.var
  have el := HB.out.lt
  have e3 : wB.cell? ⟨w.heap.size, 3, none⟩ = some (.int .i64 kt) := cell_at hv 3 rfl
  have e4 : wB.cell? ⟨w.heap.size, 4, none⟩ = some (.int .i64 nt) := cell_at hv 4 rfl
  have e5 : wB.cell? ⟨w.heap.size, 5, none⟩ = some (.string nmt) := cell_at hv 5 rfl
  have e6 : wB.cell? ⟨w.heap.size, 6, none⟩ = some (.slice At lt ct) := cell_at hv 6 rfl
  have e7 : wB.cell? ⟨w.heap.size, 7, none⟩ = some (.slice At' lt' ct') := cell_at hv 7 rfl
  clear hv
  have htl : (textT D ty).length ≤ 400000000 := by
    have h1 := HF.out.wd
    unfold dparts at h1
    simp only [List.cons_append, List.nil_append, wide, wide_app] at h1
    omega
  have KT := hide (tprint_calls D ty (.agg #[.int .i64 kt, .int .i64 nt, .string nmt, .slice At lt ct, .slice At' lt' ct']) (HT.out.later HB.out.old) HF.out.ty htl (HTy.out.on HB.out.old))
  clear htl
  go_wp2_with (go_at_call 23; refine KT.out.mono ?_)
  rintro e w2 ⟨rfl, hb2⟩
  have H2 := hide (HB.out.later hb2)
  have hl2 := H2.out.lt
  have HO5 := hide (H2.out.row.alloc (.cells #[.string (ofL (textT D ty))] 9))
  clear hb2 KT e3 e4 e5 e6 e7 el HB
  go_wp2_with (at_builtin; refine wpList_append_placed _ rfl _ _ 39 rfl (w.heap.size + 1) 9 i0 (.string ⟨#[]⟩) 1 16 Tryz.underlying39 hi hz0 hz1 hz2 rfl (by decide) (.slice ao1 P1.length cA1) P1.length (P1.map .string) rfl HO5.out ⟨w2.heap.size, 0, none⟩ 1 1 [.string (ofL (textT D ty))] rfl rfl ?d1 ?d2 (by decide) ?d3 ?d4 ?d5 ?_)
  case d1 => exact cell_one_new w2 _ 9
  case d2 => intro u hu; simp at hu; subst hu; rfl
  case d3 => unfold maxLen; omega
  case d4 => omega
  case d5 => simp; omega
  intro v' wC hown6 hgr6 _
  have HC := hide (H2.out.push hown6 hgr6)
  clear hown6 hgr6 HO5 H2 hl2
  obtain ⟨P2, hP2⟩ : ∃ P2 : List ByteArray, P2 = P1 ++ [ofL (textT D ty)] := ⟨_, rfl⟩
  rw [← hP2] at HC
  have hl2 : P2.length ≤ 5 := by rw [hP2]; simp; omega
  have HP2 := hide hP2
  clear hP2 hl1
  obtain ⟨ao2, cA2, hu, -⟩ := HC.out.strs
  subst hu
  have hv := HC.out.var
  have el := HC.out.lt
  have e0 : wC.cell? ⟨w.heap.size, 0, none⟩ = some (.int .i64 (kd : Nat)) := cell_at hv 0 rfl
  have e8 : wC.cell? ⟨w.heap.size, 8, none⟩ = some (.int .i64 kv) := cell_at hv 8 rfl
  have e9 : wC.cell? ⟨w.heap.size, 9, none⟩ = some (.int .i64 nv) := cell_at hv 9 rfl
  have e10 : wC.cell? ⟨w.heap.size, 10, none⟩ = some (.string nmv) := cell_at hv 10 rfl
  have e11 : wC.cell? ⟨w.heap.size, 11, none⟩ = some (.slice Av lv cv) := cell_at hv 11 rfl
  have e12 : wC.cell? ⟨w.heap.size, 12, none⟩ = some (.slice Av' lv' cv') := cell_at hv 12 rfl
  have e14 : wC.cell? ⟨w.heap.size, 14, none⟩ = some (.slice Ac cn cc) := cell_at hv 14 rfl
  clear hv
  go_upto_block 0 with fail
  go_cut [3] (fun v wx => ∃ P3 : List ByteArray, Hid (P3 = P2 ++ (if kd = 2 then [ofL (textT D vl)] else []) ++ (if kd = 3 then cs.map fun c => ofL (ctext D c) else [])) ∧ Hid (PSt w #[.int .i64 (kd : Nat), .string nm, .slice Ap pn cp, .int .i64 kt, .int .i64 nt, .string nmt, .slice At lt ct, .slice At' lt' ct', .int .i64 kv, .int .i64 nv, .string nmv, .slice Av lv cv, .slice Av' lv' cv', .int .i64 (ar : Nat), .slice Ac cn cc] P3 v wx))
  case first =>
    as_aux_lemma =>
    by_cases k2 : kd = 2
    · have q2 : ((kd : Int) == 2) = true := by simp [k2]
      have q3 : ((kd : Int) == 3) = false := by simp [k2]
      have HK := hide k2
      have htl : (textT D vl).length ≤ 400000000 := by
        have h1 := HF.out.wd
        unfold dparts at h1
        simp only [List.cons_append, List.nil_append, wide, wide_app, if_pos k2] at h1
        omega
      have KT := hide (tprint_calls D vl (.agg #[.int .i64 kv, .int .i64 nv, .string nmv, .slice Av lv cv, .slice Av' lv' cv']) (HT.out.later HC.out.old) (HF.out.vl k2) htl (HVl.out.on HC.out.old))
      clear htl k2
      go_wp2_with (go_at_call 23; refine KT.out.mono ?_)
      rintro e w2 ⟨rfl, hb2⟩
      have H2 := hide (HC.out.later hb2)
      have hl3 := H2.out.lt
      have HO5 := hide (H2.out.row.alloc (.cells #[.string (ofL (textT D vl))] 9))
      clear hb2 KT e0 e8 e9 e10 e11 e12 e14 el
      go_wp2_with (at_builtin; refine wpList_append_placed _ rfl _ _ 39 rfl (w.heap.size + 1) 9 i0 (.string ⟨#[]⟩) 1 16 Tryz.underlying39 hi hz0 hz1 hz2 rfl (by decide) (.slice ao2 P2.length cA2) P2.length (P2.map .string) rfl HO5.out ⟨w2.heap.size, 0, none⟩ 1 1 [.string (ofL (textT D vl))] rfl rfl ?f1 ?f2 (by decide) ?f3 ?f4 ?f5 ?_)
      case f1 => exact cell_one_new w2 _ 9
      case f2 => intro u hu; simp at hu; subst hu; rfl
      case f3 => unfold maxLen; omega
      case f4 => omega
      case f5 => simp; omega
      intro v' w6 hown6 hgr6 _
      have HN6 := hide (H2.out.push hown6 hgr6)
      clear hown6 hgr6
      go_wp2_with fail
      go_meet
      case rel => exact ⟨_, by rw [if_pos HK.out, if_neg (by rw [HK.out]; decide), List.append_nil]; exact hide rfl, HN6.out⟩
    · have q2 : ((kd : Int) == 2) = false := by simp; omega
      have HK2 := hide k2
      by_cases k3 : kd = 3
      · have q3 : ((kd : Int) == 3) = true := by simp [k3]
        have HK3 := hide k3
        clear k2 k3
        have hcl := HF.out.cl
        simp only at hcl
        rw [← HCn.out] at hcl
        have HCe : Hid (P2 = P2 ++ (cs.take 0).map fun c => ofL (ctext D c)) := by simp [Hid]
        go_wp2_with fail
        go_loopg [45, 3] cn (fun g i v wr => ∃ (k : Nat) (P : List ByteArray), k + g = cn ∧ i = .int .i64 k ∧ Hid (P = P2 ++ (cs.take k).map fun c => ofL (ctext D c)) ∧ Hid (PSt w #[.int .i64 (kd : Nat), .string nm, .slice Ap pn cp, .int .i64 kt, .int .i64 nt, .string nmt, .slice At lt ct, .slice At' lt' ct', .int .i64 kv, .int .i64 nv, .string nmv, .slice Av lv cv, .slice Av' lv' cv', .int .i64 (ar : Nat), .slice Ac cn cc] P v wr))
        case atStart => exact ⟨0, P2, by omega, rfl, HCe.out, HC.out⟩
        case round =>
          clear e0 e8 e9 e10 e11 e12 e14 el HC
          obtain ⟨k, P, hkg, rfl, HP, HR⟩ := hrel
          obtain ⟨ao3, cA3, hu, -⟩ := HR.out.strs
          subst hu
          by_cases hk : k < cn
          · have hkc : k < cs.length := by rw [← HCn.out]; exact hk
            obtain ⟨b1, x, rfl, -, h6, hct⟩ := cts_on HCs.out HR.out.old k hkc
            obtain ⟨kx, nx, nmx, Ax, lx, cx, Ax', lx', cx', rfl, hin⟩ := hct
            obtain ⟨u0, u1, u2, u3, u4, u5, he, c0, c1, c2, c3, c4, c5⟩ := h6
            injection he with he
            simp only [Array.mk.injEq, List.cons.injEq, and_true] at he
            obtain ⟨rfl, rfl, rfl, rfl, rfl, rfl⟩ := he
            have hbw : b1 < wr.heap.size := World.block_lt_of_cell? _ _ c0
            have q : decide ((k : Int) < (cn : Int)) = true := by simp; omega
            have hwc := HF.out.cs cs[k] (List.getElem_mem hkc)
            have hcg := (HF.out.good.cs cs[k] (List.getElem_mem hkc)).1
            obtain ⟨qn, hqn⟩ : ∃ qn : ByteArray, qn = cs[k].1 := ⟨_, rfl⟩
            obtain ⟨qt, hqt⟩ : ∃ qt : ByteArray, qt = ofL (textT D cs[k].2) := ⟨_, rfl⟩
            obtain ⟨qc, hqc⟩ : ∃ qc : ByteArray, qc = ofL (ctext D cs[k]) := ⟨_, rfl⟩
            have hctl : (ctext D cs[k]).length = 4 + cword.data.toList.length + cs[k].1.data.toList.length + (textT D cs[k].2).length := by simp [ctext, inB, joinS, spaced]; omega
            have hpl : P.length ≤ 300000 := by rw [HP.out]; simp; omega
            have HX := hide (HR.out.later ((Below.refl _ _).alloc (Nat.le_refl _) (.cells #[.string qn, .int .i64 kx, .int .i64 nx, .string nmx, .slice Ax lx cx, .slice Ax' lx' cx'] 64)))
            have HBx : Hid ((wr.alloc (.cells #[.string qn, .int .i64 kx, .int .i64 nx, .string nmx, .slice Ax lx cx, .slice Ax' lx' cx'] 64)).heap[wr.heap.size]? = some (.cells #[.string qn, .int .i64 kx, .int .i64 nx, .string nmx, .slice Ax lx cx, .slice Ax' lx' cx'] 64 (0, 0))) := heap_alloc_new wr _
            have HIx : Hid (InTm (wr.alloc (.cells #[.string qn, .int .i64 kx, .int .i64 nx, .string nmx, .slice Ax lx cx, .slice Ax' lx' cx'] 64)) (fun _ => True) D cs[k].2 (.agg #[.int .i64 kx, .int .i64 nx, .string nmx, .slice Ax lx cx, .slice Ax' lx' cx'])) := hin.on ((Below.refl _ _).alloc (Nat.le_refl _) _)
            have hwl : wide [cword.data.toList, qn.data.toList, qt.data.toList] ≤ 400000000 := by
              have h1 := hwc.2
              rw [hqn, hqt]
              simp only [wide]
              have h2 : (ofL (textT D cs[k].2)).data.toList.length = (textT D cs[k].2).length := by simp
              rw [h2]
              omega
            have HQc : Hid (inBB [cword, qn, qt] = qc) := by rw [hqn, hqt, hqc]; exact hide (ctext_eq D cs[k])
            have HP1' : Hid (P ++ [qc] = P2 ++ (cs.take (k + 1)).map fun c => ofL (ctext D c)) := by rw [HP.out, hqc, List.take_succ_eq_append_getElem hkc, List.map_append, List.append_assoc]; exact hide rfl
            have HTl : Hid ((textT D cs[k].2).length ≤ 400000000) := by have := hwc.2; exact hide (by omega)
            have HWx := hide hwc.1
            have HQt := hide hqt
            rw [← hqn] at c0
            clear hwc hcg hctl hin hqn hqt hqc
            go_upto_region 12 with fail
            generalize hWX : wr.alloc (.cells #[.string qn, .int .i64 kx, .int .i64 nx, .string nmx, .slice Ax lx cx, .slice Ax' lx' cx'] 64) = wX at *
            clear hWX c0 c1 c2 c3 c4 c5
            have el := HX.out.lt
            have hbl : wr.heap.size < wX.heap.size := (Array.getElem?_eq_some_iff.1 HBx.out).1
            have p0 : wX.cell? ⟨wr.heap.size, 0, none⟩ = some (.string qn) := cell_at HBx.out 0 rfl
            have p1 : wX.cell? ⟨wr.heap.size, 1, none⟩ = some (.int .i64 kx) := cell_at HBx.out 1 rfl
            have p2 : wX.cell? ⟨wr.heap.size, 2, none⟩ = some (.int .i64 nx) := cell_at HBx.out 2 rfl
            have p3 : wX.cell? ⟨wr.heap.size, 3, none⟩ = some (.string nmx) := cell_at HBx.out 3 rfl
            have p4 : wX.cell? ⟨wr.heap.size, 4, none⟩ = some (.slice Ax lx cx) := cell_at HBx.out 4 rfl
            have p5 : wX.cell? ⟨wr.heap.size, 5, none⟩ = some (.slice Ax' lx' cx') := cell_at HBx.out 5 rfl
            have KC : Hid (Calls Tryz.prog 23 #[.agg #[.int .i64 kx, .int .i64 nx, .string nmx, .slice Ax lx cx, .slice Ax' lx' cx']] wX.drew fun e w' => e = .returned (.string qt) ∧ Below wX.drew.heap.size wX.drew w') := by
              have hd : Below wX.heap.size wX wX.drew := (Below.refl _ _).drew
              have := tprint_calls D cs[k].2 _ (HT.out.later (HX.out.later hd).old) HWx.out HTl.out (HIx.out.on hd)
              rw [HQt.out]
              exact this
            go_region_law (first
              | (refine step_value (f := 23) (v := .string qt) rfl ?_ KC.out ?_
                 · simp [go_sem]
                 intro wz hbz
                 have HQ := hide (HX.out.later (below_undrew hbz))
                 have HBz := hide (((below_undrew hbz).block wr.heap.size hbl).trans HBx.out)
                 have z0 : wz.cell? ⟨wr.heap.size, 0, none⟩ = some (.string qn) := cell_at HBz.out 0 rfl
                 have zl := HQ.out.lt
                 have zbl : wr.heap.size < wz.heap.size := (Array.getElem?_eq_some_iff.1 HBz.out).1
                 have KS : Hid (Calls Tryz.prog 21 #[.slice (some ⟨wz.heap.size, 0, none⟩) 3 3] (wz.alloc (.cells #[.string cword, .string qn, .string qt] 9)) fun e w' => e = .returned (.string qc) ∧ Below (wz.alloc (.cells #[.string cword, .string qn, .string qt] 9)).heap.size (wz.alloc (.cells #[.string cword, .string qn, .string qt] 9)) w') := by
                   have := brackets_calls (some ⟨wz.heap.size, 0, none⟩) 3 [cword, qn, qt] (wz.alloc (.cells #[.string cword, .string qn, .string qt] 9)) (three_strs wz cword qn qt) (by simp) (by simp) hwl
                   rw [HQc.out] at this
                   exact this
                 clear hbz KC)
              | (refine step_value (f := 21) (v := .string qc) rfl ?_ KS.out ?_
                 · simp [go_sem]
                 intro wy hby
                 have HE := hide (HQ.out.later (Below.trans ((Below.refl _ _).alloc (Nat.le_refl _) _) (hby.mono (by simp))))
                 have yl := HE.out.lt
                 have HO5 := hide (HE.out.row.alloc (.cells #[.string qc] 9))
                 clear hby KS)
              | (refine step_append_own rfl (.tmp 49) (.tmp 57) 39 rfl (w.heap.size + 1) 9 i0 _ 1 16 Tryz.underlying39 hi hz0 hz1 hz2 rfl (by decide) (.slice ao3 P.length cA3) P.length (P.map .string) ?_ HO5.out ⟨wy.heap.size, 0, none⟩ 1 1 [.string qc] ?_ rfl ?_ ?_ (by decide) (by unfold maxLen; omega) (by omega) ?_ ?_
                 · rfl
                 · rfl
                 · exact cell_one_new wy _ 9
                 · intro u hu; simp at hu; subst hu; rfl
                 · show w.heap.size + 1 ≤ (wy.alloc _).heap.size; simp; omega
                 intro v' w6 hown6 hgr6 _
                 have HN6 := hide (HE.out.push hown6 hgr6)
                 clear hown6 hgr6))
            all_goals
              go_wp2_with fail
              go_roundg (cn - (k + 1))
              case measure => omega
              case rel => exact ⟨k + 1, P ++ [qc], by omega, by go_num, HP1'.out, HN6.out⟩
          · have q : decide ((k : Int) < (cn : Int)) = false := by simp; omega
            have hke : k = cs.length := by rw [← HCn.out]; omega
            have HPe : Hid (P = P2 ++ (if kd = 2 then [ofL (textT D vl)] else []) ++ (if kd = 3 then cs.map fun c => ofL (ctext D c) else [])) := by
              rw [if_neg HK2.out, if_pos HK3.out, HP.out, hke, List.take_length, List.append_nil]
              exact hide rfl
            clear hke
            go_wp2_with fail
            go_meet
            case rel => exact ⟨P, HPe.out, HR.out⟩
      · have q3 : ((kd : Int) == 3) = false := by simp; omega
        have HK3 := hide k3
        clear k2 k3
        go_wp2_with fail
        go_meet
        case rel => exact ⟨P2, by rw [if_neg HK2.out, if_neg HK3.out, List.append_nil, List.append_nil]; exact hide rfl, HC.out⟩
  case rest =>
  as_aux_lemma =>
  obtain ⟨P3, HP3, HD⟩ := hcut
  rename World => wD
  clear HC e0 e8 e9 e10 e11 e12 e14 el
  obtain ⟨ao3, cA3, hu, hcap, hrow⟩ := HD.out.strs
  subst hu
  have hPB : P3 = partsB D kd nm ps ty vl ar cs := by rw [HP3.out, HP2.out, HP1.out, HP0.out]; rfl
  have hmap : P3.map (fun q => q.data.toList) = dparts D ⟨kd, nm, ps, ty, vl, ar, cs⟩ := by rw [hPB]; exact partsB_eq D kd nm ps ty vl ar cs
  have hlen : P3.length ≤ 1000000 := by
    have hcl := HF.out.cl
    simp only at hcl
    have e : P3.length = (dparts D ⟨kd, nm, ps, ty, vl, ar, cs⟩).length := by rw [← hmap, List.length_map]
    rw [e]
    unfold dparts
    simp only [List.length_append, List.length_cons, List.length_nil]
    have a1 : (if kd = 3 then [Lib.decDigits ar] else []).length ≤ 1 := by split <;> simp
    have a2 : (if kd = 2 then [textT D vl] else []).length ≤ 1 := by split <;> simp
    have a3 : (if kd = 3 then cs.map (ctext D) else []).length ≤ cs.length := by split <;> simp
    omega
  have hres : inBB P3 = ofL (dtext D ⟨kd, nm, ps, ty, vl, ar, cs⟩) := by unfold inBB dtext; rw [hmap]
  have KB := hide (brackets_calls ao3 cA3 P3 wD hrow hlen hcap (by rw [hmap]; exact HF.out.wd))
  rw [hres] at KB
  have HRes : Hid (Below w.heap.size w wD) := HD.out.old
  have hzd := HRes.out.size
  clear hrow hlen hcap hmap hPB hres HP3 HP2 HP1 HP0 HD
  go_wp2_with (go_at_call 21; refine KB.out.mono ?_)
  rintro e w7 ⟨rfl, hb7⟩
  have HE := hide (HRes.out.trans (hb7.mono hzd))
  clear hb7 KB
  go_wp2_with fail
  go_ret
  exact ⟨rfl, HE.out⟩

end Go.Proofs.YtjlibnijecdgcaaGreatDoor
