/- The contract of term.change.under: a term made anew, whatever the two functions make. -/
import Derived.Test.YtafdlaaohglfdaaGreatDoorLoops
import Derived.Test.YtafdlaaohglfdaaGreatDoorGrow

namespace Go.Proofs.YtafdlaaohglfdaaGreatDoor
open Go.RowKit

set_option maxRecDepth 100000 in
set_option maxHeartbeats 2000000 in
theorem variable_calls (n : Nat) (w : World) : Calls Tryz.prog 22 #[.int .i64 (n : Nat)] w fun e w' => e = .returned (.agg #[.int .i64 0, .int .i64 (n : Nat), .string ⟨#[]⟩, .slice none 0 0, .slice none 0 0]) ∧ Below w.heap.size w w' := by
  go_enter Tryz.func22, Tryz.ntmps22
  go_wp2_with fail
  refine bodyPost_ret (v := .agg #[.int .i64 0, .int .i64 (n : Nat), .string ⟨#[]⟩, .slice none 0 0, .slice none 0 0]) (by simp [results, Tryz.results22, go_sem]) rfl ?_
  exact ⟨rfl, (Below.refl _ _).alloc (Nat.le_refl _) _⟩

set_option maxRecDepth 100000 in
set_option maxHeartbeats 2000000 in
theorem binders_calls (t : Tm) (i p : Nat) (A' : Option Addr) (c' : Nat) (w : World) (h3 : t.ts.length ≤ 3) (h6 : t.kd ≤ 6) (c0 : w.cell? ⟨p, 0, none⟩ = some (.int .i64 (t.kd : Nat))) (c4 : w.cell? ⟨p, 4, none⟩ = some (.slice A' t.ts.length c')) :
    Calls Tryz.prog 49 #[.pointer (some ⟨p, 0, none⟩), .int .i64 (i : Nat)] w fun e w' => e = .returned (.int .i64 (t.bnd i : Nat)) ∧ w' = w := by
  unfold Tm.bnd
  generalize t.kd = kd at *
  generalize t.ts.length = m' at *
  have hk : kd = 4 ∨ kd = 5 ∨ kd = 6 ∨ kd < 4 := by omega
  by_cases hi : i + 1 = m'
  · have q : ((i : Int) == (m' : Int) - 1) = true := by simp; omega
    rcases hk with rfl | rfl | rfl | hk
    · go_enter Tryz.func49, Tryz.ntmps49
      go_wp2_with fail
      go_ret
      exact ⟨rfl, rfl⟩
    · go_enter Tryz.func49, Tryz.ntmps49
      go_wp2_with fail
      go_ret
      exact ⟨rfl, rfl⟩
    · go_enter Tryz.func49, Tryz.ntmps49
      go_wp2_with fail
      go_ret
      exact ⟨rfl, rfl⟩
    · have q1 : ((kd : Int) == 4) = false := by simp; omega
      have q2 : ((kd : Int) == 5) = false := by simp; omega
      have q3 : ((kd : Int) == 6) = false := by simp; omega
      go_enter Tryz.func49, Tryz.ntmps49
      go_wp2_with fail
      go_ret
      exact ⟨rfl, rfl⟩
  · have q : ((i : Int) == (m' : Int) - 1) = false := by simp; omega
    rcases hk with rfl | rfl | rfl | hk
    · go_enter Tryz.func49, Tryz.ntmps49
      go_wp2_with fail
      go_ret
      exact ⟨rfl, rfl⟩
    · go_enter Tryz.func49, Tryz.ntmps49
      go_wp2_with fail
      go_ret
      exact ⟨rfl, rfl⟩
    · go_enter Tryz.func49, Tryz.ntmps49
      go_wp2_with fail
      go_ret
      exact ⟨rfl, rfl⟩
    · have q1 : ((kd : Int) == 4) = false := by simp; omega
      have q2 : ((kd : Int) == 5) = false := by simp; omega
      have q3 : ((kd : Int) == 6) = false := by simp; omega
      go_enter Tryz.func49, Tryz.ntmps49
      go_wp2_with fail
      go_ret
      exact ⟨rfl, rfl⟩

/-- What a function makes of a free variable; of a level. -/
structure Frees (F : FuncId) (C : Array Value) (f : Nat → Nat → Tm) (e B D : Nat) (w : World) : Prop where
  enter : ∀ (args : Array Value) (w' : World), Sem.run Tryz.prog (callFunc F args) w' = .ok (.enter F args) w'
  calls : ∀ (n b : Nat) (w' : World), n ≤ 900000 → b ≤ 1000000 → D ≤ w'.heap.size → Below D w w' → Calls Tryz.prog F (#[.int .i64 (n : Nat), .int .i64 (b : Nat)] ++ C) w' fun en w'' => MadeT B w' e (f n b) en w''
structure Levs (G : FuncId) (C : Array Value) (g : LvB → LvB) (B D : Nat) (w : World) : Prop where
  enter : ∀ (args : Array Value) (w' : World), Sem.run Tryz.prog (callFunc G args) w' = .ok (.enter G args) w'
  calls : ∀ (l : LvB) (v : Value) (w' : World), InLv w' B l v → D ≤ w'.heap.size → Below D w w' → Calls Tryz.prog G (#[v] ++ C) w' fun en w'' => Made B w' (g l) en w''
theorem Frees.later {F : FuncId} {C : Array Value} {f : Nat → Nat → Tm} {e B D : Nat} {w w' : World} (h : Frees F C f e B D w) (hb : Below D w w') : Frees F C f e B D w' :=
  ⟨h.enter, fun n b w'' h1 h2 h3 hb' => h.calls n b w'' h1 h2 h3 (hb.trans hb')⟩
theorem Levs.later {G : FuncId} {C : Array Value} {g : LvB → LvB} {B D : Nat} {w w' : World} (h : Levs G C g B D w) (hb : Below D w w') : Levs G C g B D w' :=
  ⟨h.enter, fun l v w'' h1 h2 hb' => h.calls l v w'' h1 h2 (hb.trans hb')⟩

theorem ownsRow_low {w : World} {base base' T z n : Nat} {v : Value} {xs : List Value} (h : w.ownsRow base T z v n xs) (hb : base' ≤ base) : w.ownsRow base' T z v n xs :=
  ⟨h.1, h.2.imp id fun ⟨g, cap, cur, e, h1, r⟩ => ⟨g, cap, cur, e, Nat.le_trans hb h1, r⟩⟩

/-- A call that changes nothing, as one step of a region that draws its order. -/
theorem step_same {ops : Array Oper} {o : Oper} {a : Act} {w : World} {K : Act → World → Prop} {Q : Exit → Act → World → Prop} {E : Prop} {args : Array Value} {f : FuncId} {r : Value}
    (hg : o.guard = none) (hrun : (execOp a.eval o).run Tryz.prog w = .ok (.enter f args) w) (hc : Calls Tryz.prog f args w fun e w' => e = .returned r ∧ w' = w) (hK : K (a.put o.dst r) w) :
    if Region.wanted o (yielded ops a.tmps) = true then Oper.wp Tryz.prog o a w K Q else E := by
  have hw : Region.wanted o (yielded ops a.tmps) = true := by simp [Region.wanted, hg]
  rw [if_pos hw]
  unfold Oper.wp
  rw [hrun]
  refine hc.mono ?_
  rintro e w' ⟨rfl, rfl⟩
  exact hK

/-- The boxes of a call of under. -/
abbrev UW (w : World) (fv gv c0 c1 c2 c3 c4 : Value) : World := ((w.alloc (.cells #[fv, gv] 64)).alloc (.cells #[c0, c1, c2, c3, c4] 29)).alloc ztm
section
variable {w W : World} {fv gv c0 c1 c2 c3 c4 : Value}
theorem UW.old (h : Below (w.heap.size + 3) (UW w fv gv c0 c1 c2 c3 c4) W) : Below w.heap.size w W := ((((Below.refl _ _).alloc (Nat.le_refl _) _).alloc (by simp) _).alloc (by simp; omega) _).trans (Below.mono h (by omega))
theorem UW.size (h : Below (w.heap.size + 3) (UW w fv gv c0 c1 c2 c3 c4) W) : w.heap.size + 3 ≤ W.heap.size := by have := Below.size h; simpa using this
theorem UW.fun (h : Below (w.heap.size + 3) (UW w fv gv c0 c1 c2 c3 c4) W) : W.cell? ⟨w.heap.size, 0, none⟩ = some fv ∧ W.cell? ⟨w.heap.size, 1, none⟩ = some gv := by
  have hb : W.heap[w.heap.size]? = some (.cells #[fv, gv] 64 (0, 0)) := by
    rw [Below.block h _ (by omega), Below.heap_alloc _ _ _ (by simp; omega), Below.heap_alloc _ _ _ (by simp)]
    exact heap_alloc_new _ _
  constructor <;> simp [World.cell?, hb]
theorem UW.cells (h : Below (w.heap.size + 3) (UW w fv gv c0 c1 c2 c3 c4) W) : W.cell? ⟨w.heap.size + 1, 0, none⟩ = some c0 ∧ W.cell? ⟨w.heap.size + 1, 1, none⟩ = some c1 ∧ W.cell? ⟨w.heap.size + 1, 2, none⟩ = some c2 ∧ W.cell? ⟨w.heap.size + 1, 3, none⟩ = some c3 ∧ W.cell? ⟨w.heap.size + 1, 4, none⟩ = some c4 := by
  have e : (w.alloc (.cells #[fv, gv] 64)).heap.size = w.heap.size + 1 := by simp
  have := heap_alloc_new (w.alloc (.cells #[fv, gv] 64)) (.cells #[c0, c1, c2, c3, c4] 29)
  rw [e] at this
  exact cells5 (by rw [Below.block h _ (by omega), Below.heap_alloc _ _ _ (by simp)]; exact this)
theorem UW.zero (h : Below (w.heap.size + 3) (UW w fv gv c0 c1 c2 c3 c4) W) : W.cell? ⟨w.heap.size + 2, 0, none⟩ = some (.int .i64 0) ∧ W.cell? ⟨w.heap.size + 2, 1, none⟩ = some (.int .i64 0) ∧ W.cell? ⟨w.heap.size + 2, 2, none⟩ = some (.string ⟨#[]⟩) ∧ W.cell? ⟨w.heap.size + 2, 3, none⟩ = some (.slice none 0 0) ∧ W.cell? ⟨w.heap.size + 2, 4, none⟩ = some (.slice none 0 0) ∧ (∀ i, W.frozen? ⟨w.heap.size + 2, i, none⟩ = false) ∧ w.heap.size + 2 < W.heap.size := by
  have hz := UW.size h
  have e : ((w.alloc (.cells #[fv, gv] 64)).alloc (.cells #[c0, c1, c2, c3, c4] 29)).heap.size = w.heap.size + 2 := by simp
  have := heap_alloc_new ((w.alloc (.cells #[fv, gv] 64)).alloc (.cells #[c0, c1, c2, c3, c4] 29)) ztm
  rw [e] at this
  have hb : W.heap[w.heap.size + 2]? = some ztm := by rw [Below.block h _ (by omega)]; exact this
  obtain ⟨h0, h1, h2, h3, h4⟩ := cells5 hb
  exact ⟨h0, h1, h2, h3, h4, cells5f hb, by omega⟩
end

set_option maxRecDepth 100000 in
set_option maxHeartbeats 2000000 in
theorem under_var (F G : FuncId) (C C' : Array Value) (f : Nat → Nat → Tm) (g : LvB → LvB) (e B D d b : Nat) (t : Tm) (v : Value) (w : World) (hBD : B ≤ D) (hD : D ≤ w.heap.size) (hb : b ≤ 1000000) (hwf : WfT (d + 1) t) (hin : InTm w (fun b => b < B) (d + 1) t v) (hk : t.kd = 0) (hF : Frees F C f e B D w) :
    Calls Tryz.prog 24 #[.agg #[.func (.func F) #[] C, .func (.func G) #[] C'], v, .int .i64 (b : Nat)] w fun en w' => MadeT B w (d + 1 + e) (chT f g (d + 1) b t) en w' := by
  have hn9 : t.n ≤ 900000 := hwf.2.1
  have hB : B ≤ w.heap.size := Nat.le_trans hBD hD
  obtain ⟨A, c, A', c', rfl, -, -⟩ := hin
  obtain ⟨z1, z2, z3⟩ := hwf.2.2.1 hk
  have HC : Hid (chT f g (d + 1) b t = if t.n < b then tvar t.n else f (t.n - b) b) := by
    show chT _ _ _ _ _ = _
    by_cases h1 : t.n < b
    · rw [chT_low hk h1, if_pos h1]
    · rw [chT_free hk h1, if_neg h1]
  rw [hk, z1, z2, z3, HC.out]
  simp only [List.length_nil]
  clear z1 z2 z3 hwf HC
  show Calls Tryz.prog 24 #[.agg #[.func (.func F) #[] C, .func (.func G) #[] C'], .agg #[.int .i64 0, .int .i64 (t.n : Nat), .string ⟨#[]⟩, .slice A 0 c, .slice A' 0 c'], .int .i64 (b : Nat)] w _
  generalize t.n = N at *
  have hT := Below.refl (w.heap.size + 3) (UW w (.func (.func F) #[] C) (.func (.func G) #[] C') (.int .i64 0) (.int .i64 (N : Nat)) (.string ⟨#[]⟩) (.slice A 0 c) (.slice A' 0 c'))
  by_cases h1 : N < b
  · have q : decide ((N : Int) < (b : Int)) = true := by simp; omega
    rw [if_pos h1]
    have HV := hide (fun W => variable_calls N W)
    have HT := hide hT
    clear hT hF
    go_enter Tryz.func24, Tryz.ntmps24
    go_wp2_with (go_at_call 22; refine (HV.out _).mono ?_)
    rintro en w1 ⟨rfl, hb1⟩
    have hT1 := Below.trans HT.out (hb1.mono (UW.size HT.out))
    obtain ⟨x0, x1, x2, x3, x4, xf, xl⟩ := UW.zero hT1
    have HB := hide (set5_below (r := w.heap.size + 2) (u0 := .int .i64 0) (u1 := .int .i64 (N : Nat)) (u2 := .string ⟨#[]⟩) (u3 := .slice none 0 0) (u4 := .slice none 0 0) (by omega) (UW.old hT1))
    clear hb1 hT1
    go_wp2_with fail
    refine bodyPost_ret (v := .agg #[.int .i64 0, .int .i64 (N : Nat), .string ⟨#[]⟩, .slice none 0 0, .slice none 0 0]) (by simp [results, Tryz.results24, go_sem, x0, x1, x2, x3, x4]) rfl ?_
    have e1 : d + 1 + e = (d + e) + 1 := by omega
    rw [e1]
    exact ⟨_, _, _, _, _, _, _, _, _, rfl, InTm.tvar _ _ _ _ _ _ _ _, HB.out⟩
  · have q : decide ((N : Int) < (b : Int)) = false := by simp; omega
    rw [if_neg h1]
    obtain ⟨M, rfl⟩ : ∃ M, N = b + M := ⟨N - b, by omega⟩
    have hM : b + M - b = M := by omega
    rw [hM]
    have hen := hF.enter
    have HV := hide (hF.calls M b (UW w (.func (.func F) #[] C) (.func (.func G) #[] C') (.int .i64 0) (.int .i64 ((b + M : Nat))) (.string ⟨#[]⟩) (.slice A 0 c) (.slice A' 0 c')) (by omega) hb (by have := UW.size hT; omega) ((UW.old hT).mono hD))
    have HT := hide hT
    have hq : ((b + M : Nat) : Int) - (b : Int) = (M : Int) := by omega
    clear hT hF hM
    generalize hN : b + M = N at *
    go_enter Tryz.func24, Tryz.ntmps24
    go_wp2_with fail
    refine HV.out.mono ?_
    rintro en w1 ⟨k1, n1, nm1, A1, l1, cc1, A2, l2, cc2, rfl, hin5, hb5⟩
    have hT1 := Below.trans HT.out (hb5.mono (UW.size HT.out))
    obtain ⟨x0, x1, x2, x3, x4, xf, xl⟩ := UW.zero hT1
    have hz : (UW w (.func (.func F) #[] C) (.func (.func G) #[] C') (.int .i64 0) (.int .i64 (N : Nat)) (.string ⟨#[]⟩) (.slice A 0 c) (.slice A' 0 c')).heap.size = w.heap.size + 3 := by simp
    rw [hz] at hin5
    have HF := hide (fill5 (r := w.heap.size + 2) (u0 := .int .i64 k1) (u1 := .int .i64 n1) (u2 := .string nm1) (u3 := .slice A1 l1 cc1) (u4 := .slice A2 l2 cc2) (by omega) hB (UW.old hT1) (fun b _ h => h.imp id fun h => by omega) (hin5.deeper (e := d + 1 + e) (by omega)))
    clear hin5 hb5 hT1 hz
    go_wp2_with fail
    refine bodyPost_ret (v := .agg #[.int .i64 k1, .int .i64 n1, .string nm1, .slice A1 l1 cc1, .slice A2 l2 cc2]) (by simp [results, Tryz.results24, go_sem, x0, x1, x2, x3, x4]) rfl ?_
    exact ⟨_, _, _, _, _, _, _, _, _, rfl, HF.out.1, HF.out.2⟩

set_option maxRecDepth 100000 in
set_option maxHeartbeats 8000000 in
theorem under_node (F G : FuncId) (C C' : Array Value) (f : Nat → Nat → Tm) (g : LvB → LvB) (e B D d b : Nat) (t : Tm) (v : Value) (w : World) (hBD : B ≤ D) (hD : D ≤ w.heap.size) (hb : b + d ≤ 1000000) (hwf : WfT (d + 1) t) (hin : InTm w (fun b => b < B) (d + 1) t v) (hk : t.kd ≠ 0) (hG : Levs G C' g B D w)
    (ih : ∀ (x : Tm) (v : Value) (b' : Nat) (W : World), WfT d x → b' + d ≤ 1000001 → D ≤ W.heap.size → Below D w W → InTm W (fun b => b < B) d x v → Calls Tryz.prog 24 #[.agg #[.func (.func F) #[] C, .func (.func G) #[] C'], v, .int .i64 (b' : Nat)] W fun en w' => MadeT B W (d + e) (chT f g d b' x) en w') :
    Calls Tryz.prog 24 #[.agg #[.func (.func F) #[] C, .func (.func G) #[] C'], v, .int .i64 (b : Nat)] w fun en w' => MadeT B w (d + 1 + e) (chT f g (d + 1) b t) en w' := by
  have hB : B ≤ w.heap.size := Nat.le_trans hBD hD
  obtain ⟨A, c, A', c', rfl, hl, ht⟩ := hin
  obtain ⟨a1, a2, a3, a4, a5, a6, a7, a8, a9, a10⟩ := hwf
  have h3 : t.ts.length ≤ 3 := by rw [a8]; exact tparts_le _
  have q0 : ((t.kd : Int) == 0) = false := by simp; omega
  have e1 : d + 1 + e = (d + e) + 1 := by omega
  rw [chT_node hk, e1]
  have HL := hide hl
  have HT := hide ht
  have HW := hide a10
  have IH := hide ih
  have HGc := hide hG.calls
  have hen := hG.enter
  have KL := hide (fun W => lgrow_calls t.ls.length W a7)
  have KT := hide (fun W => tgrow_calls t.ts.length W (by omega))
  obtain ⟨i0, hi, hz0, hz1, hz2⟩ := info_parts Tryz.info29
  obtain ⟨i4, hj, hy0, hy1, hy2⟩ := info_parts Tryz.info79
  have h00 := Below.refl (w.heap.size + 3) (UW w (.func (.func F) #[] C) (.func (.func G) #[] C') (.int .i64 (t.kd : Nat)) (.int .i64 (t.n : Nat)) (.string t.nm) (.slice A t.ls.length c) (.slice A' t.ts.length c'))
  have hz00 : (UW w (.func (.func F) #[] C) (.func (.func G) #[] C') (.int .i64 (t.kd : Nat)) (.int .i64 (t.n : Nat)) (.string t.nm) (.slice A t.ls.length c) (.slice A' t.ts.length c')).heap.size = w.heap.size + 3 := by simp
  have HV0 : Hid (TVar 29 ((UW w (.func (.func F) #[] C) (.func (.func G) #[] C') (.int .i64 (t.kd : Nat)) (.int .i64 (t.n : Nat)) (.string t.nm) (.slice A t.ls.length c) (.slice A' t.ts.length c')).alloc (.cells #[.int .i64 (t.kd : Nat), .int .i64 (t.n : Nat), .string t.nm, .slice none 0 0, .slice none 0 0] 29)) (w.heap.size + 3) t.kd t.n t.nm (.slice none 0 0) (.slice none 0 0)) := by
    have := heap_alloc_new (UW w (.func (.func F) #[] C) (.func (.func G) #[] C') (.int .i64 (t.kd : Nat)) (.int .i64 (t.n : Nat)) (.string t.nm) (.slice A t.ls.length c) (.slice A' t.ts.length c')) (.cells #[.int .i64 (t.kd : Nat), .int .i64 (t.n : Nat), .string t.nm, .slice none 0 0, .slice none 0 0] 29)
    rw [hz00] at this
    exact this
  have H00 := hide h00
  clear hl ht a10 ih a3 a4 a5 a8 a9 e1 hG h00 hz00
  go_enter Tryz.func24, Tryz.ntmps24
  go_wp2_with (go_at_call 47; refine (KL.out _).mono ?_)
  intro en w1 AL cL he hoL hb1
  subst he
  have hb1' : Below (w.heap.size + 4) ((UW w (.func (.func F) #[] C) (.func (.func G) #[] C') (.int .i64 (t.kd : Nat)) (.int .i64 (t.n : Nat)) (.string t.nm) (.slice A t.ls.length c) (.slice A' t.ts.length c')).alloc (.cells #[.int .i64 (t.kd : Nat), .int .i64 (t.n : Nat), .string t.nm, .slice none 0 0, .slice none 0 0] 29)) w1 := hb1
  have hV1 : TVar 29 w1 (w.heap.size + 3) t.kd t.n t.nm (.slice none 0 0) (.slice none 0 0) := HV0.out.of_block (hb1'.block _ (by omega))
  have hO1 : Below (w.heap.size + 3) (UW w (.func (.func F) #[] C) (.func (.func G) #[] C') (.int .i64 (t.kd : Nat)) (.int .i64 (t.n : Nat)) (.string t.nm) (.slice A t.ls.length c) (.slice A' t.ts.length c')) w1 := (H00.out.alloc (by simp) _).trans (hb1'.mono (by omega))
  have hoL1 : w1.ownsRow (w.heap.size + 4) 79 3 (.slice AL 0 cL) 0 [] := hoL
  have hs1 : w.heap.size + 4 ≤ w1.heap.size := by have := hb1'.size; simp at this; omega
  obtain ⟨g0, g1, g2, g3, g4⟩ := UW.cells hO1
  have v3 := hV1.c3
  have v4 := hV1.c4
  have vf3 := hV1.f 3
  have vf4 := hV1.f 4
  have HV1 := hide (hV1.setL (.slice AL 0 cL))
  have HO1 := hide (hO1.setCell (p := ⟨w.heap.size + 3, 3, none⟩) (Nat.le_refl _) (.slice AL 0 cL))
  have HR1 := hide (ownsRow_setCell_below hoL1 (a := ⟨w.heap.size + 3, 3, none⟩) (by show w.heap.size + 3 < w.heap.size + 4; omega) (.slice AL 0 cL))
  have hs1' : (w1.setCell ⟨w.heap.size + 3, 3, none⟩ (.slice AL 0 cL)).heap.size = w1.heap.size := by simp [World.setCell]
  clear hoL hb1 hb1' hV1 hO1 hoL1 HV0 H00
  go_wp2_with (go_at_call 48; refine (KT.out _).mono ?_)
  intro en w2 h2
  obtain ⟨AT, cT, he, hoT, hb2⟩ := h2
  subst he
  rw [hs1'] at hoT hb2
  have hs2 : w1.heap.size ≤ w2.heap.size := by have := hb2.size; rw [hs1'] at this; exact this
  have hap : (Value.slice AT 0 cT).ownBlock = none ∨ (Value.slice AT 0 cT).ownBlock ≠ (Value.slice AL 0 cL).ownBlock := by
    cases hq : (Value.slice AT 0 cT).ownBlock with
    | none => exact .inl rfl
    | some x =>
      refine .inr fun e2 => ?_
      have h1 := (hoT.lt x hq).1
      have h2 := (HR1.out.lt x e2.symm).2
      rw [hs1'] at h2
      omega
  have hV2 : TVar 29 w2 (w.heap.size + 3) t.kd t.n t.nm (.slice AL 0 cL) (.slice none 0 0) := HV1.out.of_block (hb2.block _ (by omega))
  have hO2 := HO1.out.trans (hb2.mono (by omega))
  have hR2 : w2.ownsRow (w.heap.size + 4) 79 3 (.slice AL 0 cL) 0 [] := HR1.out.kept (row := none) ⟨hb2.os, hb2.tape, hb2.output, by rw [hs1']; exact hs2, fun j hj _ => hb2.block j (by rw [hs1'] at hj; exact hj)⟩ (Classical.em _)
  obtain ⟨f0, f1, f2, f3, f4⟩ := UW.cells hO2
  have u4 := hV2.c4
  have uf4 := hV2.f 4
  have HLL : Hid (LLoop (UW w (.func (.func F) #[] C) (.func (.func G) #[] C') (.int .i64 (t.kd : Nat)) (.int .i64 (t.n : Nat)) (.string t.nm) (.slice A t.ls.length c) (.slice A' t.ts.length c')) (w.heap.size + 3) B t.kd t.n t.nm (t.ls.map g) (.slice AT 0 cT) 0 (.slice AL 0 cL) [] (w2.setCell ⟨w.heap.size + 3, 4, none⟩ (.slice AT 0 cT))) :=
    ⟨hV2.setA _, GRow.begin (ownsRow_setCell_below hR2 (a := ⟨w.heap.size + 3, 4, none⟩) (by show w.heap.size + 3 < w.heap.size + 4; omega) _), ownsRow_setCell_below (ownsRow_low hoT (by omega)) (a := ⟨w.heap.size + 3, 4, none⟩) (by show w.heap.size + 3 < w.heap.size + 4; omega) _, hap, hO2.setCell (p := ⟨w.heap.size + 3, 4, none⟩) (Nat.le_refl _) _⟩
  clear hoT hb2 hap hV2 hO2 hR2 HV1 HO1 HR1 g0 g1 g2 g3 g4 v3 v4 vf3 vf4 KL KT hs1'
  go_wp2_with fail
  clear f0 f1 f2 f3 f4 u4 uf4
  go_loopg [54] (t.ls.length) (fun gg i wr => ∃ (k : Nat) (rvL : Value) (xs : List Value), k + gg = t.ls.length ∧ i = .int .i64 k ∧ LLoop (UW w (.func (.func F) #[] C) (.func (.func G) #[] C') (.int .i64 (t.kd : Nat)) (.int .i64 (t.n : Nat)) (.string t.nm) (.slice A t.ls.length c) (.slice A' t.ts.length c')) (w.heap.size + 3) B t.kd t.n t.nm (t.ls.map g) (.slice AT 0 cT) k rvL xs wr)
  case atStart => exact ⟨0, _, [], by omega, rfl, HLL.out⟩
  case round =>
    obtain ⟨k, rvL, xs, hkg, rfl, hL⟩ := hrel
    obtain ⟨g0, g1, g2, g3, g4⟩ := UW.cells hL.old
    have hold := UW.old hL.old
    have hsz := hL.size
    by_cases hlt : k < t.ls.length
    · obtain ⟨b1, x, rfl, hb1, h5, hinx⟩ := HL.out k hlt
      obtain ⟨kk, nm', A3, n', cap', rfl, c0, c1, c2⟩ := h5
      obtain ⟨ao, cc, rfl, hao⟩ := hL.row.shape
      have d0 := cell_later hold c0
      have d1 := cell_later hold c1
      have d2 := cell_later hold c2
      have HLr := hide hL
      have HO := hide hold
      have HX := hide hinx
      clear hL hold hinx c0 c1 c2 hao
      have hbW : Below wr.heap.size wr (wr.alloc (.cells #[.int .i64 kk, .string nm', .slice A3 n' cap'] 79)) := (Below.refl _ _).alloc (Nat.le_refl _) _
      have HGk : Hid (Calls Tryz.prog G (#[.agg #[.int .i64 kk, .string nm', .slice A3 n' cap']] ++ C') (wr.alloc (.cells #[.int .i64 kk, .string nm', .slice A3 n' cap'] 79)).drew fun en w' => Made B (wr.alloc (.cells #[.int .i64 kk, .string nm', .slice A3 n' cap'] 79)).drew (g t.ls[k]) en w') :=
        HGc.out _ _ _ ((HX.out.keep (S' := fun b => b < B) fun b _ hS => ⟨hS, (HO.out.trans (hbW.mono HO.out.size)).block b (by omega)⟩).inLvB.below (Below.refl _ _).drew) (by have := HO.out.size; have h9 := hbW.size; show D ≤ (wr.alloc _).heap.size; omega) ((HO.out.trans (hbW.mono HO.out.size)).mono hD).drew
      have hLW := hide (HLr.out.later hbW)
      have hlm : k < (t.ls.map g).length := by simpa using hlt
      have HLm := hide (show (t.ls.map g)[k] = g t.ls[k] by simp)
      clear hbW HGc
      go_wp2_with fail
      generalize hW : wr.alloc (.cells #[.int .i64 kk, .string nm', .slice A3 n' cap'] 79) = W at *
      have hzW : W.heap.size = wr.heap.size + 1 := by rw [← hW]; simp
      have p0 : W.cell? ⟨wr.heap.size, 0, none⟩ = some (.int .i64 kk) := by rw [← hW]; simp
      have p1 : W.cell? ⟨wr.heap.size, 1, none⟩ = some (.string nm') := by rw [← hW]; simp
      have p2 : W.cell? ⟨wr.heap.size, 2, none⟩ = some (.slice A3 n' cap') := by rw [← hW]; simp
      obtain ⟨y0, y1⟩ := UW.fun hLW.out.old
      have v3 := hLW.out.var.c3
      have vf3 := hLW.out.var.f 3
      have hsW := hLW.out.size
      have HOw := hide hLW.out.row.own
      clear hW d0 d1 d2 g0 g1 g2 g3 g4
      go_region_law (first
        | (refine step_made (f := G) (B := B) (L := g t.ls[k]) rfl ?_ HGk.out ?_
           · simp [go_sem, hen]
           intro k1 nm1 A1 n1 cap1 w5 hin5 hb5'
           have hb5 : Below W.heap.size W w5 := ⟨hb5'.os, hb5'.tape, hb5'.output, hb5'.size, hb5'.block⟩
           have hL5 := hide (hLW.out.later hb5)
           have hz5 := hb5.size
           have x3 := hL5.out.var.c3
           have xf3 := hL5.out.var.f 3
           have hlt5 : w.heap.size + 3 < w5.heap.size := by omega
           have HB5 := hide hb5
           have HI5 := hide hin5
           clear hb5 hb5' hin5 HGk v3 vf3 y0 y1)
        | (refine step_append_own rfl (.tmp 59) (.tmp 64) 26 rfl (w.heap.size + 3 + 1) 79 i4 _ 3 48 Tryz.underlying26 hj hy0 hy1 hy2 rfl (by decide) (.slice ao k cc) k (flat xs) ?_ (hL5.out.row.own.alloc _) ⟨w5.heap.size, 0, none⟩ 1 1 [.int .i64 k1, .string nm1, .slice A1 n1 cap1] ?_ rfl ?_ ?_ (by decide) (by unfold maxLen; omega) (by omega) ?_ ?_
           · rfl
           · rfl
           · exact three_new _ _ _ _ _
           · intro u hu; simp at hu; rcases hu with rfl | rfl | rfl <;> rfl
           · show w.heap.size + 3 + 1 ≤ (w5.alloc _).heap.size; simp; omega
           intro v' w6 hown6 hgr6 hpl6
           obtain ⟨gr, cap2, rfl, hgb⟩ := shape_row hown6 (by omega)
           have hV6 := (hL5.out.var.alloc (.cells #[.int .i64 k1, .string nm1, .slice A1 n1 cap1] 79)).of_block (hgr6.block (w.heap.size + 3) (by simp; omega) (fun e => by have := (hL5.out.row.own.lt _ e.symm).1; omega))
           have z3 := hV6.c3
           have zf3 := hV6.f 3
           have HO6 := hide hown6
           have HG6 := hide hgr6
           have HP6 := hide hpl6
           clear hown6 hgr6 hpl6 hV6))
      all_goals
        have HN := hide (hLW.out.next (by omega) (m := W.heap.size) (Nat.le_refl _) hlm HB5.out (by rw [HLm.out]; exact HI5.out) HO6.out HG6.out HP6.out)
        clear HO6 HG6 HP6
        go_wp2_with fail
        go_roundg (t.ls.length - (k + 1))
        case measure => omega
        case rel => exact ⟨k + 1, _, _, by omega, by go_num, HN.out⟩
    · have hke : k = t.ls.length := by omega
      subst hke
      rename World => W1
      have hlen : (t.ls.map g).length = t.ls.length := by simp
      obtain ⟨ao, cc, rfl, hls⟩ := GRow.levels2 (by rw [hlen]; exact hL.row) hL.apart
      have HLs := hide hls
      have hst := hide (TLoop.start (D := d + e) (ts := t.ts.mapIdx fun i x => chT f g d (b + t.bnd i) x) hL)
      clear hls hold HGc HLL
      rw [hlen] at hst
      have HLen := hide hlen
      clear hL hlen
      go_wp2_with fail
      clear g0 g1 g2 g3 g4
      go_loopg [71] (t.ts.length) (fun gg i wq => ∃ (k : Nat) (rvT : Value) (xt : List Value), k + gg = t.ts.length ∧ i = .int .i64 k ∧ TLoop (UW w (.func (.func F) #[] C) (.func (.func G) #[] C') (.int .i64 (t.kd : Nat)) (.int .i64 (t.n : Nat)) (.string t.nm) (.slice A t.ls.length c) (.slice A' t.ts.length c')) W1 (w.heap.size + 3) B t.kd t.n t.nm (d + e) (t.ts.mapIdx fun i x => chT f g d (b + t.bnd i) x) (.slice ao t.ls.length cc) (.slice AT 0 cT) k rvT xt wq)
      case atStart => exact ⟨0, _, [], by omega, rfl, hst.out⟩
      case round =>
        obtain ⟨k, rvT, xt, hkg2, rfl, hL⟩ := hrel
        obtain ⟨g0, g1, g2, g3, g4⟩ := UW.cells hL.old
        have hold := UW.old hL.old
        have hsz := hL.var.lt
        by_cases hlt : k < t.ts.length
        · obtain ⟨b1, x, rfl, hb1, h5, hinx⟩ := HT.out k hlt
          obtain ⟨kk, nq, nm', A3, n', cap', A5, n5, cap5, rfl, c0, c1, c2, c3, c4⟩ := h5
          obtain ⟨ai, ci, rfl, hao⟩ := hL.row.shape
          have d0 := cell_later hold c0
          have d1 := cell_later hold c1
          have d2 := cell_later hold c2
          have d3 := cell_later hold c3
          have d4 := cell_later hold c4
          have HLr := hide hL
          have HO := hide hold
          have HX := hide hinx
          have hbk := t.bnd_le k
          clear hL hold hinx c0 c1 c2 c3 c4 hao
          have hbW : Below wr.heap.size wr (wr.alloc (.cells #[.int .i64 kk, .int .i64 nq, .string nm', .slice A3 n' cap', .slice A5 n5 cap5] 29)) := (Below.refl _ _).alloc (Nat.le_refl _) _
          have IHk : Hid (Calls Tryz.prog 24 #[.agg #[.func (.func F) #[] C, .func (.func G) #[] C'], .agg #[.int .i64 kk, .int .i64 nq, .string nm', .slice A3 n' cap', .slice A5 n5 cap5], .int .i64 ((b : Int) + ((t.bnd k : Nat) : Int))] (wr.alloc (.cells #[.int .i64 kk, .int .i64 nq, .string nm', .slice A3 n' cap', .slice A5 n5 cap5] 29)).drew fun en w' => MadeT B (wr.alloc (.cells #[.int .i64 kk, .int .i64 nq, .string nm', .slice A3 n' cap', .slice A5 n5 cap5] 29)).drew (d + e) (chT f g d (b + t.bnd k) t.ts[k]) en w') := by
            have h8 := (HO.out.trans (hbW.mono HO.out.size)).drew
            have := IH.out t.ts[k] _ (b + t.bnd k) (wr.alloc (.cells #[.int .i64 kk, .int .i64 nq, .string nm', .slice A3 n' cap', .slice A5 n5 cap5] 29)).drew (HW.out k hlt) (by omega) (Nat.le_trans hD h8.size) (h8.mono hD) (HX.out.keep fun b _ hS => ⟨hS, h8.block b (by omega)⟩)
            rw [Int.natCast_add] at this
            exact this
          have hLW := hide (HLr.out.later hbW)
          have KB : Hid (∀ W', Below (w.heap.size + 3) (UW w (.func (.func F) #[] C) (.func (.func G) #[] C') (.int .i64 (t.kd : Nat)) (.int .i64 (t.n : Nat)) (.string t.nm) (.slice A t.ls.length c) (.slice (some ⟨b1, 0, none⟩) t.ts.length c')) W' → Calls Tryz.prog 49 #[.pointer (some ⟨w.heap.size + 1, 0, none⟩), .int .i64 (k : Nat)] W' fun en w' => en = .returned (.int .i64 (t.bnd k : Nat)) ∧ w' = W') := fun W' hW' =>
            binders_calls t k (w.heap.size + 1) (some ⟨b1, 0, none⟩) c' W' h3 a1 (UW.cells hW').1 (UW.cells hW').2.2.2.2
          clear hbW
          have hsm : IntKind.i64.wrap ((b : Int) + ((t.bnd k : Nat) : Int)) = (b : Int) + ((t.bnd k : Nat) : Int) := by rw [IntKind.wrap_i64]; omega
          go_wp2_with fail
          generalize hW : wr.alloc (.cells #[.int .i64 kk, .int .i64 nq, .string nm', .slice A3 n' cap', .slice A5 n5 cap5] 29) = W at *
          have hzW : W.heap.size = wr.heap.size + 1 := by rw [← hW]; simp
          have p0 : W.cell? ⟨wr.heap.size, 0, none⟩ = some (.int .i64 kk) := by rw [← hW]; simp
          have p1 : W.cell? ⟨wr.heap.size, 1, none⟩ = some (.int .i64 nq) := by rw [← hW]; simp
          have p2 : W.cell? ⟨wr.heap.size, 2, none⟩ = some (.string nm') := by rw [← hW]; simp
          have p3 : W.cell? ⟨wr.heap.size, 3, none⟩ = some (.slice A3 n' cap') := by rw [← hW]; simp
          have p4 : W.cell? ⟨wr.heap.size, 4, none⟩ = some (.slice A5 n5 cap5) := by rw [← hW]; simp
          obtain ⟨y0, y1⟩ := UW.fun hLW.out.old
          have v4 := hLW.out.var.c4
          have vf4 := hLW.out.var.f 4
          have hsW := hLW.out.var.lt
          have HKB := hide (KB.out W.drew hLW.out.old.drew)
          clear hW d0 d1 d2 d3 d4 g0 g1 g2 g3 g4 KB
          generalize hbn : ((t.bnd k : Nat) : Int) = bn at *
          go_region_law (first
            | (refine step_same (f := 49) (r := .int .i64 bn) rfl ?_ HKB.out ?_
               · simp [go_sem])
            | (refine step_madeT (f := 24) (B := B) (d := d + e) (t := chT f g d (b + t.bnd k) t.ts[k]) rfl ?_ IHk.out ?_
               · simp [go_sem]
               intro k1 n1 nm1 A1 l1 cc1 A2 l2 cc2 w5 hin5 hb5'
               have hb5 : Below W.heap.size W w5 := ⟨hb5'.os, hb5'.tape, hb5'.output, hb5'.size, hb5'.block⟩
               have hz5 := hb5.size
               have hL5 := hide (hLW.out.later hb5)
               have x4 := hL5.out.var.c4
               have xf4 := hL5.out.var.f 4
               have hlt5 : w.heap.size + 3 < w5.heap.size := by omega
               have HI5 := hide hin5
               have HB5 := hide hb5
               clear hin5 hb5 hb5' IHk v4 vf4 y0 y1 p0 p1 p2 p3 p4 HKB)
            | (refine step_append_own rfl (.tmp 77) (.tmp 85) 27 rfl (w.heap.size + 3 + 1) 29 i0 _ 5 80 Tryz.underlying27 hi hz0 hz1 hz2 rfl (by decide) (.slice ai k ci) k (flat xt) ?_ (hL5.out.row.own.alloc _) ⟨w5.heap.size, 0, none⟩ 1 1 [.int .i64 k1, .int .i64 n1, .string nm1, .slice A1 l1 cc1, .slice A2 l2 cc2] ?_ rfl ?_ ?_ (by decide) (by unfold maxLen; omega) (by omega) ?_ ?_
               · rfl
               · rfl
               · exact five_new _ _ _ _ _ _ _
               · intro u hu; simp at hu; rcases hu with rfl | rfl | rfl | rfl | rfl <;> rfl
               · show w.heap.size + 3 + 1 ≤ (w5.alloc _).heap.size; simp; omega
               intro v' w6 hown6 hgr6 hpl6
               obtain ⟨gr, cap2, rfl, hgb⟩ := shape5 hown6 (by omega)
               have hV6 := (hL5.out.var.alloc (.cells #[.int .i64 k1, .int .i64 n1, .string nm1, .slice A1 l1 cc1, .slice A2 l2 cc2] 29)).of_block (hgr6.block (w.heap.size + 3) (by simp; omega) (fun e => by have := (hL5.out.row.own.lt _ e.symm).1; omega))
               have z4 := hV6.c4
               have zf4 := hV6.f 4
               have HO6 := hide hown6
               have HG6 := hide hgr6
               have HP6 := hide hpl6
               clear hown6 hgr6 hpl6 hV6))
          all_goals
            have HN := hide (hLW.out.next (by omega) (m := W.heap.size) (Nat.le_refl _) HB5.out (TK.map hlt HI5.out) HO6.out HG6.out HP6.out)
            clear HO6 HG6 HP6
            go_wp2_with fail
            go_roundg (t.ts.length - (k + 1))
            case measure => omega
            case rel => exact ⟨k + 1, _, _, by omega, by go_num, HN.out⟩
        · have hke : k = t.ts.length := by omega
          subst hke
          have hlen2 : (t.ts.mapIdx fun i x => chT f g d (b + t.bnd i) x).length = t.ts.length := by simp
          obtain ⟨x0, x1, x2, x3, x4, xf, xl⟩ := UW.zero hL.old
          obtain ⟨A2, c2, hrv, hin2⟩ := TLoop.made (ls := t.ls.map g) (ts := t.ts.mapIdx fun i x => chT f g d (b + t.bnd i) x) (A := ao) (c := cc) (kd' := t.kd) (nn' := t.n) (by rw [HLen.out, hlen2]; exact hL) (by omega) HLs.out
          rw [hlen2] at hrv
          subst hrv
          rw [HLen.out, hlen2] at hin2
          have v0 := hL.var.c0
          have v1 := hL.var.c1
          have v2 := hL.var.c2
          have v3 := hL.var.c3
          have v4 := hL.var.c4
          have HF := hide (fill5 (r := w.heap.size + 2) (u0 := .int .i64 (t.kd : Nat)) (u1 := .int .i64 (t.n : Nat)) (u2 := .string t.nm) (u3 := .slice ao t.ls.length cc) (u4 := .slice A2 t.ts.length c2) (by omega) hB hold (fun b _ h => h.imp id fun h => by omega) hin2)
          clear hL hold hin2 HLs hst IH HW HT HL
          go_wp2_with fail
          refine bodyPost_ret (v := .agg #[.int .i64 (t.kd : Nat), .int .i64 (t.n : Nat), .string t.nm, .slice ao t.ls.length cc, .slice A2 t.ts.length c2]) (by simp [results, Tryz.results24, go_sem, x0, x1, x2, x3, x4]) rfl ?_
          exact ⟨_, _, _, _, _, _, _, _, _, rfl, HF.out.1, HF.out.2⟩

theorem under_calls (F G : FuncId) (C C' : Array Value) (f : Nat → Nat → Tm) (g : LvB → LvB) (e B D : Nat) (hBD : B ≤ D) : ∀ (d : Nat) (t : Tm) (v : Value) (b : Nat) (w : World), D ≤ w.heap.size → b + d ≤ 1000001 → WfT d t → InTm w (fun b => b < B) d t v → Frees F C f e B D w → Levs G C' g B D w →
    Calls Tryz.prog 24 #[.agg #[.func (.func F) #[] C, .func (.func G) #[] C'], v, .int .i64 (b : Nat)] w fun en w' => MadeT B w (d + e) (chT f g d b t) en w'
  | 0, _, _, _, _, _, _, h, _, _, _ => absurd h (by simp [WfT])
  | d + 1, t, v, b, w, hD, hb, hwf, hin, hF, hG => by
    by_cases hk : t.kd = 0
    · exact under_var F G C C' f g e B D d b t v w hBD hD (by omega) hwf hin hk hF
    · exact under_node F G C C' f g e B D d b t v w hBD hD (by omega) hwf hin hk hG fun x v b' W hx hb' hD' hw hin' => under_calls F G C C' f g e B D hBD d x v b' W hD' hb' hx hin' (hF.later hw) (hG.later hw)

end Go.Proofs.YtafdlaaohglfdaaGreatDoor
