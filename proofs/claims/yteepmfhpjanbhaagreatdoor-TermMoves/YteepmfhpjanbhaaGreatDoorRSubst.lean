/- The contract of the document's Subst. -/
import Derived.Test.YteepmfhpjanbhaaGreatDoorRLift
import Derived.Test.YteepmfhpjanbhaaGreatDoorInP
import Derived.Deep.DeepCutAuto

namespace Go.Proofs.YteepmfhpjanbhaaGreatDoor
open Go.RowKit

/-- A call that makes a term, as one step of a region that draws its order. -/
theorem step_madeT {ops : Array Oper} {o : Oper} {a : Act} {w : World} {K : Act → World → Prop} {Q : Exit → Act → World → Prop} {E : Prop} {args : Array Value} {f : FuncId} {B d : Nat} {t : Tm}
    (hg : o.guard = none) (hrun : (execOp a.eval o).run Tryz.prog w = .ok (.enter f args) w) (hc : Calls Tryz.prog f args w fun e w' => MadeT B w d t e w')
    (hK : ∀ (k n : Int) (nm : ByteArray) (A : Option Addr) (la lc : Nat) (A' : Option Addr) (ta tc : Nat) (w' : World), InTm w' (fun b => b < B ∨ w.heap.size ≤ b) d t (.agg #[.int .i64 k, .int .i64 n, .string nm, .slice A la lc, .slice A' ta tc]) → Below w.heap.size w w' → K (a.put o.dst (.agg #[.int .i64 k, .int .i64 n, .string nm, .slice A la lc, .slice A' ta tc])) w') :
    if Region.wanted o (yielded ops a.tmps) = true then Oper.wp Tryz.prog o a w K Q else E := by
  have hw : Region.wanted o (yielded ops a.tmps) = true := by simp [Region.wanted, hg]
  rw [if_pos hw]
  unfold Oper.wp
  rw [hrun]
  refine hc.mono ?_
  rintro e w' ⟨k, n, nm, A, la, lc, A', ta, tc, rfl, h1, h2⟩
  exact hK k n nm A la lc A' ta tc w' h1 h2

/-- Two boxes of a term's five cells and the result's block lie there, and nothing older has turned. -/
abbrev TB2 (w : World) (c0 c1 c2 c3 c4 e0 e1 e2 e3 e4 : Value) (W : World) : Prop := Below (w.heap.size + 3) (((w.alloc (.cells #[c0, c1, c2, c3, c4] 30)).alloc (.cells #[e0, e1, e2, e3, e4] 30)).alloc ztm) W
section
variable {w W W' : World} {c0 c1 c2 c3 c4 e0 e1 e2 e3 e4 : Value}
theorem TB2.old (h : TB2 w c0 c1 c2 c3 c4 e0 e1 e2 e3 e4 W) : Below w.heap.size w W := ((((Below.refl _ _).alloc (Nat.le_refl _) _).alloc (by simp) _).alloc (by simp; omega) _).trans (Below.mono h (by omega))
theorem TB2.size (h : TB2 w c0 c1 c2 c3 c4 e0 e1 e2 e3 e4 W) : w.heap.size + 3 ≤ W.heap.size := by have := Below.size h; simpa using this
theorem TB2.b0 (h : TB2 w c0 c1 c2 c3 c4 e0 e1 e2 e3 e4 W) : W.heap[w.heap.size]? = some (.cells #[c0, c1, c2, c3, c4] 30 (0, 0)) := by
  rw [Below.block h _ (by omega), Below.heap_alloc _ _ _ (by simp; omega), Below.heap_alloc _ _ _ (by simp)]
  exact heap_alloc_new _ _
theorem TB2.b1 (h : TB2 w c0 c1 c2 c3 c4 e0 e1 e2 e3 e4 W) : W.heap[w.heap.size + 1]? = some (.cells #[e0, e1, e2, e3, e4] 30 (0, 0)) := by
  have e : (w.alloc (.cells #[c0, c1, c2, c3, c4] 30)).heap.size = w.heap.size + 1 := by simp
  have := heap_alloc_new (w.alloc (.cells #[c0, c1, c2, c3, c4] 30)) (.cells #[e0, e1, e2, e3, e4] 30)
  rw [e] at this
  rw [Below.block h _ (by omega), Below.heap_alloc _ _ _ (by simp)]
  exact this
theorem TB2.b2 (h : TB2 w c0 c1 c2 c3 c4 e0 e1 e2 e3 e4 W) : W.heap[w.heap.size + 2]? = some ztm := by
  have e : ((w.alloc (.cells #[c0, c1, c2, c3, c4] 30)).alloc (.cells #[e0, e1, e2, e3, e4] 30)).heap.size = w.heap.size + 2 := by simp
  have := heap_alloc_new ((w.alloc (.cells #[c0, c1, c2, c3, c4] 30)).alloc (.cells #[e0, e1, e2, e3, e4] 30)) ztm
  rw [e] at this
  rw [Below.block h _ (by omega)]
  exact this
theorem cells5 {n : Nat} (h : W.heap[n]? = some (.cells #[c0, c1, c2, c3, c4] 30 (0, 0))) : W.cell? ⟨n, 0, none⟩ = some c0 ∧ W.cell? ⟨n, 1, none⟩ = some c1 ∧ W.cell? ⟨n, 2, none⟩ = some c2 ∧ W.cell? ⟨n, 3, none⟩ = some c3 ∧ W.cell? ⟨n, 4, none⟩ = some c4 := by
  refine ⟨?_, ?_, ?_, ?_, ?_⟩ <;> simp [World.cell?, h]
theorem cells5f {n : Nat} (h : W.heap[n]? = some (.cells #[c0, c1, c2, c3, c4] 30 (0, 0))) (i : Nat) : W.frozen? ⟨n, i, none⟩ = false := by simp [World.frozen?, h]
theorem TB2.cells (h : TB2 w c0 c1 c2 c3 c4 e0 e1 e2 e3 e4 W) : W.cell? ⟨w.heap.size, 0, none⟩ = some c0 ∧ W.cell? ⟨w.heap.size, 1, none⟩ = some c1 ∧ W.cell? ⟨w.heap.size, 2, none⟩ = some c2 ∧ W.cell? ⟨w.heap.size, 3, none⟩ = some c3 ∧ W.cell? ⟨w.heap.size, 4, none⟩ = some c4 := cells5 (TB2.b0 h)
theorem TB2.cells2 (h : TB2 w c0 c1 c2 c3 c4 e0 e1 e2 e3 e4 W) : W.cell? ⟨w.heap.size + 1, 0, none⟩ = some e0 ∧ W.cell? ⟨w.heap.size + 1, 1, none⟩ = some e1 ∧ W.cell? ⟨w.heap.size + 1, 2, none⟩ = some e2 ∧ W.cell? ⟨w.heap.size + 1, 3, none⟩ = some e3 ∧ W.cell? ⟨w.heap.size + 1, 4, none⟩ = some e4 := cells5 (TB2.b1 h)
theorem TB2.zero (h : TB2 w c0 c1 c2 c3 c4 e0 e1 e2 e3 e4 W) : W.cell? ⟨w.heap.size + 2, 0, none⟩ = some (.int .i64 0) ∧ W.cell? ⟨w.heap.size + 2, 1, none⟩ = some (.int .i64 0) ∧ W.cell? ⟨w.heap.size + 2, 2, none⟩ = some (.string ⟨#[]⟩) ∧ W.cell? ⟨w.heap.size + 2, 3, none⟩ = some (.slice none 0 0) ∧ W.cell? ⟨w.heap.size + 2, 4, none⟩ = some (.slice none 0 0) ∧ (∀ i, W.frozen? ⟨w.heap.size + 2, i, none⟩ = false) ∧ w.heap.size + 2 < W.heap.size := by
  have hz := TB2.size h
  obtain ⟨h0, h1, h2, h3, h4⟩ := cells5 (TB2.b2 h)
  exact ⟨h0, h1, h2, h3, h4, cells5f (TB2.b2 h), by omega⟩
theorem TB2.then (h : TB2 w c0 c1 c2 c3 c4 e0 e1 e2 e3 e4 W) (hb : Below W.heap.size W W') : TB2 w c0 c1 c2 c3 c4 e0 e1 e2 e3 e4 W' := Below.trans h (hb.mono (TB2.size h))
end

def substF (v : Tm) (e : Nat) : Nat → Nat → Tm := fun free b => if free = 0 then chT (liftF b 0) id e 0 v else tvar (free - 1 + b)

set_option maxRecDepth 100000 in
set_option maxHeartbeats 2000000 in
theorem rsubst_var (u : Tm) (e B d b : Nat) (t : Tm) (v vu : Value) (w : World) (hu : WfT e u) (he : e ≤ 1000000) (hwf : WfT (d + 1) t) (hb : b ≤ 1000000) (hB : B ≤ w.heap.size) (hin : InTm w (fun b => b < B) (d + 1) t v) (hinu : InTm w (fun b => b < B) e u vu) (hk : t.kd = 0) :
    Calls Tryz.prog 47 #[v, vu, .int .i64 (b : Nat)] w fun en w' => MadeT B w (d + 1 + e) (chT (substF u e) id (d + 1) b t) en w' := by
  have hn9 : t.n ≤ 99999 := hwf.2.1
  obtain ⟨A, c, A', c', rfl, -, -⟩ := hin
  obtain ⟨z1, z2, z3⟩ := hwf.2.2.1 hk
  obtain ⟨ku, nu, nmu, Au, mu, cu, Au', mu', cu', rfl⟩ := hinu.form
  have HL : Hid (∀ W, Below w.heap.size w W → Calls Tryz.prog 14 #[.agg #[.int .i64 ku, .int .i64 nu, .string nmu, .slice Au mu cu, .slice Au' mu' cu'], .int .i64 (b : Nat), .int .i64 ((0 : Nat))] W fun en w' => MadeT B W e (chT (liftF b 0) id e 0 u) en w') := fun W hW =>
    rlift_calls b 0 B hb (by omega) e u _ 0 0 W rfl hu (by omega) (Nat.le_trans hB hW.size) (hinu.below (hW.mono hB))
  have HC : Hid (chT (substF u e) id (d + 1) b t = if t.n = b then chT (liftF b 0) id e 0 u else tvar (if t.n < b then t.n else t.n - 1)) := by
    show chT _ _ _ _ _ = _
    by_cases h1 : t.n < b
    · rw [chT_low hk h1, if_neg (by omega), if_pos h1]
    · rw [chT_free hk h1]
      unfold substF
      by_cases h2 : t.n = b
      · rw [if_pos h2, if_pos (by omega)]
      · rw [if_neg h2, if_neg (by omega), if_neg h1]; congr 1; omega
  rw [hk, z1, z2, z3, HC.out]
  simp only [List.length_nil]
  clear z1 z2 z3 hwf HC hinu
  show Calls Tryz.prog 47 #[.agg #[.int .i64 0, .int .i64 (t.n : Nat), .string ⟨#[]⟩, .slice A 0 c, .slice A' 0 c'], .agg #[.int .i64 ku, .int .i64 nu, .string nmu, .slice Au mu cu, .slice Au' mu' cu'], .int .i64 (b : Nat)] w _
  generalize t.n = N at *
  by_cases h2 : N = b
  · have q : ((N : Int) == (b : Int)) = true := by simp; omega
    rw [if_pos h2]
    have hid := hide h2
    clear h2
    have hT := Below.refl (w.heap.size + 3) (((w.alloc (.cells #[.int .i64 0, .int .i64 (N : Nat), .string ⟨#[]⟩, .slice A 0 c, .slice A' 0 c'] 30)).alloc (.cells #[.int .i64 ku, .int .i64 nu, .string nmu, .slice Au mu cu, .slice Au' mu' cu'] 30)).alloc ztm)
    have HT := hide hT
    clear hT
    go_enter Tryz.func47, Tryz.ntmps47
    go_wp2_with (go_at_call 14; refine (HL.out _ (TB2.old HT.out)).mono ?_)
    rintro en w1 ⟨k1, n1, nm1, A1, l1, cc1, A2, l2, cc2, rfl, hin5, hb5⟩
    have hT1 := TB2.then HT.out hb5
    obtain ⟨x0, x1, x2, x3, x4, xf, xl⟩ := TB2.zero hT1
    have hz : (((w.alloc (.cells #[.int .i64 0, .int .i64 (N : Nat), .string ⟨#[]⟩, .slice A 0 c, .slice A' 0 c'] 30)).alloc (.cells #[.int .i64 ku, .int .i64 nu, .string nmu, .slice Au mu cu, .slice Au' mu' cu'] 30)).alloc ztm).heap.size = w.heap.size + 3 := by simp
    rw [hz] at hin5
    have HF := hide (fill5 (r := w.heap.size + 2) (u0 := .int .i64 k1) (u1 := .int .i64 n1) (u2 := .string nm1) (u3 := .slice A1 l1 cc1) (u4 := .slice A2 l2 cc2) (by omega) hB (TB2.old hT1) (fun b _ h => h.imp id fun h => by omega) (hin5.deeper (e := d + 1 + e) (by omega)))
    clear hin5 hb5 hT1 hz
    go_wp2_with fail
    refine bodyPost_ret (v := .agg #[.int .i64 k1, .int .i64 n1, .string nm1, .slice A1 l1 cc1, .slice A2 l2 cc2]) (by simp [results, Tryz.results47, go_sem, x0, x1, x2, x3, x4]) rfl ?_
    exact ⟨_, _, _, _, _, _, _, _, _, rfl, HF.out.1, HF.out.2⟩
  · have q : ((N : Int) == (b : Int)) = false := by simp; omega
    rw [if_neg h2]
    have e1 : d + 1 + e = (d + e) + 1 := by omega
    rw [e1]
    clear HL e1
    by_cases h3 : N < b
    · have q2 : decide ((N : Int) > (b : Int)) = false := by simp; omega
      rw [if_pos h3]
      go_enter Tryz.func47, Tryz.ntmps47
      go_wp2_with fail
      refine bodyPost_ret (v := .agg #[.int .i64 0, .int .i64 (N : Nat), .string ⟨#[]⟩, .slice A 0 c, .slice A' 0 c']) (by simp [results, Tryz.results47, go_sem]) rfl ?_
      exact ⟨_, _, _, _, _, _, _, _, _, rfl, InTm.tvar _ _ _ _ _ _ _ _, (((Below.refl _ _).alloc (Nat.le_refl _) _).alloc (by simp) _).alloc (by simp; omega) _⟩
    · have q2 : decide ((N : Int) > (b : Int)) = true := by simp; omega
      rw [if_neg h3]
      obtain ⟨M, rfl⟩ : ∃ M, N = M + 1 := ⟨N - 1, by omega⟩
      have hm : ((M + 1 : Nat) : Int) - 1 = (M : Nat) := by omega
      go_enter Tryz.func47, Tryz.ntmps47
      go_wp2_with fail
      refine bodyPost_ret (v := .agg #[.int .i64 0, .int .i64 (M : Nat), .string ⟨#[]⟩, .slice none 0 0, .slice none 0 0]) (by simp [results, Tryz.results47, go_sem]) rfl ?_
      exact ⟨_, _, _, _, _, _, _, _, _, rfl, InTm.tvar _ _ _ _ _ _ _ _, (((Below.refl _ _).alloc (Nat.le_refl _) _).alloc (by simp) _).alloc (by simp; omega) _⟩

set_option maxRecDepth 100000 in
set_option maxHeartbeats 4000000 in
theorem rsubst_node (u : Tm) (e B d b : Nat) (t : Tm) (v vu : Value) (w : World) (hwf : WfT (d + 1) t) (hb : b + d ≤ 1000000) (hB : B ≤ w.heap.size) (hin : InTm w (fun b => b < B) (d + 1) t v) (hinu : InTm w (fun b => b < B) e u vu) (hk : t.kd ≠ 0)
    (ih : ∀ (x : Tm) (v : Value) (b' : Nat) (w : World), WfT d x → b' + d ≤ 1000001 → B ≤ w.heap.size → InTm w (fun b => b < B) d x v → InTm w (fun b => b < B) e u vu → Calls Tryz.prog 47 #[v, vu, .int .i64 (b' : Nat)] w fun en w' => MadeT B w (d + e) (chT (substF u e) id d b' x) en w') :
    Calls Tryz.prog 47 #[v, vu, .int .i64 (b : Nat)] w fun en w' => MadeT B w (d + 1 + e) (chT (substF u e) id (d + 1) b t) en w' := by
  obtain ⟨A, c, A', c', rfl, hl, ht⟩ := hin
  obtain ⟨a1, a2, a3, a4, a5, a6, a7, a8, a9, a10⟩ := hwf
  obtain ⟨ku, nu, nmu, Au, mu, cu, Au', mu', cu', rfl⟩ := hinu.form
  have h3 : t.ts.length ≤ 3 := by rw [a8]; exact tparts_le _
  have q0 : ((t.kd : Int) == 0) = false := by simp; omega
  have e1 : d + 1 + e = (d + e) + 1 := by omega
  rw [chT_node hk, e1]
  clear e1
  have HL := hide hl
  have HT := hide ht
  have HW := hide a10
  have IH := hide ih
  have HU := hide hinu
  obtain ⟨i0, hi, hz0, hz1, hz2⟩ := info_parts Tryz.info30
  clear hl ht a10 ih a3 a4 a5 a8 a9 hinu
  go_enter Tryz.func47, Tryz.ntmps47
  go_wp2_with fail
  go_loopg [7, 8] (t.ts.length) (fun g rv i wr => ∃ (k : Nat) (xs : List Value), k + g = t.ts.length ∧ i = .int .i64 k ∧ GRow (TK (d + e) (t.ts.mapIdx fun i x => chT (substF u e) id d (b + t.bnd i) x)) wr 30 5 B (w.heap.size + 3) k rv xs ∧ TB2 w (.int .i64 (t.kd : Nat)) (.int .i64 (t.n : Nat)) (.string t.nm) (.slice A t.ls.length c) (.slice A' t.ts.length c') (.int .i64 ku) (.int .i64 nu) (.string nmu) (.slice Au mu cu) (.slice Au' mu' cu') wr)
  case atStart => exact ⟨0, [], by omega, rfl, GRow.start _ _ _ _ _ _, Below.refl _ _⟩
  case round =>
    obtain ⟨k, xs, hkg, rfl, hrow, hbel⟩ := hrel
    obtain ⟨g0, g1, g2, g3, g4⟩ := TB2.cells hbel
    have hz := TB2.size hbel
    have hold := TB2.old hbel
    by_cases hlt : k < t.ts.length
    · obtain ⟨b1, x, rfl, hb1, h5, hinx⟩ := HT.out k hlt
      obtain ⟨kk, nn, nm', A3, n', cap', A5, n5, cap5, rfl, c0, c1, c2, c3, c4⟩ := h5
      obtain ⟨ao, cc, rfl, hao⟩ := hrow.shape
      have KB := hide (rbinds_calls t k t.n t.nm (.slice A t.ls.length c) (some ⟨b1, 0, none⟩) c' wr h3 a1 A t.ls.length c rfl)
      have hbk := t.bnd_le k
      have IHk : Hid (∀ W, Below w.heap.size w W → Calls Tryz.prog 47 #[.agg #[.int .i64 kk, .int .i64 nn, .string nm', .slice A3 n' cap', .slice A5 n5 cap5], .agg #[.int .i64 ku, .int .i64 nu, .string nmu, .slice Au mu cu, .slice Au' mu' cu'], .int .i64 ((b : Int) + ((t.bnd k : Nat) : Int))] W fun en w' => MadeT B W (d + e) (chT (substF u e) id d (b + t.bnd k) t.ts[k]) en w') :=
        fun W hW => by
          have := IH.out _ _ (b + t.bnd k) W (HW.out k hlt) (by omega) (Nat.le_trans hB hW.size) (hinx.below (hW.mono hB)) (HU.out.below (hW.mono hB))
          rw [Int.natCast_add] at this
          exact this
      have HRow := hide hrow
      have HBel := hide hbel
      have HC : Hid (w.cell? ⟨b1, k * 5, none⟩ = some (.int .i64 kk) ∧ w.cell? ⟨b1, k * 5 + 1, none⟩ = some (.int .i64 nn) ∧ w.cell? ⟨b1, k * 5 + 2, none⟩ = some (.string nm') ∧ w.cell? ⟨b1, k * 5 + 3, none⟩ = some (.slice A3 n' cap') ∧ w.cell? ⟨b1, k * 5 + 4, none⟩ = some (.slice A5 n5 cap5)) := ⟨c0, c1, c2, c3, c4⟩
      clear hrow hbel hold hinx c0 c1 c2 c3 c4 hao
      go_wp2_with (go_at_call 45; refine KB.out.mono ?_)
      rintro en w1 ⟨rfl, hw1⟩
      clear KB g0 g1 g2 g3 g4
      have hbel1 := TB2.then HBel.out hw1
      have hz1' := TB2.size hbel1
      obtain ⟨g0, g1, g2, g3, g4⟩ := TB2.cells hbel1
      obtain ⟨f0, f1, f2, f3, f4⟩ := TB2.cells2 hbel1
      obtain ⟨c0, c1, c2, c3, c4⟩ := HC.out
      have hold1 := TB2.old hbel1
      have d0 := cell_later hold1 c0
      have d1 := cell_later hold1 c1
      have d2 := cell_later hold1 c2
      have d3 := cell_later hold1 c3
      have d4 := cell_later hold1 c4
      have HR1 := hide (GRow.later (TK.keeps _ _) HRow.out hw1)
      have HB1 := hide hbel1
      have IH1 := hide (IHk.out w1.drew hold1.drew)
      clear c0 c1 c2 c3 c4 hold1 hbel1 hw1 IHk
      have hcase : (bndB t k = true ∧ ((b : Int) + ((t.bnd k : Nat) : Int)) = b + 1) ∨ (bndB t k = false ∧ ((b : Int) + ((t.bnd k : Nat) : Int)) = b) := by
        cases hbb : bndB t k with
        | true => exact .inl ⟨rfl, by rw [bndB_true hbb]; rfl⟩
        | false => exact .inr ⟨rfl, by rw [bndB_false hbb]; simp⟩
      rcases hcase with ⟨hq, hq1⟩ | ⟨hq, hq1⟩
      all_goals
        rw [hq]
        rw [hq1] at IH1
        clear hq1 hq
        go_wp2_with fail
        go_region_law (first
          | (refine step_madeT (f := 47) (B := B) (d := d + e) (t := chT (substF u e) id d (b + t.bnd k) t.ts[k]) rfl ?_ IH1.out ?_
             · simp [go_sem]
             intro k1 n1 nm1 A1 l1 cc1 A2 l2 cc2 w5 hin5 hb5'
             have hb5 : Below w1.heap.size w1 w5 := ⟨hb5'.os, hb5'.tape, hb5'.output, hb5'.size, hb5'.block⟩
             have hz5 := hb5.size
             have HR5 := hide (GRow.later (TK.keeps _ _) HR1.out hb5)
             have HB5 := hide (TB2.then HB1.out hb5)
             have HI5 := hide hin5
             have HB5' := hide hb5
             clear hin5 hb5 hb5' IH1)
          | (refine step_append_own rfl (.tmp 42) (.tmp 51) 28 rfl (w.heap.size + 3) 30 i0 _ 5 80 Tryz.underlying28 hi hz0 hz1 hz2 rfl (by decide) (.slice ao k cc) k (flat xs) ?_ (HR5.out.own.alloc _) ⟨w5.heap.size, 0, none⟩ 1 1 [.int .i64 k1, .int .i64 n1, .string nm1, .slice A1 l1 cc1, .slice A2 l2 cc2] ?_ rfl ?_ ?_ (by decide) (by unfold maxLen; omega) (by omega) ?_ ?_
             · rfl
             · rfl
             · exact five_new _ _ _ _ _ _ _
             · intro u hu; simp at hu; rcases hu with rfl | rfl | rfl | rfl | rfl <;> rfl
             · show w.heap.size + 3 ≤ (w5.alloc _).heap.size; simp; omega
             intro v' w6 hown6 hgr6 hpl6
             have HO6 := hide hown6
             have HG6 := hide hgr6
             have HP6 := hide hpl6
             clear hown6 hgr6 hpl6))
        all_goals
          have HRow6 := hide (GRow.push (TK.keeps _ _) HR1.out (m := w1.heap.size) (by omega) (by omega) (fun g e => (HR1.out.own.lt g e).2) HB5'.out (TK.map hlt HI5.out) rfl HO6.out HG6.out HP6.out)
          have HB6 := hide (Below.grown (Below.alloc HB5.out (by omega) (.cells #[.int .i64 k1, .int .i64 n1, .string nm1, .slice A1 l1 cc1, .slice A2 l2 cc2] 30)) HG6.out (by simp; omega) (fun j hj => (HR1.out.own.lt j hj).1))
          clear HO6 HG6 HP6
          go_wp2_with fail
          go_roundg (t.ts.length - (k + 1))
          case measure => omega
          case rel => exact ⟨k + 1, _, by omega, by go_num, HRow6.out, HB6.out⟩
    · have hke : k = t.ts.length := by omega
      subst hke
      have hlen : (t.ts.mapIdx fun i x => chT (substF u e) id d (b + t.bnd i) x).length = t.ts.length := by simp
      obtain ⟨ao, cc, rfl, hts⟩ := GRow.terms (by rw [hlen]; exact hrow)
      have KW := hide (fun W => rwith_calls (t.kd : Nat) (t.n : Nat) t.nm A t.ls.length c A' t.ts.length c' ao (t.ts.mapIdx fun i x => chT (substF u e) id d (b + t.bnd i) x).length cc W)
      have HT2 := hide hts
      have HB2 := hide hbel
      clear hts hbel hold hrow
      rw [hlen] at KW
      rw [hlen]
      go_wp2_with (go_at_call 46; refine (KW.out _).mono ?_)
      rintro en w1 ⟨rfl, hw1⟩
      have hbel1 := TB2.then HB2.out hw1
      obtain ⟨x0, x1, x2, x3, x4, xf, xl⟩ := TB2.zero hbel1
      have hold1 := TB2.old hbel1
      have HF := hide (fill5 (r := w.heap.size + 2) (u0 := .int .i64 (t.kd : Nat)) (u1 := .int .i64 (t.n : Nat)) (u2 := .string t.nm) (u3 := .slice A t.ls.length c) (u4 := .slice ao t.ts.length cc) (S := fun b => b < B ∨ w.heap.size + 3 ≤ b) (by omega) hB hold1 (fun b _ h => h.imp id fun h => by omega)
        (InTm.mk (lk := t.ls.length) (kd := t.kd) (n := t.n) (nm := t.nm) (ls := t.ls.map id) (c := c) (c' := cc) (by simp) hlen.symm (by rw [List.map_id]; exact HL.out.keep fun b _ hb => ⟨.inl hb, hold1.block b (by omega)⟩) (parts_keep (fun b hb hS => ⟨hS, hw1.block b hb⟩) HT2.out)))
      clear hw1 hbel1 hold1
      go_wp2_with fail
      refine bodyPost_ret (v := .agg #[.int .i64 (t.kd : Nat), .int .i64 (t.n : Nat), .string t.nm, .slice A t.ls.length c, .slice ao t.ts.length cc]) (by simp [results, Tryz.results47, go_sem, x0, x1, x2, x3, x4]) rfl ?_
      exact ⟨_, _, _, _, _, _, _, _, _, rfl, HF.out.1, HF.out.2⟩

theorem rsubstAt_calls (u : Tm) (e B : Nat) (vu : Value) (hu : WfT e u) (he : e ≤ 1000000) : ∀ (d : Nat) (t : Tm) (v : Value) (b : Nat) (w : World), WfT d t → b + d ≤ 1000001 → B ≤ w.heap.size → InTm w (fun b => b < B) d t v → InTm w (fun b => b < B) e u vu →
    Calls Tryz.prog 47 #[v, vu, .int .i64 (b : Nat)] w fun en w' => MadeT B w (d + e) (chT (substF u e) id d b t) en w'
  | 0, _, _, _, _, h, _, _, _, _ => absurd h (by simp [WfT])
  | d + 1, t, v, b, w, hwf, hb, hB, hin, hinu => by
    by_cases hk : t.kd = 0
    · exact rsubst_var u e B d b t v vu w hu he hwf (by omega) hB hin hinu hk
    · exact rsubst_node u e B d b t v vu w hwf (by omega) hB hin hinu hk fun x v b' w hx hb' hB' hin' hinu' => rsubstAt_calls u e B vu hu he d x v b' w hx hb' hB' hin' hinu'

set_option maxRecDepth 100000 in
set_option maxHeartbeats 2000000 in
theorem rsubstT_calls (u : Tm) (e B : Nat) (v vu : Value) (hu : WfT e u) (he : e ≤ 1000000) (d : Nat) (t : Tm) (w : World) (hwf : WfT d t) (hd : d ≤ 1000000) (hB : B ≤ w.heap.size) (hin : InTm w (fun b => b < B) d t v) (hinu : InTm w (fun b => b < B) e u vu) :
    Calls Tryz.prog 15 #[v, vu] w fun en w' => MadeT B w (d + e) (chT (substF u e) id d 0 t) en w' := by
  obtain ⟨k, n, nm, A, la, lc, A', ta, tc, rfl⟩ := hin.form
  obtain ⟨ku, nu, nmu, Au, mu, cu, Au', mu', cu', rfl⟩ := hinu.form
  have hT := Below.refl (w.heap.size + 3) (((w.alloc (.cells #[.int .i64 k, .int .i64 n, .string nm, .slice A la lc, .slice A' ta tc] 30)).alloc (.cells #[.int .i64 ku, .int .i64 nu, .string nmu, .slice Au mu cu, .slice Au' mu' cu'] 30)).alloc ztm)
  have HT := hide hT
  have HC := hide (rsubstAt_calls u e B _ hu he d t _ 0 _ hwf (by omega) (Nat.le_trans hB (TB2.old hT).size) (hin.below ((TB2.old hT).mono hB)) (hinu.below ((TB2.old hT).mono hB)))
  clear hT hin hinu
  go_enter Tryz.func15, Tryz.ntmps15
  go_wp2_with (go_at_call 47; refine HC.out.mono ?_)
  rintro en w1 ⟨k1, n1, nm1, A1, l1, cc1, A2, l2, cc2, rfl, hin5, hb5⟩
  have hT1 := TB2.then HT.out hb5
  obtain ⟨x0, x1, x2, x3, x4, xf, xl⟩ := TB2.zero hT1
  have hz : (((w.alloc (.cells #[.int .i64 k, .int .i64 n, .string nm, .slice A la lc, .slice A' ta tc] 30)).alloc (.cells #[.int .i64 ku, .int .i64 nu, .string nmu, .slice Au mu cu, .slice Au' mu' cu'] 30)).alloc ztm).heap.size = w.heap.size + 3 := by simp
  rw [hz] at hin5
  have HF := hide (fill5 (r := w.heap.size + 2) (u0 := .int .i64 k1) (u1 := .int .i64 n1) (u2 := .string nm1) (u3 := .slice A1 l1 cc1) (u4 := .slice A2 l2 cc2) (by omega) hB (TB2.old hT1) (fun b _ h => h.imp id fun h => by omega) hin5)
  clear hin5 hb5 hT1 hz
  go_wp2_with fail
  refine bodyPost_ret (v := .agg #[.int .i64 k1, .int .i64 n1, .string nm1, .slice A1 l1 cc1, .slice A2 l2 cc2]) (by simp [results, Tryz.results15, go_sem, x0, x1, x2, x3, x4]) rfl ?_
  exact ⟨_, _, _, _, _, _, _, _, _, rfl, HF.out.1, HF.out.2⟩

end Go.Proofs.YteepmfhpjanbhaaGreatDoor
