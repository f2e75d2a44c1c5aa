/- The law's sameCommand, where both are the same. -/
import Derived.Test.YtekfledccpeblaaGreatDoorSx

namespace Go.Proofs.YtekfledccpeblaaGreatDoor
open Go.RowKit

/-- A command whose lists are short. -/
structure CmFit (c : Cm) : Prop where
  ps : c.ps.length ≤ 1000000000000
  bs : c.bs.length ≤ 1000000000000
  bt : ∀ b ∈ c.bs, ExFit 1000000 b.ty
  ty : ExFit 1000000 c.ty
  vl : ExFit 1000000 c.vl
  ts : c.tcs.length ≤ 1000000000000
  tt : ∀ t ∈ c.tcs, t.nms.length ≤ 1000000000000 ∧ t.xs.length ≤ 1 ∧ ∀ x ∈ t.xs, ExFit 1000000 x
  cs : c.cts.length ≤ 1000000000000
  ct : ∀ k ∈ c.cts, ExFit 1000000 k.ty
theorem ccs_get {k a : Int} {nm : ByteArray} {ps bs : Value} {tv vv : List Value} {tac : Bool} {ts cs : Value} (h1 : tv.length = 9) (h2 : vv.length = 9) : (∀ j (u : Value), tv[j]? = some u → (ccs k a nm ps bs tv vv tac ts cs)[5 + j]? = some u) ∧ (∀ j (u : Value), vv[j]? = some u → (ccs k a nm ps bs tv vv tac ts cs)[14 + j]? = some u) ∧ (ccs k a nm ps bs tv vv tac ts cs)[23]? = some (.bool tac) ∧ (ccs k a nm ps bs tv vv tac ts cs)[24]? = some ts ∧ (ccs k a nm ps bs tv vv tac ts cs)[25]? = some cs := by
  have e : ∀ i : Nat, (ccs k a nm ps bs tv vv tac ts cs)[5 + i]? = (tv ++ (vv ++ [.bool tac, ts, cs]))[i]? := fun i => by
    rw [show 5 + i = i + 1 + 1 + 1 + 1 + 1 by omega]
    simp only [List.getElem?_toArray, List.getElem?_cons_succ]
  refine ⟨fun j u hj => ?_, fun j u hj => ?_, ?_, ?_, ?_⟩
  · have hl : j < tv.length := (List.getElem?_eq_some_iff.1 hj).1
    rw [e, List.getElem?_append_left hl]; exact hj
  · have hl : j < vv.length := (List.getElem?_eq_some_iff.1 hj).1
    rw [show 14 + j = 5 + (9 + j) by omega, e, List.getElem?_append_right (by omega), h1, show 9 + j - 9 = j by omega, List.getElem?_append_left hl]; exact hj
  · rw [show 23 = 5 + 18 by omega, e, List.getElem?_append_right (by omega), h1, List.getElem?_append_right (by omega), h2]; rfl
  · rw [show 24 = 5 + 19 by omega, e, List.getElem?_append_right (by omega), h1, List.getElem?_append_right (by omega), h2]; rfl
  · rw [show 25 = 5 + 20 by omega, e, List.getElem?_append_right (by omega), h1, List.getElem?_append_right (by omega), h2]; rfl
/-- A command's cells in a box. -/
structure CB (W : World) (cb : Nat) (k a : Int) (nm : ByteArray) (ps bs : Value) (tv vv : Array Value) (tac : Bool) (ts cs : Value) : Prop where
  c0 : W.cell? ⟨cb, 0, none⟩ = some (.int .i64 k)
  c1 : W.cell? ⟨cb, 1, none⟩ = some (.int .i64 a)
  c2 : W.cell? ⟨cb, 2, none⟩ = some (.string nm)
  c3 : W.cell? ⟨cb, 3, none⟩ = some ps
  c4 : W.cell? ⟨cb, 4, none⟩ = some bs
  c23 : W.cell? ⟨cb, 23, none⟩ = some (.bool tac)
  c24 : W.cell? ⟨cb, 24, none⟩ = some ts
  c25 : W.cell? ⟨cb, 25, none⟩ = some cs
  r5 : (ld43 (.pointer (some ⟨cb, 5, none⟩))).run Tryz.prog W = .ok (.agg tv) W
  r14 : (ld43 (.pointer (some ⟨cb, 14, none⟩))).run Tryz.prog W = .ok (.agg vv) W
theorem CB.of {W : World} {cb : Nat} {k a : Int} {nm : ByteArray} {ps bs : Value} {tv vv : Array Value} {tac : Bool} {ts cs : Value} (h1 : tv.size = 9) (h2 : vv.size = 9) (hb : W.heap[cb]? = some (.cells (ccs k a nm ps bs tv.toList vv.toList tac ts cs) 47 (0, 0))) : CB W cb k a nm ps bs tv vv tac ts cs := by
  obtain ⟨g1, g2, g3, g4, g5⟩ := ccs_get (k := k) (a := a) (nm := nm) (ps := ps) (bs := bs) (tv := tv.toList) (vv := vv.toList) (tac := tac) (ts := ts) (cs := cs) (by simpa using h1) (by simpa using h2)
  exact ⟨cell_of hb 0 rfl, cell_of hb 1 rfl, cell_of hb 2 rfl, cell_of hb 3 rfl, cell_of hb 4 rfl, cell_of hb 23 g3, cell_of hb 24 g4, cell_of hb 25 g5, ld43_run (fun j u hj => cell_of hb (5 + j) (g1 j u hj)) h1, ld43_run (fun j u hj => cell_of hb (14 + j) (g2 j u hj)) h2⟩
theorem SsIn.later {W W' : World} {S : Nat → Prop} {A : Option Addr} {l : List ByteArray} (h : SsIn W S A l) (hB : Below W.heap.size W W') : SsIn W' S A l := h.keep fun b hb hs => ⟨hs, hB.block b hb⟩
theorem tcs_lit (k a : Int) (ns : Value) (m : Int) (es : Value) : tcs k a ns m es = #[.int .i64 k, .int .i64 a, ns, .int .i64 m, es] := rfl
section
attribute [local go_sem ↓] ld43_eq ld64_eq ld68_eq
set_option maxRecDepth 100000 in
set_option maxHeartbeats 16000000 in
theorem sameCommand_calls {S1 S2 : Nat → Prop} (c : Cm) (hf : CmFit c) (W : World) (v1 v2 : Array Value) (h1 : CmIn W S1 c v1) (h2 : CmIn W S2 c v2) :
    Calls Tryz.prog 8 #[.agg v1, .agg v2] W fun e w' => e = .returned (.bool true) ∧ Below W.heap.size W w' := by
  have z1 := h1.size
  have z2 := h2.size
  obtain ⟨Ap1, np1, Ab1, nb1, At1, nt1, Ac1, nc1, tv1, vv1, e1, s1, b1, t1, l1, k1, q1⟩ := h1
  obtain ⟨Ap2, np2, Ab2, nb2, At2, nt2, Ac2, nc2, tv2, vv2, e2, s2, b2, t2, l2, k2, q2⟩ := h2
  have HF := hide hf
  have HK1 := hide (sameNames_calls c.ps hf.ps W Ap1 Ap2 np1 np2 s1 s2)
  have HK2 : Hid (∀ W', Below W.heap.size W W' → Calls Tryz.prog 17 #[.slice Ap1 c.ps.length np1, .slice Ap2 c.ps.length np2] W' fun e w' => e = .returned (.bool true) ∧ Below W'.heap.size W' w') := hide fun W' hB => sameNames_calls c.ps hf.ps W' Ap1 Ap2 np1 np2 (s1.later hB) (s2.later hB)
  have HTy := hide (sameExpr_all (Nat.le_refl _) t1 hf.ty tv2 t2)
  have HVl := hide (sameExpr_all (Nat.le_refl _) l1 hf.vl vv2 l2)
  have HBs1 := hide b1
  have HBs2 := hide b2
  have HTs1 := hide k1
  have HTs2 := hide k2
  have HCt1 := hide q1
  have HCt2 := hide q2
  have hb := hf.bs
  have ht := hf.ts
  have hc := hf.cs
  have ho1 := heap_alloc2_old W (.cells v1 47) (.cells v2 47)
  have ho2 := heap_alloc2_new W (.cells v1 47) (.cells v2 47)
  have HZ : Hid (((W.alloc (.cells v1 47)).alloc (.cells v2 47)).heap.size = W.heap.size + 2) := hide (by simp)
  have HB0 : Hid (Below W.heap.size W ((W.alloc (.cells v1 47)).alloc (.cells v2 47))) := ((Below.refl _ _).alloc (Nat.le_refl _) _).alloc (by simp) _
  have HC1 := hide (fun W' (hB : Below ((W.alloc (.cells v1 47)).alloc (.cells v2 47)).heap.size ((W.alloc (.cells v1 47)).alloc (.cells v2 47)) W') => CB.of t1.size l1.size ((hB.block W.heap.size (by have := HZ.out; omega)).trans (by rw [← e1]; exact ho1)))
  have HC2 := hide (fun W' (hB : Below ((W.alloc (.cells v1 47)).alloc (.cells v2 47)).heap.size ((W.alloc (.cells v1 47)).alloc (.cells v2 47)) W') => CB.of t2.size l2.size ((hB.block (W.heap.size + 1) (by have := HZ.out; omega)).trans (by rw [← e2]; exact ho2)))
  have hq := sameStr_pos (rfl : c.nm = c.nm)
  have be := bne_self_bool c.tac
  obtain ⟨np, hnp⟩ : ∃ n, n = c.ps.length := ⟨_, rfl⟩
  obtain ⟨nb, hnb⟩ : ∃ n, n = c.bs.length := ⟨_, rfl⟩
  obtain ⟨nt, hnt⟩ : ∃ n, n = c.tcs.length := ⟨_, rfl⟩
  obtain ⟨nc, hnc⟩ : ∃ n, n = c.cts.length := ⟨_, rfl⟩
  have HNb := hide hnb
  have HNt := hide hnt
  have HNc := hide hnc
  rw [← hnp] at HK1 HK2
  rw [← hnp, ← hnb, ← hnt, ← hnc] at HC1 HC2
  rw [← hnb] at hb
  rw [← hnt] at ht
  rw [← hnc] at hc
  clear e1 e2 s1 s2 b1 b2 t1 t2 l1 l2 k1 k2 q1 q2 ho1 ho2 hf hnp hnb hnt hnc HK1
  generalize c.nm = cnm at *
  generalize c.tac = ctac at *
  generalize c.kd = ckd at *
  generalize c.at_ = cat at *
  go_enter Tryz.func8, Tryz.ntmps8
  go_upto_region 1 with fail
  generalize (W.alloc (.cells v1 47)).alloc (.cells v2 47) = W1 at *
  clear z1 z2
  obtain ⟨x0, x1, x2, x3, x4, x23, x24, x25, x5, x14⟩ := HC1.out W1 (Below.refl _ _)
  obtain ⟨y0, y1, y2, y3, y4, y23, y24, y25, y5, y14⟩ := HC2.out W1 (Below.refl _ _)
  clear x0 x1 x2 x4 x23 x24 x25 x5 x14 y0 y1 y2 y4 y23 y24 y25 y5 y14
  have KN := hide (HK2.out W1 HB0.out)
  go_upto_region 2 with (go_at_call 17; refine KN.out.mono ?_; rintro e W2 ⟨rfl, hB⟩; have HB2 : Hid (Below W1.heap.size W1 W2) := hB; clear hB)
  clear x3 y3 KN HK2
  obtain ⟨x0, x1, x2, x3, x4, x23, x24, x25, x5, x14⟩ := HC1.out W2 HB2.out
  obtain ⟨y0, y1, y2, y3, y4, y23, y24, y25, y5, y14⟩ := HC2.out W2 HB2.out
  clear x0 x1 x2 x3 x4 x23 x24 x25 x14 y0 y1 y2 y3 y4 y23 y24 y25 y14
  have hz1 := HZ.out
  have KT := hide (HTy.out W2 (HB0.out.trans (HB2.out.mono (by omega))))
  go_upto_region 3 with (go_at_call 18; refine KT.out.mono ?_; rintro e W3 ⟨rfl, hB⟩; have HB3 := hide (HB2.out.trans (hB.mono HB2.out.size)); clear hB)
  clear x5 y5 KT HTy HB2
  obtain ⟨x0, x1, x2, x3, x4, x23, x24, x25, x5, x14⟩ := HC1.out W3 HB3.out
  obtain ⟨y0, y1, y2, y3, y4, y23, y24, y25, y5, y14⟩ := HC2.out W3 HB3.out
  clear x0 x1 x2 x3 x4 x23 x24 x25 x5 y0 y1 y2 y3 y4 y23 y24 y25 y5
  have KV := hide (HVl.out W3 (HB0.out.trans (HB3.out.mono (by omega))))
  go_upto_region 4 with (go_at_call 18; refine KV.out.mono ?_; rintro e W4 ⟨rfl, hB⟩; have HB4 := hide (HB3.out.trans (hB.mono HB3.out.size)); clear hB)
  clear x14 y14 KV HVl HB3
  obtain ⟨x0, x1, x2, x3, x4, x23, x24, x25, x5, x14⟩ := HC1.out W4 HB4.out
  obtain ⟨y0, y1, y2, y3, y4, y23, y24, y25, y5, y14⟩ := HC2.out W4 HB4.out
  clear x3 x5 x14 y3 y5 y14
  go_upto_region 6 with fail
  clear x0 x1 x2 x4 x23 x24 x25 y0 y1 y2 y4 y23 y24 y25 hq be
  go_wp2_with fail
  go_loopg [8] nb (fun g v wr => ∃ i : Nat, i + g = nb ∧ v = .int .i64 (i : Nat) ∧ Hid (Below W1.heap.size W1 wr))
  case atStart => exact ⟨0, by omega, rfl, HB4.out⟩
  case round =>
    clear HB4
    obtain ⟨i, hig, rfl, HB⟩ := hrel
    have HBw : Hid (Below W.heap.size W wr) := hide (HB0.out.trans (HB.out.mono (by omega)))
    have hwr : W.heap.size + 2 ≤ wr.heap.size := by have := HB.out.size; omega
    obtain ⟨x0, x1, x2, x3, x4, x23, x24, x25, x5, x14⟩ := HC1.out wr HB.out
    obtain ⟨y0, y1, y2, y3, y4, y23, y24, y25, y5, y14⟩ := HC2.out wr HB.out
    clear x0 x1 x2 x3 x23 x24 x25 x5 x14 y0 y1 y2 y3 y23 y24 y25 y5 y14
    by_cases hi : i < nb
    · have e1 : decide ((i : Int) < (nb : Int)) = true := by simp; omega
      have e2 : (i : Int) < (nb : Int) := by omega
      have hil : i < c.bs.length := by rw [← HNb.out]; exact hi
      obtain ⟨g1, xv1, rfl, -, hi1, hc1⟩ := HBs1.out i hil
      obtain ⟨g2, xv2, rfl, -, hi2, hc2⟩ := HBs2.out i hil
      have hff := HF.out.bt _ (List.getElem_mem hil)
      have KE0 := sameExpr_all (S2 := S2) (Nat.le_refl _) hi1 hff xv2 hi2
      obtain ⟨p0, p1, p2, p3, p4, p5, p6, p7, p8, p9, pa, pb, pc, rfl⟩ := hi1.cells
      obtain ⟨r0, r1, r2, r3, r4, r5, r6, r7, r8, r9, ra, rb, rc, rfl⟩ := hi2.cells
      have hbn := sameStr_pos (rfl : c.bs[i].nm = c.bs[i].nm)
      have hbi := bne_self_bool c.bs[i].im
      generalize c.bs[i].nm = bn at *
      generalize c.bs[i].im = bi at *
      have L1 : ∀ W', Below W.heap.size W W' → (ld64 (.pointer (some ⟨g1, i * 11, none⟩))).run Tryz.prog W' = .ok (.agg #[.string bn, .bool bi, .int .i64 p0, .int .i64 p1, .string p2, .bool p3, .bool p4, .bool p5, .bool p6, .slice p7 p8 p9, .slice pa pb pc]) W' := fun W' hB => ld64_run (range_block (hB.block g1 (World.block_lt_of_cell? _ ⟨g1, i * 11 + 0, none⟩ ((hc1 0 (by omega)).trans rfl))) (range_of_cells (m := 11) (v := #[.string bn, .bool bi, .int .i64 p0, .int .i64 p1, .string p2, .bool p3, .bool p4, .bool p5, .bool p6, .slice p7 p8 p9, .slice pa pb pc]) rfl fun q hq => by rw [hc1 q hq]; simp)) rfl
      have L2 : ∀ W', Below W.heap.size W W' → (ld64 (.pointer (some ⟨g2, i * 11, none⟩))).run Tryz.prog W' = .ok (.agg #[.string bn, .bool bi, .int .i64 r0, .int .i64 r1, .string r2, .bool r3, .bool r4, .bool r5, .bool r6, .slice r7 r8 r9, .slice ra rb rc]) W' := fun W' hB => ld64_run (range_block (hB.block g2 (World.block_lt_of_cell? _ ⟨g2, i * 11 + 0, none⟩ ((hc2 0 (by omega)).trans rfl))) (range_of_cells (m := 11) (v := #[.string bn, .bool bi, .int .i64 r0, .int .i64 r1, .string r2, .bool r3, .bool r4, .bool r5, .bool r6, .slice r7 r8 r9, .slice ra rb rc]) rfl fun q hq => by rw [hc2 q hq]; simp)) rfl
      have HL2 := hide L2
      have l1 := L1 wr HBw.out
      clear L1 L2 hc1 hc2 hi1 hi2 hff
      have HBa : Hid (Below wr.heap.size wr (wr.alloc (.cells #[.string bn, .bool bi, .int .i64 p0, .int .i64 p1, .string p2, .bool p3, .bool p4, .bool p5, .bool p6, .slice p7 p8 p9, .slice pa pb pc] 64))) := (Below.refl _ _).alloc (Nat.le_refl _) _
      have HBb : Hid (Below wr.heap.size wr ((wr.alloc (.cells #[.string bn, .bool bi, .int .i64 p0, .int .i64 p1, .string p2, .bool p3, .bool p4, .bool p5, .bool p6, .slice p7 p8 p9, .slice pa pb pc] 64)).alloc (.cells #[.string bn, .bool bi, .int .i64 r0, .int .i64 r1, .string r2, .bool r3, .bool r4, .bool r5, .bool r6, .slice r7 r8 r9, .slice ra rb rc] 64))) := HBa.out.alloc (by simp) _
      have hn1 := heap_alloc2_old wr (.cells #[.string bn, .bool bi, .int .i64 p0, .int .i64 p1, .string p2, .bool p3, .bool p4, .bool p5, .bool p6, .slice p7 p8 p9, .slice pa pb pc] 64) (.cells #[.string bn, .bool bi, .int .i64 r0, .int .i64 r1, .string r2, .bool r3, .bool r4, .bool r5, .bool r6, .slice r7 r8 r9, .slice ra rb rc] 64)
      have hn2 := heap_alloc2_new wr (.cells #[.string bn, .bool bi, .int .i64 p0, .int .i64 p1, .string p2, .bool p3, .bool p4, .bool p5, .bool p6, .slice p7 p8 p9, .slice pa pb pc] 64) (.cells #[.string bn, .bool bi, .int .i64 r0, .int .i64 r1, .string r2, .bool r3, .bool r4, .bool r5, .bool r6, .slice r7 r8 r9, .slice ra rb rc] 64)
      have l2 := HL2.out (wr.alloc (.cells #[.string bn, .bool bi, .int .i64 p0, .int .i64 p1, .string p2, .bool p3, .bool p4, .bool p5, .bool p6, .slice p7 p8 p9, .slice pa pb pc] 64)) (HBw.out.trans (HBa.out.mono HBw.out.size))
      have y4b := cell_later HBa.out y4
      have HN1 := hide hn1
      have HN2 := hide hn2
      have HKe := hide (KE0 ((wr.alloc (.cells #[.string bn, .bool bi, .int .i64 p0, .int .i64 p1, .string p2, .bool p3, .bool p4, .bool p5, .bool p6, .slice p7 p8 p9, .slice pa pb pc] 64)).alloc (.cells #[.string bn, .bool bi, .int .i64 r0, .int .i64 r1, .string r2, .bool r3, .bool r4, .bool r5, .bool r6, .slice r7 r8 r9, .slice ra rb rc] 64)) (HBw.out.trans (HBb.out.mono HBw.out.size)))
      have hsz2 : ((wr.alloc (.cells #[.string bn, .bool bi, .int .i64 p0, .int .i64 p1, .string p2, .bool p3, .bool p4, .bool p5, .bool p6, .slice p7 p8 p9, .slice pa pb pc] 64)).alloc (.cells #[.string bn, .bool bi, .int .i64 r0, .int .i64 r1, .string r2, .bool r3, .bool r4, .bool r5, .bool r6, .slice r7 r8 r9, .slice ra rb rc] 64)).heap.size = wr.heap.size + 2 := by simp
      have HSz := hide hsz2
      clear hn1 hn2 HL2 KE0 hsz2
      go_upto_region 11 with fail
      clear l1 l2 x4 y4 y4b
      generalize (wr.alloc (.cells #[.string bn, .bool bi, .int .i64 p0, .int .i64 p1, .string p2, .bool p3, .bool p4, .bool p5, .bool p6, .slice p7 p8 p9, .slice pa pb pc] 64)).alloc (.cells #[.string bn, .bool bi, .int .i64 r0, .int .i64 r1, .string r2, .bool r3, .bool r4, .bool r5, .bool r6, .slice r7 r8 r9, .slice ra rb rc] 64) = W5 at *
      have l1 := ld43_run (W := W5) (b := wr.heap.size) (o := 2) (v := #[.int .i64 p0, .int .i64 p1, .string p2, .bool p3, .bool p4, .bool p5, .bool p6, .slice p7 p8 p9, .slice pa pb pc]) (fun j u hj => cell_of HN1.out (2 + j) (by rw [Nat.add_comm]; simpa using hj)) rfl
      have l2 := ld43_run (W := W5) (b := wr.heap.size + 1) (o := 2) (v := #[.int .i64 r0, .int .i64 r1, .string r2, .bool r3, .bool r4, .bool r5, .bool r6, .slice r7 r8 r9, .slice ra rb rc]) (fun j u hj => cell_of HN2.out (2 + j) (by rw [Nat.add_comm]; simpa using hj)) rfl
      go_upto_region 12 with (go_at_call 18; refine HKe.out.mono ?_; rintro e W6 ⟨rfl, hB⟩; have HB6 := hide hB; clear hB)
      clear l1 l2 HKe
      have hs5 := HSz.out
      have a0 := cell_later HB6.out (cell_of HN1.out 0 rfl)
      have a1 := cell_later HB6.out (cell_of HN1.out 1 rfl)
      have b0 := cell_later HB6.out (cell_of HN2.out 0 rfl)
      have b1 := cell_later HB6.out (cell_of HN2.out 1 rfl)
      have HB7 := hide (HB.out.trans ((HBb.out.trans (HB6.out.mono HBb.out.size)).mono HB.out.size))
      clear HBa HBb HN1 HN2 HB6 HSz HBw HB
      go_wp2_with fail
      go_roundg (nb - (i + 1))
      case measure => omega
      case rel => exact ⟨i + 1, by omega, by go_num, HB7.out⟩
    · have e1 : decide ((i : Int) < (nb : Int)) = false := by simp; omega
      have HB4 := HB
      go_upto_region 14 with fail
      clear HB HBw e1 x4 y4 hwr
      generalize wr = wa at *
      go_wp2_with fail
      go_loopg [12] nt (fun g v wr => ∃ i : Nat, i + g = nt ∧ v = .int .i64 (i : Nat) ∧ Hid (Below W1.heap.size W1 wr))
      case atStart => exact ⟨0, by omega, rfl, HB4.out⟩
      case round =>
        clear HB4 hi hig
        obtain ⟨i, hig, rfl, HB⟩ := hrel
        have HBw : Hid (Below W.heap.size W wr) := hide (HB0.out.trans (HB.out.mono (by omega)))
        have hwr : W.heap.size + 2 ≤ wr.heap.size := by have := HB.out.size; omega
        obtain ⟨x0, x1, x2, x3, x4, x23, x24, x25, x5, x14⟩ := HC1.out wr HB.out
        obtain ⟨y0, y1, y2, y3, y4, y23, y24, y25, y5, y14⟩ := HC2.out wr HB.out
        clear x0 x1 x2 x3 x4 x23 x25 x5 x14 y0 y1 y2 y3 y4 y23 y25 y5 y14
        by_cases hi : i < nt
        · have e1 : decide ((i : Int) < (nt : Int)) = true := by simp; omega
          have e2 : (i : Int) < (nt : Int) := by omega
          have hil : i < c.tcs.length := by rw [← HNt.out]; exact hi
          obtain ⟨g1, a1, rfl, -, -, hc1, A3, c3, A4, c4, ea1, hs1, hx1⟩ := HTs1.out i hil
          obtain ⟨g2, a2, rfl, -, -, hc2, A5, c5, A6, c6, ea2, hs2, hx2⟩ := HTs2.out i hil
          have hff := HF.out.tt _ (List.getElem_mem hil)
          generalize c.tcs[i] = tc at *
          injection ea1 with ea1
          injection ea2 with ea2
          subst ea1
          subst ea2
          have u0 : wr.cell? ⟨g1, i * 5, none⟩ = some (.int .i64 (tc.kd : Nat)) := cell_later HBw.out (hc1 0 (by omega))
          have u1 : wr.cell? ⟨g1, i * 5 + 1, none⟩ = some (.int .i64 (tc.at_ : Nat)) := cell_later HBw.out (hc1 1 (by omega))
          have u2 : wr.cell? ⟨g1, i * 5 + 2, none⟩ = some (.slice A3 tc.nms.length c3) := cell_later HBw.out (hc1 2 (by omega))
          have u3 : wr.cell? ⟨g1, i * 5 + 3, none⟩ = some (.int .i64 (tc.num : Nat)) := cell_later HBw.out (hc1 3 (by omega))
          have u4 : wr.cell? ⟨g1, i * 5 + 4, none⟩ = some (.slice A4 tc.xs.length c4) := cell_later HBw.out (hc1 4 (by omega))
          have HD2 := hide hc2
          have HNm := hide (fun W' (hB : Below W.heap.size W W') => sameNames_calls tc.nms hff.1 W' A3 A5 c3 c5 (hs1.later hB) (hs2.later hB))
          have HXq : Hid (∀ j (_ : j < tc.xs.length), ∃ (d1 d2 : Nat) (xa xb : Array Value), A4 = some ⟨d1, 0, none⟩ ∧ A6 = some ⟨d2, 0, none⟩ ∧ (∀ W', Below W.heap.size W W' → (ld43 (.pointer (some ⟨d1, j * 9, none⟩))).run Tryz.prog W' = .ok (.agg xa) W' ∧ (ld43 (.pointer (some ⟨d2, j * 9, none⟩))).run Tryz.prog W' = .ok (.agg xb) W') ∧ ∀ W', Below W.heap.size W W' → Calls Tryz.prog 18 #[.agg xa, .agg xb] W' fun e w' => e = .returned (.bool true) ∧ Below W'.heap.size W' w') := hide (fun j hj => by
            obtain ⟨vsa, hva, hia⟩ := hx1
            obtain ⟨vsb, hvb, hib⟩ := hx2
            obtain ⟨d1, ed1, -, zz1, hca⟩ := hva j hj
            obtain ⟨d2, ed2, -, zz2, hcb⟩ := hvb j hj
            exact ⟨d1, d2, vsa j, vsb j, ed1, ed2, fun W' hB => ⟨ld43_run (range_block (hB.block d1 (cells_lt zz1 hca)) (range_of_cells zz1 hca)) zz1, ld43_run (range_block (hB.block d2 (cells_lt zz2 hcb)) (range_of_cells zz2 hcb)) zz2⟩, fun W' hB => sameExpr_all (S1 := S1) (S2 := S2) (Nat.le_refl _) (hia j hj) (hff.2.2 _ (List.getElem_mem hj)) (vsb j) (hib j hj) W' hB⟩)
          have hxl := hff.2.1
          clear hc1 hc2 hs1 hs2 hx1 hx2 hff
          obtain ⟨nm', hnm'⟩ : ∃ n, n = tc.nms.length := ⟨_, rfl⟩
          obtain ⟨nx', hnx'⟩ : ∃ n, n = tc.xs.length := ⟨_, rfl⟩
          have HNx := hide hnx'
          rw [← hnm'] at u2 HNm HD2
          rw [← hnx'] at u4 hxl HD2
          clear hnm' hnx'
          have HBa : Hid (Below wr.heap.size wr (wr.alloc (.cells #[.int .i64 (tc.kd : Nat), .int .i64 (tc.at_ : Nat), .slice A3 nm' c3, .int .i64 (tc.num : Nat), .slice A4 nx' c4] 66))) := (Below.refl _ _).alloc (Nat.le_refl _) _
          have HBb : Hid (Below wr.heap.size wr ((wr.alloc (.cells #[.int .i64 (tc.kd : Nat), .int .i64 (tc.at_ : Nat), .slice A3 nm' c3, .int .i64 (tc.num : Nat), .slice A4 nx' c4] 66)).alloc (.cells #[.int .i64 (tc.kd : Nat), .int .i64 (tc.at_ : Nat), .slice A5 nm' c5, .int .i64 (tc.num : Nat), .slice A6 nx' c6] 66))) := HBa.out.alloc (by simp) _
          have HN1 := hide (heap_alloc2_old wr (.cells #[.int .i64 (tc.kd : Nat), .int .i64 (tc.at_ : Nat), .slice A3 nm' c3, .int .i64 (tc.num : Nat), .slice A4 nx' c4] 66) (.cells #[.int .i64 (tc.kd : Nat), .int .i64 (tc.at_ : Nat), .slice A5 nm' c5, .int .i64 (tc.num : Nat), .slice A6 nx' c6] 66))
          have HN2 := hide (heap_alloc2_new wr (.cells #[.int .i64 (tc.kd : Nat), .int .i64 (tc.at_ : Nat), .slice A3 nm' c3, .int .i64 (tc.num : Nat), .slice A4 nx' c4] 66) (.cells #[.int .i64 (tc.kd : Nat), .int .i64 (tc.at_ : Nat), .slice A5 nm' c5, .int .i64 (tc.num : Nat), .slice A6 nx' c6] 66))
          have hBa2 := HBw.out.trans (HBa.out.mono HBw.out.size)
          have w0 : (wr.alloc (.cells #[.int .i64 (tc.kd : Nat), .int .i64 (tc.at_ : Nat), .slice A3 nm' c3, .int .i64 (tc.num : Nat), .slice A4 nx' c4] 66)).cell? ⟨g2, i * 5, none⟩ = some (.int .i64 (tc.kd : Nat)) := cell_later hBa2 (HD2.out 0 (by omega))
          have w1 : (wr.alloc (.cells #[.int .i64 (tc.kd : Nat), .int .i64 (tc.at_ : Nat), .slice A3 nm' c3, .int .i64 (tc.num : Nat), .slice A4 nx' c4] 66)).cell? ⟨g2, i * 5 + 1, none⟩ = some (.int .i64 (tc.at_ : Nat)) := cell_later hBa2 (HD2.out 1 (by omega))
          have w2 : (wr.alloc (.cells #[.int .i64 (tc.kd : Nat), .int .i64 (tc.at_ : Nat), .slice A3 nm' c3, .int .i64 (tc.num : Nat), .slice A4 nx' c4] 66)).cell? ⟨g2, i * 5 + 2, none⟩ = some (.slice A5 nm' c5) := cell_later hBa2 (HD2.out 2 (by omega))
          have w3 : (wr.alloc (.cells #[.int .i64 (tc.kd : Nat), .int .i64 (tc.at_ : Nat), .slice A3 nm' c3, .int .i64 (tc.num : Nat), .slice A4 nx' c4] 66)).cell? ⟨g2, i * 5 + 3, none⟩ = some (.int .i64 (tc.num : Nat)) := cell_later hBa2 (HD2.out 3 (by omega))
          have w4 : (wr.alloc (.cells #[.int .i64 (tc.kd : Nat), .int .i64 (tc.at_ : Nat), .slice A3 nm' c3, .int .i64 (tc.num : Nat), .slice A4 nx' c4] 66)).cell? ⟨g2, i * 5 + 4, none⟩ = some (.slice A6 nx' c6) := cell_later hBa2 (HD2.out 4 (by omega))
          have y24b := cell_later HBa.out y24
          have HSz : Hid (((wr.alloc (.cells #[.int .i64 (tc.kd : Nat), .int .i64 (tc.at_ : Nat), .slice A3 nm' c3, .int .i64 (tc.num : Nat), .slice A4 nx' c4] 66)).alloc (.cells #[.int .i64 (tc.kd : Nat), .int .i64 (tc.at_ : Nat), .slice A5 nm' c5, .int .i64 (tc.num : Nat), .slice A6 nx' c6] 66)).heap.size = wr.heap.size + 2) := hide (by simp)
          clear hBa2 HD2
          go_upto_region 19 with fail
          clear u0 u1 u2 u3 u4 w0 w1 w2 w3 w4 x24 y24 y24b
          generalize (wr.alloc (.cells #[.int .i64 (tc.kd : Nat), .int .i64 (tc.at_ : Nat), .slice A3 nm' c3, .int .i64 (tc.num : Nat), .slice A4 nx' c4] 66)).alloc (.cells #[.int .i64 (tc.kd : Nat), .int .i64 (tc.at_ : Nat), .slice A5 nm' c5, .int .i64 (tc.num : Nat), .slice A6 nx' c6] 66) = W5 at *
          obtain ⟨a0, a1, a2, a3, a4, -⟩ := cells5 HN1.out
          obtain ⟨b0, b1, b2, b3, b4, -⟩ := cells5 HN2.out
          clear a0 a1 a3 a4 b0 b1 b3 b4
          have KN := hide (HNm.out W5 (HBw.out.trans (HBb.out.mono HBw.out.size)))
          go_upto_region 20 with (go_at_call 17; refine KN.out.mono ?_; rintro e W6 ⟨rfl, hB⟩; have HB6 := hide hB; clear hB)
          clear a2 b2 KN HNm
          have hs5 := HSz.out
          have hM1 := (HB6.out.block wr.heap.size (by omega)).trans HN1.out
          have hM2 := (HB6.out.block (wr.heap.size + 1) (by omega)).trans HN2.out
          have HM1 := hide hM1
          have HM2 := hide hM2
          obtain ⟨a0, a1, a2, a3, a4, -⟩ := cells5 hM1
          obtain ⟨b0, b1, b2, b3, b4, -⟩ := cells5 hM2
          have HB7 := hide (HBb.out.trans (HB6.out.mono HBb.out.size))
          clear hM1 hM2 HN1 HN2 HBa HBb HB6 a2 b2
          have hs6 := HB7.out.size
          have hs7 : wr.heap.size + 2 ≤ W6.heap.size := Nat.lt_of_lt_of_le (Array.getElem?_eq_some_iff.1 HM2.out).1 (Nat.le_refl _)
          go_upto_region 22 with fail
          clear a0 a1 a3 a4 b0 b1 b3 b4
          generalize wr = wq at *
          go_wp2_with fail
          go_loopg [16] nx' (fun g v wz => ∃ j : Nat, j + g = nx' ∧ v = .int .i64 (j : Nat) ∧ Hid (Below W6.heap.size W6 wz))
          case atStart => exact ⟨0, by omega, rfl, Below.refl _ _⟩
          case round =>
            obtain ⟨j, hjg, rfl, HBx⟩ := hrel
            have HY1 := hide ((HBx.out.block wq.heap.size (by omega)).trans HM1.out)
            have HY2 := hide ((HBx.out.block (wq.heap.size + 1) (by omega)).trans HM2.out)
            obtain ⟨a0, a1, a2, a3, a4, -⟩ := cells5 HY1.out
            obtain ⟨b0, b1, b2, b3, b4, -⟩ := cells5 HY2.out
            clear a0 a1 a2 a3 b0 b1 b2 b3 HY1 HY2
            by_cases hj : j < nx'
            · have f1 : decide ((j : Int) < (nx' : Int)) = true := by simp; omega
              have f2 : (j : Int) < (nx' : Int) := by omega
              obtain ⟨d1, d2, xa, xb, rfl, rfl, hld, hcl⟩ := HXq.out j (by rw [← HNx.out]; exact hj)
              have HBy : Hid (Below W.heap.size W wr) := hide (HBw.out.trans ((HB7.out.trans (HBx.out.mono HB7.out.size)).mono HBw.out.size))
              have KC : Hid (Calls Tryz.prog 18 #[.agg xa, .agg xb] wr.drew fun e w' => e = .returned (.bool true) ∧ Below wr.heap.size wr.drew w') := hide (hcl wr.drew HBy.out.drew)
              have HF2 : Hid (∀ W', Below wr.heap.size wr W' → W'.cell? ⟨wq.heap.size, 4, none⟩ = some (.slice (some ⟨d1, 0, none⟩) nx' c4) ∧ W'.cell? ⟨wq.heap.size + 1, 4, none⟩ = some (.slice (some ⟨d2, 0, none⟩) nx' c6) ∧ (ld43 (.pointer (some ⟨d1, j * 9, none⟩))).run Tryz.prog W' = .ok (.agg xa) W' ∧ (ld43 (.pointer (some ⟨d2, j * 9, none⟩))).run Tryz.prog W' = .ok (.agg xb) W') :=
                hide fun W' hB => ⟨cell_later hB a4, cell_later hB b4, hld W' (HBy.out.trans (hB.mono HBy.out.size))⟩
              have HBr : Hid (Below wr.heap.size wr wr.drew) := (Below.refl _ _).drew
              clear hld hcl
              go_upto_region 25 with fail
              clear a4 b4
              go_cut [17] (fun v wz => v = .bool true ∧ Hid (Below wr.heap.size wr wz))
              case first =>
                go_region_held3 (fun w' => w'.cell? ⟨wq.heap.size, 4, none⟩ = some (.slice (some ⟨d1, 0, none⟩) nx' c4) ∧ w'.cell? ⟨wq.heap.size + 1, 4, none⟩ = some (.slice (some ⟨d2, 0, none⟩) nx' c6) ∧ (ld43 (.pointer (some ⟨d1, j * 9, none⟩))).run Tryz.prog w' = .ok (.agg xa) w' ∧ (ld43 (.pointer (some ⟨d2, j * 9, none⟩))).run Tryz.prog w' = .ok (.agg xb) w') (first | assumption | exact HF2.out _ HBr.out | exact HF2.out _ HB8.out)
                  ((go_at_call 18; refine KC.out.mono ?_; rintro e w8 ⟨rfl, hB8⟩; have HB8 := hide (HBr.out.trans hB8)))
                all_goals
                  go_wp2_with fail
                  go_meet
                  exact ⟨rfl, HB8⟩
              case rest =>
                obtain ⟨rfl, HB8⟩ := hcut
                have HB9 := hide (HBx.out.trans (HB8.out.mono HBx.out.size))
                clear HB8 HF2 KC HBr HBy HBx
                go_wp2_with fail
                go_roundg (nx' - (j + 1))
                case measure => omega
                case rel => exact ⟨j + 1, by omega, by go_num, HB9.out⟩
            · have f1 : decide ((j : Int) < (nx' : Int)) = false := by simp; omega
              have HB9 := hide (HB.out.trans ((HB7.out.trans (HBx.out.mono HB7.out.size)).mono HB.out.size))
              clear HBx HXq
              go_wp2_with fail
              go_roundg (nt - (i + 1))
              case measure => omega
              case rel => exact ⟨i + 1, by omega, by go_num, HB9.out⟩
        · have e1 : decide ((i : Int) < (nt : Int)) = false := by simp; omega
          have HB4 := HB
          go_upto_region 28 with fail
          clear HB HBw e1 x24 y24 hwr
          generalize wr = wb at *
          go_wp2_with fail
          go_loopg [18] nc (fun g v wr => ∃ i : Nat, i + g = nc ∧ v = .int .i64 (i : Nat) ∧ Hid (Below W1.heap.size W1 wr))
          case atStart => exact ⟨0, by omega, rfl, HB4.out⟩
          case round =>
            clear HB4 hi hig
            obtain ⟨i, hig, rfl, HB⟩ := hrel
            have HBw : Hid (Below W.heap.size W wr) := hide (HB0.out.trans (HB.out.mono (by omega)))
            have hwr : W.heap.size + 2 ≤ wr.heap.size := by have := HB.out.size; omega
            obtain ⟨x0, x1, x2, x3, x4, x23, x24, x25, x5, x14⟩ := HC1.out wr HB.out
            obtain ⟨y0, y1, y2, y3, y4, y23, y24, y25, y5, y14⟩ := HC2.out wr HB.out
            clear x0 x1 x2 x3 x4 x23 x24 x5 x14 y0 y1 y2 y3 y4 y23 y24 y5 y14
            by_cases hi : i < nc
            · have e1 : decide ((i : Int) < (nc : Int)) = true := by simp; omega
              have e2 : (i : Int) < (nc : Int) := by omega
              have hil : i < c.cts.length := by rw [← HNc.out]; exact hi
              obtain ⟨g1, xv1, rfl, -, hi1, hc1⟩ := HCt1.out i hil
              obtain ⟨g2, xv2, rfl, -, hi2, hc2⟩ := HCt2.out i hil
              have hff := HF.out.ct _ (List.getElem_mem hil)
              have KE0 := sameExpr_all (S2 := S2) (Nat.le_refl _) hi1 hff xv2 hi2
              obtain ⟨p0, p1, p2, p3, p4, p5, p6, p7, p8, p9, pa, pb, pc, rfl⟩ := hi1.cells
              obtain ⟨r0, r1, r2, r3, r4, r5, r6, r7, r8, r9, ra, rb, rc, rfl⟩ := hi2.cells
              have hbn := sameStr_pos (rfl : c.cts[i].nm = c.cts[i].nm)
              generalize c.cts[i].nm = bn at *
              generalize c.cts[i].at_ = bi at *
              have L1 : ∀ W', Below W.heap.size W W' → (ld68 (.pointer (some ⟨g1, i * 11, none⟩))).run Tryz.prog W' = .ok (.agg #[.string bn, .int .i64 (bi : Nat), .int .i64 p0, .int .i64 p1, .string p2, .bool p3, .bool p4, .bool p5, .bool p6, .slice p7 p8 p9, .slice pa pb pc]) W' := fun W' hB => ld68_run (range_block (hB.block g1 (World.block_lt_of_cell? _ ⟨g1, i * 11 + 0, none⟩ ((hc1 0 (by omega)).trans rfl))) (range_of_cells (m := 11) (v := #[.string bn, .int .i64 (bi : Nat), .int .i64 p0, .int .i64 p1, .string p2, .bool p3, .bool p4, .bool p5, .bool p6, .slice p7 p8 p9, .slice pa pb pc]) rfl fun q hq => by rw [hc1 q hq]; simp)) rfl
              have L2 : ∀ W', Below W.heap.size W W' → (ld68 (.pointer (some ⟨g2, i * 11, none⟩))).run Tryz.prog W' = .ok (.agg #[.string bn, .int .i64 (bi : Nat), .int .i64 r0, .int .i64 r1, .string r2, .bool r3, .bool r4, .bool r5, .bool r6, .slice r7 r8 r9, .slice ra rb rc]) W' := fun W' hB => ld68_run (range_block (hB.block g2 (World.block_lt_of_cell? _ ⟨g2, i * 11 + 0, none⟩ ((hc2 0 (by omega)).trans rfl))) (range_of_cells (m := 11) (v := #[.string bn, .int .i64 (bi : Nat), .int .i64 r0, .int .i64 r1, .string r2, .bool r3, .bool r4, .bool r5, .bool r6, .slice r7 r8 r9, .slice ra rb rc]) rfl fun q hq => by rw [hc2 q hq]; simp)) rfl
              have HL2 := hide L2
              have l1 := L1 wr HBw.out
              clear L1 L2 hc1 hc2 hi1 hi2 hff
              have HBa : Hid (Below wr.heap.size wr (wr.alloc (.cells #[.string bn, .int .i64 (bi : Nat), .int .i64 p0, .int .i64 p1, .string p2, .bool p3, .bool p4, .bool p5, .bool p6, .slice p7 p8 p9, .slice pa pb pc] 68))) := (Below.refl _ _).alloc (Nat.le_refl _) _
              have HBb : Hid (Below wr.heap.size wr ((wr.alloc (.cells #[.string bn, .int .i64 (bi : Nat), .int .i64 p0, .int .i64 p1, .string p2, .bool p3, .bool p4, .bool p5, .bool p6, .slice p7 p8 p9, .slice pa pb pc] 68)).alloc (.cells #[.string bn, .int .i64 (bi : Nat), .int .i64 r0, .int .i64 r1, .string r2, .bool r3, .bool r4, .bool r5, .bool r6, .slice r7 r8 r9, .slice ra rb rc] 68))) := HBa.out.alloc (by simp) _
              have HN1 := hide (heap_alloc2_old wr (.cells #[.string bn, .int .i64 (bi : Nat), .int .i64 p0, .int .i64 p1, .string p2, .bool p3, .bool p4, .bool p5, .bool p6, .slice p7 p8 p9, .slice pa pb pc] 68) (.cells #[.string bn, .int .i64 (bi : Nat), .int .i64 r0, .int .i64 r1, .string r2, .bool r3, .bool r4, .bool r5, .bool r6, .slice r7 r8 r9, .slice ra rb rc] 68))
              have HN2 := hide (heap_alloc2_new wr (.cells #[.string bn, .int .i64 (bi : Nat), .int .i64 p0, .int .i64 p1, .string p2, .bool p3, .bool p4, .bool p5, .bool p6, .slice p7 p8 p9, .slice pa pb pc] 68) (.cells #[.string bn, .int .i64 (bi : Nat), .int .i64 r0, .int .i64 r1, .string r2, .bool r3, .bool r4, .bool r5, .bool r6, .slice r7 r8 r9, .slice ra rb rc] 68))
              have l2 := HL2.out (wr.alloc (.cells #[.string bn, .int .i64 (bi : Nat), .int .i64 p0, .int .i64 p1, .string p2, .bool p3, .bool p4, .bool p5, .bool p6, .slice p7 p8 p9, .slice pa pb pc] 68)) (HBw.out.trans (HBa.out.mono HBw.out.size))
              have y25b := cell_later HBa.out y25
              have HKe := hide (KE0 ((wr.alloc (.cells #[.string bn, .int .i64 (bi : Nat), .int .i64 p0, .int .i64 p1, .string p2, .bool p3, .bool p4, .bool p5, .bool p6, .slice p7 p8 p9, .slice pa pb pc] 68)).alloc (.cells #[.string bn, .int .i64 (bi : Nat), .int .i64 r0, .int .i64 r1, .string r2, .bool r3, .bool r4, .bool r5, .bool r6, .slice r7 r8 r9, .slice ra rb rc] 68)) (HBw.out.trans (HBb.out.mono HBw.out.size)))
              have HSz : Hid (((wr.alloc (.cells #[.string bn, .int .i64 (bi : Nat), .int .i64 p0, .int .i64 p1, .string p2, .bool p3, .bool p4, .bool p5, .bool p6, .slice p7 p8 p9, .slice pa pb pc] 68)).alloc (.cells #[.string bn, .int .i64 (bi : Nat), .int .i64 r0, .int .i64 r1, .string r2, .bool r3, .bool r4, .bool r5, .bool r6, .slice r7 r8 r9, .slice ra rb rc] 68)).heap.size = wr.heap.size + 2) := hide (by simp)
              clear HL2 KE0
              go_upto_region 33 with fail
              clear l1 l2 x25 y25 y25b
              generalize (wr.alloc (.cells #[.string bn, .int .i64 (bi : Nat), .int .i64 p0, .int .i64 p1, .string p2, .bool p3, .bool p4, .bool p5, .bool p6, .slice p7 p8 p9, .slice pa pb pc] 68)).alloc (.cells #[.string bn, .int .i64 (bi : Nat), .int .i64 r0, .int .i64 r1, .string r2, .bool r3, .bool r4, .bool r5, .bool r6, .slice r7 r8 r9, .slice ra rb rc] 68) = W5 at *
              have l1 := ld43_run (W := W5) (b := wr.heap.size) (o := 2) (v := #[.int .i64 p0, .int .i64 p1, .string p2, .bool p3, .bool p4, .bool p5, .bool p6, .slice p7 p8 p9, .slice pa pb pc]) (fun j u hj => cell_of HN1.out (2 + j) (by rw [Nat.add_comm]; simpa using hj)) rfl
              have l2 := ld43_run (W := W5) (b := wr.heap.size + 1) (o := 2) (v := #[.int .i64 r0, .int .i64 r1, .string r2, .bool r3, .bool r4, .bool r5, .bool r6, .slice r7 r8 r9, .slice ra rb rc]) (fun j u hj => cell_of HN2.out (2 + j) (by rw [Nat.add_comm]; simpa using hj)) rfl
              go_upto_region 34 with (go_at_call 18; refine HKe.out.mono ?_; rintro e W6 ⟨rfl, hB⟩; have HB6 := hide hB; clear hB)
              clear l1 l2 HKe
              have hs5 := HSz.out
              have a0 := cell_later HB6.out (cell_of HN1.out 0 rfl)
              have a1 := cell_later HB6.out (cell_of HN1.out 1 rfl)
              have b0 := cell_later HB6.out (cell_of HN2.out 0 rfl)
              have b1 := cell_later HB6.out (cell_of HN2.out 1 rfl)
              have HB7 := hide (HB.out.trans ((HBb.out.trans (HB6.out.mono HBb.out.size)).mono HB.out.size))
              clear HBa HBb HN1 HN2 HB6 HSz HBw HB
              go_wp2_with fail
              go_roundg (nc - (i + 1))
              case measure => omega
              case rel => exact ⟨i + 1, by omega, by go_num, HB7.out⟩
            · have e1 : decide ((i : Int) < (nc : Int)) = false := by simp; omega
              go_wp2_with fail
              go_ret
              exact ⟨rfl, HBw.out⟩
end
end Go.Proofs.YtekfledccpeblaaGreatDoor
