/- The document's expr: let. -/
import Derived.Test.YtekfledccpeblaaGreatDoorEd

namespace Go.Proofs.YtekfledccpeblaaGreatDoor
open Go.RowKit

section
variable {fb eb : Nat} {s : ByteArray} {w W W' : World} {st st' : FS} {x y z : Ex}
/-- Three expressions side by side in a new block. -/
theorem three_xs {S : Nat → Prop} {xv yv zv : Array Value} {n : Nat} (hn : W.heap.size = n) (hx : InX W S x xv) (hy : InX W S y yv) (hz : InX W S z zv) (hS : S n) : XsIn (W.alloc (.cells (xv ++ yv ++ zv) 43)) S (some ⟨n, 0, none⟩) [x, y, z] := by
  subst hn
  have h0 := heap_alloc_new W (.cells (xv ++ yv ++ zv) 43)
  have zx := hx.size
  have zy := hy.size
  have zz := hz.size
  refine ⟨fun i => if i = 0 then xv else if i = 1 then yv else zv, fun i hi => ⟨W.heap.size, rfl, hS, ?_, fun q hq => ?_⟩, fun i hi => ?_⟩
  · show (if i = 0 then xv else if i = 1 then yv else zv).size = 9
    split
    · assumption
    · split <;> assumption
  · show _ = (if i = 0 then xv else if i = 1 then yv else zv)[q]?
    have hi2 : i = 0 ∨ i = 1 ∨ i = 2 := by simp at hi; omega
    rcases hi2 with rfl | rfl | rfl
    · rw [if_pos rfl, Array.getElem?_eq_getElem (by omega)]
      refine cell_of h0 _ ?_
      rw [Array.getElem?_append_left (by simp; omega), Array.getElem?_append_left (by omega), Array.getElem?_eq_getElem (by omega)]
      simp
    · rw [if_neg (by omega), if_pos rfl, Array.getElem?_eq_getElem (by omega)]
      refine cell_of h0 _ ?_
      rw [Array.getElem?_append_left (by simp; omega), Array.getElem?_append_right (by omega), ← Array.getElem?_eq_getElem (by omega)]
      congr 1
      omega
    · rw [if_neg (by omega), if_neg (by omega), Array.getElem?_eq_getElem (by omega)]
      refine cell_of h0 _ ?_
      rw [Array.getElem?_append_right (by simp; omega), ← Array.getElem?_eq_getElem (by omega)]
      congr 1
      simp
      omega
  · have hi2 : i = 0 ∨ i = 1 ∨ i = 2 := by simp at hi; omega
    rcases hi2 with rfl | rfl | rfl
    · exact hx.keep fun b hb hs => ⟨hs, Below.heap_alloc _ _ _ hb⟩
    · exact hy.keep fun b hb hs => ⟨hs, Below.heap_alloc _ _ _ hb⟩
    · exact hz.keep fun b hb hs => ⟨hs, Below.heap_alloc _ _ _ hb⟩
/-- Another variable is made: the elder stays. -/
theorem BSt.other {xv zv : Array Value} (h : BSt w fb s st eb x xv W) (hf : fb < w.heap.size) : BSt w fb s st eb x xv ((W.alloc (.cells zx 43)).setCells W.heap.size 0 zv.toList) := by
  have hl := h.st.rd.lt
  exact h.touched hf ((h.st.rd.alloc _).of_block (heap_setCells_ne (by omega) _ _ _)) ((Touched.alloc W fb (.cells zx 43)).setsNew (Nat.le_refl _) _ _)
end
section
variable {fb : Nat} {s : ByteArray} {w : World} {st : FS}
attribute [local go_sem ↓] ld43_eq st43_eq
set_option maxRecDepth 100000 in
set_option maxHeartbeats 8000000 in
theorem dexpr_let (n : Nat) (ih : DExC fb s n) (h : DR w fb s st) (hl : st.left s < n + 1) (h0 : st.is wFun = false) (h1 : st.is wForall = false) (hy : st.is wLet = true) :
    Calls Tryz.prog 31 #[.pointer (some ⟨fb, 0, none⟩)] w fun e w' => DQ w fb s (exprN s (n + 1) st).2 (DX w (exprN s (n + 1) st).1) e w' := by
  rw [exprF_let h0 h1 hy]
  unfold letX
  simp only
  have hlt := h.lt
  have hA0 := ASt.start h
  have hkd := FS.is_kd hy
  have hlef := FS.step_left h.ok hkd.1 (by omega) (by omega)
  have d1 := Dn.refl h.ok.step
  have d2 := d1.name.must (q := sColon)
  have d3 := ((exprN_fwd (s := s) n).dn d2).must (q := sBe)
  have d4 := ((exprN_fwd (s := s) n).dn d3).must (q := wIn)
  have N0 := hide (fun W (hW : ASt w fb s st W) => hW.not hlt h0)
  have N1 := hide (fun W (hW : ASt w fb s st W) => hW.not hlt h1)
  have NY := hide (fun W (hW : ASt w fb s st W) => hW.yes hlt hy)
  have E2 := hide (fun W (hW : DR W fb s (((st.step s).name s).2.must s sColon)) => ih _ W hW (by have := d2.left; omega))
  have E3 := hide (fun W (hW : DR W fb s ((exprN s n (((st.step s).name s).2.must s sColon)).2.must s sBe)) => ih _ W hW (by have := d3.left; omega))
  have E4 := hide (fun W (hW : DR W fb s ((exprN s n ((exprN s n (((st.step s).name s).2.must s sColon)).2.must s sBe)).2.must s wIn)) => ih _ W hW (by have := d4.left; omega))
  clear hkd hlef d1 d2 d3 d4 hl ih h h0 h1 hy
  generalize (exprN s n ((exprN s n ((exprN s n (((st.step s).name s).2.must s sColon)).2.must s sBe)).2.must s wIn)).1 = z at *
  generalize (exprN s n ((exprN s n ((exprN s n (((st.step s).name s).2.must s sColon)).2.must s sBe)).2.must s wIn)).2 = st7 at *
  generalize (exprN s n ((exprN s n (((st.step s).name s).2.must s sColon)).2.must s sBe)).1 = y at *
  generalize (exprN s n ((exprN s n (((st.step s).name s).2.must s sColon)).2.must s sBe)).2 = st6 at *
  generalize (exprN s n (((st.step s).name s).2.must s sColon)).1 = x at *
  generalize (exprN s n (((st.step s).name s).2.must s sColon)).2 = st5 at *
  generalize st.step s = st1 at *
  obtain ⟨ta, hta⟩ : ∃ a, a = st1.t.at_ := ⟨_, rfl⟩
  have HTa := hide hta
  rw [← hta]
  clear hta
  have M3 := hide (fun W (hW : ASt w fb s (st1.name s).2 W) => hW.must hlt sColon)
  have NN := hide (fun W (hW : DR W fb s st1) => dname_calls hW)
  generalize (st1.name s).1 = nm at *
  generalize (st1.name s).2 = st2 at *
  generalize st2.must s sColon = st3 at *
  have M5 := hide (fun W xv eb (hW : BSt w fb s st5 eb x xv W) => hW.must hlt sBe)
  generalize st5.must s sBe = st4 at *
  have M6 := hide (fun W (hW : DR W fb s st6) => dmust_calls hW wIn)
  generalize st6.must s wIn = st8 at *
  go_enter Tryz.func31, Tryz.ntmps31
  go_upto_region 1 with fail
  have HW0 := hide hA0
  clear hA0
  generalize w.alloc (.cells zx 43) = W0 at *
  go_upto_region 7 with (go_at_call 28; refine (N0.out _ HW0.out).mono ?_; rintro e Wa ⟨rfl, ha⟩)
  go_upto_region 13 with (go_at_call 28; refine (N1.out _ ha).mono ?_; rintro e Wb ⟨rfl, hb⟩)
  go_upto_region 14 with (go_at_call 28; refine (NY.out _ hb).mono ?_; rintro e W1 ⟨rfl, hA1⟩)
  obtain ⟨c0, c1, c2, c3, c4, c5, c6, cf⟩ := hA1.rd.cells
  have HA1 := hide hA1
  have K1 := hide (NN.out _ hA1.rd)
  rw [← HTa.out] at c3
  clear hA1 ha hb N0 N1 NY HW0 NN c0 c1 c2 c4 c5 c6 cf
  go_upto_region 15 with fail
  clear c3
  go_upto_region 16 with (go_at_call 27; refine K1.out.mono ?_; rintro e W2 ⟨rfl, hd, hT⟩; have K2 := hide (M3.out _ (HA1.out.touched hlt hd hT)); clear hd hT)
  clear K1 HA1 M3
  go_upto_region 17 with (go_at_call 29; refine K2.out.mono ?_; rintro e W3 ⟨rfl, hA3⟩; have HA3 := hide hA3; have K3 := hide (E2.out _ hA3.rd); clear hA3)
  clear K2 E2
  go_upto_region 18 with (go_at_call 31; refine K3.out.mono ?_; rintro e W4 ⟨⟨xv, rfl, hx⟩, hd, hT⟩; have HB := hide (BSt.make (HA3.out.touched hlt hd hT) hlt HA3.out.lt hx); have ST := HB.out.1; clear hx hd hT)
  have K4 := hide (M5.out _ _ _ HB.out.2)
  clear ST HB K3 HA3 M5
  generalize (W4.alloc (.cells zx 43)).setCells W4.heap.size 0 xv.toList = W5 at *
  generalize W4.heap.size = eb at *
  go_upto_region 19 with (go_at_call 29; refine K4.out.mono ?_; rintro e W6 ⟨rfl, hB6⟩; have HB6 := hide hB6; have K5 := hide (E3.out _ hB6.st.rd); clear hB6)
  have HEV : Hid (eb < W6.heap.size) := hide (Array.getElem?_eq_some_iff.1 HB6.out.at_).1
  clear K4 E3
  go_upto_region 20 with (go_at_call 31; refine K5.out.mono ?_; rintro e W7 ⟨⟨yv, rfl, hy⟩, hd, hT⟩; have HB7 := hide ((HB6.out.touched hlt hd hT).second hlt HEV.out hy); have ST := HB7.out.1; clear hy hd hT)
  have HB8 := hide HB7.out.2.1
  have HC8 := hide HB7.out.2.2.1
  clear ST HB7 K5 HEV HB6
  generalize (W7.alloc (.cells zx 43)).setCells W7.heap.size 0 yv.toList = W8 at *
  generalize W7.heap.size = tb at *
  have K6 := hide (M6.out _ HB8.out.st.rd)
  clear M6
  go_upto_region 21 with (go_at_call 29; refine K6.out.mono ?_; rintro e W9 ⟨rfl, hd, hT⟩; have HB9 := hide (HB8.out.touched hlt hd hT); have HC9 := hide (HC8.out.touched hlt hd hT); have K7 := hide (E4.out _ hd); clear hd hT)
  clear K6 HB8 HC8 E4
  have HTV : Hid (w.heap.size < W9.heap.size) := hide HB9.out.st.lt
  go_upto_region 22 with (go_at_call 31; refine K7.out.mono ?_; rintro e W10 ⟨⟨zv, rfl, hz⟩, hd, hT⟩; have HBa := hide (HB9.out.touched hlt hd hT); have HCa := hide (HC9.out.touched hlt hd hT); have HDa := hide (BSt.make HBa.out.st hlt HTV.out hz); have ST := HDa.out.1; clear hz hd hT)
  have hBb := HBa.out.other (zv := zv) hlt
  have hCb := HCa.out.other (zv := zv) hlt
  have hDb := HDa.out.2
  clear ST HDa HBa HCa HB9 HC9 HTV K7
  generalize (W10.alloc (.cells zx 43)).setCells W10.heap.size 0 zv.toList = Wb at *
  generalize W10.heap.size = zb at *
  have L1 := hBb.load
  have L2 := hCb.load
  have L3 := hDb.load
  have hX9 : InX (Wb.alloc (.cells (xv ++ yv ++ zv) 43)) (fun b => w.heap.size < b) (.node 7 ta nm false false false false [] [x, y, z]) (xcs 7 (ta : Nat) nm false false false false nilV (.slice (some ⟨Wb.heap.size, 0, none⟩) 3 3)) :=
    InX.of (LvsIn.nil _ _ _) (three_xs rfl (hBb.inx.mono fun b hb => hb.1) (hCb.inx.mono fun b hb => hb.1) (hDb.inx.mono fun b hb => hb.1) hDb.st.lt)
  obtain ⟨k1, a1, n1, e1, g1, i1, m1, A1, l1, c1, B1, r1, d1, rfl⟩ := hBb.inx.cells
  obtain ⟨k2, a2, n2, e2, g2, i2, m2, A2, l2, c2, B2, r2, d2, rfl⟩ := hCb.inx.cells
  obtain ⟨k3, a3, n3, e3, g3, i3, m3, A3, l3, c3, B3, r3, d3, rfl⟩ := hDb.inx.cells
  have hcat : (xcs k1 a1 n1 e1 g1 i1 m1 (.slice A1 l1 c1) (.slice B1 r1 d1) ++ xcs k2 a2 n2 e2 g2 i2 m2 (.slice A2 l2 c2) (.slice B2 r2 d2) ++ xcs k3 a3 n3 e3 g3 i3 m3 (.slice A3 l3 c3) (.slice B3 r3 d3)) = #[.int .i64 k1, .int .i64 a1, .string n1, .bool e1, .bool g1, .bool i1, .bool m1, .slice A1 l1 c1, .slice B1 r1 d1, .int .i64 k2, .int .i64 a2, .string n2, .bool e2, .bool g2, .bool i2, .bool m2, .slice A2 l2 c2, .slice B2 r2 d2, .int .i64 k3, .int .i64 a3, .string n3, .bool e3, .bool g3, .bool i3, .bool m3, .slice A3 l3 c3, .slice B3 r3 d3] := by simp
  rw [hcat] at hX9
  have hA9 := hBb.st.alloc hlt (.cells #[.int .i64 k1, .int .i64 a1, .string n1, .bool e1, .bool g1, .bool i1, .bool m1, .slice A1 l1 c1, .slice B1 r1 d1, .int .i64 k2, .int .i64 a2, .string n2, .bool e2, .bool g2, .bool i2, .bool m2, .slice A2 l2 c2, .slice B2 r2 d2, .int .i64 k3, .int .i64 a3, .string n3, .bool e3, .bool g3, .bool i3, .bool m3, .slice A3 l3 c3, .slice B3 r3 d3] 43)
  have ST := hA9.stor hX9
  have HX9 := hide hX9
  have HA9 := hide (hDb.st.alloc hlt (.cells #[.int .i64 k1, .int .i64 a1, .string n1, .bool e1, .bool g1, .bool i1, .bool m1, .slice A1 l1 c1, .slice B1 r1 d1, .int .i64 k2, .int .i64 a2, .string n2, .bool e2, .bool g2, .bool i2, .bool m2, .slice A2 l2 c2, .slice B2 r2 d2, .int .i64 k3, .int .i64 a3, .string n3, .bool e3, .bool g3, .bool i3, .bool m3, .slice A3 l3 c3, .slice B3 r3 d3] 43))
  clear hX9 hA9 hcat hBb hCb hDb
  go_wp2_with fail
  exact HA9.out.ret hlt HX9.out rfl rfl
end
end Go.Proofs.YtekfledccpeblaaGreatDoor

/- The document's expr: an equality, an arrow; all of it. -/
namespace Go.Proofs.YtekfledccpeblaaGreatDoor
open Go.RowKit

section
variable {fb : Nat} {s : ByteArray} {w : World} {st : FS}
attribute [local go_sem ↓] ld43_eq st43_eq
set_option maxRecDepth 100000 in
set_option maxHeartbeats 8000000 in
theorem dexpr_arrow (n : Nat) (hnn : n ≤ 900000) (ih : DExC fb s n) (h : DR w fb s st) (hl : st.left s < n + 1) (h0 : st.is wFun = false) (h1 : st.is wForall = false) (h2 : st.is wLet = false) :
    Calls Tryz.prog 31 #[.pointer (some ⟨fb, 0, none⟩)] w fun e w' => DQ w fb s (exprN s (n + 1) st).2 (DX w (exprN s (n + 1) st).1) e w' := by
  rw [exprF_arrow h0 h1 h2]
  have hlt := h.lt
  have hA0 := ASt.start h
  have N0 := hide (fun W (hW : ASt w fb s st W) => hW.not hlt h0)
  have N1 := hide (fun W (hW : ASt w fb s st W) => hW.not hlt h1)
  have N2 := hide (fun W (hW : ASt w fb s st W) => hW.not hlt h2)
  have KQ := hide (fun W (hW : DR W fb s st) => dequal_calls n (dapply_all n hnn ih) hW (by omega))
  have hfw := equalF_fwd (s := s) (n := n) (exprN_fwd n) st h.ok
  have HLe : Hid ((equalF s n (exprN s n) st).2.left s ≤ n) := hide (by have := hfw.left; omega)
  have HOk := hide hfw.ok
  obtain ⟨fin, hfin⟩ : ∃ fin, fin = arrowF s n (exprN s n) st := ⟨_, rfl⟩
  rw [← hfin]
  unfold arrowF at hfin
  have HFi : Hid (fin = if (equalF s n (exprN s n) st).2.is sArrow = true then (.node 6 (equalF s n (exprN s n) st).2.t.at_ ⟨#[]⟩ false false false false [] [(equalF s n (exprN s n) st).1, (exprN s n ((equalF s n (exprN s n) st).2.step s)).1], (exprN s n ((equalF s n (exprN s n) st).2.step s)).2) else ((equalF s n (exprN s n) st).1, (equalF s n (exprN s n) st).2)) := hide hfin
  clear h hl hfw hfin h0 h1 h2
  generalize (equalF s n (exprN s n) st).1 = x at *
  generalize (equalF s n (exprN s n) st).2 = st1 at *
  go_enter Tryz.func31, Tryz.ntmps31
  go_upto_region 1 with fail
  have HW0 := hide hA0
  clear hA0
  generalize w.alloc (.cells zx 43) = W0 at *
  go_upto_region 7 with (go_at_call 28; refine (N0.out _ HW0.out).mono ?_; rintro e Wa ⟨rfl, ha⟩)
  go_upto_region 13 with (go_at_call 28; refine (N1.out _ ha).mono ?_; rintro e Wb ⟨rfl, hb⟩)
  go_upto_region 23 with (go_at_call 28; refine (N2.out _ hb).mono ?_; rintro e W1 ⟨rfl, hA1⟩)
  have HA1 := hide hA1
  have K1 := hide (KQ.out _ hA1.rd)
  clear hA1 ha hb N0 N1 N2 HW0 KQ
  go_upto_region 24 with (go_at_call 50; refine K1.out.mono ?_; rintro e W2 ⟨⟨xv, rfl, hx⟩, hd, hT⟩; have HB := hide (BSt.make (HA1.out.touched hlt hd hT) hlt HA1.out.lt hx); have ST := HB.out.1; clear hx hd hT)
  have hB := HB.out.2
  clear ST HB K1 HA1
  generalize (W2.alloc (.cells zx 43)).setCells W2.heap.size 0 xv.toList = W3 at *
  generalize W2.heap.size = eb at *
  obtain ⟨d0, d1, d2, d3, d4, d5, d6, df⟩ := hB.st.rd.cells
  by_cases hq : st1.is sArrow = true
  · have HF2 : Hid (fin = (.node 6 st1.t.at_ ⟨#[]⟩ false false false false [] [x, (exprN s n (st1.step s)).1], (exprN s n (st1.step s)).2)) := hide (by rw [HFi.out, if_pos hq])
    have hkd := (FS.is_kd hq).2.1
    have hlef := FS.step_left HOk.out (FS.is_kd hq).1 (by omega) (by omega)
    have HAp : Hid (∀ W, DR W fb s (st1.step s) → Calls Tryz.prog 31 #[.pointer (some ⟨fb, 0, none⟩)] W fun e w' => DQ W fb s (exprN s n (st1.step s)).2 (DX W (exprN s n (st1.step s)).1) e w') := hide (fun W hW => ih _ W hW (by have := HLe.out; omega))
    have KQ := hide (hB.yes hlt hq)
    clear hq hkd hlef ih HFi HLe HOk hB
    generalize (exprN s n (st1.step s)).1 = y at *
    generalize (exprN s n (st1.step s)).2 = st3 at *
    generalize st1.step s = st2 at *
    generalize st1.t.at_ = ta at *
    go_upto_region 26 with (go_at_call 28; refine KQ.out.mono ?_; rintro e W3 ⟨rfl, hB3⟩; have HB3 := hide hB3; clear hB3)
    have KE2 := hide (HAp.out W3 HB3.out.st.rd)
    have HEV : Hid (eb < W3.heap.size) := hide (Array.getElem?_eq_some_iff.1 HB3.out.at_).1
    clear KQ HAp d0 d1 d2 d3 d4 d5 d6 df
    go_upto_region 29 with (go_at_call 31; refine KE2.out.mono ?_; rintro e W4 ⟨⟨yv, rfl, hy⟩, hd, hT⟩; have HB4 := hide ((HB3.out.touched hlt hd hT).second hlt HEV.out hy); have ST := HB4.out.1; clear hy hd hT)
    have hB5 := HB4.out.2.1
    have hC5 := HB4.out.2.2.1
    clear ST HB4 KE2 HEV HB3
    generalize (W4.alloc (.cells zx 43)).setCells W4.heap.size 0 yv.toList = W5 at *
    generalize W4.heap.size = tb at *
    have L1 := hB5.load
    have L2 := hC5.load
    have hX9 : InX (W5.alloc (.cells (xv ++ yv) 43)) (fun b => w.heap.size < b) (.node 6 ta ⟨#[]⟩ false false false false [] [x, y]) (xcs 6 (ta : Nat) ⟨#[]⟩ false false false false nilV (.slice (some ⟨W5.heap.size, 0, none⟩) 2 2)) :=
      InX.of (LvsIn.nil _ _ _) (two_xs rfl (hB5.inx.mono fun b hb => hb.1) (hC5.inx.mono fun b hb => hb.1) hB5.st.lt)
    obtain ⟨k1, a1, n1, e1, g1, i1, m1, A1, l1, c1, B1, r1, d1, rfl⟩ := hB5.inx.cells
    obtain ⟨k2, a2, n2, e2, g2, i2, m2, A2, l2, c2, B2, r2, d2, rfl⟩ := hC5.inx.cells
    have hcat : (xcs k1 a1 n1 e1 g1 i1 m1 (.slice A1 l1 c1) (.slice B1 r1 d1) ++ xcs k2 a2 n2 e2 g2 i2 m2 (.slice A2 l2 c2) (.slice B2 r2 d2)) = #[.int .i64 k1, .int .i64 a1, .string n1, .bool e1, .bool g1, .bool i1, .bool m1, .slice A1 l1 c1, .slice B1 r1 d1, .int .i64 k2, .int .i64 a2, .string n2, .bool e2, .bool g2, .bool i2, .bool m2, .slice A2 l2 c2, .slice B2 r2 d2] := by simp
    rw [hcat] at hX9
    have hA9 := hB5.st.alloc hlt (.cells #[.int .i64 k1, .int .i64 a1, .string n1, .bool e1, .bool g1, .bool i1, .bool m1, .slice A1 l1 c1, .slice B1 r1 d1, .int .i64 k2, .int .i64 a2, .string n2, .bool e2, .bool g2, .bool i2, .bool m2, .slice A2 l2 c2, .slice B2 r2 d2] 43)
    have ST := hA9.stor hX9
    have HX9 := hide hX9
    have HA9 := hide hA9
    clear hX9 hA9 hcat hB5 hC5
    go_wp2_with fail
    rw [HF2.out]
    exact HA9.out.ret hlt HX9.out rfl rfl
  · have hq' : st1.is sArrow = false := by simpa using hq
    have HF2 : Hid (fin = (x, st1)) := hide (by rw [HFi.out, if_neg hq])
    have KQ := hide (hB.not hlt hq')
    clear hq hq' HFi ih HLe HOk hB
    go_wp2_with (go_at_call 28; refine KQ.out.mono ?_; rintro e W3 ⟨rfl, hB3⟩; have LD := hB3.load; have ST := hB3.stor; have HB3 := hide hB3; clear hB3)
    rw [HF2.out]
    exact HB3.out.st.ret hlt (HB3.out.inx.mono fun b hb => hb.1) rfl rfl
end
/-- The contract of the document's expr. -/
theorem dexpr_all {fb : Nat} {s : ByteArray} : ∀ n, n ≤ 900000 → DExC fb s n
  | 0, _ => fun st w _ hl => absurd hl (by omega)
  | n + 1, hn => fun st w h hl => by
    have ih := dexpr_all (fb := fb) (s := s) n (by omega)
    cases h0 : st.is wFun with
    | true => exact dexpr_fun n (by omega) ih h hl h0
    | false =>
      cases h1 : st.is wForall with
      | true => exact dexpr_forall n (by omega) ih h hl h0 h1
      | false =>
        cases h2 : st.is wLet with
        | true => exact dexpr_let n ih h hl h0 h1 h2
        | false => exact dexpr_arrow n (by omega) ih h hl h0 h1 h2
end Go.Proofs.YtekfledccpeblaaGreatDoor
