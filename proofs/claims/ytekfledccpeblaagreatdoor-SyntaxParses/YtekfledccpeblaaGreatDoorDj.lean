/- The document's atoms: Type, brackets. -/
import Derived.Test.YtekfledccpeblaaGreatDoorDg

namespace Go.Proofs.YtekfledccpeblaaGreatDoor
open Go.RowKit

section
variable {fb : Nat} {s : ByteArray} {w : World} {st : FS}
attribute [local go_sem ↓] ld43_eq st43_eq
/-- The level 1 as it is made. -/
theorem one_in {W : World} : LBox ((W.alloc (.cells #[.int .i64 0, .string ⟨#[]⟩, .slice none 0 0] 96)).alloc (.cells #[.int .i64 1, .string ⟨#[]⟩, .slice (some ⟨W.heap.size, 0, none⟩) 1 1] 96)) (W.heap.size + 1) 1 ⟨#[]⟩ (.slice (some ⟨W.heap.size, 0, none⟩) 1 1) ∧ InP ((W.alloc (.cells #[.int .i64 0, .string ⟨#[]⟩, .slice none 0 0] 96)).alloc (.cells #[.int .i64 1, .string ⟨#[]⟩, .slice (some ⟨W.heap.size, 0, none⟩) 1 1] 96)) (fun b => b = W.heap.size) (.succ .zero) (.agg #[.int .i64 1, .string ⟨#[]⟩, .slice (some ⟨W.heap.size, 0, none⟩) 1 1]) :=
  ⟨heap_alloc2_new _ _ _, W.heap.size, 1, .agg #[.int .i64 0, .string ⟨#[]⟩, .slice none 0 0], rfl, rfl, three_at (heap_alloc2_old _ _ _), rfl⟩
set_option maxRecDepth 100000 in
set_option maxHeartbeats 4000000 in
theorem datom_type (n : Nat) (h : DR w fb s st) (h1 : st.kin 1 = false) (h2 : st.is sAt = false) (n0 : st.is sHole = false) (n1 : st.is wProp = false) (ny : st.is wType = true) :
    Calls Tryz.prog 88 #[.pointer (some ⟨fb, 0, none⟩)] w fun e w' => DQ w fb s (atomF s n (exprN s n) st).2 (DX w (atomF s n (exprN s n) st).1) e w' := by
  rw [atom_else h1 h2, if_neg (by rw [n0]; simp), if_neg (by rw [n1]; simp), if_pos ny]
  have hlt := h.lt
  have hA0 := ASt.start h
  obtain ⟨d0, d1, d2, d3, d4, d5, d6, df⟩ := hA0.rd.cells
  have HI := hide (dis_calls hA0.rd sAt)
  rw [h2] at HI
  have N0 := hide (fun W (hW : ASt w fb s st W) => hW.not hlt n0)
  have N1 := hide (fun W (hW : ASt w fb s st W) => hW.not hlt n1)
  have NY := hide (fun W (hW : ASt w fb s st W) => hW.yes hlt ny)
  have hq := no_name h.ok h1
  have hok1 := h.ok.step
  have HC : Hid ((st.step s).code = 0) := hide (by unfold FS.step; rw [if_pos (FS.is_kd ny).1]; exact (FS.is_kd ny).1)
  obtain ⟨fin, hfin⟩ : ∃ fin, fin = (if (st.step s).kin 2 = true then (sortX st.t.at_ (raised s (.succ .zero) (st.step s)).1, (raised s (.succ .zero) (st.step s)).2) else (sortX st.t.at_ (.succ .zero), st.step s)) := ⟨_, rfl⟩
  rw [← hfin]
  have HFi := hide hfin
  clear h h1 h2 n0 n1 ny hfin
  generalize st.t.at_ = ta at *
  generalize st.step s = st1 at *
  rcases hq with ⟨q1, q2⟩ | q1
  all_goals
    go_enter Tryz.func88, Tryz.ntmps88
    go_upto_region 13 with (go_at_call 25; refine HI.out.mono ?_; rintro e w' ⟨rfl, rfl⟩)
    clear HI
    generalize w.alloc (.cells zx 43) = W0 at *
    go_upto_region 15 with (go_at_call 28; refine (N0.out _ (by assumption)).mono ?_; rintro e W ⟨rfl, hA⟩)
    go_upto_region 17 with (go_at_call 28; refine (N1.out _ (by assumption)).mono ?_; rintro e W ⟨rfl, hA⟩)
    clear d0 d1 d2 d3 d4 d5 d6 df q1 hA0
    go_upto_region 19 with (go_at_call 28; refine (NY.out _ (by assumption)).mono ?_; rintro e V ⟨rfl, hV⟩)
    obtain ⟨hbx, hip⟩ := one_in (W := V)
    have hA2 := (hV.alloc hlt (.cells #[.int .i64 0, .string ⟨#[]⟩, .slice none 0 0] 96)).alloc hlt (.cells #[.int .i64 1, .string ⟨#[]⟩, .slice (some ⟨V.heap.size, 0, none⟩) 1 1] 96)
    have hvl := hV.lt
    have hs2 : ((V.alloc (.cells #[.int .i64 0, .string ⟨#[]⟩, .slice none 0 0] 96)).alloc (.cells #[.int .i64 1, .string ⟨#[]⟩, .slice (some ⟨V.heap.size, 0, none⟩) 1 1] 96)).heap.size = V.heap.size + 2 := by simp
    generalize (V.alloc (.cells #[.int .i64 0, .string ⟨#[]⟩, .slice none 0 0] 96)).alloc (.cells #[.int .i64 1, .string ⟨#[]⟩, .slice (some ⟨V.heap.size, 0, none⟩) 1 1] 96) = W2 at *
    obtain ⟨d0, d1, d2, d3, d4, d5, d6, df⟩ := hA2.rd.cells
    have b0 := hbx.c0
    have b1 := hbx.c1
    have b2 := hbx.c2
    have bf := hbx.f
    have bl := hbx.lt
    have c1 : ((st1.code : Int) == 0) = true := by rw [HC.out]; rfl
    by_cases hk : st1.kin 2 = true
    · have hkd : st1.t.kd = 2 := by unfold FS.kin at hk; simp at hk; exact hk.2
      have c2 : ((st1.t.kd : Int) == 2) = true := by rw [hkd]; rfl
      have HF2 : Hid (fin = (sortX ta (raised s (.succ .zero) st1).1, (raised s (.succ .zero) st1).2)) := hide (by rw [HFi.out, if_pos hk])
      have KR := hide (draised_calls (.succ .zero) _ 1 ⟨#[]⟩ _ 1 1 st1 W2 hA2.rd hip (fun b hb => by have : b = V.heap.size := hb; omega) (by simp [chain]))
      clear hk hkd HFi
      generalize (raised s (.succ .zero) st1).1 = y at *
      generalize (raised s (.succ .zero) st1).2 = st3 at *
      have HA2 := hide hA2
      have HBx := hide hbx
      clear hA2 hip hbx hV hA
      go_upto_region 21 with (go_at_call 99; refine KR.out.mono ?_; rintro e W3 ⟨⟨k, nm, A, m, c, rfl, hI⟩, hd, hT⟩; have HB3 := hide (HBx.out.of_block (hT.at HBx.out.lt (by omega))); have HA3 := hide (HA2.out.touched hlt hd hT); have a0 := HB3.out.c0; have a1 := HB3.out.c1; have a2 := HB3.out.c2; have af := HB3.out.f; have al := HB3.out.lt; have HI3 := hide hI; clear hI hd hT)
      have hB4 := HB3.out.set3 k nm (.slice A m c)
      have hI4 := HI3.out.set3 (S' := fun b => w.heap.size < b) (r := V.heap.size + 1) (u0 := .int .i64 k) (u1 := .string nm) (u2 := .slice A m c) fun b hb hs => ⟨by rcases hs with hs | hs <;> omega, by rcases hs with hs | hs <;> omega⟩
      have hA4 : ASt w fb s st3 (set3 W3 (V.heap.size + 1) (.int .i64 k) (.string nm) (.slice A m c)) := ⟨HA3.out.rd.of_block (set3_block (by omega)), set3_touched (by omega) HA3.out.old, (set3_block (by omega)).trans HA3.out.res⟩
      obtain ⟨W4, hW4⟩ : ∃ W4, W4 = set3 W3 (V.heap.size + 1) (.int .i64 k) (.string nm) (.slice A m c) := ⟨_, rfl⟩
      rw [← hW4] at hI4 hA4
      rw [show ((W3.setCell ⟨V.heap.size + 1, 0, none⟩ (.int .i64 k)).setCell ⟨V.heap.size + 1, 1, none⟩ (.string nm)).setCell ⟨V.heap.size + 1, 2, none⟩ (.slice A m c) = W4 from hW4.symm] at hB4
      try rw [show ((W3.setCell ⟨V.heap.size + 1, 0, none⟩ (.int .i64 k)).setCell ⟨V.heap.size + 1, 1, none⟩ (.string nm)).setCell ⟨V.heap.size + 1, 2, none⟩ (.slice A m c) = W4 from hW4.symm]
      have x0 := hB4.c0
      have x1 := hB4.c1
      have x2 := hB4.c2
      have HX := hide (sort_in (w := w) (W := W4) ta hI4 (fun b hb => hb) hA4.lt)
      have hA5 := hA4.alloc hlt (.cells #[.int .i64 k, .string nm, .slice A m c] 96)
      have ST := hA5.stor HX.out
      have HA5 := hide hA5
      have HF3 := HF2
      clear a0 a1 a2 af al b0 b1 b2 bf bl d0 d1 d2 d3 d4 d5 d6 df hB4 hI4 hA4 hA5 hW4 HA3 HB3 HI3 KR HA2 HBx
      go_wp2_with fail
      rw [HF3.out]
      exact HA5.out.ret hlt HX.out rfl rfl
    · have hkd : st1.t.kd ≠ 2 := fun h' => hk (by unfold FS.kin; rw [HC.out, h']; rfl)
      have c2 : ((st1.t.kd : Int) == 2) = false := by simp; omega
      have HF2 : Hid (fin = (sortX ta (.succ .zero), st1)) := hide (by rw [HFi.out, if_neg hk])
      have HX := hide (sort_in (w := w) (W := W2) ta hip (fun b hb => by have : b = V.heap.size := hb; omega) hA2.lt)
      have hA5 := hA2.alloc hlt (.cells #[.int .i64 1, .string ⟨#[]⟩, .slice (some ⟨V.heap.size, 0, none⟩) 1 1] 96)
      have ST := hA5.stor HX.out
      have HA5 := hide hA5
      clear hk hkd HFi hA5 hA2 hip hbx hV hA hs2
      go_wp2_with fail
      rw [HF2.out]
      exact HA5.out.ret hlt HX.out rfl rfl
end
end Go.Proofs.YtekfledccpeblaaGreatDoor

/- The document's atoms: brackets with no colon. -/
namespace Go.Proofs.YtekfledccpeblaaGreatDoor
open Go.RowKit

/-- While an atom is read: an expression lies in a variable of its own. -/
structure BSt (w : World) (fb : Nat) (s : ByteArray) (st : FS) (eb : Nat) (x : Ex) (xv : Array Value) (W : World) : Prop where
  st : ASt w fb s st W
  gt : w.heap.size < eb
  at_ : W.heap[eb]? = some (.cells xv 43 (0, 0))
  inx : InX W (fun b => w.heap.size < b ∧ b ≠ eb) x xv
section
variable {fb eb : Nat} {s : ByteArray} {w W W' : World} {st st' : FS} {x : Ex} {xv : Array Value}
theorem BSt.touched (h : BSt w fb s st eb x xv W) (hf : fb < w.heap.size) (hR : DR W' fb s st') (hT : Touched W fb W') : BSt w fb s st' eb x xv W' := by
  have hl : eb < W.heap.size := (Array.getElem?_eq_some_iff.1 h.at_).1
  have hg := h.gt
  exact ⟨h.st.touched hf hR hT, h.gt, (hT.at hl (by omega)).trans h.at_, h.inx.keep fun b hb hs => ⟨hs, hT.at hb (by have := hs.1; omega)⟩⟩
theorem BSt.accept (h : BSt w fb s st eb x xv W) (hf : fb < w.heap.size) (q : ByteArray) : Calls Tryz.prog 28 #[.pointer (some ⟨fb, 0, none⟩), .string q] W fun e w' => e = .returned (.bool (st.is q)) ∧ BSt w fb s (if st.is q = true then st.step s else st) eb x xv w' :=
  (daccept_calls h.st.rd q).mono fun _ _ ⟨he, hd, hT⟩ => ⟨he, h.touched hf hd hT⟩
theorem BSt.not (h : BSt w fb s st eb x xv W) (hf : fb < w.heap.size) {q : ByteArray} (hq : st.is q = false) : Calls Tryz.prog 28 #[.pointer (some ⟨fb, 0, none⟩), .string q] W fun e w' => e = .returned (.bool false) ∧ BSt w fb s st eb x xv w' :=
  (h.accept hf q).mono fun _ _ ⟨he, hd⟩ => by rw [hq, if_neg (by simp)] at hd; rw [hq] at he; exact ⟨he, hd⟩
theorem BSt.yes (h : BSt w fb s st eb x xv W) (hf : fb < w.heap.size) {q : ByteArray} (hq : st.is q = true) : Calls Tryz.prog 28 #[.pointer (some ⟨fb, 0, none⟩), .string q] W fun e w' => e = .returned (.bool true) ∧ BSt w fb s (st.step s) eb x xv w' :=
  (h.accept hf q).mono fun _ _ ⟨he, hd⟩ => by rw [hq, if_pos rfl] at hd; rw [hq] at he; exact ⟨he, hd⟩
theorem BSt.must (h : BSt w fb s st eb x xv W) (hf : fb < w.heap.size) (q : ByteArray) : Calls Tryz.prog 29 #[.pointer (some ⟨fb, 0, none⟩), .string q] W fun e w' => e = .returned (.tuple #[]) ∧ BSt w fb s (st.must s q) eb x xv w' :=
  (dmust_calls h.st.rd q).mono fun _ _ ⟨he, hd, hT⟩ => ⟨he, h.touched hf hd hT⟩
theorem BSt.load (h : BSt w fb s st eb x xv W) : (ld43 (.pointer (some ⟨eb, 0, none⟩))).run Tryz.prog W = .ok (.agg xv) W := ld43_run (block_range h.at_) h.inx.size
theorem BSt.stor (h : BSt w fb s st eb x xv W) : (st43 (.pointer (some ⟨w.heap.size, 0, none⟩)) (.agg xv)).run Tryz.prog W = .ok () (W.setCells w.heap.size 0 xv.toList) := h.st.stor h.inx
/-- The variable is made, and the expression stored. -/
theorem BSt.make (hA : ASt w fb s st W) (hf : fb < w.heap.size) {y : Ex} {yv : Array Value} {m : Nat} (hm : w.heap.size < m) (hx : InX W (fun b => m ≤ b) y yv) :
    (st43 (.pointer (some ⟨W.heap.size, 0, none⟩)) (.agg yv)).run Tryz.prog (W.alloc (.cells zx 43)) = .ok () ((W.alloc (.cells zx 43)).setCells W.heap.size 0 yv.toList) ∧ BSt w fb s st W.heap.size y yv ((W.alloc (.cells zx 43)).setCells W.heap.size 0 yv.toList) := by
  have hl := hA.lt
  have hfl : fb < W.heap.size := by omega
  have hn := heap_alloc_new W (.cells zx 43)
  have hr := heap_setCells yv.toList 0 _ _ hn
  rw [zx_wrote hx.size] at hr
  refine ⟨st43_run (by rw [hx.size]; exact there_of hn) hx.size hx.one, ⟨⟨?_, ?_, ?_⟩, hl, hr, ?_⟩⟩
  · exact (hA.rd.alloc _).of_block (heap_setCells_ne (by omega) _ _ _)
  · exact (hA.old.trans (Touched.alloc W fb (.cells zx 43))).setsNew (by omega) _ _
  · exact (heap_setCells_ne (by omega) _ _ _).trans ((Below.heap_alloc _ _ _ hl).trans hA.res)
  · exact hx.keep fun b hb hs => ⟨⟨Nat.lt_of_lt_of_le hm hs, by omega⟩, (heap_setCells_ne (by omega) _ _ _).trans (Below.heap_alloc _ _ _ hb)⟩
end
section
variable {fb : Nat} {s : ByteArray} {w : World} {st : FS}
attribute [local go_sem ↓] ld43_eq st43_eq
set_option maxRecDepth 100000 in
set_option maxHeartbeats 4000000 in
theorem datom_bracket (n : Nat) (ih : DExC fb s n) (h : DR w fb s st) (h1 : st.kin 1 = false) (h2 : st.is sAt = false) (n0 : st.is sHole = false) (n1 : st.is wProp = false) (n2 : st.is wType = false) (n3 : st.is wSort = false) (ny : st.is sOpen = true) (hl : st.left s ≤ n) (hq : (exprN s n (st.step s)).2.is sColon = false) :
    Calls Tryz.prog 88 #[.pointer (some ⟨fb, 0, none⟩)] w fun e w' => DQ w fb s (atomF s n (exprN s n) st).2 (DX w (atomF s n (exprN s n) st).1) e w' := by
  rw [atom_else h1 h2, if_neg (by rw [n0]; simp), if_neg (by rw [n1]; simp), if_neg (by rw [n2]; simp), if_neg (by rw [n3]; simp), if_pos ny]
  unfold bracketX
  simp only
  rw [if_neg (by rw [hq]; simp)]
  have hlt := h.lt
  have hA0 := ASt.start h
  obtain ⟨d0, d1, d2, d3, d4, d5, d6, df⟩ := hA0.rd.cells
  have HI := hide (dis_calls hA0.rd sAt)
  rw [h2] at HI
  have N0 := hide (fun W (hW : ASt w fb s st W) => hW.not hlt n0)
  have N1 := hide (fun W (hW : ASt w fb s st W) => hW.not hlt n1)
  have N2 := hide (fun W (hW : ASt w fb s st W) => hW.not hlt n2)
  have N3 := hide (fun W (hW : ASt w fb s st W) => hW.not hlt n3)
  have NY := hide (fun W (hW : ASt w fb s st W) => hW.yes hlt ny)
  have hqn := no_name h.ok h1
  have hkd := (FS.is_kd ny).2.1
  have hlef := FS.step_left h.ok (FS.is_kd ny).1 (by omega) (by omega)
  have HE := hide (fun W (hW : DR W fb s (st.step s)) => ih (st.step s) W hW (by omega))
  simp only
  clear hkd hlef hl ih
  generalize st.t.at_ = ta at *
  generalize (exprN s n (st.step s)).1 = x at *
  generalize (exprN s n (st.step s)).2 = st2 at *
  generalize st.step s = st1 at *
  clear h h1 h2 n0 n1 n2 n3 ny
  rcases hqn with ⟨q1, q2⟩ | q1
  all_goals
    go_enter Tryz.func88, Tryz.ntmps88
    go_upto_region 13 with (go_at_call 25; refine HI.out.mono ?_; rintro e w' ⟨rfl, rfl⟩)
    clear HI
    generalize w.alloc (.cells zx 43) = W0 at *
    go_upto_region 15 with (go_at_call 28; refine (N0.out _ (by assumption)).mono ?_; rintro e W ⟨rfl, hA⟩)
    go_upto_region 17 with (go_at_call 28; refine (N1.out _ (by assumption)).mono ?_; rintro e W ⟨rfl, hA⟩)
    go_upto_region 22 with (go_at_call 28; refine (N2.out _ (by assumption)).mono ?_; rintro e W ⟨rfl, hA⟩)
    go_upto_region 24 with (go_at_call 28; refine (N3.out _ (by assumption)).mono ?_; rintro e W ⟨rfl, hA⟩)
    clear d0 d1 d2 d3 d4 d5 d6 df hA0
    go_upto_region 25 with (go_at_call 28; refine (NY.out _ (by assumption)).mono ?_; rintro e V ⟨rfl, hV⟩)
    have HV := hide hV
    have KE := hide (HE.out V hV.rd)
    clear hV hA HE
    go_upto_region 26 with (go_at_call 31; refine KE.out.mono ?_; rintro e W1 ⟨⟨xv, rfl, hx⟩, hd, hT⟩; have HB := hide (BSt.make (HV.out.touched hlt hd hT) hlt HV.out.lt hx); have ST := HB.out.1; clear hx hd hT)
    have hB := HB.out.2
    clear ST HB KE
    generalize (W1.alloc (.cells zx 43)).setCells W1.heap.size 0 xv.toList = W2 at *
    generalize W1.heap.size = eb at *
    have KN := hide (hB.not hlt hq)
    have KM := hide (fun W (hW : BSt w fb s st2 eb x xv W) => hW.must hlt sShut)
    clear hB HV
    go_upto_region 30 with (go_at_call 28; refine KN.out.mono ?_; rintro e W3 ⟨rfl, hB3⟩; have HB3 := hide hB3; clear hB3)
    have KM3 := hide (KM.out _ HB3.out)
    go_wp2_with (go_at_call 29; refine KM3.out.mono ?_; rintro e W4 ⟨rfl, hB4⟩; have LD := hB4.load; have ST := hB4.stor; have HB4 := hide hB4; clear hB4)
    exact HB4.out.st.ret hlt (HB4.out.inx.mono fun b hb => hb.1) rfl rfl
end
end Go.Proofs.YtekfledccpeblaaGreatDoor

/- The document's atoms: brackets with a colon. -/
namespace Go.Proofs.YtekfledccpeblaaGreatDoor
open Go.RowKit

section
variable {fb eb : Nat} {s : ByteArray} {w W W' : World} {st st' : FS} {x y : Ex}
/-- Two expressions side by side in a new block. -/
theorem two_xs {S : Nat → Prop} {xv yv : Array Value} {n : Nat} (hn : W.heap.size = n) (hx : InX W S x xv) (hy : InX W S y yv) (hS : S n) : XsIn (W.alloc (.cells (xv ++ yv) 43)) S (some ⟨n, 0, none⟩) [x, y] := by
  subst hn
  have h0 := heap_alloc_new W (.cells (xv ++ yv) 43)
  have zx := hx.size
  have zy := hy.size
  refine ⟨fun i => if i = 0 then xv else yv, fun i hi => ⟨W.heap.size, rfl, hS, ?_, fun q hq => ?_⟩, fun i hi => ?_⟩
  · show (if i = 0 then xv else yv).size = 9
    split <;> assumption
  · show _ = (if i = 0 then xv else yv)[q]?
    have hi2 : i = 0 ∨ i = 1 := by simp at hi; omega
    rcases hi2 with rfl | rfl
    · rw [if_pos rfl, Array.getElem?_eq_getElem (by omega)]
      refine cell_of h0 _ ?_
      rw [Array.getElem?_append_left (by omega), Array.getElem?_eq_getElem (by omega)]
      simp
    · rw [if_neg (by omega), Array.getElem?_eq_getElem (by omega)]
      refine cell_of h0 _ ?_
      rw [Array.getElem?_append_right (by omega), ← Array.getElem?_eq_getElem (by omega)]
      congr 1
      omega
  · have hi2 : i = 0 ∨ i = 1 := by simp at hi; omega
    rcases hi2 with rfl | rfl
    · exact hx.keep fun b hb hs => ⟨hs, Below.heap_alloc _ _ _ hb⟩
    · exact hy.keep fun b hb hs => ⟨hs, Below.heap_alloc _ _ _ hb⟩
/-- The variable takes a pair. -/
theorem BSt.pair {xv yv : Array Value} (h : BSt w fb s st eb x xv W) (hf : fb < w.heap.size) (hy : InX W (fun b => w.heap.size < b ∧ b ≠ eb) y yv) (a : Nat) :
    (st43 (.pointer (some ⟨eb, 0, none⟩)) (.agg (xcs 8 (a : Nat) ⟨#[]⟩ false false false false nilV (.slice (some ⟨W.heap.size, 0, none⟩) 2 2)))).run Tryz.prog (W.alloc (.cells (xv ++ yv) 43)) = .ok () ((W.alloc (.cells (xv ++ yv) 43)).setCells eb 0 (xcs 8 (a : Nat) ⟨#[]⟩ false false false false nilV (.slice (some ⟨W.heap.size, 0, none⟩) 2 2)).toList) ∧
    BSt w fb s st eb (.node 8 a ⟨#[]⟩ false false false false [] [x, y]) (xcs 8 (a : Nat) ⟨#[]⟩ false false false false nilV (.slice (some ⟨W.heap.size, 0, none⟩) 2 2)) ((W.alloc (.cells (xv ++ yv) 43)).setCells eb 0 (xcs 8 (a : Nat) ⟨#[]⟩ false false false false nilV (.slice (some ⟨W.heap.size, 0, none⟩) 2 2)).toList) := by
  have hl : eb < W.heap.size := (Array.getElem?_eq_some_iff.1 h.at_).1
  have hg := h.gt
  have hwl := h.st.lt
  have h1 : (W.alloc (.cells (xv ++ yv) 43)).heap[eb]? = some (.cells xv 43 (0, 0)) := (Below.heap_alloc _ _ _ hl).trans h.at_
  have hX : InX (W.alloc (.cells (xv ++ yv) 43)) (fun b => w.heap.size < b ∧ b ≠ eb) (.node 8 a ⟨#[]⟩ false false false false [] [x, y]) (xcs 8 (a : Nat) ⟨#[]⟩ false false false false nilV (.slice (some ⟨W.heap.size, 0, none⟩) 2 2)) :=
    InX.of (LvsIn.nil _ _ _) (two_xs rfl h.inx hy ⟨hwl, by omega⟩)
  generalize xcs 8 (a : Nat) ⟨#[]⟩ false false false false nilV (.slice (some ⟨W.heap.size, 0, none⟩) 2 2) = zv at *
  have hr := heap_setCells zv.toList 0 _ _ h1
  have hw9 : wrote xv 0 zv.toList = zv := by
    apply Array.ext'
    rw [wrote_toList zv.toList xv 0 [] xv.toList [] (by simp) rfl (by simp [hX.size, h.inx.size])]
    simp
  rw [hw9] at hr
  refine ⟨st43_run (by rw [hX.size, ← h.inx.size]; exact there_of h1) hX.size hX.one, ⟨⟨?_, ?_, ?_⟩, hg, hr, ?_⟩⟩
  · exact (h.st.rd.alloc _).of_block (heap_setCells_ne (by omega) _ _ _)
  · exact (h.st.old.trans (Touched.alloc W fb _)).setsNew (by omega) _ _
  · exact (heap_setCells_ne (by omega) _ _ _).trans ((Below.heap_alloc _ _ _ hwl).trans h.st.res)
  · exact hX.keep fun b _ hs => ⟨hs, heap_setCells_ne hs.2 _ _ _⟩
/-- A second variable is made: the first stays. -/
theorem BSt.second {xv yv : Array Value} {m : Nat} (h : BSt w fb s st eb x xv W) (hf : fb < w.heap.size) (hm : eb < m) (hy : InX W (fun b => m ≤ b) y yv) :
    (st43 (.pointer (some ⟨W.heap.size, 0, none⟩)) (.agg yv)).run Tryz.prog (W.alloc (.cells zx 43)) = .ok () ((W.alloc (.cells zx 43)).setCells W.heap.size 0 yv.toList) ∧ BSt w fb s st eb x xv ((W.alloc (.cells zx 43)).setCells W.heap.size 0 yv.toList) ∧ BSt w fb s st W.heap.size y yv ((W.alloc (.cells zx 43)).setCells W.heap.size 0 yv.toList) ∧ InX ((W.alloc (.cells zx 43)).setCells W.heap.size 0 yv.toList) (fun b => w.heap.size < b ∧ b ≠ eb) y yv := by
  have hg := h.gt
  obtain ⟨q1, q2⟩ := BSt.make h.st hf (Nat.lt_trans hg hm) hy
  refine ⟨q1, h.touched hf q2.st.rd ((Touched.alloc W fb (.cells zx 43)).setsNew (Nat.le_refl _) _ _), q2, ?_⟩
  exact hy.keep fun b hb hs => ⟨⟨by have : m ≤ b := hs; omega, by have : m ≤ b := hs; omega⟩, (heap_setCells_ne (by omega) _ _ _).trans (Below.heap_alloc _ _ _ hb)⟩
end
section
variable {fb : Nat} {s : ByteArray} {w : World} {st : FS}
attribute [local go_sem ↓] ld43_eq st43_eq
set_option maxRecDepth 100000 in
set_option maxHeartbeats 4000000 in
theorem datom_ascribed (n : Nat) (ih : DExC fb s n) (h : DR w fb s st) (h1 : st.kin 1 = false) (h2 : st.is sAt = false) (n0 : st.is sHole = false) (n1 : st.is wProp = false) (n2 : st.is wType = false) (n3 : st.is wSort = false) (ny : st.is sOpen = true) (hl : st.left s ≤ n) (hq : (exprN s n (st.step s)).2.is sColon = true) :
    Calls Tryz.prog 88 #[.pointer (some ⟨fb, 0, none⟩)] w fun e w' => DQ w fb s (atomF s n (exprN s n) st).2 (DX w (atomF s n (exprN s n) st).1) e w' := by
  rw [atom_else h1 h2, if_neg (by rw [n0]; simp), if_neg (by rw [n1]; simp), if_neg (by rw [n2]; simp), if_neg (by rw [n3]; simp), if_pos ny]
  unfold bracketX
  simp only
  rw [if_pos hq]
  have hlt := h.lt
  have hA0 := ASt.start h
  obtain ⟨d0, d1, d2, d3, d4, d5, d6, df⟩ := hA0.rd.cells
  have HI := hide (dis_calls hA0.rd sAt)
  rw [h2] at HI
  have N0 := hide (fun W (hW : ASt w fb s st W) => hW.not hlt n0)
  have N1 := hide (fun W (hW : ASt w fb s st W) => hW.not hlt n1)
  have N2 := hide (fun W (hW : ASt w fb s st W) => hW.not hlt n2)
  have N3 := hide (fun W (hW : ASt w fb s st W) => hW.not hlt n3)
  have NY := hide (fun W (hW : ASt w fb s st W) => hW.yes hlt ny)
  have hqn := no_name h.ok h1
  have hkd := (FS.is_kd ny).2.1
  have hlef := FS.step_left h.ok (FS.is_kd ny).1 (by omega) (by omega)
  have HE := hide (fun W (hW : DR W fb s (st.step s)) => ih (st.step s) W hW (by omega))
  have hfw := exprN_fwd n (st.step s) h.ok.step
  have hkd2 := (FS.is_kd hq).2.1
  have hlef2 := FS.step_left hfw.ok (FS.is_kd hq).1 (by omega) (by omega)
  have hle := hfw.left
  have HE2 := hide (fun W (hW : DR W fb s ((exprN s n (st.step s)).2.step s)) => ih ((exprN s n (st.step s)).2.step s) W hW (by omega))
  simp only
  clear hkd hlef hl ih hfw hkd2 hlef2 hle
  generalize (exprN s n ((exprN s n (st.step s)).2.step s)).1 = y at *
  generalize (exprN s n ((exprN s n (st.step s)).2.step s)).2 = st4 at *
  generalize st.t.at_ = ta at *
  generalize (exprN s n (st.step s)).1 = x at *
  generalize (exprN s n (st.step s)).2 = st2 at *
  generalize st.step s = st1 at *
  clear h h1 h2 n0 n1 n2 n3 ny
  rcases hqn with ⟨q1, q2⟩ | q1
  all_goals
    go_enter Tryz.func88, Tryz.ntmps88
    go_upto_region 13 with (go_at_call 25; refine HI.out.mono ?_; rintro e w' ⟨rfl, rfl⟩)
    clear HI
    generalize w.alloc (.cells zx 43) = W0 at *
    go_upto_region 15 with (go_at_call 28; refine (N0.out _ (by assumption)).mono ?_; rintro e W ⟨rfl, hA⟩)
    go_upto_region 17 with (go_at_call 28; refine (N1.out _ (by assumption)).mono ?_; rintro e W ⟨rfl, hA⟩)
    go_upto_region 22 with (go_at_call 28; refine (N2.out _ (by assumption)).mono ?_; rintro e W ⟨rfl, hA⟩)
    go_upto_region 24 with (go_at_call 28; refine (N3.out _ (by assumption)).mono ?_; rintro e W ⟨rfl, hA⟩)
    clear d0 d1 d2 d3 d4 d5 d6 df hA0
    go_upto_region 25 with (go_at_call 28; refine (NY.out _ (by assumption)).mono ?_; rintro e V ⟨rfl, hV⟩)
    have HV := hide hV
    have KE := hide (HE.out V hV.rd)
    clear hV hA HE
    go_upto_region 26 with (go_at_call 31; refine KE.out.mono ?_; rintro e W1 ⟨⟨xv, rfl, hx⟩, hd, hT⟩; have HB := hide (BSt.make (HV.out.touched hlt hd hT) hlt HV.out.lt hx); have ST := HB.out.1; clear hx hd hT)
    have hB := HB.out.2
    clear ST HB KE
    generalize (W1.alloc (.cells zx 43)).setCells W1.heap.size 0 xv.toList = W2 at *
    generalize W1.heap.size = eb at *
    have hEV : eb < W2.heap.size := (Array.getElem?_eq_some_iff.1 hB.at_).1
    have KN := hide (hB.yes hlt hq)
    clear hB HV hEV
    generalize st2.step s = st3 at *
    go_upto_region 28 with (go_at_call 28; refine KN.out.mono ?_; rintro e W3 ⟨rfl, hB3⟩; have HB3 := hide hB3; clear hB3)
    have KE2 := hide (HE2.out W3 HB3.out.st.rd)
    have HEV : Hid (eb < W3.heap.size) := hide (Array.getElem?_eq_some_iff.1 HB3.out.at_).1
    clear KN HE2
    go_upto_region 29 with (go_at_call 31; refine KE2.out.mono ?_; rintro e W4 ⟨⟨yv, rfl, hy⟩, hd, hT⟩; have HB4 := hide ((HB3.out.touched hlt hd hT).second hlt HEV.out hy); have ST := HB4.out.1; clear hy hd hT)
    have hB5 := HB4.out.2.1
    have hC5 := HB4.out.2.2.1
    have hY5 := HB4.out.2.2.2
    clear ST HB4 KE2 HEV HB3
    generalize (W4.alloc (.cells zx 43)).setCells W4.heap.size 0 yv.toList = W5 at *
    generalize W4.heap.size = tb at *
    have L1 := hB5.load
    have L2 := hC5.load
    have P6 := hB5.pair hlt hY5 ta
    obtain ⟨k1, a1, n1, e1, g1, i1, m1, A1, l1, c1, B1, r1, d1, rfl⟩ := hB5.inx.cells
    obtain ⟨k2, a2, n2, e2, g2, i2, m2, A2, l2, c2, B2, r2, d2, rfl⟩ := hY5.cells
    rw [show (xcs k1 a1 n1 e1 g1 i1 m1 (.slice A1 l1 c1) (.slice B1 r1 d1) ++ xcs k2 a2 n2 e2 g2 i2 m2 (.slice A2 l2 c2) (.slice B2 r2 d2)) = #[.int .i64 k1, .int .i64 a1, .string n1, .bool e1, .bool g1, .bool i1, .bool m1, .slice A1 l1 c1, .slice B1 r1 d1, .int .i64 k2, .int .i64 a2, .string n2, .bool e2, .bool g2, .bool i2, .bool m2, .slice A2 l2 c2, .slice B2 r2 d2] from by simp] at P6
    have ST := P6.1
    have HB6 := hide P6.2
    clear P6 hB5 hC5 hY5
    go_upto_region 30 with fail
    have hB6 := HB6.out
    clear ST HB6 L1 L2
    generalize World.setCells _ eb 0 _ = W6 at *
    have KM3 := hide (hB6.must hlt sShut)
    clear hB6
    go_wp2_with (go_at_call 29; refine KM3.out.mono ?_; rintro e W7 ⟨rfl, hB7⟩; have LD := hB7.load; have ST := hB7.stor; have HB7 := hide hB7; clear hB7)
    exact HB7.out.st.ret hlt (HB7.out.inx.mono fun b hb => hb.1) rfl rfl
end
end Go.Proofs.YtekfledccpeblaaGreatDoor
