/- The contract of the document's apply. -/
import Derived.Test.YtekfledccpeblaaGreatDoorDm
import Derived.Test.YtekfledccpeblaaGreatDoorDr

namespace Go.Proofs.YtekfledccpeblaaGreatDoor
open Go.RowKit

/-- The contract of atom. -/
def DAtC (fb : Nat) (s : ByteArray) (n : Nat) : Prop := ∀ (st : FS) (w : World), DR w fb s st → st.left s ≤ n → Calls Tryz.prog 88 #[.pointer (some ⟨fb, 0, none⟩)] w fun e w' => DQ w fb s (atomF s n (exprN s n) st).2 (DX w (atomF s n (exprN s n) st).1) e w'
section
variable {fb eb : Nat} {s : ByteArray} {w W W' : World} {st st' : FS} {x y : Ex}
/-- The variable takes an application. -/
theorem BSt.pair4 {xv yv : Array Value} (h : BSt w fb s st eb x xv W) (hf : fb < w.heap.size) (hy : InX W (fun b => w.heap.size < b ∧ b ≠ eb) y yv) (a : Nat) :
    (st43 (.pointer (some ⟨eb, 0, none⟩)) (.agg (xcs 4 (a : Nat) ⟨#[]⟩ false false false false nilV (.slice (some ⟨W.heap.size, 0, none⟩) 2 2)))).run Tryz.prog (W.alloc (.cells (xv ++ yv) 43)) = .ok () ((W.alloc (.cells (xv ++ yv) 43)).setCells eb 0 (xcs 4 (a : Nat) ⟨#[]⟩ false false false false nilV (.slice (some ⟨W.heap.size, 0, none⟩) 2 2)).toList) ∧
    BSt w fb s st eb (.node 4 a ⟨#[]⟩ false false false false [] [x, y]) (xcs 4 (a : Nat) ⟨#[]⟩ false false false false nilV (.slice (some ⟨W.heap.size, 0, none⟩) 2 2)) ((W.alloc (.cells (xv ++ yv) 43)).setCells eb 0 (xcs 4 (a : Nat) ⟨#[]⟩ false false false false nilV (.slice (some ⟨W.heap.size, 0, none⟩) 2 2)).toList) := by
  have hl : eb < W.heap.size := (Array.getElem?_eq_some_iff.1 h.at_).1
  have hg := h.gt
  have hwl := h.st.lt
  have h1 : (W.alloc (.cells (xv ++ yv) 43)).heap[eb]? = some (.cells xv 43 (0, 0)) := (Below.heap_alloc _ _ _ hl).trans h.at_
  have hX : InX (W.alloc (.cells (xv ++ yv) 43)) (fun b => w.heap.size < b ∧ b ≠ eb) (.node 4 a ⟨#[]⟩ false false false false [] [x, y]) (xcs 4 (a : Nat) ⟨#[]⟩ false false false false nilV (.slice (some ⟨W.heap.size, 0, none⟩) 2 2)) :=
    InX.of (LvsIn.nil _ _ _) (two_xs rfl h.inx hy ⟨hwl, by omega⟩)
  generalize xcs 4 (a : Nat) ⟨#[]⟩ false false false false nilV (.slice (some ⟨W.heap.size, 0, none⟩) 2 2) = zv at *
  have hr := heap_setCells zv.toList 0 _ _ h1
  have hw9 : wrote xv 0 zv.toList = zv := by
    apply Array.ext'
    rw [wrote_toList zv.toList xv 0 [] xv.toList [] (by simp) rfl (by simp [hX.size, h.inx.size])]
    simp
  rw [hw9] at hr
  refine ⟨st43_run (by rw [hX.size, ← h.inx.size]; exact there_of h1) hX.size hX.one, ⟨⟨?_, ?_, ?_⟩, hg, hr, ?_⟩⟩
  · exact (h.st.rd.alloc _).of_block (heap_setCells_ne (by omega) _ _ _)
  · exact (h.st.old.trans (Touched.alloc W fb _)).setsNew (by omega) _ _
  · exact (heap_setCells_ne (by omega) _ _ _).trans ((Below.heap_alloc _ _ _ hwl).trans h.st.res)
  · exact hX.keep fun b _ hs => ⟨hs, heap_setCells_ne hs.2 _ _ _⟩
theorem InX.place {S : Nat → Prop} {xv : Array Value} (h : InX W S x xv) : xv[1]? = some (.int .i64 (x.at_ : Nat)) := by cases h; rfl
theorem begins_code (h : begins st = true) : st.code = 0 := by
  cases hc : st.code with
  | zero => rfl
  | succ k => unfold begins FS.kin FS.is at h; simp [hc] at h
end
section
variable {fb : Nat} {s : ByteArray} {w : World} {st : FS}
attribute [local go_sem ↓] ld43_eq st43_eq
set_option maxRecDepth 100000 in
set_option maxHeartbeats 4000000 in
theorem dapply_calls (n : Nat) (hat : DAtC fb s n) (h : DR w fb s st) (hl : st.left s ≤ n) :
    Calls Tryz.prog 70 #[.pointer (some ⟨fb, 0, none⟩)] w fun e w' => DQ w fb s (applyF s n (exprN s n) st).2 (DX w (applyF s n (exprN s n) st).1) e w' := by
  have hlt := h.lt
  have hA0 := ASt.start h
  have KA := hide (hat st _ hA0.rd hl)
  have hfw := atomF_fwd (s := s) (n := n) (exprN_fwd n) st h.ok
  have HLe : Hid ((atomF s n (exprN s n) st).2.left s ≤ n) := hide (Nat.le_trans hfw.left hl)
  unfold applyF
  have HV := hide hA0
  clear h hl hfw hA0
  generalize (atomF s n (exprN s n) st).1 = x1 at *
  generalize (atomF s n (exprN s n) st).2 = st1 at *
  obtain ⟨fin, hfin⟩ : ∃ fin, fin = applyN s n (exprN s n) n x1 st1 := ⟨_, rfl⟩
  rw [← hfin]
  have HFi := hide hfin
  clear hfin
  go_enter Tryz.func70, Tryz.ntmps70
  go_upto_region 1 with fail
  generalize w.alloc (.cells zx 43) = W0 at *
  go_upto_region 2 with (go_at_call 88; refine KA.out.mono ?_; rintro e W1 ⟨⟨xv, rfl, hx⟩, hd, hT⟩; have HB := hide (BSt.make (HV.out.touched hlt hd hT) hlt HV.out.lt hx); have ST := HB.out.1; clear hx hd hT)
  have HB2 := hide HB.out.2
  clear ST HB KA HV
  generalize (W1.alloc (.cells zx 43)).setCells W1.heap.size 0 xv.toList = W2 at *
  generalize W1.heap.size = eb at *
  go_loopg [] n (fun g wr => ∃ (x : Ex) (st' : FS) (xv : Array Value), Hid (applyN s n (exprN s n) g x st' = fin) ∧ Hid (st'.left s ≤ g) ∧ g ≤ n ∧ Hid (BSt w fb s st' eb x xv wr))
  case atStart => exact ⟨x1, st1, xv, HFi.out.symm, HLe.out, Nat.le_refl _, HB2.out⟩
  case round =>
    clear HB2 HLe HFi
    obtain ⟨x, st', yv, HE, HLt, hgn, HS⟩ := hrel
    have KB := hide (dbegins_calls HS.out.st.rd)
    by_cases hb : begins st' = true
    · have hc := begins_code hb
      have hok := HS.out.st.rd.ok
      have hal := atom_left (n := n) hok hc hb
      obtain ⟨g', rfl⟩ : ∃ g', gk = g' + 1 := ⟨gk - 1, by have := HLt.out; omega⟩
      have HE2 : Hid (applyN s n (exprN s n) g' (appX x.at_ x (atomF s n (exprN s n) st').1) (atomF s n (exprN s n) st').2 = fin) := hide (by have := HE.out; simp only [applyN] at this; rw [if_pos hb] at this; exact this)
      have HL2 : Hid ((atomF s n (exprN s n) st').2.left s ≤ g') := hide (by have := HLt.out; omega)
      have HAt : Hid (∀ W, DR W fb s st' → Calls Tryz.prog 88 #[.pointer (some ⟨fb, 0, none⟩)] W fun e w' => DQ W fb s (atomF s n (exprN s n) st').2 (DX W (atomF s n (exprN s n) st').1) e w') := hide (fun W hW => hat st' W hW (by have := HLt.out; omega))
      rw [hb] at KB
      clear hb hc hok hal HE HLt hat
      generalize (atomF s n (exprN s n) st').1 = y at *
      generalize (atomF s n (exprN s n) st').2 = st2 at *
      go_upto_region 3 with (go_at_call 89; refine KB.out.mono ?_; rintro e W3 ⟨rfl, hd, hT⟩; have HB3 := hide (HS.out.touched hlt hd hT); clear hd hT)
      have KE2 := hide (HAt.out W3 HB3.out.st.rd)
      have HEV : Hid (eb < W3.heap.size) := hide (Array.getElem?_eq_some_iff.1 HB3.out.at_).1
      clear KB HAt HS
      go_upto_region 4 with (go_at_call 88; refine KE2.out.mono ?_; rintro e W4 ⟨⟨zv, rfl, hy⟩, hd, hT⟩; have HB4 := hide ((HB3.out.touched hlt hd hT).second hlt HEV.out hy); have ST := HB4.out.1; clear hy hd hT)
      have hB5 := HB4.out.2.1
      have hC5 := HB4.out.2.2.1
      have hY5 := HB4.out.2.2.2
      clear ST HB4 KE2 HEV HB3
      generalize (W4.alloc (.cells zx 43)).setCells W4.heap.size 0 zv.toList = W5 at *
      generalize W4.heap.size = tb at *
      have L1 := hB5.load
      have L2 := hC5.load
      have cp := hB5.cell 1 hB5.inx.place
      have P6 := hB5.pair4 hlt hY5 x.at_
      generalize hxa : x.at_ = xa at *
      obtain ⟨k1, a1, n1, e1, g1, i1, m1, A1, l1, c1, B1, r1, d1, rfl⟩ := hB5.inx.cells
      obtain ⟨k2, a2, n2, e2, g2, i2, m2, A2, l2, c2, B2, r2, d2, rfl⟩ := hY5.cells
      rw [show (xcs k1 a1 n1 e1 g1 i1 m1 (.slice A1 l1 c1) (.slice B1 r1 d1) ++ xcs k2 a2 n2 e2 g2 i2 m2 (.slice A2 l2 c2) (.slice B2 r2 d2)) = #[.int .i64 k1, .int .i64 a1, .string n1, .bool e1, .bool g1, .bool i1, .bool m1, .slice A1 l1 c1, .slice B1 r1 d1, .int .i64 k2, .int .i64 a2, .string n2, .bool e2, .bool g2, .bool i2, .bool m2, .slice A2 l2 c2, .slice B2 r2 d2] from by simp] at P6
      have ST := P6.1
      have HB6 := hide P6.2
      clear P6 hB5 hC5 hY5 hxa
      go_wp2_with fail
      go_roundg g'
      case measure => omega
      case rel => exact ⟨_, st2, _, HE2.out, HL2.out, by omega, HB6.out⟩
    · have hb' : begins st' = false := by simpa using hb
      have hfi : fin = (x, st') := by rw [← HE.out, apply_stop hb']
      rw [hb'] at KB
      subst hfi
      clear HE HLt hb hb' hat
      go_wp2_with (go_at_call 89; refine KB.out.mono ?_; rintro e W3 ⟨rfl, hd, hT⟩; have hB := HS.out.touched hlt hd hT; have LD := hB.load; have ST := hB.stor; have HB := hide hB; clear hd hT hB)
      exact HB.out.st.ret hlt (HB.out.inx.mono fun b hb => hb.1) rfl rfl
end
end Go.Proofs.YtekfledccpeblaaGreatDoor

/- The contract of the document's equal. -/
namespace Go.Proofs.YtekfledccpeblaaGreatDoor
open Go.RowKit

section
variable {fb eb : Nat} {s : ByteArray} {w W W' : World} {st st' : FS} {x y : Ex}
/-- Eq as a name. -/
abbrev eqX (a : Nat) : Ex := .node 1 a wEq false false true false [] []
abbrev eqC (a : Nat) : Array Value := xcs 1 (a : Nat) wEq false false true false nilV nilV
theorem eq_in (W : World) (S : Nat → Prop) (a : Nat) : InX W S (eqX a) (eqC a) := InX.of (LvsIn.nil _ _ _) (XsIn.nil _ _ _)
/-- A third variable. -/
theorem BSt.third {bb : Nat} {xv yv zv : Array Value} {z : Ex} (h : BSt w fb s st eb x xv W) (g : BSt w fb s st bb y yv W) (hf : fb < w.heap.size) (hz : ∀ W S, InX W S z zv) :
    (st43 (.pointer (some ⟨W.heap.size, 0, none⟩)) (.agg zv)).run Tryz.prog (W.alloc (.cells zx 43)) = .ok () ((W.alloc (.cells zx 43)).setCells W.heap.size 0 zv.toList) ∧ BSt w fb s st eb x xv ((W.alloc (.cells zx 43)).setCells W.heap.size 0 zv.toList) ∧ BSt w fb s st bb y yv ((W.alloc (.cells zx 43)).setCells W.heap.size 0 zv.toList) ∧ BSt w fb s st W.heap.size z zv ((W.alloc (.cells zx 43)).setCells W.heap.size 0 zv.toList) ∧
      InX ((W.alloc (.cells zx 43)).setCells W.heap.size 0 zv.toList) (fun b => w.heap.size < b ∧ b ≠ W.heap.size) x xv ∧ InX ((W.alloc (.cells zx 43)).setCells W.heap.size 0 zv.toList) (fun b => w.heap.size < b ∧ b ≠ W.heap.size) y yv := by
  have hel : eb < W.heap.size := (Array.getElem?_eq_some_iff.1 h.at_).1
  obtain ⟨q1, q2, q3, -⟩ := h.second (y := z) (yv := zv) (m := W.heap.size) hf hel (hz _ _)
  have ht := (Touched.alloc W fb (.cells zx 43)).setsNew (Nat.le_refl _) zv.toList 0
  refine ⟨q1, q2, g.touched hf q2.st.rd ht, q3, h.inx.keep fun b hb hs => ⟨⟨hs.1, by omega⟩, ?_⟩, g.inx.keep fun b hb hs => ⟨⟨hs.1, by omega⟩, ?_⟩⟩
  all_goals exact (heap_setCells_ne (by omega) _ _ _).trans (Below.heap_alloc _ _ _ hb)
end
/-- The contract of apply. -/
def DApC (fb : Nat) (s : ByteArray) (n : Nat) : Prop := ∀ (st : FS) (w : World), DR w fb s st → st.left s ≤ n → Calls Tryz.prog 70 #[.pointer (some ⟨fb, 0, none⟩)] w fun e w' => DQ w fb s (applyF s n (exprN s n) st).2 (DX w (applyF s n (exprN s n) st).1) e w'
section
variable {fb : Nat} {s : ByteArray} {w : World} {st : FS}
attribute [local go_sem ↓] ld43_eq st43_eq
set_option maxRecDepth 100000 in
set_option maxHeartbeats 4000000 in
theorem dequal_calls (n : Nat) (hap : DApC fb s n) (h : DR w fb s st) (hl : st.left s ≤ n) :
    Calls Tryz.prog 50 #[.pointer (some ⟨fb, 0, none⟩)] w fun e w' => DQ w fb s (equalF s n (exprN s n) st).2 (DX w (equalF s n (exprN s n) st).1) e w' := by
  have hlt := h.lt
  have hA0 := ASt.start h
  have KA := hide (hap st _ hA0.rd hl)
  have hfw := applyF_fwd (s := s) (n := n) (exprN_fwd n) st h.ok
  have HLe : Hid ((applyF s n (exprN s n) st).2.left s ≤ n) := hide (Nat.le_trans hfw.left hl)
  have HOk := hide hfw.ok
  have HV := hide hA0
  obtain ⟨fin, hfin⟩ : ∃ fin, fin = equalF s n (exprN s n) st := ⟨_, rfl⟩
  rw [← hfin]
  unfold equalF at hfin
  simp only at hfin
  have HFi : Hid (fin = if (applyF s n (exprN s n) st).2.is sEq = true then (appX (applyF s n (exprN s n) st).2.t.at_ (appX (applyF s n (exprN s n) st).2.t.at_ (eqX (applyF s n (exprN s n) st).2.t.at_) (applyF s n (exprN s n) st).1) (applyF s n (exprN s n) ((applyF s n (exprN s n) st).2.step s)).1, (applyF s n (exprN s n) ((applyF s n (exprN s n) st).2.step s)).2) else ((applyF s n (exprN s n) st).1, (applyF s n (exprN s n) st).2)) := hide hfin
  clear h hl hfw hA0 hfin
  generalize (applyF s n (exprN s n) st).1 = x at *
  generalize (applyF s n (exprN s n) st).2 = st1 at *
  go_enter Tryz.func50, Tryz.ntmps50
  go_upto_region 1 with fail
  generalize w.alloc (.cells zx 43) = W0 at *
  go_upto_region 2 with (go_at_call 70; refine KA.out.mono ?_; rintro e W1 ⟨⟨xv, rfl, hx⟩, hd, hT⟩; have HB := hide (BSt.make (HV.out.touched hlt hd hT) hlt HV.out.lt hx); have ST := HB.out.1; clear hx hd hT)
  have hB := HB.out.2
  clear ST HB KA HV
  generalize (W1.alloc (.cells zx 43)).setCells W1.heap.size 0 xv.toList = W2 at *
  generalize W1.heap.size = eb at *
  obtain ⟨d0, d1, d2, d3, d4, d5, d6, df⟩ := hB.st.rd.cells
  by_cases hq : st1.is sEq = true
  · have HF2 : Hid (fin = (appX st1.t.at_ (appX st1.t.at_ (eqX st1.t.at_) x) (applyF s n (exprN s n) (st1.step s)).1, (applyF s n (exprN s n) (st1.step s)).2)) := hide (by rw [HFi.out, if_pos hq])
    have hkd := (FS.is_kd hq).2.1
    have hlef := FS.step_left HOk.out (FS.is_kd hq).1 (by omega) (by omega)
    have HAp : Hid (∀ W, DR W fb s (st1.step s) → Calls Tryz.prog 70 #[.pointer (some ⟨fb, 0, none⟩)] W fun e w' => DQ W fb s (applyF s n (exprN s n) (st1.step s)).2 (DX W (applyF s n (exprN s n) (st1.step s)).1) e w') := hide (fun W hW => hap _ W hW (by have := HLe.out; omega))
    have KQ := hide (hB.yes hlt hq)
    clear hq hkd hlef hap HFi HLe HOk hB
    generalize (applyF s n (exprN s n) (st1.step s)).1 = y at *
    generalize (applyF s n (exprN s n) (st1.step s)).2 = st3 at *
    generalize st1.step s = st2 at *
    generalize st1.t.at_ = ta at *
    go_upto_region 6 with (go_at_call 28; refine KQ.out.mono ?_; rintro e W3 ⟨rfl, hB3⟩; have HB3 := hide hB3; clear hB3)
    have KE2 := hide (HAp.out W3 HB3.out.st.rd)
    have HEV : Hid (eb < W3.heap.size) := hide (Array.getElem?_eq_some_iff.1 HB3.out.at_).1
    clear KQ HAp d0 d1 d2 d3 d4 d5 d6 df
    go_upto_region 7 with (go_at_call 70; refine KE2.out.mono ?_; rintro e W4 ⟨⟨yv, rfl, hy⟩, hd, hT⟩; have HB4 := hide ((HB3.out.touched hlt hd hT).second hlt HEV.out hy); have ST := HB4.out.1; clear hy hd hT)
    have HB5 := hide HB4.out.2.1
    have HC5 := hide HB4.out.2.2.1
    clear ST HB4 KE2 HEV HB3
    generalize (W4.alloc (.cells zx 43)).setCells W4.heap.size 0 yv.toList = W5 at *
    generalize W4.heap.size = tb at *
    have HT5 := hide (HB5.out.third HC5.out hlt (fun W S => eq_in W S ta))
    have ST := HT5.out.1
    go_upto_region 8 with fail
    have hB6 := HT5.out.2.1
    have hC6 := HT5.out.2.2.1
    have hQ6 := HT5.out.2.2.2.1
    have hX6 := HT5.out.2.2.2.2.1
    have hY6 := HT5.out.2.2.2.2.2
    have hqt : tb ≠ W5.heap.size := Nat.ne_of_lt (Array.getElem?_eq_some_iff.1 HC5.out.at_).1
    clear ST HT5 HB5 HC5
    generalize (W5.alloc (.cells zx 43)).setCells W5.heap.size 0 (eqC ta).toList = W6 at *
    generalize W5.heap.size = qb at *
    have L1 := hQ6.load
    have L2 := hB6.load
    have P6 := hQ6.pair4 hlt hX6 ta
    have hY7 : InX ((W6.alloc (.cells (eqC ta ++ xv) 43)).setCells qb 0 (xcs 4 (ta : Nat) ⟨#[]⟩ false false false false nilV (.slice (some ⟨W6.heap.size, 0, none⟩) 2 2)).toList) (fun b => w.heap.size < b) y yv := hY6.keep fun b hb hs => ⟨hs.1, (heap_setCells_ne hs.2 _ _ _).trans (Below.heap_alloc _ _ _ hb)⟩
    have hC7 : ((W6.alloc (.cells (eqC ta ++ xv) 43)).setCells qb 0 (xcs 4 (ta : Nat) ⟨#[]⟩ false false false false nilV (.slice (some ⟨W6.heap.size, 0, none⟩) 2 2)).toList).heap[tb]? = some (.cells yv 43 (0, 0)) := (heap_setCells_ne hqt _ _ _).trans ((Below.heap_alloc _ _ _ (Array.getElem?_eq_some_iff.1 hC6.at_).1).trans hC6.at_)
    obtain ⟨k1, a1, n1, e1, g1, i1, m1, A1, l1, c1, B1, r1, d1, rfl⟩ := hX6.cells
    have hcat : (eqC ta ++ xcs k1 a1 n1 e1 g1 i1 m1 (.slice A1 l1 c1) (.slice B1 r1 d1)) = #[.int .i64 1, .int .i64 (ta : Nat), .string wEq, .bool false, .bool false, .bool true, .bool false, nilV, nilV, .int .i64 k1, .int .i64 a1, .string n1, .bool e1, .bool g1, .bool i1, .bool m1, .slice A1 l1 c1, .slice B1 r1 d1] := by simp
    rw [hcat] at P6 hY7 hC7
    have ST := P6.1
    have HQ7 := hide P6.2
    have HY7 := hide hY7
    have HC7 := hide hC7
    clear P6 hB6 hC6 hQ6 hX6 hY6 hY7 hC7 hqt hcat
    go_upto_region 9 with fail
    clear ST L1 L2
    generalize World.setCells _ qb 0 _ = W7 at *
    generalize W6.heap.size = sb at *
    have L1 := HQ7.out.load
    have L2 := ld43_run (block_range HC7.out) HY7.out.size
    have hX8 : InX (W7.alloc (.cells (xcs 4 (ta : Nat) ⟨#[]⟩ false false false false nilV (.slice (some ⟨sb, 0, none⟩) 2 2) ++ yv) 43)) (fun b => w.heap.size < b) (appX ta (appX ta (eqX ta) x) y) (xcs 4 (ta : Nat) ⟨#[]⟩ false false false false nilV (.slice (some ⟨W7.heap.size, 0, none⟩) 2 2)) :=
      InX.of (LvsIn.nil _ _ _) (two_xs rfl (HQ7.out.inx.mono fun b hb => hb.1) HY7.out HQ7.out.st.lt)
    obtain ⟨k2, a2, n2, e2, g2, i2, m2, A2, l2, c2, B2, r2, d2, rfl⟩ := HY7.out.cells
    have hcat2 : (xcs 4 (ta : Nat) ⟨#[]⟩ false false false false nilV (.slice (some ⟨sb, 0, none⟩) 2 2) ++ xcs k2 a2 n2 e2 g2 i2 m2 (.slice A2 l2 c2) (.slice B2 r2 d2)) = #[.int .i64 4, .int .i64 (ta : Nat), .string ⟨#[]⟩, .bool false, .bool false, .bool false, .bool false, nilV, .slice (some ⟨sb, 0, none⟩) 2 2, .int .i64 k2, .int .i64 a2, .string n2, .bool e2, .bool g2, .bool i2, .bool m2, .slice A2 l2 c2, .slice B2 r2 d2] := by simp
    rw [hcat2] at hX8
    have hA8 := HQ7.out.st.alloc hlt (.cells #[.int .i64 4, .int .i64 (ta : Nat), .string ⟨#[]⟩, .bool false, .bool false, .bool false, .bool false, nilV, .slice (some ⟨sb, 0, none⟩) 2 2, .int .i64 k2, .int .i64 a2, .string n2, .bool e2, .bool g2, .bool i2, .bool m2, .slice A2 l2 c2, .slice B2 r2 d2] 43)
    have ST := hA8.stor hX8
    have HX8 := hide hX8
    have HA8 := hide hA8
    clear hX8 hA8 hcat2 HQ7 HY7 HC7
    go_wp2_with fail
    rw [HF2.out]
    exact HA8.out.ret hlt HX8.out rfl rfl
  · have hq' : st1.is sEq = false := by simpa using hq
    have HF2 : Hid (fin = (x, st1)) := hide (by rw [HFi.out, if_neg hq])
    have KQ := hide (hB.not hlt hq')
    clear hq hq' HFi hap HLe HOk hB
    go_wp2_with (go_at_call 28; refine KQ.out.mono ?_; rintro e W3 ⟨rfl, hB3⟩; have LD := hB3.load; have ST := hB3.stor; have HB3 := hide hB3; clear hB3)
    rw [HF2.out]
    exact HB3.out.st.ret hlt (HB3.out.inx.mono fun b hb => hb.1) rfl rfl
end
end Go.Proofs.YtekfledccpeblaaGreatDoor

/- The document's atom, whole. -/
namespace Go.Proofs.YtekfledccpeblaaGreatDoor
open Go.RowKit

theorem datom_all {fb : Nat} {s : ByteArray} (n : Nat) (hn : n ≤ 900000) (ih : DExC fb s n) : DAtC fb s n := fun st w h hl => by
  by_cases hn1 : st.kin 1 = true ∨ st.is sAt = true
  · by_cases hq : ((if st.is sAt = true then st.step s else st).name s).2.is sLevels = true
    · exact datom_levels n hn h hl hn1 hq
    · exact datom_name n h hn1 (by simpa using hq)
  · have h1 : st.kin 1 = false := by cases e : st.kin 1 with | false => rfl | true => exact absurd (.inl e) hn1
    have h2 : st.is sAt = false := by cases e : st.is sAt with | false => rfl | true => exact absurd (.inr e) hn1
    cases n0 : st.is sHole with
    | true => exact datom_hole n h h1 h2 n0
    | false =>
      cases n1 : st.is wProp with
      | true => exact datom_prop n h h1 h2 n0 n1
      | false =>
        cases n2 : st.is wType with
        | true => exact datom_type n h h1 h2 n0 n1 n2
        | false =>
          cases n3 : st.is wSort with
          | true => exact datom_sort n h h1 h2 n0 n1 n2 n3 hl hn
          | false =>
            cases n4 : st.is sOpen with
            | true =>
              cases hq : (exprN s n (st.step s)).2.is sColon with
              | true => exact datom_ascribed n ih h h1 h2 n0 n1 n2 n3 n4 hl hq
              | false => exact datom_bracket n ih h h1 h2 n0 n1 n2 n3 n4 hl hq
            | false => exact datom_none n h h1 h2 n0 n1 n2 n3 n4
theorem dapply_all {fb : Nat} {s : ByteArray} (n : Nat) (hn : n ≤ 900000) (ih : DExC fb s n) : DApC fb s n := fun _ _ h hl => dapply_calls n (datom_all n hn ih) h hl
end Go.Proofs.YtekfledccpeblaaGreatDoor

/- Rows that grow while the document's reader reads; the rows of its groups. No walk. -/
namespace Go.Proofs.YtekfledccpeblaaGreatDoor
open Go.RowKit

section
variable {α : Type} {P : World → (Nat → Prop) → α → Value → Prop} {T z : Nat} {fb : Nat} {s : ByteArray}
/-- While parts are read. -/
structure Ro (P : World → (Nat → Prop) → α → Value → Prop) (T z : Nat) (w : World) (fb : Nat) (s : ByteArray) (l : List α) (st : FS) (A : Option Addr) (c : Nat) (ys : List Value) (W : World) : Prop where
  row : GRow (KL P l) W T z 0 w.heap.size l.length (.slice A l.length c) ys
  rd : DR W fb s st
  old : Touched w fb W
  lt : fb < w.heap.size
theorem Ro.nil {w W : World} {st : FS} (hR : DR W fb s st) (hT : Touched w fb W) (hlt : fb < w.heap.size) : Ro P T z w fb s [] st none 0 [] W := ⟨GRow.start _ _ _ _ _ _, hR, hT, hlt⟩
theorem Ro.touched (hP : Keep1 P) {w : World} {l : List α} {st st' : FS} {A : Option Addr} {c : Nat} {ys : List Value} {W W' : World} (h : Ro P T z w fb s l st A c ys W) (hR : DR W' fb s st') (hT : Touched W fb W') : Ro P T z w fb s l st' A c ys W' :=
  ⟨h.row.touched (KL.keeps hP _) hT h.lt, hR, h.old.trans hT, h.lt⟩
theorem Ro.snoc (hP : Keep1 P) {w W W4 w6 : World} {l : List α} {st st2 : FS} {A : Option Addr} {c : Nat} {ys : List Value} {x : α} {a : Array Value} {o : Obj} {rv : Value} (h : Ro P T z w fb s l st A c ys W) (hR : DR W4 fb s st2) (hT : Touched W fb W4) (hx : P W4 (fun b => W.heap.size ≤ b) x (.agg a)) (ha : a.size = z)
    (hown : w6.ownsRow w.heap.size T z rv (l.length + 1) (flat ys ++ a.toList)) (hgr : (W4.alloc o).grownBy w6 (Value.slice A l.length c).ownBlock) (hpl : rv.ownBlock = (Value.slice A l.length c).ownBlock ∨ rv.ownBlock = some (W4.alloc o).heap.size) :
    ∃ A6 c6, rv = .slice A6 (l.length + 1) c6 ∧ Ro P T z w fb s (l ++ [x]) st2 A6 c6 (ys ++ [.agg a]) w6 := by
  have hlt := h.lt
  have hz3 := h.old.size
  have hz4 := hT.size
  have hG := GRow.snoc hP h.row hT hlt hz3 hx ha hown hgr hpl
  obtain ⟨A6, c6, hv6⟩ := own_row_slice hown
  subst hv6
  refine ⟨A6, c6, rfl, ?_⟩
  have hT6 : Touched w fb w6 := by
    refine ⟨hgr.os.trans (hT.os.trans h.old.os), hgr.tape.trans (hT.tape.trans h.old.tape), hgr.output.trans (hT.output.trans h.old.output), by have := hgr.size; simp at this; omega, fun b hb hne => ?_⟩
    rw [hgr.block b (by simp; omega) (fun e => by have := (h.row.own.lt _ e.symm).1; omega), Below.heap_alloc _ _ _ (by omega), hT.block b (by omega) hne]
    exact h.old.block b hb hne
  refine ⟨by have := hG; simpa using this, hR.of_block ?_, hT6, hlt⟩
  rw [hgr.block fb (by simp; omega) (fun e => by have := (h.row.own.lt _ e.symm).1; omega), Below.heap_alloc _ _ _ hR.lt]
theorem Ro.more (hP : Keep1 P) {w W w6 : World} {l l' : List α} {st : FS} {A : Option Addr} {c : Nat} {ys news : List Value} {rv : Value} (h : Ro P T z w fb s l st A c ys W) (hlen : news.length = l'.length) (hf : ∀ i (hi : i < news.length), ∃ a : Array Value, news[i] = .agg a ∧ a.size = z)
    (hx : ∀ j (hj : j < l'.length), P W (fun b => w.heap.size ≤ b ∧ (Value.slice A l.length c).ownBlock ≠ some b) l'[j] (news[j]'(by omega)))
    (hown : w6.ownsRow w.heap.size T z rv (l.length + l'.length) (flat ys ++ flat news)) (hgr : W.grownBy w6 (Value.slice A l.length c).ownBlock) (hpl : rv.ownBlock = (Value.slice A l.length c).ownBlock ∨ rv.ownBlock = some W.heap.size) :
    ∃ A6 c6, rv = .slice A6 (l.length + l'.length) c6 ∧ Ro P T z w fb s (l ++ l') st A6 c6 (ys ++ news) w6 := by
  have hlt := h.lt
  have hz := h.old.size
  have h1 : GRow (KL P (l ++ l')) W T z 0 w.heap.size l.length (.slice A l.length c) ys := h.row.imp fun S j v hj ⟨hj', hv⟩ => ⟨by simp; omega, by rw [List.getElem_append_left hj']; exact hv⟩
  have hG := GRow.more (KL.keeps hP _) h1 hf (fun j hj => ⟨by simp; omega, by
    have e1 : (l ++ l')[l.length + j]'(by simp; omega) = l'[j] := by rw [List.getElem_append_right (by omega)]; simp
    rw [e1]
    exact hx j (by omega)⟩) (by rw [hlen]; exact hown) hgr hpl
  obtain ⟨A6, c6, hv6⟩ := own_row_slice hown
  subst hv6
  refine ⟨A6, c6, rfl, ?_⟩
  have hT6 : Touched w fb w6 := by
    refine ⟨hgr.os.trans h.old.os, hgr.tape.trans h.old.tape, hgr.output.trans h.old.output, Nat.le_trans hz hgr.size, fun b hb hne => ?_⟩
    rw [hgr.block b (by omega) (fun e => by have := (h.row.own.lt _ e.symm).1; omega)]
    exact h.old.block b hb hne
  refine ⟨by have := hG; rw [hlen] at this; simpa using this, h.rd.of_block ?_, hT6, hlt⟩
  exact hgr.block fb h.rd.lt (fun e => by have := (h.row.own.lt _ e.symm).1; omega)
end
section
variable {fb : Nat} {s : ByteArray}
/-- Binders are put behind those that were read. -/
theorem Ro.binders {w W w6 : World} {l l' : List Bd} {st : FS} {A : Option Addr} {c : Nat} {ys : List Value} {rv : Value} {vals : Nat → Array Value} (h : Ro BdP 89 12 w fb s l st A c ys W) {m : Nat} (hm : m = l'.length) (hz : ∀ i, i < l'.length → (vals i).size = 12 ∧ (vals i).all (·.oneCell') = true)
    {n1 : Nat} (hn1 : w.heap.size ≤ n1) (ho : ∀ g, (Value.slice A l.length c).ownBlock = some g → g < n1) (hx : ∀ i (hi : i < l'.length), BdP W (fun b => n1 ≤ b) l'[i] (.agg (vals i)))
    (hown : w6.ownsRow w.heap.size 89 12 rv (l.length + m) (flat ys ++ flat ((List.range m).map fun i => .agg (vals i)))) (hgr : W.grownBy w6 (Value.slice A l.length c).ownBlock) (hpl : rv.ownBlock = (Value.slice A l.length c).ownBlock ∨ rv.ownBlock = some W.heap.size) :
    ∃ A6 c6, rv = .slice A6 (l ++ l').length c6 ∧ Ro BdP 89 12 w fb s (l ++ l') st A6 c6 (ys ++ (List.range m).map fun i => .agg (vals i)) w6 := by
  subst hm
  obtain ⟨A6, c6, e6, h6⟩ := Ro.more keep_BdP (l' := l') (news := (List.range l'.length).map fun i => .agg (vals i)) (rv := rv) (w6 := w6) h (by simp) (fun i hi => ⟨vals i, by simp, (hz i (by simpa using hi)).1⟩) (fun i hi => by
    have e : ((List.range l'.length).map fun i => Value.agg (vals i))[i]'(by simpa using hi) = .agg (vals i) := by simp
    rw [e]
    exact keep_BdP _ _ _ _ _ _ (fun b _ hb => ⟨⟨by have : n1 ≤ b := hb; omega, fun eo => by have := ho b eo; have : n1 ≤ b := hb; omega⟩, rfl⟩) (hx i hi)) hown hgr hpl
  exact ⟨A6, c6, by rw [e6]; simp, h6⟩
/-- A binder of a group, with a type that is not there yet, or with that one. -/
abbrev gbV (im : Bool) (xv : Array Value) (y : ByteArray × Nat) : Value := .agg (bcs y.1 im xv (y.2 : Nat))
/-- A group's row: the first of them have their type. -/
structure Gp (w : World) (fb : Nat) (s : ByteArray) (im : Bool) (xv : Array Value) (n1 n2 : List (ByteArray × Nat)) (N : Nat) (st : FS) (A : Option Addr) (c : Nat) (W : World) : Prop where
  own : W.ownsRow w.heap.size 89 12 (.slice A N c) N (flat (n1.map (gbV im xv) ++ n2.map (gbV im zx)))
  len : n1.length + n2.length = N
  rd : DR W fb s st
  old : Touched w fb W
  lt : fb < w.heap.size
theorem Gp.touched {w W W' : World} {im : Bool} {xv : Array Value} {n1 n2 : List (ByteArray × Nat)} {N : Nat} {st st' : FS} {A : Option Addr} {c : Nat} (h : Gp w fb s im xv n1 n2 N st A c W) (hR : DR W' fb s st') (hT : Touched W fb W') : Gp w fb s im xv n1 n2 N st' A c W' :=
  ⟨h.own.kept (row := some fb) hT (.inr fun e => by have := (h.own.lt _ e).1; have := h.lt; omega), h.len, hR, h.old.trans hT, h.lt⟩
theorem Gp.start {w W : World} {im : Bool} {xv : Array Value} {st : FS} (hR : DR W fb s st) (hT : Touched w fb W) (hlt : fb < w.heap.size) : Gp w fb s im xv [] [] 0 st none 0 W := ⟨World.ownsRow_nil _ _ _ _, rfl, hR, hT, hlt⟩
theorem Gp.snoc {w W W4 w6 : World} {im : Bool} {xv : Array Value} {n2 : List (ByteArray × Nat)} {N : Nat} {st st' : FS} {A : Option Addr} {c : Nat} {y : ByteArray × Nat} {o : Obj} {rv : Value} (h : Gp w fb s im xv [] n2 N st A c W) (hR : DR W4 fb s st') (hT : Touched W fb W4)
    (hown : w6.ownsRow w.heap.size 89 12 rv (N + 1) (flat (([] : List (ByteArray × Nat)).map (gbV im xv) ++ n2.map (gbV im zx)) ++ (bcs y.1 im zx (y.2 : Nat)).toList)) (hgr : (W4.alloc o).grownBy w6 (Value.slice A N c).ownBlock) :
    ∃ A6 c6, rv = .slice A6 (N + 1) c6 ∧ Gp w fb s im xv [] (n2 ++ [y]) (N + 1) st' A6 c6 w6 := by
  obtain ⟨A6, c6, hv6⟩ := own_row_slice hown
  subst hv6
  have hlt := h.lt
  have hz := h.old.size
  have hz4 := hT.size
  have hz6 := hgr.size
  simp at hz6
  have hb6 : ∀ b, b < w.heap.size → w6.heap[b]? = W4.heap[b]? := fun b hb => by
    rw [hgr.block b (by simp; omega) (fun e => by have := (h.own.lt _ e.symm).1; omega)]
    exact Below.heap_alloc _ _ _ (by omega)
  refine ⟨A6, c6, rfl, ⟨?_, by have := h.len; simp at this ⊢; omega, hR.of_block (hb6 fb hlt), ?_, hlt⟩⟩
  · have e : flat (([] : List (ByteArray × Nat)).map (gbV im xv) ++ (n2 ++ [y]).map (gbV im zx)) = flat (([] : List (ByteArray × Nat)).map (gbV im xv) ++ n2.map (gbV im zx)) ++ (bcs y.1 im zx (y.2 : Nat)).toList := by
      simp only [List.map_nil, List.nil_append, List.map_append, flat_append]
      simp [flat]
    rw [e]
    exact hown
  · exact ⟨hgr.os.trans (hT.os.trans h.old.os), hgr.tape.trans (hT.tape.trans h.old.tape), hgr.output.trans (hT.output.trans h.old.output), by omega, fun b hb hne => by rw [hb6 b hb, hT.block b (by omega) hne]; exact h.old.block b hb hne⟩
/-- Cells stored over some of a row. -/
theorem ownsRow_mid {base e size g n cap : Nat} : ∀ (vs zs xs r : List Value) (w : World), vs.length = zs.length → w.ownsRow base e size (.slice (some ⟨g, 0, none⟩) n cap) n (xs ++ (zs ++ r)) →
    (w.setCells g xs.length vs).ownsRow base e size (.slice (some ⟨g, 0, none⟩) n cap) n (xs ++ (vs ++ r)) ∧ w.grownBy (w.setCells g xs.length vs) (some g)
  | [], zs, xs, r, w, hl, h => by
    have : zs = [] := List.length_eq_zero_iff.1 hl.symm
    subst this
    exact ⟨h, World.grownBy.refl _ _⟩
  | v :: vs, [], xs, r, w, hl, h => by simp at hl
  | v :: vs, z :: zs, xs, r, w, hl, h => by
    obtain ⟨h1, h3⟩ := h.stored xs.length v
    have e1 : (xs ++ (z :: zs ++ r)).set xs.length v = (xs ++ [v]) ++ (zs ++ r) := by simp
    rw [e1] at h1
    obtain ⟨h2, h4⟩ := ownsRow_mid vs zs (xs ++ [v]) r _ (by simpa using hl) h1
    have e2 : (xs ++ [v]).length = xs.length + 1 := by simp
    rw [e2] at h2 h4
    refine ⟨?_, Touched.trans (m := g) h3 h4⟩
    rw [show xs ++ (v :: vs ++ r) = xs ++ [v] ++ (vs ++ r) by simp]
    exact h2
theorem gb_len (im : Bool) {xv : Array Value} (hx : xv.size = 9) : ∀ n : List (ByteArray × Nat), (flat (n.map (gbV im xv))).length = n.length * 12
  | [] => rfl
  | y :: n => by
    have := gb_len im hx n
    simp only [List.map_cons, flat, List.length_append, this, List.length_cons]
    simp [hx]
    omega
/-- Where the row lies. -/
theorem Gp.block {w W : World} {im : Bool} {xv : Array Value} {n1 n2 : List (ByteArray × Nat)} {N : Nat} {st : FS} {A : Option Addr} {c : Nat} (h : Gp w fb s im xv n1 n2 N st A c W) (hN : 0 < N) : ∃ g, A = some ⟨g, 0, none⟩ ∧ w.heap.size ≤ g ∧ g < W.heap.size := by
  rcases h.own.2 with ⟨_, e⟩ | ⟨g, cap, cur, e, hb, hg, -⟩
  · omega
  · injection e with e1
    exact ⟨g, e1, hb, (Array.getElem?_eq_some_iff.1 hg).1⟩
/-- One more gets its type. -/
theorem Gp.typed {w W : World} {im : Bool} {xv : Array Value} {n1 n2 : List (ByteArray × Nat)} {y : ByteArray × Nat} {N : Nat} {st : FS} {g : Nat} {c : Nat} (h : Gp w fb s im xv n1 (y :: n2) N st (some ⟨g, 0, none⟩) c W) (hx : xv.size = 9) :
    W.there g (n1.length * 12 + 2) 9 ∧ Gp w fb s im xv (n1 ++ [y]) n2 N st (some ⟨g, 0, none⟩) c (W.setCells g (n1.length * 12 + 2) xv.toList) ∧ Touched W g (W.setCells g (n1.length * 12 + 2) xv.toList) := by
  have hN := h.len
  simp at hN
  have hb : w.heap.size ≤ g := by
    obtain ⟨g', e, hb, _⟩ := h.block (by omega)
    injection e with e
    injection e with e
    omega
  have hlt := h.lt
  have e0 : flat (n1.map (gbV im xv) ++ (y :: n2).map (gbV im zx)) = (flat (n1.map (gbV im xv)) ++ [.string y.1, .bool im]) ++ (zx.toList ++ ([.int .i64 (y.2 : Nat)] ++ flat (n2.map (gbV im zx)))) := by
    rw [flat_append]
    simp only [List.map_cons, flat]
    simp
  have e1 : flat ((n1 ++ [y]).map (gbV im xv) ++ n2.map (gbV im zx)) = (flat (n1.map (gbV im xv)) ++ [.string y.1, .bool im]) ++ (xv.toList ++ ([.int .i64 (y.2 : Nat)] ++ flat (n2.map (gbV im zx)))) := by
    rw [flat_append, List.map_append, flat_append]
    simp only [List.map_cons, List.map_nil, flat]
    simp
  have hlen : (flat (n1.map (gbV im xv)) ++ [Value.string y.1, .bool im]).length = n1.length * 12 + 2 := by rw [List.length_append, gb_len im hx]; rfl
  have ho := h.own
  rw [e0] at ho
  obtain ⟨h1, h2⟩ := ownsRow_mid xv.toList zx.toList _ _ W (by simp [hx]) ho
  rw [hlen] at h1 h2
  rw [← e1] at h1
  refine ⟨row_there h.own (by omega), ⟨h1, by simp; omega, h.rd.of_block (h2.block fb h.rd.lt (by simp; omega)), ?_, hlt⟩, h2⟩
  exact ⟨h2.os.trans h.old.os, h2.tape.trans h.old.tape, h2.output.trans h.old.output, Nat.le_trans h.old.size h2.size, fun b hb' hne => (h2.block b (by have := h.old.size; omega) (by simp; omega)).trans (h.old.block b hb' hne)⟩
/-- All have it. -/
theorem Gp.done {w W : World} {im : Bool} {x : Ex} {xv : Array Value} {n1 : List (ByteArray × Nat)} {N : Nat} {st : FS} {A : Option Addr} {c : Nat} (h : Gp w fb s im xv n1 [] N st A c W) (hx : InX W (fun b => w.heap.size ≤ b) x xv) : BdsIn W (fun b => w.heap.size ≤ b) A (n1.map fun y => ⟨y.1, im, x, y.2⟩) := fun i hi => by
  have hN := h.len
  have hi' : i < n1.length := by simpa using hi
  simp at hN
  obtain ⟨g, rfl, hb, _⟩ := h.block (by omega)
  refine ⟨g, xv, rfl, hb, by simpa using hx, fun q hq => ?_⟩
  have ho := h.own
  simp only [List.map_nil, List.append_nil] at ho
  rw [ho.cellAt (i * 12 + q) (by omega)]
  have hsz := hx.size
  rw [flat_get (z := 12) (n1.map (gbV im xv)) i (bcs n1[i].1 im xv (n1[i].2 : Nat)) q (fun k hk => ⟨bcs (n1[k]'(by simpa using hk)).1 im xv ((n1[k]'(by simpa using hk)).2 : Nat), by simp, by simp [hsz]⟩) (by rw [List.getElem?_map, List.getElem?_eq_getElem hi']; rfl) hq]
  simp
end
end Go.Proofs.YtekfledccpeblaaGreatDoor
