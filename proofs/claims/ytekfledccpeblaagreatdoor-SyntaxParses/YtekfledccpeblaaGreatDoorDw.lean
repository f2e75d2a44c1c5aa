/- The contracts of the document's chain, raised. -/
import Derived.Test.YtekfledccpeblaaGreatDoorDf

namespace Go.Proofs.YtekfledccpeblaaGreatDoor
open Go.RowKit

set_option maxRecDepth 100000 in
set_option maxHeartbeats 4000000 in
theorem dchain_calls (l : LvB) (S : Nat → Prop) (k : Int) (nm : ByteArray) (A : Option Addr) (m c : Nat) (w : World) (h : InP w S l (.agg #[.int .i64 k, .string nm, .slice A m c])) (hc : chain l ≤ 1000000) :
    Calls Tryz.prog 107 #[.agg #[.int .i64 k, .string nm, .slice A m c]] w fun e w' => e = .returned (.int .i64 (chain l : Nat)) ∧ Below w.heap.size w w' := by
  have hw1 : Below w.heap.size w (w.alloc (.cells #[.int .i64 k, .string nm, .slice A m c] 96)) := (Below.refl _ _).alloc (Nat.le_refl _) _
  have HI0 : Hid (InP (w.alloc (.cells #[.int .i64 k, .string nm, .slice A m c] 96)) (fun b => b < w.heap.size) l (.agg #[.int .i64 k, .string nm, .slice A m c])) := h.keep fun b hb hs => ⟨hb, hw1.block b hb⟩
  have HB0 : Hid (LBox (w.alloc (.cells #[.int .i64 k, .string nm, .slice A m c] 96)) w.heap.size k nm (.slice A m c)) := heap_alloc_new _ _
  have HW1 := hide hw1
  clear h hw1
  go_enter Tryz.func107, Tryz.ntmps107
  go_wp2_with fail
  go_loopg [3] (chain l) (fun g v wr => ∃ (j : Nat) (x : LvB) (k' : Int) (nm' : ByteArray) (A' : Option Addr) (m' c' : Nat), j + g = chain l ∧ v = .int .i64 (j : Nat) ∧ chain x = g ∧ Hid (LBox wr w.heap.size k' nm' (.slice A' m' c')) ∧ Hid (InP wr (fun b => b < w.heap.size) x (.agg #[.int .i64 k', .string nm', .slice A' m' c'])) ∧ Hid (Below w.heap.size w wr))
  case atStart => exact ⟨0, l, k, nm, A, m, c, by omega, rfl, rfl, HB0.out, HI0.out, HW1.out⟩
  case round =>
    clear HB0 HI0 HW1
    obtain ⟨j, x, k', nm', A', m', c', hjg, rfl, hcx, HB, HI, HW⟩ := hrel
    have c0 := HB.out.c0
    have c1 := HB.out.c1
    have c2 := HB.out.c2
    have cf := HB.out.f
    have cl := HB.out.lt
    have hcase : (∃ (y : LvB) (b cap : Nat) (v : Value), x = .succ y ∧ k' = 1 ∧ A' = some ⟨b, 0, none⟩ ∧ m' = 1 ∧ b < w.heap.size ∧ Three wr b 0 v ∧ InP wr (fun b => b < w.heap.size) y v) ∨ (k' ≠ 1 ∧ chain x = 0) := by
      have hI := HI.out
      cases x with
      | zero => injection hI with hI; simp at hI; exact .inr ⟨by rw [hI.1]; decide, rfl⟩
      | param p => injection hI with hI; simp at hI; exact .inr ⟨by rw [hI.1]; decide, rfl⟩
      | succ y =>
        obtain ⟨b, cap, v, e, hb, h3, hy⟩ := hI
        injection e with e
        simp at e
        exact .inl ⟨y, b, cap, v, rfl, e.1, e.2.2.1, e.2.2.2.1, hb, h3, hy⟩
      | max y z => obtain ⟨b, cap, v, u, e, _⟩ := hI; injection e with e; simp at e; exact .inr ⟨by rw [e.1]; decide, rfl⟩
      | imax y z => obtain ⟨b, cap, v, u, e, _⟩ := hI; injection e with e; simp at e; exact .inr ⟨by rw [e.1]; decide, rfl⟩
    rcases hcase with ⟨y, b, cap, v, rfl, rfl, rfl, rfl, hb, ⟨k2, nm2, A2, n2, c2', rfl, d0, d1, d2⟩, hy⟩ | ⟨hk, h0⟩
    · have HY := hide hy
      have hcy : chain y + 1 = gk := hcx
      rw [Nat.zero_add] at d1 d2
      have hne : ¬ b = w.heap.size := by omega
      clear hy
      go_wp2_with fail
      go_roundg (chain y)
      case measure => omega
      case rel =>
        refine ⟨j + 1, y, k2, nm2, A2, n2, c2', by omega, by go_num, rfl, HB.out.set3 _ _ _, InP.set3 HY.out (fun b _ hb => ⟨hb, by omega⟩), set3_below (Nat.le_refl _) HW.out⟩
    · have e1 : (k' == 1) = false := by simpa using hk
      have hg0 : gk = 0 := by omega
      clear hk
      go_wp2_with fail
      go_ret
      exact ⟨ret_int (by omega), HW.out⟩


theorem Tryz.size96' : (Tryz.prog.info? 96).map (·.size) = some 3 := by kernel_rfl
/-- While successors are put on: the level's variable, the result's. -/
structure RaSt (w : World) (fb : Nat) (s : ByteArray) (S : Nat → Prop) (x : LvB) (k : Int) (nm : ByteArray) (A : Option Addr) (m c : Nat) (st : FS) (W : World) : Prop where
  box : LBox W w.heap.size k nm (.slice A m c)
  res : LBox W (w.heap.size + 1) 0 ⟨#[]⟩ (.slice none 0 0)
  inp : InP W (fun b => (S b ∧ b < w.heap.size) ∨ w.heap.size + 2 ≤ b) x (.agg #[.int .i64 k, .string nm, .slice A m c])
  rd : DR W fb s st
  old : Touched w fb W
section
variable {w W W' : World} {fb : Nat} {s : ByteArray} {S : Nat → Prop} {x : LvB} {k : Int} {nm : ByteArray} {A : Option Addr} {m c : Nat} {st st' : FS}
theorem RaSt.lt (h : RaSt w fb s S x k nm A m c st W) : w.heap.size + 1 < W.heap.size := h.res.lt
theorem RaSt.touched (h : RaSt w fb s S x k nm A m c st W) (hf : fb < w.heap.size) (hS : ∀ b, S b → b ≠ fb) (hR : DR W' fb s st') (hT : Touched W fb W') : RaSt w fb s S x k nm A m c st' W' :=
  ⟨h.box.of_block (hT.at h.box.lt (by omega)), h.res.of_block (hT.at h.res.lt (by omega)), h.inp.keep fun b hb hs => ⟨hs, hT.at hb (by rcases hs with hs | hs; exact hS b hs.1; omega)⟩, hR, h.old.trans hT⟩
/-- One successor more. -/
theorem RaSt.up (h : RaSt w fb s S x k nm A m c st W) (hf : fb < w.heap.size) : RaSt w fb s S (.succ x) 1 ⟨#[]⟩ (some ⟨W.heap.size, 0, none⟩) 1 1 st ((set3 W w.heap.size (.int .i64 1) (.string ⟨#[]⟩) (.slice (some ⟨W.heap.size, 0, none⟩) 1 1)).alloc (.cells #[.int .i64 k, .string nm, .slice A m c] 96)) := by
  have hl := h.lt
  have hz : (set3 W w.heap.size (.int .i64 1) (.string ⟨#[]⟩) (.slice (some ⟨W.heap.size, 0, none⟩) 1 1)).heap.size = W.heap.size := set3_size
  have hk : ∀ b, b < W.heap.size → b ≠ w.heap.size → ((set3 W w.heap.size (.int .i64 1) (.string ⟨#[]⟩) (.slice (some ⟨W.heap.size, 0, none⟩) 1 1)).alloc (.cells #[.int .i64 k, .string nm, .slice A m c] 96)).heap[b]? = W.heap[b]? := fun b hb hne => by rw [Below.heap_alloc _ _ _ (by omega), set3_block hne]
  have hnew := heap_alloc_new (set3 W w.heap.size (.int .i64 1) (.string ⟨#[]⟩) (.slice (some ⟨W.heap.size, 0, none⟩) 1 1)) (.cells #[.int .i64 k, .string nm, .slice A m c] 96)
  rw [hz] at hnew
  refine ⟨(h.box.set3 1 ⟨#[]⟩ _).of_block (Below.heap_alloc _ _ _ (by omega)), h.res.of_block (hk _ (by omega) (by omega)), ?_, h.rd.of_block (hk fb h.rd.lt (by omega)), (set3_touched (Nat.le_refl _) h.old).trans (Touched.alloc _ _ _)⟩
  refine ⟨W.heap.size, 1, .agg #[.int .i64 k, .string nm, .slice A m c], rfl, .inr (by omega), three_at hnew, ?_⟩
  exact h.inp.keep fun b hb hs => ⟨hs, hk b hb (by rcases hs with hs | hs <;> omega)⟩
/-- What is answered: the level as it stands. -/
theorem RaSt.ret (h : RaSt w fb s S x k nm A m c st W) (hf : fb < w.heap.size) {tmps : Array Value} {F : Func} {p : Tmp} (hF : F.results = #[.cell p 96]) (hp : tmps.getD p undef = .pointer (some ⟨w.heap.size + 1, 0, none⟩)) :
    bodyPost Tryz.prog F (fun e w' => DQ w fb s st (LvR (fun b => S b ∨ w.heap.size ≤ b) x) e w') Exit.ret { tmps := tmps, defers := [] } (set3 W (w.heap.size + 1) (.int .i64 k) (.string nm) (.slice A m c)) := by
  have hr := h.res.set3 k nm (.slice A m c)
  refine bodyPost_ret (results_cell_row hF _ _ (w.heap.size + 1) 96 _ (0, 0) _ hp hr Tryz.underlying96 rfl Tryz.size96') rfl ?_
  refine ⟨⟨k, nm, A, m, c, rfl, h.inp.set3 fun b hb hs => ⟨by rcases hs with hs | hs; exact .inl hs.1; exact .inr (by omega), by rcases hs with hs | hs <;> omega⟩⟩, h.rd.of_block (set3_block (by omega)), set3_touched (by omega) h.old⟩
end
section
variable {fb : Nat} {s : ByteArray}
theorem raised_bad {l : LvB} {st : FS} (h : ¬ st.kin 2 = true) : raised s l st = (l, st.fail) := by unfold raised; rw [if_neg h]
theorem raised_many {l : LvB} {st : FS} (h : st.kin 2 = true) (h9 : 99 < chain l + decV st.t.t) : raised s l st = (l, st.fail) := by unfold raised; rw [if_pos h, if_pos h9]
theorem raised_good {l : LvB} {st : FS} (h : st.kin 2 = true) (h9 : ¬ 99 < chain l + decV st.t.t) : raised s l st = (succN (decV st.t.t) l, st.step s) := by unfold raised; rw [if_pos h, if_neg h9]
set_option maxRecDepth 100000 in
set_option maxHeartbeats 4000000 in
theorem draised_calls (l : LvB) (S : Nat → Prop) (k : Int) (nm : ByteArray) (A : Option Addr) (m c : Nat) (st : FS) (w : World) (h : DR w fb s st) (hI : InP w S l (.agg #[.int .i64 k, .string nm, .slice A m c])) (hS : ∀ b, S b → b ≠ fb) (hch : chain l ≤ 99) :
    Calls Tryz.prog 99 #[.pointer (some ⟨fb, 0, none⟩), .agg #[.int .i64 k, .string nm, .slice A m c], .int .i64 0] w fun e w' => DQ w fb s (raised s l st).2 (LvR (fun b => S b ∨ w.heap.size ≤ b) (raised s l st).1) e w' := by
  have hlt := h.lt
  have hok := h.ok
  have HNum := hide h.num
  have HKin : Hid (st.kin 2 = (st.code == 0 && st.t.kd == 2)) := rfl
  obtain ⟨c0, c1, c2, c3, c4, c5, c6, cf⟩ := h.cells
  -- the three variables
  obtain ⟨W3, hW3⟩ : ∃ W3, W3 = ((w.alloc (.cells #[.int .i64 k, .string nm, .slice A m c] 96)).alloc (.cells #[.int .i64 0, .string ⟨#[]⟩, .slice none 0 0] 96)).alloc (.cells #[.int .i64 (st.t.kd : Nat), .string st.t.t, .int .i64 (st.t.at_ : Nat)] 55) := ⟨_, rfl⟩
  have hB2 : Below w.heap.size w ((w.alloc (.cells #[.int .i64 k, .string nm, .slice A m c] 96)).alloc (.cells #[.int .i64 0, .string ⟨#[]⟩, .slice none 0 0] 96)) := ((Below.refl _ _).alloc (Nat.le_refl _) _).alloc (by simp) _
  have hB3 : Below w.heap.size w W3 := by rw [hW3]; exact hB2.alloc (by simp; omega) _
  have hsz2 : ((w.alloc (.cells #[.int .i64 k, .string nm, .slice A m c] 96)).alloc (.cells #[.int .i64 0, .string ⟨#[]⟩, .slice none 0 0] 96)).heap.size = w.heap.size + 2 := by simp
  have hbt : W3.heap[w.heap.size + 2]? = some (.cells #[.int .i64 (st.t.kd : Nat), .string st.t.t, .int .i64 (st.t.at_ : Nat)] 55 (0, 0)) := by
    rw [hW3, ← hsz2]
    exact heap_alloc_new _ _
  have hs3 : W3.heap.size = w.heap.size + 3 := by rw [hW3]; simp
  have HS3 : Hid (RaSt w fb s S l k nm A m c st W3) := by
    refine ⟨?_, ?_, hI.keep fun b hb hs => ⟨.inl ⟨hs, hb⟩, hB3.block b hb⟩, h.later hB3, Touched.of_below hB3⟩
    · unfold LBox
      rw [hW3, Below.heap_alloc _ _ _ (by omega)]
      exact heap_alloc2_old _ _ _
    · unfold LBox
      rw [hW3, Below.heap_alloc _ _ _ (by omega)]
      exact heap_alloc2_new _ _ _
  have HSS := hide hS
  clear hI h hB2 hB3
  by_cases hk : st.kin 2 = true
  · have hkk := hk
    rw [HKin.out] at hkk
    simp at hkk
    obtain ⟨hdg, hd2⟩ := HNum.out hkk.2
    have q1 : ((st.code : Int) != 0) = false := by rw [hkk.1]; rfl
    have q2 : ((st.t.kd : Int) != 2) = false := by rw [hkk.2]; rfl
    have KN := hide (rnumber_calls st.t.t W3 hdg (by omega))
    have KC := hide (dchain_calls l _ k nm A m c W3 HS3.out.inp (by omega))
    have hd99 : decV st.t.t < 100 := by
      have hl : st.t.t.data.toList.length = st.t.t.size := by rw [Array.length_toList]; rfl
      have h4 := decF_lt st.t.t.data.toList 0 hdg
      unfold decV
      have h5 : 10 ^ st.t.t.data.toList.length ≤ 10 ^ 2 := Nat.pow_le_pow_right (by decide) (by omega)
      omega
    by_cases h99 : 99 < chain l + decV st.t.t
    · rw [raised_many hk h99]
      have q3 : decide ((99 : Int) < (chain l : Int) + (decV st.t.t : Int)) = true := by simp; omega
      clear hk hkk hdg HNum HKin
      generalize decV st.t.t = d at *
      generalize chain l = cl at *
      go_enter Tryz.func99, Tryz.ntmps99
      go_upto_region 2 with fail
      rw [← hW3]
      obtain ⟨d0, d1, d2, d3, d4, d5, d6, df⟩ := HS3.out.rd.cells
      obtain ⟨y0, y1, y2, -⟩ := cells3 hbt
      have a0 := HS3.out.box.c0
      have a1 := HS3.out.box.c1
      have a2 := HS3.out.box.c2
      clear c0 c1 c2 c3 c4 c5 c6 cf hW3 hsz2 hs3
      go_wp2_with (first
        | (go_at_call 51; refine KN.out.mono ?_; rintro e w2 ⟨rfl, rfl⟩)
        | (go_at_call 107; refine KC.out.mono ?_; rintro e w2 ⟨rfl, hB⟩; have HS3' := hide (HS3.out.touched hlt HSS.out (HS3.out.rd.later hB) (Touched.of_below hB)); have KF := hide (dfail_calls HS3'.out.rd); clear hB)
        | (go_at_call 26; refine KF.out.mono ?_; rintro e w3 ⟨rfl, hd, hT⟩; have HS4 := hide (HS3'.out.touched hlt HSS.out hd hT); have b0 := HS4.out.box.c0; have b1 := HS4.out.box.c1; have b2 := HS4.out.box.c2; have r0 := HS4.out.res.c0; have r1 := HS4.out.res.c1; have r2 := HS4.out.res.c2; have rf := HS4.out.res.f; have rl := HS4.out.lt; clear hd hT))
      exact HS4.out.ret hlt rfl rfl
    · rw [raised_good hk h99]
      have q3 : decide ((99 : Int) < (chain l : Int) + (decV st.t.t : Int)) = false := by simp; omega
      clear hk hkk hdg HNum HKin
      generalize decV st.t.t = d at *
      generalize chain l = cl at *
      go_enter Tryz.func99, Tryz.ntmps99
      go_upto_region 2 with fail
      rw [← hW3]
      obtain ⟨d0, d1, d2, d3, d4, d5, d6, df⟩ := HS3.out.rd.cells
      obtain ⟨y0, y1, y2, -⟩ := cells3 hbt
      have a0 := HS3.out.box.c0
      have a1 := HS3.out.box.c1
      have a2 := HS3.out.box.c2
      clear c0 c1 c2 c3 c4 c5 c6 cf hW3 hsz2 hs3
      go_wp2_with (first
        | (go_at_call 51; refine KN.out.mono ?_; rintro e w2 ⟨rfl, rfl⟩)
        | (go_at_call 107; refine KC.out.mono ?_; rintro e w2 ⟨rfl, hB⟩; have HS3' := hide (HS3.out.touched hlt HSS.out (HS3.out.rd.later hB) (Touched.of_below hB)); have KF := hide (dstep_calls HS3'.out.rd); clear hB)
        | (go_at_call 14; refine KF.out.mono ?_; rintro e W4 ⟨rfl, hd, hT⟩; have HS4 := hide (HS3'.out.touched hlt HSS.out hd hT); clear hd hT))
      go_loopg [9] d (fun g v wr => ∃ (j : Nat) (x : LvB) (k' : Int) (nm' : ByteArray) (A' : Option Addr) (m' c' : Nat), j + g = d ∧ v = .int .i64 (j : Nat) ∧ Hid (succN g x = succN d l) ∧ Hid (RaSt w fb s S x k' nm' A' m' c' (st.step s) wr))
      case atStart => exact ⟨0, l, k, nm, A, m, c, by omega, rfl, rfl, HS4.out⟩
      case round =>
        clear HS4 HS3'
        obtain ⟨j, x, k', nm', A', m', c', hjg, rfl, HX, HS⟩ := hrel
        have b0 := HS.out.box.c0
        have b1 := HS.out.box.c1
        have b2 := HS.out.box.c2
        have bf := HS.out.box.f
        have bl := HS.out.box.lt
        have rl := HS.out.lt
        by_cases hj : j < d
        · have e1 : decide ((j : Int) < (d : Int)) = true := by simp; omega
          obtain ⟨g', rfl⟩ : ∃ g', gk = g' + 1 := ⟨gk - 1, by omega⟩
          have HU := hide (HS.out.up hlt)
          have HX2 : Hid (succN g' (.succ x) = succN d l) := HX.out
          clear HX HS
          go_wp2_with fail
          go_roundg g'
          case measure => omega
          case rel => exact ⟨j + 1, .succ x, 1, ⟨#[]⟩, some ⟨wr.heap.size, 0, none⟩, 1, 1, by omega, by go_num, HX2, HU.out⟩
        · have e1 : decide ((j : Int) < (d : Int)) = false := by simp; omega
          have hg0 : gk = 0 := by omega
          subst hg0
          have HXe : Hid (x = succN d l) := HX.out
          have r0 := HS.out.res.c0
          have r1 := HS.out.res.c1
          have r2 := HS.out.res.c2
          have rf := HS.out.res.f
          clear HX
          have HS5 : Hid (RaSt w fb s S (succN d l) k' nm' A' m' c' (st.step s) wr) := by rw [← HXe.out]; exact HS.out
          go_wp2_with fail
          exact HS5.out.ret hlt rfl rfl
  · have hr := raised_bad (s := s) (l := l) hk
    rw [hr]
    have hkk : ¬ (st.code = 0 ∧ st.t.kd = 2) := fun h' => hk (by rw [HKin.out]; simp [h'])
    have KF := hide (dfail_calls HS3.out.rd)
    have hq : (st.code = 0 ∧ st.t.kd ≠ 2) ∨ st.code = 1 := by
      rcases code_cases hok with h1 | h1
      · exact .inl ⟨h1, fun h2 => hkk ⟨h1, h2⟩⟩
      · exact .inr h1
    clear hr hk hkk
    rcases hq with ⟨hc, hk2⟩ | hc
    · have q1 : ((st.code : Int) != 0) = false := by rw [hc]; rfl
      have q2 : ((st.t.kd : Int) != 2) = true := by simp; omega
      clear hc hk2
      go_enter Tryz.func99, Tryz.ntmps99
      go_upto_region 2 with fail
      rw [← hW3]
      obtain ⟨d0, d1, d2, d3, d4, d5, d6, df⟩ := HS3.out.rd.cells
      obtain ⟨y0, y1, y2, -⟩ := cells3 hbt
      clear c0 c1 c2 c3 c4 c5 c6 cf hW3 hsz2 hs3
      go_wp2_with (go_at_call 26; refine KF.out.mono ?_; rintro e w2 ⟨rfl, hd, hT⟩; have HS4 := hide (HS3.out.touched hlt HSS.out hd hT); have b0 := HS4.out.box.c0; have b1 := HS4.out.box.c1; have b2 := HS4.out.box.c2; have r0 := HS4.out.res.c0; have r1 := HS4.out.res.c1; have r2 := HS4.out.res.c2; have rf := HS4.out.res.f; have rl := HS4.out.lt; clear hd hT)
      exact HS4.out.ret hlt rfl rfl
    · have q1 : ((st.code : Int) != 0) = true := by rw [hc]; rfl
      clear hc
      go_enter Tryz.func99, Tryz.ntmps99
      go_upto_region 2 with fail
      rw [← hW3]
      obtain ⟨d0, d1, d2, d3, d4, d5, d6, df⟩ := HS3.out.rd.cells
      clear c0 c1 c2 c3 c4 c5 c6 cf hW3 hsz2 hs3
      go_wp2_with (go_at_call 26; refine KF.out.mono ?_; rintro e w2 ⟨rfl, hd, hT⟩; have HS4 := hide (HS3.out.touched hlt HSS.out hd hT); have b0 := HS4.out.box.c0; have b1 := HS4.out.box.c1; have b2 := HS4.out.box.c2; have r0 := HS4.out.res.c0; have r1 := HS4.out.res.c1; have r2 := HS4.out.res.c2; have rf := HS4.out.res.f; have rl := HS4.out.lt; clear hd hT)
      exact HS4.out.ret hlt rfl rfl
end
end Go.Proofs.YtekfledccpeblaaGreatDoor

/- The contracts of the document's latom, level. -/
namespace Go.Proofs.YtekfledccpeblaaGreatDoor
open Go.RowKit

section
variable {fb : Nat} {s : ByteArray}
/-- The contract of level, with so much fuel. -/
def LevC (fb : Nat) (s : ByteArray) (n : Nat) : Prop := ∀ (st : FS) (w : World), DR w fb s st → st.left s < n → Calls Tryz.prog 98 #[.pointer (some ⟨fb, 0, none⟩)] w fun e w' => DQ w fb s (levelN s n st).2 (LvR (fun b => w.heap.size ≤ b) (levelN s n st).1) e w'
theorem lev_ret {w W : World} {x : LvB} {k : Int} {nm : ByteArray} {A : Option Addr} {m c : Nat} {st : FS} {tmps : Array Value} {F : Func} {p : Tmp} (hres : LBox W w.heap.size 0 ⟨#[]⟩ (.slice none 0 0)) (hI : InP W (fun b => w.heap.size + 1 ≤ b) x (.agg #[.int .i64 k, .string nm, .slice A m c])) (hd : DR W fb s st) (hT : Touched w fb W) (hf : fb < w.heap.size) (hF : F.results = #[.cell p 96]) (hp : tmps.getD p undef = .pointer (some ⟨w.heap.size, 0, none⟩)) :
    bodyPost Tryz.prog F (fun e w' => DQ w fb s st (LvR (fun b => w.heap.size ≤ b) x) e w') Exit.ret { tmps := tmps, defers := [] } (set3 W w.heap.size (.int .i64 k) (.string nm) (.slice A m c)) := by
  have hr := hres.set3 k nm (.slice A m c)
  refine bodyPost_ret (results_cell_row hF _ _ w.heap.size 96 _ (0, 0) _ hp hr Tryz.underlying96 rfl Tryz.size96') rfl ?_
  exact ⟨⟨k, nm, A, m, c, rfl, hI.set3 fun b hb hs => ⟨by have : w.heap.size + 1 ≤ b := hs; omega, by have : w.heap.size + 1 ≤ b := hs; omega⟩⟩, hd.of_block (set3_block (by omega)), set3_touched (Nat.le_refl _) hT⟩
set_option maxRecDepth 100000 in
set_option maxHeartbeats 4000000 in
theorem dlatom_calls (n : Nat) (ih : LevC fb s n) (st : FS) (w : World) (h : DR w fb s st) (hl : st.left s ≤ n) :
    Calls Tryz.prog 100 #[.pointer (some ⟨fb, 0, none⟩)] w fun e w' => DQ w fb s (latomN s n st).2 (LvR (fun b => w.heap.size ≤ b) (latomN s n st).1) e w' := by
  have hlt := h.lt
  have hok := h.ok
  have HK : Hid (∀ k, st.kin k = (st.code == 0 && st.t.kd == k)) := fun _ => rfl
  obtain ⟨W1, hW1⟩ : ∃ W1, W1 = w.alloc (.cells #[.int .i64 0, .string ⟨#[]⟩, .slice none 0 0] 96) := ⟨_, rfl⟩
  have HD1 : Hid (DR W1 fb s st) := by rw [hW1]; exact h.alloc _
  have HT1 : Hid (Touched w fb W1) := by rw [hW1]; exact Touched.alloc _ _ _
  have HR1 : Hid (LBox W1 w.heap.size 0 ⟨#[]⟩ (.slice none 0 0)) := by rw [hW1]; exact heap_alloc_new _ _
  have hs1 : W1.heap.size = w.heap.size + 1 := by rw [hW1]; simp
  obtain ⟨d0, d1, d2, d3, d4, d5, d6, df⟩ := HD1.out.cells
  have HLF : Hid (latomN s n st = latomF s (levelN s n) st) := rfl
  have HIh := hide ih
  clear h ih
  by_cases hk2 : st.kin 2 = true
  · have hkk := hk2
    rw [HK.out] at hkk
    simp at hkk
    have q1 : ((st.code : Int) == 0) = true := by rw [hkk.1]; rfl
    have q2 : ((st.t.kd : Int) == 2) = true := by rw [hkk.2]; rfl
    have he : latomN s n st = raised s .zero st := by rw [HLF.out]; unfold latomF; rw [if_pos hk2]
    rw [he]
    have KR := hide (draised_calls .zero (fun _ => False) 0 ⟨#[]⟩ none 0 0 st W1 HD1.out rfl (fun b hb => hb.elim) (by simp [chain]))
    clear hkk hk2 he HIh HLF HK
    generalize (raised s .zero st).1 = x at *
    generalize (raised s .zero st).2 = st1 at *
    go_enter Tryz.func100, Tryz.ntmps100
    go_upto_region 1 with fail
    rw [← hW1]
    clear hW1
    go_wp2_with (go_at_call 99; refine KR.out.mono ?_; rintro e W2 ⟨⟨k, nm, A, m, c, rfl, hI⟩, hd, hT⟩; have HI := hide (hI.keep (w' := W2) (S' := fun b => w.heap.size + 1 ≤ b) fun b _ hs => ⟨by rcases hs with hs | hs; exact hs.elim; omega, rfl⟩); have HD2 := hide hd; have HR2 := hide (HR1.out.of_block (hT.at HR1.out.lt (by omega))); have HT2 := hide (HT1.out.trans hT); have r0 := HR2.out.c0; have r1 := HR2.out.c1; have r2 := HR2.out.c2; have rf := HR2.out.f; have rl := HR2.out.lt; clear hI hd hT)
    exact lev_ret HR2.out HI.out HD2.out HT2.out hlt rfl rfl
  · by_cases hk1 : st.kin 1 = true
    · have hkk := hk1
      rw [HK.out] at hkk
      simp at hkk
      have q1 : ((st.code : Int) == 0) = true := by rw [hkk.1]; rfl
      have q2 : ((st.t.kd : Int) == 2) = false := by rw [hkk.2]; rfl
      have q3 : ((st.t.kd : Int) == 1) = true := by rw [hkk.2]; rfl
      have he : latomN s n st = (.param (st.name s).1, (st.name s).2) := by rw [HLF.out]; unfold latomF; rw [if_neg hk2, if_pos hk1]
      rw [he]
      have KN := hide (dname_calls HD1.out)
      clear hkk hk2 hk1 he HIh HLF HK
      generalize (st.name s).1 = x at *
      generalize (st.name s).2 = st1 at *
      go_enter Tryz.func100, Tryz.ntmps100
      go_upto_region 1 with fail
      rw [← hW1]
      clear hW1
      go_wp2_with (go_at_call 27; refine KN.out.mono ?_; rintro e W2 ⟨rfl, hd, hT⟩; have HI : Hid (InP W2 (fun b => w.heap.size + 1 ≤ b) (.param x) (.agg #[.int .i64 4, .string x, .slice none 0 0])) := rfl; have HD2 := hide hd; have HR2 := hide (HR1.out.of_block (hT.at HR1.out.lt (by omega))); have HT2 := hide (HT1.out.trans hT); have r0 := HR2.out.c0; have r1 := HR2.out.c1; have r2 := HR2.out.c2; have rf := HR2.out.f; have rl := HR2.out.lt; clear hd hT)
      exact lev_ret HR2.out HI.out HD2.out HT2.out hlt rfl rfl
    · have hq : (((st.code : Int) == 0) = true ∧ ((st.t.kd : Int) == 2) = false ∧ ((st.t.kd : Int) == 1) = false) ∨ ((st.code : Int) == 0) = false := by
        rw [HK.out] at hk2 hk1
        rcases code_cases hok with h1 | h1
        · left
          simp [h1] at hk2 hk1
          refine ⟨by rw [h1]; rfl, by simp; omega, by simp; omega⟩
        · right; rw [h1]; rfl
      have KA := hide (daccept_calls HD1.out sOpen)
      by_cases hp : st.is sOpen = true
      · have hkd := (FS.is_kd hp).2.1
        have hc0 := (FS.is_kd hp).1
        have hlef := FS.step_left hok hc0 (by omega) (by omega)
        have he : latomN s n st = ((levelN s n (st.step s)).1, (levelN s n (st.step s)).2.must s sShut) := by rw [HLF.out]; unfold latomF; rw [if_neg hk2, if_neg hk1, if_pos hp]
        rw [he]
        rw [hp, if_pos rfl] at KA
        have HLv : Hid (∀ W, DR W fb s (st.step s) → Calls Tryz.prog 98 #[.pointer (some ⟨fb, 0, none⟩)] W fun e w' => DQ W fb s (levelN s n (st.step s)).2 (LvR (fun b => W.heap.size ≤ b) (levelN s n (st.step s)).1) e w') := hide fun W hW => HIh.out _ W hW (by omega)
        have hq' : ((st.code : Int) == 0) = true ∧ ((st.t.kd : Int) == 2) = false ∧ ((st.t.kd : Int) == 1) = false := by rcases hq with h | h; exact h; rw [hc0] at h; simp at h
        obtain ⟨q1, q2, q3⟩ := hq'
        clear hq hp hk1 hk2 hkd hlef he HIh HLF HK hc0
        generalize (levelN s n (st.step s)).1 = x at *
        generalize (levelN s n (st.step s)).2 = st2 at *
        generalize st.step s = st1 at *
        go_enter Tryz.func100, Tryz.ntmps100
        go_upto_region 1 with fail
        rw [← hW1]
        clear hW1
        go_wp2_with (go_at_call 28; refine KA.out.mono ?_)
        rintro e W2 ⟨rfl, hd, hT⟩
        have HR2 := hide (HR1.out.of_block (hT.at HR1.out.lt (by omega)))
        have HT2 := hide (HT1.out.trans hT)
        have KL := hide (HLv.out W2 hd)
        have hz2 := hT.size
        clear hd hT KA
        go_wp2_with (go_at_call 98; refine KL.out.mono ?_)
        rintro e W3 ⟨⟨k, nm, A, m, c, rfl, hI⟩, hd, hT⟩
        have HR3 := hide ((HR2.out.of_block (hT.at HR2.out.lt (by omega))).of_block (Below.heap_alloc W3 (.cells #[.int .i64 k, .string nm, .slice A m c] 96) _ (by have := HR2.out.lt; have := hT.size; omega)))
        have hB4 : Below W3.heap.size W3 (W3.alloc (.cells #[.int .i64 k, .string nm, .slice A m c] 96)) := (Below.refl _ _).alloc (Nat.le_refl _) _
        have HI4 := hide (hI.keep (w' := W3.alloc (.cells #[.int .i64 k, .string nm, .slice A m c] 96)) (S' := fun b => w.heap.size + 1 ≤ b) fun b hb hs => ⟨by omega, hB4.block b hb⟩)
        have HB4 : Hid (LBox (W3.alloc (.cells #[.int .i64 k, .string nm, .slice A m c] 96)) W3.heap.size k nm (.slice A m c)) := heap_alloc_new _ _
        have HT4 := hide ((HT2.out.trans hT).trans (Touched.of_below hB4))
        have KM := hide (dmust_calls (hd.later hB4) sShut)
        have hz3 := hT.size
        clear hI hd hT hB4 KL
        go_upto_region 10 with fail
        generalize W3.alloc (.cells #[.int .i64 k, .string nm, .slice A m c] 96) = W4 at *
        go_wp2_with (go_at_call 29; refine KM.out.mono ?_; rintro e W5 ⟨rfl, hd, hT⟩; have HB5 := hide (HB4.out.of_block (hT.at HB4.out.lt (by omega))); have HI := hide (HI4.out.keep (w' := W5) (S' := fun b => w.heap.size + 1 ≤ b) fun b hb hs => ⟨hs, hT.at hb (by omega)⟩); have HD2 := hide hd; have HR5 := hide (HR3.out.of_block (hT.at HR3.out.lt (by omega))); have HT5 := hide (HT4.out.trans hT); have r0 := HR5.out.c0; have r1 := HR5.out.c1; have r2 := HR5.out.c2; have rf := HR5.out.f; have rl := HR5.out.lt; have x0 := HB5.out.c0; have x1 := HB5.out.c1; have x2 := HB5.out.c2; clear hd hT)
        exact lev_ret HR5.out HI.out HD2.out HT5.out hlt rfl rfl
      · have hp' : st.is sOpen = false := by simpa using hp
        have he : latomN s n st = (.zero, st.fail) := by rw [HLF.out]; unfold latomF; rw [if_neg hk2, if_neg hk1, if_neg hp]
        rw [he]
        rw [hp', if_neg (by simp)] at KA
        clear hp hp' hk1 hk2 he HIh HLF HK
        rcases hq with ⟨q1, q2, q3⟩ | q1
        all_goals
          go_enter Tryz.func100, Tryz.ntmps100
          go_upto_region 1 with fail
          rw [← hW1]
          clear hW1
          go_wp2_with (first
            | (go_at_call 28; refine KA.out.mono ?_; rintro e W2 ⟨rfl, hd, hT⟩; have HR2 := hide (HR1.out.of_block (hT.at HR1.out.lt (by omega))); have HT2 := hide (HT1.out.trans hT); have KF := hide (dfail_calls hd); clear hd hT)
            | (go_at_call 26; refine KF.out.mono ?_; rintro e W3 ⟨rfl, hd, hT⟩; have HI : Hid (InP W3 (fun b => w.heap.size + 1 ≤ b) .zero (.agg #[.int .i64 0, .string ⟨#[]⟩, .slice none 0 0])) := rfl; have HD2 := hide hd; have HR5 := hide (HR2.out.of_block (hT.at HR2.out.lt (by omega))); have HT5 := hide (HT2.out.trans hT); have r0 := HR5.out.c0; have r1 := HR5.out.c1; have r2 := HR5.out.c2; have rf := HR5.out.f; have rl := HR5.out.lt; clear hd hT))
          exact lev_ret HR5.out HI.out HD2.out HT5.out hlt rfl rfl
end
end Go.Proofs.YtekfledccpeblaaGreatDoor
