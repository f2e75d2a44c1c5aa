/- The contract of the document's level. -/
import Derived.Test.YtekfledccpeblaaGreatDoorDw

namespace Go.Proofs.YtekfledccpeblaaGreatDoor
open Go.RowKit

section
variable {fb : Nat} {s : ByteArray}
theorem two_ret {w W : World} {x y z : LvB} {k k1 k2 : Int} {nm1 nm2 : ByteArray} {A1 A2 : Option Addr} {m1 c1 m2 c2 : Nat} {st : FS} {tmps : Array Value} {F : Func} {p : Tmp} (hk : (k = 2 ∧ z = .max x y) ∨ (k = 3 ∧ z = .imax x y)) {W' : World} (hW : W' = (set3 W w.heap.size (.int .i64 k) (.string ⟨#[]⟩) (.slice (some ⟨W.heap.size, 0, none⟩) 2 2)).alloc (.cells #[.int .i64 k1, .string nm1, .slice A1 m1 c1, .int .i64 k2, .string nm2, .slice A2 m2 c2] 96))
    (hres : LBox W w.heap.size 0 ⟨#[]⟩ (.slice none 0 0)) (hI : InP W (fun b => w.heap.size + 1 ≤ b) x (.agg #[.int .i64 k1, .string nm1, .slice A1 m1 c1])) (hJ : InP W (fun b => w.heap.size + 1 ≤ b) y (.agg #[.int .i64 k2, .string nm2, .slice A2 m2 c2])) (hd : DR W fb s st) (hT : Touched w fb W) (hf : fb < w.heap.size) (hF : F.results = #[.cell p 96]) (hp : tmps.getD p undef = .pointer (some ⟨w.heap.size, 0, none⟩)) :
    bodyPost Tryz.prog F (fun e w' => DQ w fb s st (LvR (fun b => w.heap.size ≤ b) z) e w') Exit.ret { tmps := tmps, defers := [] } W' := by
  subst hW
  have hrl := hres.lt
  have hz : (set3 W w.heap.size (.int .i64 k) (.string ⟨#[]⟩) (.slice (some ⟨W.heap.size, 0, none⟩) 2 2)).heap.size = W.heap.size := set3_size
  have hr := (hres.set3 k ⟨#[]⟩ (.slice (some ⟨W.heap.size, 0, none⟩) 2 2)).of_block (Below.heap_alloc _ (.cells #[.int .i64 k1, .string nm1, .slice A1 m1 c1, .int .i64 k2, .string nm2, .slice A2 m2 c2] 96) _ (by rw [hz]; exact hrl))
  have hnew := heap_alloc_new (set3 W w.heap.size (.int .i64 k) (.string ⟨#[]⟩) (.slice (some ⟨W.heap.size, 0, none⟩) 2 2)) (.cells #[.int .i64 k1, .string nm1, .slice A1 m1 c1, .int .i64 k2, .string nm2, .slice A2 m2 c2] 96)
  rw [hz] at hnew
  have hkp : ∀ b, b < W.heap.size → b ≠ w.heap.size → ((set3 W w.heap.size (.int .i64 k) (.string ⟨#[]⟩) (.slice (some ⟨W.heap.size, 0, none⟩) 2 2)).alloc (.cells #[.int .i64 k1, .string nm1, .slice A1 m1 c1, .int .i64 k2, .string nm2, .slice A2 m2 c2] 96)).heap[b]? = W.heap[b]? := fun b hb hne => by rw [Below.heap_alloc _ _ _ (by omega), set3_block hne]
  have t1 : Three _ W.heap.size 0 (.agg #[.int .i64 k1, .string nm1, .slice A1 m1 c1]) := ⟨k1, nm1, A1, m1, c1, rfl, cell_of hnew 0 rfl, cell_of hnew 1 rfl, cell_of hnew 2 rfl⟩
  have t2 : Three _ W.heap.size 3 (.agg #[.int .i64 k2, .string nm2, .slice A2 m2 c2]) := ⟨k2, nm2, A2, m2, c2, rfl, cell_of hnew 3 rfl, cell_of hnew 4 rfl, cell_of hnew 5 rfl⟩
  have hI' := hI.keep (S' := fun b => w.heap.size ≤ b) fun b hb hs => ⟨by have : w.heap.size + 1 ≤ b := hs; omega, hkp b hb (by have : w.heap.size + 1 ≤ b := hs; omega)⟩
  have hJ' := hJ.keep (S' := fun b => w.heap.size ≤ b) fun b hb hs => ⟨by have : w.heap.size + 1 ≤ b := hs; omega, hkp b hb (by have : w.heap.size + 1 ≤ b := hs; omega)⟩
  refine bodyPost_ret (results_cell_row hF _ _ w.heap.size 96 _ (0, 0) _ hp hr Tryz.underlying96 rfl Tryz.size96') rfl ?_
  refine ⟨⟨k, ⟨#[]⟩, _, 2, 2, rfl, ?_⟩, hd.of_block (hkp fb hd.lt (by omega)), (set3_touched (Nat.le_refl _) hT).trans (Touched.alloc _ _ _)⟩
  rcases hk with ⟨rfl, rfl⟩ | ⟨rfl, rfl⟩
  · exact ⟨W.heap.size, 2, _, _, rfl, Nat.le_of_lt hrl, t1, t2, hI', hJ'⟩
  · exact ⟨W.heap.size, 2, _, _, rfl, Nat.le_of_lt hrl, t1, t2, hI', hJ'⟩
/-- While successors are read. -/
structure DPlSt (w : World) (lb : Nat) (fb : Nat) (s : ByteArray) (x : LvB) (k : Int) (nm : ByteArray) (A : Option Addr) (m c : Nat) (st : FS) (W : World) : Prop where
  box : LBox W lb k nm (.slice A m c)
  res : LBox W w.heap.size 0 ⟨#[]⟩ (.slice none 0 0)
  inp : InP W (fun b => w.heap.size + 1 ≤ b ∧ b ≠ lb) x (.agg #[.int .i64 k, .string nm, .slice A m c])
  rd : DR W fb s st
  old : Touched w fb W
  few : chain x ≤ 99
section
variable {w W W' : World} {lb : Nat} {x y : LvB} {k k' : Int} {nm nm' : ByteArray} {A A' : Option Addr} {m c m' c' : Nat} {st st' : FS}
theorem DPlSt.touched (h : DPlSt w lb fb s x k nm A m c st W) (hf : fb < w.heap.size) (hlb : w.heap.size < lb) (hR : DR W' fb s st') (hT : Touched W fb W') : DPlSt w lb fb s x k nm A m c st' W' :=
  ⟨h.box.of_block (hT.at h.box.lt (by omega)), h.res.of_block (hT.at h.res.lt (by omega)), h.inp.keep fun b hb hs => ⟨hs, hT.at hb (by have := hs.1; omega)⟩, hR, h.old.trans hT, h.few⟩
theorem DPlSt.put (h : DPlSt w lb fb s x k nm A m c st W) (hf : fb < w.heap.size) (hlb : w.heap.size < lb) (hI : InP W (fun b => w.heap.size + 1 ≤ b ∧ b ≠ lb) y (.agg #[.int .i64 k', .string nm', .slice A' m' c'])) (hy : chain y ≤ 99) : DPlSt w lb fb s y k' nm' A' m' c' st (set3 W lb (.int .i64 k') (.string nm') (.slice A' m' c')) :=
  ⟨h.box.set3 _ _ _, h.res.of_block (set3_block (by omega)), hI.set3 fun b hb hs => ⟨hs, hs.2⟩, h.rd.of_block (set3_block (by omega)), set3_touched (by omega) h.old, hy⟩
end
set_option maxRecDepth 100000 in
set_option maxHeartbeats 8000000 in
theorem dlevel_step (n : Nat) (ih : LevC fb s n) : LevC fb s (n + 1) := by
  intro st w h hl
  have hlt := h.lt
  have hok := h.ok
  obtain ⟨W1, hW1⟩ : ∃ W1, W1 = w.alloc (.cells #[.int .i64 0, .string ⟨#[]⟩, .slice none 0 0] 96) := ⟨_, rfl⟩
  have HD1 : Hid (DR W1 fb s st) := by rw [hW1]; exact h.alloc _
  have HT1 : Hid (Touched w fb W1) := by rw [hW1]; exact Touched.alloc _ _ _
  have HR1 : Hid (LBox W1 w.heap.size 0 ⟨#[]⟩ (.slice none 0 0)) := by rw [hW1]; exact heap_alloc_new _ _
  have hs1 : W1.heap.size = w.heap.size + 1 := by rw [hW1]; simp
  have HIh := hide ih
  have KA := hide (daccept_calls HD1.out wMax)
  clear h ih
  by_cases hm : st.is wMax = true
  · have he : levelN s (n + 1) st = (.max (latomN s n (st.step s)).1 (latomN s n (latomN s n (st.step s)).2).1, (latomN s n (latomN s n (st.step s)).2).2) := by
      show levelF s (levelN s n) (n + 1) st = _
      unfold levelF twoF
      rw [if_pos hm]
      rfl
    rw [he]
    have hkd := (FS.is_kd hm).2.1
    have hc0 := (FS.is_kd hm).1
    have hlef := FS.step_left hok hc0 (by omega) (by omega)
    have HL1 : Hid (∀ W, DR W fb s (st.step s) → Calls Tryz.prog 100 #[.pointer (some ⟨fb, 0, none⟩)] W fun e w' => DQ W fb s (latomN s n (st.step s)).2 (LvR (fun b => W.heap.size ≤ b) (latomN s n (st.step s)).1) e w') := hide fun W hW => dlatom_calls n HIh.out _ W hW (by omega)
    have HL2 : Hid (∀ W, DR W fb s (latomN s n (st.step s)).2 → Calls Tryz.prog 100 #[.pointer (some ⟨fb, 0, none⟩)] W fun e w' => DQ W fb s (latomN s n (latomN s n (st.step s)).2).2 (LvR (fun b => W.heap.size ≤ b) (latomN s n (latomN s n (st.step s)).2).1) e w') := hide fun W hW => dlatom_calls n HIh.out _ W hW (by have := (latomN_fwd (s := s) n _ hok.step).left; omega)
    clear hkd hc0 hlef he HIh hl
    generalize (latomN s n (latomN s n (st.step s)).2).1 = y at *
    generalize (latomN s n (latomN s n (st.step s)).2).2 = st3 at *
    generalize (latomN s n (st.step s)).1 = x at *
    generalize (latomN s n (st.step s)).2 = st2 at *
    rw [hm, if_pos rfl] at KA
    clear hm
    generalize st.step s = st1 at *
    go_enter Tryz.func98, Tryz.ntmps98
    go_upto_region 1 with fail
    rw [← hW1]
    clear hW1
    go_wp2_with (go_at_call 28; refine KA.out.mono ?_)
    rintro e W2 ⟨rfl, hd, hT⟩
    have HR2 := hide (HR1.out.of_block (hT.at HR1.out.lt (by omega)))
    have HT2 := hide (HT1.out.trans hT)
    have KL := hide (HL1.out W2 hd)
    have hz2 := hT.size
    clear hd hT KA
    go_wp2_with (go_at_call 100; refine KL.out.mono ?_)
    rintro e W3 ⟨⟨k, nm, A, m, c, rfl, hI⟩, hd, hT⟩
    have hB4 : Below W3.heap.size W3 (W3.alloc (.cells #[.int .i64 k, .string nm, .slice A m c] 96)) := (Below.refl _ _).alloc (Nat.le_refl _) _
    have HR4 := hide ((HR2.out.of_block (hT.at HR2.out.lt (by omega))).of_block (hB4.block _ (by have := HR2.out.lt; have := hT.size; omega)))
    have HI4 := hide (hI.keep (w' := W3.alloc (.cells #[.int .i64 k, .string nm, .slice A m c] 96)) (S' := fun b => w.heap.size + 1 ≤ b) fun b hb hs => ⟨by omega, hB4.block b hb⟩)
    have HB4 : Hid (LBox (W3.alloc (.cells #[.int .i64 k, .string nm, .slice A m c] 96)) W3.heap.size k nm (.slice A m c)) := heap_alloc_new _ _
    have HT4 := hide ((HT2.out.trans hT).trans (Touched.of_below hB4))
    have hz3 := hT.size
    have hz4 := hB4.size
    have KL2 := hide (HL2.out _ (hd.later hB4))
    clear hI hd hT hB4 KL HL1 HL2
    go_upto_region 10 with fail
    generalize W3.alloc (.cells #[.int .i64 k, .string nm, .slice A m c] 96) = W4 at *
    go_wp2_with (go_at_call 100; refine KL2.out.mono ?_)
    rintro e W5 ⟨⟨k2, nm2, A2, m2, c2, rfl, hI⟩, hd, hT⟩
    have hB6 : Below W5.heap.size W5 (W5.alloc (.cells #[.int .i64 k2, .string nm2, .slice A2 m2 c2] 96)) := (Below.refl _ _).alloc (Nat.le_refl _) _
    have HR6 := hide ((HR4.out.of_block (hT.at HR4.out.lt (by omega))).of_block (hB6.block _ (by have := HR4.out.lt; have := hT.size; omega)))
    have HI6 := hide (hI.keep (w' := W5.alloc (.cells #[.int .i64 k2, .string nm2, .slice A2 m2 c2] 96)) (S' := fun b => w.heap.size + 1 ≤ b) fun b hb hs => ⟨by omega, hB6.block b hb⟩)
    have HJ6 := hide (HI4.out.keep (w' := W5.alloc (.cells #[.int .i64 k2, .string nm2, .slice A2 m2 c2] 96)) (S' := fun b => w.heap.size + 1 ≤ b) fun b hb hs => ⟨hs, (hB6.block b (by have := hT.size; omega)).trans (hT.at hb (by omega))⟩)
    have HB6 : Hid (LBox (W5.alloc (.cells #[.int .i64 k2, .string nm2, .slice A2 m2 c2] 96)) W5.heap.size k2 nm2 (.slice A2 m2 c2)) := heap_alloc_new _ _
    have HC6 := hide ((HB4.out.of_block (hT.at HB4.out.lt (by omega))).of_block (hB6.block _ (by have := HB4.out.lt; have := hT.size; omega)))
    have HT6 := hide ((HT4.out.trans hT).trans (Touched.of_below hB6))
    have HD6 := hide (hd.later hB6)
    have hz5 := hT.size
    have hz6 := hB6.size
    clear hI hd hT hB6 KL2 HI4 HB4 HR4 HT4
    go_upto_region 11 with fail
    generalize W5.alloc (.cells #[.int .i64 k2, .string nm2, .slice A2 m2 c2] 96) = W6 at *
    have x0 := HC6.out.c0
    have x1 := HC6.out.c1
    have x2 := HC6.out.c2
    have y0 := HB6.out.c0
    have y1 := HB6.out.c1
    have y2 := HB6.out.c2
    have r0 := HR6.out.c0
    have r1 := HR6.out.c1
    have r2 := HR6.out.c2
    have rf := HR6.out.f
    have rl := HR6.out.lt
    go_wp2_with fail
    exact two_ret (.inl ⟨rfl, rfl⟩) rfl HR6.out HJ6.out HI6.out HD6.out HT6.out hlt rfl rfl
  have hm' : st.is wMax = false := by simpa using hm
  have HKB : Hid (∀ W, DR W fb s st → Calls Tryz.prog 28 #[.pointer (some ⟨fb, 0, none⟩), .string wImax] W fun e w' => DQ W fb s (if st.is wImax = true then st.step s else st) (fun e _ => e = .returned (.bool (st.is wImax))) e w') := hide fun W hW => daccept_calls hW wImax
  rw [hm', if_neg (by simp)] at KA
  have hmax := hm
  clear hm'
  by_cases hm : st.is wImax = true
  · have he : levelN s (n + 1) st = (.imax (latomN s n (st.step s)).1 (latomN s n (latomN s n (st.step s)).2).1, (latomN s n (latomN s n (st.step s)).2).2) := by
      show levelF s (levelN s n) (n + 1) st = _
      unfold levelF twoF
      rw [if_neg hmax, if_pos hm]
      rfl
    rw [he]
    have hkd := (FS.is_kd hm).2.1
    have hc0 := (FS.is_kd hm).1
    have hlef := FS.step_left hok hc0 (by omega) (by omega)
    have HL1 : Hid (∀ W, DR W fb s (st.step s) → Calls Tryz.prog 100 #[.pointer (some ⟨fb, 0, none⟩)] W fun e w' => DQ W fb s (latomN s n (st.step s)).2 (LvR (fun b => W.heap.size ≤ b) (latomN s n (st.step s)).1) e w') := hide fun W hW => dlatom_calls n HIh.out _ W hW (by omega)
    have HL2 : Hid (∀ W, DR W fb s (latomN s n (st.step s)).2 → Calls Tryz.prog 100 #[.pointer (some ⟨fb, 0, none⟩)] W fun e w' => DQ W fb s (latomN s n (latomN s n (st.step s)).2).2 (LvR (fun b => W.heap.size ≤ b) (latomN s n (latomN s n (st.step s)).2).1) e w') := hide fun W hW => dlatom_calls n HIh.out _ W hW (by have := (latomN_fwd (s := s) n _ hok.step).left; omega)
    clear hkd hc0 hlef he HIh hl
    generalize (latomN s n (latomN s n (st.step s)).2).1 = y at *
    generalize (latomN s n (latomN s n (st.step s)).2).2 = st3 at *
    generalize (latomN s n (st.step s)).1 = x at *
    generalize (latomN s n (st.step s)).2 = st2 at *
    rw [hm, if_pos rfl] at HKB
    clear hm hmax
    generalize st.step s = st1 at *
    go_enter Tryz.func98, Tryz.ntmps98
    go_upto_region 1 with fail
    rw [← hW1]
    clear hW1
    go_wp2_with (go_at_call 28; refine KA.out.mono ?_)
    rintro e W0 ⟨rfl, hd0, hT0⟩
    have KB := hide (HKB.out W0 hd0)
    have HR0 := hide (HR1.out.of_block (hT0.at HR1.out.lt (by omega)))
    have HT0 := hide (HT1.out.trans hT0)
    have hz0 := hT0.size
    clear hd0 hT0 HKB HR1 HT1
    have HR1 := HR0
    have HT1 := HT0
    go_wp2_with (go_at_call 28; refine KB.out.mono ?_)
    rintro e W2 ⟨rfl, hd, hT⟩
    have HR2 := hide (HR1.out.of_block (hT.at HR1.out.lt (by omega)))
    have HT2 := hide (HT1.out.trans hT)
    have KL := hide (HL1.out W2 hd)
    have hz2 := hT.size
    clear hd hT KA
    go_wp2_with (go_at_call 100; refine KL.out.mono ?_)
    rintro e W3 ⟨⟨k, nm, A, m, c, rfl, hI⟩, hd, hT⟩
    have hB4 : Below W3.heap.size W3 (W3.alloc (.cells #[.int .i64 k, .string nm, .slice A m c] 96)) := (Below.refl _ _).alloc (Nat.le_refl _) _
    have HR4 := hide ((HR2.out.of_block (hT.at HR2.out.lt (by omega))).of_block (hB4.block _ (by have := HR2.out.lt; have := hT.size; omega)))
    have HI4 := hide (hI.keep (w' := W3.alloc (.cells #[.int .i64 k, .string nm, .slice A m c] 96)) (S' := fun b => w.heap.size + 1 ≤ b) fun b hb hs => ⟨by omega, hB4.block b hb⟩)
    have HB4 : Hid (LBox (W3.alloc (.cells #[.int .i64 k, .string nm, .slice A m c] 96)) W3.heap.size k nm (.slice A m c)) := heap_alloc_new _ _
    have HT4 := hide ((HT2.out.trans hT).trans (Touched.of_below hB4))
    have hz3 := hT.size
    have hz4 := hB4.size
    have KL2 := hide (HL2.out _ (hd.later hB4))
    clear hI hd hT hB4 KL HL1 HL2
    go_upto_region 10 with fail
    generalize W3.alloc (.cells #[.int .i64 k, .string nm, .slice A m c] 96) = W4 at *
    go_wp2_with (go_at_call 100; refine KL2.out.mono ?_)
    rintro e W5 ⟨⟨k2, nm2, A2, m2, c2, rfl, hI⟩, hd, hT⟩
    have hB6 : Below W5.heap.size W5 (W5.alloc (.cells #[.int .i64 k2, .string nm2, .slice A2 m2 c2] 96)) := (Below.refl _ _).alloc (Nat.le_refl _) _
    have HR6 := hide ((HR4.out.of_block (hT.at HR4.out.lt (by omega))).of_block (hB6.block _ (by have := HR4.out.lt; have := hT.size; omega)))
    have HI6 := hide (hI.keep (w' := W5.alloc (.cells #[.int .i64 k2, .string nm2, .slice A2 m2 c2] 96)) (S' := fun b => w.heap.size + 1 ≤ b) fun b hb hs => ⟨by omega, hB6.block b hb⟩)
    have HJ6 := hide (HI4.out.keep (w' := W5.alloc (.cells #[.int .i64 k2, .string nm2, .slice A2 m2 c2] 96)) (S' := fun b => w.heap.size + 1 ≤ b) fun b hb hs => ⟨hs, (hB6.block b (by have := hT.size; omega)).trans (hT.at hb (by omega))⟩)
    have HB6 : Hid (LBox (W5.alloc (.cells #[.int .i64 k2, .string nm2, .slice A2 m2 c2] 96)) W5.heap.size k2 nm2 (.slice A2 m2 c2)) := heap_alloc_new _ _
    have HC6 := hide ((HB4.out.of_block (hT.at HB4.out.lt (by omega))).of_block (hB6.block _ (by have := HB4.out.lt; have := hT.size; omega)))
    have HT6 := hide ((HT4.out.trans hT).trans (Touched.of_below hB6))
    have HD6 := hide (hd.later hB6)
    have hz5 := hT.size
    have hz6 := hB6.size
    clear hI hd hT hB6 KL2 HI4 HB4 HR4 HT4
    go_upto_region 11 with fail
    generalize W5.alloc (.cells #[.int .i64 k2, .string nm2, .slice A2 m2 c2] 96) = W6 at *
    have x0 := HC6.out.c0
    have x1 := HC6.out.c1
    have x2 := HC6.out.c2
    have y0 := HB6.out.c0
    have y1 := HB6.out.c1
    have y2 := HB6.out.c2
    have r0 := HR6.out.c0
    have r1 := HR6.out.c1
    have r2 := HR6.out.c2
    have rf := HR6.out.f
    have rl := HR6.out.lt
    go_wp2_with fail
    exact two_ret (.inr ⟨rfl, rfl⟩) rfl HR6.out HJ6.out HI6.out HD6.out HT6.out hlt rfl rfl
  have hm' : st.is wImax = false := by simpa using hm
  rw [hm', if_neg (by simp)] at HKB
  have he : levelN s (n + 1) st = plusN s (n + 1) (latomN s n st).1 (latomN s n st).2 := by
    show levelF s (levelN s n) (n + 1) st = _
    unfold levelF
    rw [if_neg hmax, if_neg hm]
    rfl
  rw [he]
  have HL1 : Hid (∀ W, DR W fb s st → Calls Tryz.prog 100 #[.pointer (some ⟨fb, 0, none⟩)] W fun e w' => DQ W fb s (latomN s n st).2 (LvR (fun b => W.heap.size ≤ b) (latomN s n st).1) e w') := hide fun W hW => dlatom_calls n HIh.out _ W hW (by omega)
  have HCh : Hid (chain (latomN s n st).1 ≤ 99) := latom_chain (level_chain n) st
  have HLe : Hid ((latomN s n st).2.left s < n + 1) := hide (by have := (latomN_fwd (s := s) n st hok).left; omega)
  have HOk2 : Hid ((latomN s n st).2.Ok s) := (latomN_fwd (s := s) n st hok).ok
  obtain ⟨fin, hfin⟩ : ∃ fin, fin = plusN s (n + 1) (latomN s n st).1 (latomN s n st).2 := ⟨_, rfl⟩
  rw [← hfin]
  have HFi := hide hfin
  clear he hm hm' hmax HIh hfin
  generalize (latomN s n st).1 = x at *
  generalize (latomN s n st).2 = st2 at *
  go_enter Tryz.func98, Tryz.ntmps98
  go_upto_region 1 with fail
  rw [← hW1]
  clear hW1
  go_wp2_with (go_at_call 28; refine KA.out.mono ?_)
  rintro e W0 ⟨rfl, hd0, hT0⟩
  have KB := hide (HKB.out W0 hd0)
  have HR0 := hide (HR1.out.of_block (hT0.at HR1.out.lt (by omega)))
  have HT0 := hide (HT1.out.trans hT0)
  have hz0 := hT0.size
  clear hd0 hT0 HKB HR1 HT1 KA
  go_wp2_with (go_at_call 28; refine KB.out.mono ?_)
  rintro e W2 ⟨rfl, hd, hT⟩
  have HR2 := hide (HR0.out.of_block (hT.at HR0.out.lt (by omega)))
  have HT2 := hide (HT0.out.trans hT)
  have KL := hide (HL1.out W2 hd)
  have hz2 := hT.size
  clear hd hT KB HR0 HT0 HL1
  go_wp2_with (go_at_call 100; refine KL.out.mono ?_)
  rintro e W3 ⟨⟨k, nm, A, m, c, rfl, hI⟩, hd, hT⟩
  have hz3 := hT.size
  have hlb : w.heap.size < W3.heap.size := by have := HR2.out.lt; omega
  have hB4 : Below W3.heap.size W3 (W3.alloc (.cells #[.int .i64 k, .string nm, .slice A m c] 96)) := (Below.refl _ _).alloc (Nat.le_refl _) _
  have HS4 : Hid (DPlSt w W3.heap.size fb s x k nm A m c st2 (W3.alloc (.cells #[.int .i64 k, .string nm, .slice A m c] 96))) :=
    ⟨heap_alloc_new _ _, (HR2.out.of_block (hT.at HR2.out.lt (by omega))).of_block (hB4.block _ hlb), hI.keep fun b hb hs => ⟨⟨by have : W2.heap.size ≤ b := hs; omega, by omega⟩, hB4.block b hb⟩, hd.later hB4, (HT2.out.trans hT).trans (Touched.of_below hB4), HCh.out⟩
  clear hI hd hT hB4 KL HR2 HT2
  go_wp2_with fail
  generalize W3.alloc (.cells #[.int .i64 k, .string nm, .slice A m c] 96) = W4 at *
  generalize W3.heap.size = lb at *
  go_loopg [] (n + 1) (fun g wr => ∃ (y : LvB) (st' : FS) (k' : Int) (nm' : ByteArray) (A' : Option Addr) (m' c' : Nat), Hid (plusN s g y st' = fin) ∧ Hid (st'.left s < g) ∧ Hid (DPlSt w lb fb s y k' nm' A' m' c' st' wr))
  case atStart => exact ⟨x, st2, k, nm, A, m, c, HFi.out.symm, HLe.out, HS4.out⟩
  case round =>
    clear HS4 HFi HLe
    obtain ⟨y, st', k', nm', A', m', c', HE, HLt, HS⟩ := hrel
    obtain ⟨g', rfl⟩ : ∃ g', gk = g' + 1 := ⟨gk - 1, by have := HLt.out; omega⟩
    have KT := hide (daccept_calls HS.out.rd sPlus)
    by_cases hp : st'.is sPlus = true
    · have hok' := HS.out.rd.ok
      have hkd := (FS.is_kd hp).2.1
      have hlef := FS.step_left hok' (FS.is_kd hp).1 (by omega) (by omega)
      have HE2 : Hid (plusN s g' (raised s y (st'.step s)).1 (raised s y (st'.step s)).2 = fin) := hide (by have := HE.out; simp only [plusN] at this; rw [if_pos hp] at this; exact this)
      have HL2 : Hid ((raised s y (st'.step s)).2.left s < g') := hide (by have := ((Dn.refl hok'.step).raised (l := y)).left; have := HLt.out; omega)
      have HRa : Hid (∀ W, DR W fb s (st'.step s) → InP W (fun b => w.heap.size + 1 ≤ b ∧ b ≠ lb) y (.agg #[.int .i64 k', .string nm', .slice A' m' c']) → Calls Tryz.prog 99 #[.pointer (some ⟨fb, 0, none⟩), .agg #[.int .i64 k', .string nm', .slice A' m' c'], .int .i64 0] W fun e w' => DQ W fb s (raised s y (st'.step s)).2 (LvR (fun b => (w.heap.size + 1 ≤ b ∧ b ≠ lb) ∨ W.heap.size ≤ b) (raised s y (st'.step s)).1) e w') := hide fun W hW hI => draised_calls y _ k' nm' A' m' c' _ W hW hI (fun b hb => by have := hb.1; omega) HS.out.few
      have HRc : Hid (chain (raised s y (st'.step s)).1 ≤ 99) := raised_chain HS.out.few
      rw [hp, if_pos rfl] at KT
      clear hlef hkd hp hok' HE HLt
      generalize (raised s y (st'.step s)).1 = y2 at *
      generalize (raised s y (st'.step s)).2 = st3 at *
      generalize st'.step s = stb at *
      go_wp2_with (go_at_call 28; refine KT.out.mono ?_)
      rintro e W5 ⟨rfl, hd, hT⟩
      have HS5 := hide (HS.out.touched hlt hlb hd hT)
      have KR := hide (HRa.out W5 hd HS5.out.inp)
      have b0 := HS5.out.box.c0
      have b1 := HS5.out.box.c1
      have b2 := HS5.out.box.c2
      have hl5 := HS5.out.box.lt
      clear hd hT KT HRa HS
      go_wp2_with (go_at_call 99; refine KR.out.mono ?_)
      rintro e W6 ⟨⟨k2, nm2, A2, m2, c2, rfl, hI⟩, hd, hT⟩
      have HS6 := hide (HS5.out.touched hlt hlb hd hT)
      have HU := hide (HS6.out.put hlt hlb (hI.keep fun b _ hs => ⟨by rcases hs with hs | hs; exact hs; exact ⟨by have := HS5.out.res.lt; omega, by omega⟩, rfl⟩) HRc.out)
      have a0 := HS6.out.box.c0
      have a1 := HS6.out.box.c1
      have a2 := HS6.out.box.c2
      have af := HS6.out.box.f
      have al := HS6.out.box.lt
      clear hI hd hT KR HS5 HS6 b0 b1 b2 hl5
      go_wp2_with fail
      go_roundg g'
      case measure => omega
      case rel => exact ⟨y2, st3, k2, nm2, A2, m2, c2, HE2.out, HL2.out, HU.out⟩
    · have hp' : st'.is sPlus = false := by simpa using hp
      have hfi : fin = (y, st') := by rw [← HE.out, plus_stop hp']
      rw [hp', if_neg (by simp)] at KT
      subst hfi
      clear HE HLt hp hp'
      go_wp2_with (go_at_call 28; refine KT.out.mono ?_; rintro e W5 ⟨rfl, hd, hT⟩; have HS5 := hide (HS.out.touched hlt hlb hd hT); have b0 := HS5.out.box.c0; have b1 := HS5.out.box.c1; have b2 := HS5.out.box.c2; have r0 := HS5.out.res.c0; have r1 := HS5.out.res.c1; have r2 := HS5.out.res.c2; have rf := HS5.out.res.f; have rl := HS5.out.res.lt; clear hd hT)
      exact lev_ret HS5.out.res (HS5.out.inp.keep fun b _ hs => ⟨hs.1, rfl⟩) HS5.out.rd HS5.out.old hlt rfl rfl
theorem dlevel_all : ∀ n, n ≤ 900000 → LevC fb s n
  | 0, _ => fun st w _ hl => absurd hl (by omega)
  | n + 1, h => dlevel_step n (dlevel_all n (by omega))
end
end Go.Proofs.YtekfledccpeblaaGreatDoor
