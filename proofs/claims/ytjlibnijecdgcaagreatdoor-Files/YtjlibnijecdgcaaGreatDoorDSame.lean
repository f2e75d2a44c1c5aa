/- The contract of the document's SameDecl: two readings of one declaration. -/
import Derived.Test.YtjlibnijecdgcaaGreatDoorDPrint
import Derived.Test.YtjlibnijecdgcaaGreatDoorAlikeDoc2

namespace Go.Proofs.YtjlibnijecdgcaaGreatDoor
open Go.RowKit

/-- The boxes of two declarations' own copies. -/
structure BS2 (w : World) (vs vs2 : Array Value) (W : World) : Prop where
  var : W.heap[w.heap.size]? = some (.cells vs 46 (0, 0))
  var2 : W.heap[w.heap.size + 1]? = some (.cells vs2 46 (0, 0))
  old : Below w.heap.size w W
theorem BS2.lt {w : World} {vs vs2 : Array Value} {W : World} (h : BS2 w vs vs2 W) : w.heap.size + 1 < W.heap.size := (Array.getElem?_eq_some_iff.1 h.var2).1
theorem BS2.later {w : World} {vs vs2 : Array Value} {W : World} (h : BS2 w vs vs2 W) {W' : World} (hb : Below W.heap.size W W') : BS2 w vs vs2 W' :=
  ⟨(hb.block _ (by have := h.lt; omega)).trans h.var, (hb.block _ h.lt).trans h.var2, h.old.trans (hb.mono h.old.size)⟩
theorem BS2.drew {w : World} {vs vs2 : Array Value} {W : World} (h : BS2 w vs vs2 W) : BS2 w vs vs2 W.drew := h.later ((Below.refl _ _).drew)

theorem zeroT_small {D : Nat} (h : 0 < D) : SmallT D zeroT := by
  obtain ⟨e, rfl⟩ : ∃ e, D = e + 1 := ⟨D - 1, by omega⟩
  exact ⟨by show 0 ≤ 6; omega, by show 0 ≤ 1000000000; omega, by show 0 ≤ 200000; omega, by show 0 ≤ 3; omega, fun i hi => absurd hi (by show ¬ i < 0; omega)⟩

set_option maxRecDepth 100000 in
set_option maxHeartbeats 32000000 in
theorem sameDecl_calls (D : Nat) (d : Dc) (va vb : Value) (w : World) (hD : 0 < D) (hf : FitD D d) (ha : DeclV w (fun _ => True) D d va) (hb : DeclV w (fun _ => True) D d vb) :
    Calls Tryz.prog 11 #[va, vb] w fun e w' => e = .returned (.bool true) ∧ Below w.heap.size w w' := by
  obtain ⟨kd, nm, ps, ty, vl, ar, cs⟩ := d
  obtain ⟨Ap, cp, kt, nt, nmt, At, lt, ct, At', lt', ct', kv, nv, nmv, Av, lv, cv, Av', lv', cv', Ac, cc, rfl, hN, hT, hV, hC, -⟩ := ha
  obtain ⟨Ap2, cp2, kt2, nt2, nmt2, At2, lt2, ct2, At'2, lt'2, ct'2, kv2, nv2, nmv2, Av2, lv2, cv2, Av'2, lv'2, cv'2, Ac2, cc2, rfl, hN2, hT2, hV2, hC2, -⟩ := hb
  simp only at hN hT hV hC hN2 hT2 hV2 hC2
  have HSt : Hid (SmallT D ty) := hf.ty.small
  have HSv : Hid (SmallT D vl) := by
    by_cases hk : kd = 2
    · exact (hf.vl hk).small
    · have h0 : vl = zeroT := hf.good.vl0 hk
      rw [h0]
      exact zeroT_small hD
  have HSc : Hid (∀ c ∈ cs, SmallT D c.2) := fun c hc => ((hf.cs c hc).1).small
  have HN := hide hN
  have HTy := hide hT
  have HVl := hide hV
  have HCs := hide hC
  have HN2 := hide hN2
  have HTy2 := hide hT2
  have HVl2 := hide hV2
  have HCs2 := hide hC2
  obtain ⟨pn, hpn⟩ : ∃ pn : Nat, pn = ps.length := ⟨_, rfl⟩
  obtain ⟨cn, hcn⟩ : ∃ cn : Nat, cn = cs.length := ⟨_, rfl⟩
  have HPn := hide hpn
  have HCn := hide hcn
  have hpl : pn ≤ 200000 := by have := hf.pl; simp only at this; omega
  have hcl : cn ≤ 200000 := by have := hf.cl; simp only at this; omega
  clear hf hN hT hV hC hN2 hT2 hV2 hC2
  show Calls Tryz.prog 11 #[.agg #[.int .i64 (kd : Nat), .string nm, .slice Ap ps.length cp, .int .i64 kt, .int .i64 nt, .string nmt, .slice At lt ct, .slice At' lt' ct', .int .i64 kv, .int .i64 nv, .string nmv, .slice Av lv cv, .slice Av' lv' cv', .int .i64 (ar : Nat), .slice Ac cs.length cc], .agg #[.int .i64 (kd : Nat), .string nm, .slice Ap2 ps.length cp2, .int .i64 kt2, .int .i64 nt2, .string nmt2, .slice At2 lt2 ct2, .slice At'2 lt'2 ct'2, .int .i64 kv2, .int .i64 nv2, .string nmv2, .slice Av2 lv2 cv2, .slice Av'2 lv'2 cv'2, .int .i64 (ar : Nat), .slice Ac2 cs.length cc2]] w _
  rw [← hpn, ← hcn]
  clear hpn hcn
  have HB0 : Hid (BS2 w #[.int .i64 (kd : Nat), .string nm, .slice Ap pn cp, .int .i64 kt, .int .i64 nt, .string nmt, .slice At lt ct, .slice At' lt' ct', .int .i64 kv, .int .i64 nv, .string nmv, .slice Av lv cv, .slice Av' lv' cv', .int .i64 (ar : Nat), .slice Ac cn cc] #[.int .i64 (kd : Nat), .string nm, .slice Ap2 pn cp2, .int .i64 kt2, .int .i64 nt2, .string nmt2, .slice At2 lt2 ct2, .slice At'2 lt'2 ct'2, .int .i64 kv2, .int .i64 nv2, .string nmv2, .slice Av2 lv2 cv2, .slice Av'2 lv'2 cv'2, .int .i64 (ar : Nat), .slice Ac2 cn cc2] ((w.alloc (.cells #[.int .i64 (kd : Nat), .string nm, .slice Ap pn cp, .int .i64 kt, .int .i64 nt, .string nmt, .slice At lt ct, .slice At' lt' ct', .int .i64 kv, .int .i64 nv, .string nmv, .slice Av lv cv, .slice Av' lv' cv', .int .i64 (ar : Nat), .slice Ac cn cc] 46)).alloc (.cells #[.int .i64 (kd : Nat), .string nm, .slice Ap2 pn cp2, .int .i64 kt2, .int .i64 nt2, .string nmt2, .slice At2 lt2 ct2, .slice At'2 lt'2 ct'2, .int .i64 kv2, .int .i64 nv2, .string nmv2, .slice Av2 lv2 cv2, .slice Av'2 lv'2 cv'2, .int .i64 (ar : Nat), .slice Ac2 cn cc2] 46))) := by
    refine ⟨?_, ?_, ((Below.refl _ _).alloc (Nat.le_refl _) _).alloc (by simp) _⟩
    · rw [Below.heap_alloc _ _ _ (by simp)]
      exact heap_alloc_new w _
    · have := heap_alloc_new (w.alloc (.cells #[.int .i64 (kd : Nat), .string nm, .slice Ap pn cp, .int .i64 kt, .int .i64 nt, .string nmt, .slice At lt ct, .slice At' lt' ct', .int .i64 kv, .int .i64 nv, .string nmv, .slice Av lv cv, .slice Av' lv' cv', .int .i64 (ar : Nat), .slice Ac cn cc] 46)) (.cells #[.int .i64 (kd : Nat), .string nm, .slice Ap2 pn cp2, .int .i64 kt2, .int .i64 nt2, .string nmt2, .slice At2 lt2 ct2, .slice At'2 lt'2 ct'2, .int .i64 kv2, .int .i64 nv2, .string nmv2, .slice Av2 lv2 cv2, .slice Av'2 lv'2 cv'2, .int .i64 (ar : Nat), .slice Ac2 cn cc2] 46)
      simpa using this
  go_enter Tryz.func11, Tryz.ntmps11
  go_upto_region 1 with fail
  generalize (w.alloc (.cells #[.int .i64 (kd : Nat), .string nm, .slice Ap pn cp, .int .i64 kt, .int .i64 nt, .string nmt, .slice At lt ct, .slice At' lt' ct', .int .i64 kv, .int .i64 nv, .string nmv, .slice Av lv cv, .slice Av' lv' cv', .int .i64 (ar : Nat), .slice Ac cn cc] 46)).alloc (.cells #[.int .i64 (kd : Nat), .string nm, .slice Ap2 pn cp2, .int .i64 kt2, .int .i64 nt2, .string nmt2, .slice At2 lt2 ct2, .slice At'2 lt'2 ct'2, .int .i64 kv2, .int .i64 nv2, .string nmv2, .slice Av2 lv2 cv2, .slice Av'2 lv'2 cv'2, .int .i64 (ar : Nat), .slice Ac2 cn cc2] 46) = W0 at *
  have el := HB0.out.lt
  have e0 : W0.cell? ⟨w.heap.size, 0, none⟩ = some (.int .i64 (kd : Nat)) := cell_at HB0.out.var 0 rfl
  have f0 : W0.cell? ⟨w.heap.size + 1, 0, none⟩ = some (.int .i64 (kd : Nat)) := cell_at HB0.out.var2 0 rfl
  have e1 : W0.cell? ⟨w.heap.size, 1, none⟩ = some (.string nm) := cell_at HB0.out.var 1 rfl
  have f1 : W0.cell? ⟨w.heap.size + 1, 1, none⟩ = some (.string nm) := cell_at HB0.out.var2 1 rfl
  have e2 : W0.cell? ⟨w.heap.size, 2, none⟩ = some (.slice Ap pn cp) := cell_at HB0.out.var 2 rfl
  have f2 : W0.cell? ⟨w.heap.size + 1, 2, none⟩ = some (.slice Ap2 pn cp2) := cell_at HB0.out.var2 2 rfl
  have e13 : W0.cell? ⟨w.heap.size, 13, none⟩ = some (.int .i64 (ar : Nat)) := cell_at HB0.out.var 13 rfl
  have f13 : W0.cell? ⟨w.heap.size + 1, 13, none⟩ = some (.int .i64 (ar : Nat)) := cell_at HB0.out.var2 13 rfl
  have e14 : W0.cell? ⟨w.heap.size, 14, none⟩ = some (.slice Ac cn cc) := cell_at HB0.out.var 14 rfl
  have f14 : W0.cell? ⟨w.heap.size + 1, 14, none⟩ = some (.slice Ac2 cn cc2) := cell_at HB0.out.var2 14 rfl
  go_wp2_with fail
  go_loopg [5] pn (fun g i wr => ∃ k : Nat, k + g = pn ∧ i = .int .i64 k ∧ Hid (BS2 w #[.int .i64 (kd : Nat), .string nm, .slice Ap pn cp, .int .i64 kt, .int .i64 nt, .string nmt, .slice At lt ct, .slice At' lt' ct', .int .i64 kv, .int .i64 nv, .string nmv, .slice Av lv cv, .slice Av' lv' cv', .int .i64 (ar : Nat), .slice Ac cn cc] #[.int .i64 (kd : Nat), .string nm, .slice Ap2 pn cp2, .int .i64 kt2, .int .i64 nt2, .string nmt2, .slice At2 lt2 ct2, .slice At'2 lt'2 ct'2, .int .i64 kv2, .int .i64 nv2, .string nmv2, .slice Av2 lv2 cv2, .slice Av'2 lv'2 cv'2, .int .i64 (ar : Nat), .slice Ac2 cn cc2] wr))
  case atStart => exact ⟨0, by omega, rfl, HB0.out⟩
  case round =>
    clear HB0 el e0 f0 e1 f1 e2 f2 e13 f13 e14 f14
    obtain ⟨k, hkg, rfl, HR⟩ := hrel
    have el := HR.out.lt
    have e2 : wr.cell? ⟨w.heap.size, 2, none⟩ = some (.slice Ap pn cp) := cell_at HR.out.var 2 rfl
    have f2 : wr.cell? ⟨w.heap.size + 1, 2, none⟩ = some (.slice Ap2 pn cp2) := cell_at HR.out.var2 2 rfl
    by_cases hk : k < pn
    · have hkp : k < ps.length := by rw [← HPn.out]; exact hk
      obtain ⟨b1, rfl, -, hc⟩ := nms_on HN.out HR.out.old k hkp
      obtain ⟨b2, rfl, -, hc2⟩ := nms_on HN2.out HR.out.old k hkp
      have hbl := World.block_lt_of_cell? _ _ hc
      have hbl2 := World.block_lt_of_cell? _ _ hc2
      have q : decide ((k : Int) < (pn : Int)) = true := by simp; omega
      generalize ps[k] = qk at *
      go_wp2_with fail
      go_region_held3 (fun w' => w'.cell? ⟨w.heap.size, 2, none⟩ = some (.slice (some ⟨b1, 0, none⟩) pn cp) ∧ w'.cell? ⟨w.heap.size + 1, 2, none⟩ = some (.slice (some ⟨b2, 0, none⟩) pn cp2) ∧ w'.cell? ⟨b1, k, none⟩ = some (.string qk) ∧ w'.cell? ⟨b2, k, none⟩ = some (.string qk)) (go_keep) (fail)
      all_goals
        go_wp2_with fail
        go_roundg (pn - (k + 1))
        case measure => omega
        case rel => exact ⟨k + 1, by omega, by go_num, by first | exact HR.out | exact HR.out.drew⟩
    · have hke : pn = k := by omega
      subst hke
      have q : decide ((pn : Int) < (pn : Int)) = false := by simp
      go_wp2_with fail
      go_loopg [6] cn (fun g i wr => ∃ k : Nat, k + g = cn ∧ i = .int .i64 k ∧ Hid (BS2 w #[.int .i64 (kd : Nat), .string nm, .slice Ap pn cp, .int .i64 kt, .int .i64 nt, .string nmt, .slice At lt ct, .slice At' lt' ct', .int .i64 kv, .int .i64 nv, .string nmv, .slice Av lv cv, .slice Av' lv' cv', .int .i64 (ar : Nat), .slice Ac cn cc] #[.int .i64 (kd : Nat), .string nm, .slice Ap2 pn cp2, .int .i64 kt2, .int .i64 nt2, .string nmt2, .slice At2 lt2 ct2, .slice At'2 lt'2 ct'2, .int .i64 kv2, .int .i64 nv2, .string nmv2, .slice Av2 lv2 cv2, .slice Av'2 lv'2 cv'2, .int .i64 (ar : Nat), .slice Ac2 cn cc2] wr))
      case atStart => exact ⟨0, by omega, rfl, HR.out⟩
      case round =>
        clear HR el e2 f2
        obtain ⟨k, hkg2, rfl, HR⟩ := hrel
        have el := HR.out.lt
        have e14 : wr.cell? ⟨w.heap.size, 14, none⟩ = some (.slice Ac cn cc) := cell_at HR.out.var 14 rfl
        have f14 : wr.cell? ⟨w.heap.size + 1, 14, none⟩ = some (.slice Ac2 cn cc2) := cell_at HR.out.var2 14 rfl
        by_cases hk2 : k < cn
        · have hkc : k < cs.length := by rw [← HCn.out]; exact hk2
          obtain ⟨b1, x, rfl, -, h6, hct⟩ := cts_on HCs.out HR.out.old k hkc
          obtain ⟨kx, nx, nmx, Ax, lx, cx, Ax', lx', cx', rfl, hin⟩ := hct
          obtain ⟨u0, u1, u2, u3, u4, u5, he, c0, c1, c2, c3, c4, c5⟩ := h6
          injection he with he
          simp only [Array.mk.injEq, List.cons.injEq, and_true] at he
          obtain ⟨rfl, rfl, rfl, rfl, rfl, rfl⟩ := he
          obtain ⟨b2, x, rfl, -, h6, hct⟩ := cts_on HCs2.out HR.out.old k hkc
          obtain ⟨kx2, nx2, nmx2, Ax2, lx2, cx2, Ax'2, lx'2, cx'2, rfl, hin2⟩ := hct
          obtain ⟨u0, u1, u2, u3, u4, u5, he, d0, d1, d2, d3, d4, d5⟩ := h6
          injection he with he
          simp only [Array.mk.injEq, List.cons.injEq, and_true] at he
          obtain ⟨rfl, rfl, rfl, rfl, rfl, rfl⟩ := he
          have hbw : b1 < wr.heap.size := World.block_lt_of_cell? _ _ c0
          have hbw2 : b2 < wr.heap.size := World.block_lt_of_cell? _ _ d0
          have q2 : decide ((k : Int) < (cn : Int)) = true := by simp; omega
          have hsm := HSc.out cs[k] (List.getElem_mem hkc)
          obtain ⟨qn, hqn⟩ : ∃ qn, qn = cs[k].1 := ⟨_, rfl⟩
          rw [← hqn] at c0 d0
          have KT : Hid (∀ W, Below wr.heap.size wr W → Calls Tryz.prog 24 #[.agg #[.int .i64 kx, .int .i64 nx, .string nmx, .slice Ax lx cx, .slice Ax' lx' cx'], .agg #[.int .i64 kx2, .int .i64 nx2, .string nmx2, .slice Ax2 lx2 cx2, .slice Ax'2 lx'2 cx'2]] W fun e w' => e = .returned (.bool true) ∧ Hid (Below wr.heap.size wr w') ∧ w'.cell? ⟨w.heap.size, 14, none⟩ = some (.slice (some ⟨b1, 0, none⟩) cn cc) ∧ w'.cell? ⟨w.heap.size + 1, 14, none⟩ = some (.slice (some ⟨b2, 0, none⟩) cn cc2) ∧ w'.cell? ⟨b1, k * 6, none⟩ = some (.string qn) ∧ w'.cell? ⟨b1, k * 6 + 1, none⟩ = some (.int .i64 kx) ∧ w'.cell? ⟨b1, k * 6 + 2, none⟩ = some (.int .i64 nx) ∧ w'.cell? ⟨b1, k * 6 + 3, none⟩ = some (.string nmx) ∧ w'.cell? ⟨b1, k * 6 + 4, none⟩ = some (.slice Ax lx cx) ∧ w'.cell? ⟨b1, k * 6 + 5, none⟩ = some (.slice Ax' lx' cx') ∧ w'.cell? ⟨b2, k * 6, none⟩ = some (.string qn) ∧ w'.cell? ⟨b2, k * 6 + 1, none⟩ = some (.int .i64 kx2) ∧ w'.cell? ⟨b2, k * 6 + 2, none⟩ = some (.int .i64 nx2) ∧ w'.cell? ⟨b2, k * 6 + 3, none⟩ = some (.string nmx2) ∧ w'.cell? ⟨b2, k * 6 + 4, none⟩ = some (.slice Ax2 lx2 cx2) ∧ w'.cell? ⟨b2, k * 6 + 5, none⟩ = some (.slice Ax'2 lx'2 cx'2)) := fun W hW => by
            refine (sameTerm_calls D cs[k].2 _ _ _ _ _ _ _ _ _ _ _ _ _ _ _ _ _ _ D D _ _ W hsm (hin.on hW) (hin2.on hW)).mono ?_
            rintro e w' ⟨rfl, h'⟩
            have hW' : Below wr.heap.size wr w' := hW.trans (h'.mono hW.size)
            exact ⟨rfl, hW', cell_later hW' e14, cell_later hW' f14, cell_later hW' c0, cell_later hW' c1, cell_later hW' c2, cell_later hW' c3, cell_later hW' c4, cell_later hW' c5, cell_later hW' d0, cell_later hW' d1, cell_later hW' d2, cell_later hW' d3, cell_later hW' d4, cell_later hW' d5⟩
          clear hin hin2 hsm hqn HCs HCs2
          go_wp2_with fail
          go_region_held3 (fun w' => w'.cell? ⟨w.heap.size, 14, none⟩ = some (.slice (some ⟨b1, 0, none⟩) cn cc) ∧ w'.cell? ⟨w.heap.size + 1, 14, none⟩ = some (.slice (some ⟨b2, 0, none⟩) cn cc2) ∧ w'.cell? ⟨b1, k * 6, none⟩ = some (.string qn) ∧ w'.cell? ⟨b1, k * 6 + 1, none⟩ = some (.int .i64 kx) ∧ w'.cell? ⟨b1, k * 6 + 2, none⟩ = some (.int .i64 nx) ∧ w'.cell? ⟨b1, k * 6 + 3, none⟩ = some (.string nmx) ∧ w'.cell? ⟨b1, k * 6 + 4, none⟩ = some (.slice Ax lx cx) ∧ w'.cell? ⟨b1, k * 6 + 5, none⟩ = some (.slice Ax' lx' cx') ∧ w'.cell? ⟨b2, k * 6, none⟩ = some (.string qn) ∧ w'.cell? ⟨b2, k * 6 + 1, none⟩ = some (.int .i64 kx2) ∧ w'.cell? ⟨b2, k * 6 + 2, none⟩ = some (.int .i64 nx2) ∧ w'.cell? ⟨b2, k * 6 + 3, none⟩ = some (.string nmx2) ∧ w'.cell? ⟨b2, k * 6 + 4, none⟩ = some (.slice Ax2 lx2 cx2) ∧ w'.cell? ⟨b2, k * 6 + 5, none⟩ = some (.slice Ax'2 lx'2 cx'2)) (go_keep) (first
            | (go_at_call 24; refine (KT.out _ ?_).mono ?_; (repeat' (first | exact Below.refl _ _ | refine Below.drew ?_)); rintro e wy ⟨rfl, HY, e14, f14, c0, c1, c2, c3, c4, c5, d0, d1, d2, d3, d4, d5⟩))
          all_goals
            have hz := HY.out.size
            go_wp2_with fail
            go_region_held3 (fun w' => w'.cell? ⟨w.heap.size, 14, none⟩ = some (.slice (some ⟨b1, 0, none⟩) cn cc) ∧ w'.cell? ⟨w.heap.size + 1, 14, none⟩ = some (.slice (some ⟨b2, 0, none⟩) cn cc2) ∧ w'.cell? ⟨b1, k * 6, none⟩ = some (.string qn) ∧ w'.cell? ⟨b1, k * 6 + 1, none⟩ = some (.int .i64 kx) ∧ w'.cell? ⟨b1, k * 6 + 2, none⟩ = some (.int .i64 nx) ∧ w'.cell? ⟨b1, k * 6 + 3, none⟩ = some (.string nmx) ∧ w'.cell? ⟨b1, k * 6 + 4, none⟩ = some (.slice Ax lx cx) ∧ w'.cell? ⟨b1, k * 6 + 5, none⟩ = some (.slice Ax' lx' cx') ∧ w'.cell? ⟨b2, k * 6, none⟩ = some (.string qn) ∧ w'.cell? ⟨b2, k * 6 + 1, none⟩ = some (.int .i64 kx2) ∧ w'.cell? ⟨b2, k * 6 + 2, none⟩ = some (.int .i64 nx2) ∧ w'.cell? ⟨b2, k * 6 + 3, none⟩ = some (.string nmx2) ∧ w'.cell? ⟨b2, k * 6 + 4, none⟩ = some (.slice Ax2 lx2 cx2) ∧ w'.cell? ⟨b2, k * 6 + 5, none⟩ = some (.slice Ax'2 lx'2 cx'2)) (go_keep) (fail)
            all_goals
              go_wp2_with fail
              go_roundg (cn - (k + 1))
              case measure => omega
              case rel => exact ⟨k + 1, by omega, by go_num, by first | exact HR.out.later HY.out | exact (HR.out.later HY.out).drew⟩
        · have hke : cn = k := by omega
          subst hke
          have q2 : decide ((cn : Int) < (cn : Int)) = false := by simp
          have KT := hide (sameTerm_calls D ty _ _ _ _ _ _ _ _ _ _ _ _ _ _ _ _ _ _ D D _ _ wr HSt.out (HTy.out.on HR.out.old) (HTy2.out.on HR.out.old))
          have e3 : wr.cell? ⟨w.heap.size, 3, none⟩ = some (.int .i64 kt) := cell_at HR.out.var 3 rfl
          have f3 : wr.cell? ⟨w.heap.size + 1, 3, none⟩ = some (.int .i64 kt2) := cell_at HR.out.var2 3 rfl
          have e4 : wr.cell? ⟨w.heap.size, 4, none⟩ = some (.int .i64 nt) := cell_at HR.out.var 4 rfl
          have f4 : wr.cell? ⟨w.heap.size + 1, 4, none⟩ = some (.int .i64 nt2) := cell_at HR.out.var2 4 rfl
          have e5 : wr.cell? ⟨w.heap.size, 5, none⟩ = some (.string nmt) := cell_at HR.out.var 5 rfl
          have f5 : wr.cell? ⟨w.heap.size + 1, 5, none⟩ = some (.string nmt2) := cell_at HR.out.var2 5 rfl
          have e6 : wr.cell? ⟨w.heap.size, 6, none⟩ = some (.slice At lt ct) := cell_at HR.out.var 6 rfl
          have f6 : wr.cell? ⟨w.heap.size + 1, 6, none⟩ = some (.slice At2 lt2 ct2) := cell_at HR.out.var2 6 rfl
          have e7 : wr.cell? ⟨w.heap.size, 7, none⟩ = some (.slice At' lt' ct') := cell_at HR.out.var 7 rfl
          have f7 : wr.cell? ⟨w.heap.size + 1, 7, none⟩ = some (.slice At'2 lt'2 ct'2) := cell_at HR.out.var2 7 rfl
          go_wp2_with (go_at_call 24; refine KT.out.mono ?_)
          intro e w2 h9
          first | (subst h9; intro hb2) | (obtain ⟨rfl, hb2⟩ := h9)
          have H2 := hide (HR.out.later hb2)
          have KV := hide (sameTerm_calls D vl _ _ _ _ _ _ _ _ _ _ _ _ _ _ _ _ _ _ D D _ _ w2 HSv.out (HVl.out.on H2.out.old) (HVl2.out.on H2.out.old))
          clear hb2 KT el e14 f14 e3 f3 e4 f4 e5 f5 e6 f6 e7 f7 HR
          have el := H2.out.lt
          have e8 : w2.cell? ⟨w.heap.size, 8, none⟩ = some (.int .i64 kv) := cell_at H2.out.var 8 rfl
          have f8 : w2.cell? ⟨w.heap.size + 1, 8, none⟩ = some (.int .i64 kv2) := cell_at H2.out.var2 8 rfl
          have e9 : w2.cell? ⟨w.heap.size, 9, none⟩ = some (.int .i64 nv) := cell_at H2.out.var 9 rfl
          have f9 : w2.cell? ⟨w.heap.size + 1, 9, none⟩ = some (.int .i64 nv2) := cell_at H2.out.var2 9 rfl
          have e10 : w2.cell? ⟨w.heap.size, 10, none⟩ = some (.string nmv) := cell_at H2.out.var 10 rfl
          have f10 : w2.cell? ⟨w.heap.size + 1, 10, none⟩ = some (.string nmv2) := cell_at H2.out.var2 10 rfl
          have e11 : w2.cell? ⟨w.heap.size, 11, none⟩ = some (.slice Av lv cv) := cell_at H2.out.var 11 rfl
          have f11 : w2.cell? ⟨w.heap.size + 1, 11, none⟩ = some (.slice Av2 lv2 cv2) := cell_at H2.out.var2 11 rfl
          have e12 : w2.cell? ⟨w.heap.size, 12, none⟩ = some (.slice Av' lv' cv') := cell_at H2.out.var 12 rfl
          have f12 : w2.cell? ⟨w.heap.size + 1, 12, none⟩ = some (.slice Av'2 lv'2 cv'2) := cell_at H2.out.var2 12 rfl
          go_wp2_with (go_at_call 24; refine KV.out.mono ?_)
          intro e w3 h9
          first | (subst h9; intro hb3) | (obtain ⟨rfl, hb3⟩ := h9)
          have H3 := hide (H2.out.later hb3)
          clear hb3 KV el e8 f8 e9 f9 e10 f10 e11 f11 e12 f12 H2
          go_wp2_with fail
          go_ret
          exact ⟨rfl, H3.out.old⟩

end Go.Proofs.YtjlibnijecdgcaaGreatDoor
