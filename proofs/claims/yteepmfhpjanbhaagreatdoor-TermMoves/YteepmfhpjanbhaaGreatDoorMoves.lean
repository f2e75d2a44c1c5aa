/- The contract of the document's Levels. -/
import Derived.Test.YteepmfhpjanbhaaGreatDoorLoops
import Derived.Test.YteepmfhpjanbhaaGreatDoorRefSubst
import Derived.Test.YteepmfhpjanbhaaGreatDoorUnder
import Derived.Laws.EntriesVeiled

namespace Go.Proofs.YteepmfhpjanbhaaGreatDoor
open Go.RowKit

def idF : Nat → Nat → Tm := fun free b => tvar (free + b)

set_option maxRecDepth 100000 in
set_option maxHeartbeats 8000000 in
theorem rlevels_step (ps : List ByteArray) (ls : List LvB) (pv lv : Value) (hlen : ps.length = ls.length) (B d b : Nat) (t : Tm) (v : Value) (w : World) (hB : B ≤ w.heap.size) (hwf : WfT (d + 1) t) (hin : InTm w (fun b => b < B) (d + 1) t v) (hps : InStrs w B pv ps) (hls : InLvs w B lv ls)
    (ih : ∀ (x : Tm) (v : Value) (b' : Nat) (W : World), WfT d x → B ≤ W.heap.size → InTm W (fun b => b < B) d x v → InStrs W B pv ps → InLvs W B lv ls → Calls Tryz.prog 22 #[v, pv, lv] W fun en w' => MadeT B W d (chT idF (Lv.bind (lookL ps ls)) d b' x) en w') :
    Calls Tryz.prog 22 #[v, pv, lv] w fun en w' => MadeT B w (d + 1) (chT idF (Lv.bind (lookL ps ls)) (d + 1) b t) en w' := by
  obtain ⟨A, c, A', c', rfl, hl, ht⟩ := hin
  have hnode : chT idF (Lv.bind (lookL ps ls)) (d + 1) b t = .node t.kd t.n t.nm (t.ls.map (Lv.bind (lookL ps ls))) (t.ts.mapIdx fun i x => chT idF (Lv.bind (lookL ps ls)) d (b + t.bnd i) x) := by
    by_cases hk : t.kd = 0
    · obtain ⟨z1, z2, z3⟩ := hwf.2.2.1 hk
      rw [hk, z1, z2, z3]
      by_cases hn : t.n < b
      · rw [chT_low hk hn]; rfl
      · rw [chT_free hk hn]; unfold idF tvar; rw [show t.n - b + b = t.n by omega]; rfl
    · exact chT_node hk
  rw [hnode]
  obtain ⟨a1, a2, a3, a4, a5, a6, a7, a8, a9, a10⟩ := hwf
  have h3 : t.ts.length ≤ 3 := by rw [a8]; exact tparts_le _
  have HL := hide hl
  have HT := hide ht
  have HW := hide a10
  have IH := hide ih
  have HPs := hide hps
  have HLs0 := hide hls
  have HE := hide hlen
  obtain ⟨hm1, A1, cap1, rfl, -⟩ := hps
  obtain ⟨hm2, A2, cap2, rfl, -⟩ := hls
  obtain ⟨i0, hi, hz0, hz1, hz2⟩ := info_parts Tryz.info30
  obtain ⟨i4, hj, hy0, hy1, hy2⟩ := info_parts Tryz.info44
  have HLL : Hid (LLoop ((w.alloc (.cells #[.int .i64 (t.kd : Nat), .int .i64 (t.n : Nat), .string t.nm, .slice A t.ls.length c, .slice A' t.ts.length c'] 30)).alloc ztm) (w.heap.size + 2) B t.kd t.n t.nm (t.ls.map (Lv.bind (lookL ps ls))) (.slice none 0 0) 0 (.slice none 0 0) [] (((w.alloc (.cells #[.int .i64 (t.kd : Nat), .int .i64 (t.n : Nat), .string t.nm, .slice A t.ls.length c, .slice A' t.ts.length c'] 30)).alloc ztm).alloc (.cells #[.int .i64 (t.kd : Nat), .int .i64 (t.n : Nat), .string t.nm, .slice none 0 0, .slice none 0 0] 30))) := by
    have h9 := heap_alloc_new ((w.alloc (.cells #[.int .i64 (t.kd : Nat), .int .i64 (t.n : Nat), .string t.nm, .slice A t.ls.length c, .slice A' t.ts.length c'] 30)).alloc ztm) (.cells #[.int .i64 (t.kd : Nat), .int .i64 (t.n : Nat), .string t.nm, .slice none 0 0, .slice none 0 0] 30)
    rw [show ((w.alloc (.cells #[.int .i64 (t.kd : Nat), .int .i64 (t.n : Nat), .string t.nm, .slice A t.ls.length c, .slice A' t.ts.length c'] 30)).alloc ztm).heap.size = w.heap.size + 2 by simp] at h9
    exact ⟨h9, GRow.start _ _ _ _ _ _, World.ownsRow_nil _ _ _ _, .inl rfl, (Below.refl _ _).alloc (by simp) _⟩
  have HGc : Hid (∀ (l : LvB) (v : Value) (W : World), B ≤ W.heap.size → InLv W B l v → InStrs W B (.slice A1 ps.length cap1) ps → InLvs W B (.slice A2 ls.length cap2) ls → Calls Tryz.prog 53 #[v, .slice A1 ps.length cap1, .slice A2 ls.length cap2] W fun e w' => Made B W (l.bind (lookL ps ls)) e w') := fun l v W h1 h2 h4 h5 => rsubst_calls ps ls _ _ B HE.out l.nodes l v W (Nat.le_refl _) h1 h2 h4 h5
  clear hl ht a10 ih a3 a4 a5 a8 a9 hnode hlen HE
  generalize lookL ps ls = σ at *
  go_enter Tryz.func22, Tryz.ntmps22
  go_wp2_with fail
  go_loopg [8] (t.ls.length) (fun gg i wr => ∃ (k : Nat) (rvL : Value) (xs : List Value), k + gg = t.ls.length ∧ i = .int .i64 k ∧ LLoop ((w.alloc (.cells #[.int .i64 (t.kd : Nat), .int .i64 (t.n : Nat), .string t.nm, .slice A t.ls.length c, .slice A' t.ts.length c'] 30)).alloc ztm) (w.heap.size + 2) B t.kd t.n t.nm (t.ls.map (Lv.bind σ)) (.slice none 0 0) k rvL xs wr)
  case atStart => exact ⟨0, _, [], by omega, rfl, HLL.out⟩
  case round =>
    obtain ⟨k, rvL, xs, hkg, rfl, hL⟩ := hrel
    obtain ⟨g0, g1, g2, g3, g4⟩ := TB.cells hL.old
    have hold := TB.old hL.old
    have hsz := hL.size
    by_cases hlt : k < t.ls.length
    · obtain ⟨b1, x, rfl, hb1, h5, hinx⟩ := HL.out k hlt
      obtain ⟨kk, nm', A3, n', cap', rfl, c0, c1, c2⟩ := h5
      obtain ⟨ao, cc, rfl, hao⟩ := hL.row.shape
      have d0 := cell_later hold c0
      have d1 := cell_later hold c1
      have d2 := cell_later hold c2
      have HGk := hide (HGc.out _ _ wr.drew (by have := hold.size; show B ≤ wr.heap.size; omega) ((hinx.keep (S' := fun b => b < B) (w' := wr) fun b _ hS => ⟨hS, hold.block b (by omega)⟩).inLvB.below (Below.refl _ _).drew) ((HPs.out.below (hold.mono hB)).below (Below.refl _ _).drew) ((HLs0.out.below (hold.mono hB)).below (Below.refl _ _).drew))
      have hLW := hide hL
      have hlm : k < (t.ls.map (Lv.bind σ)).length := by simpa using hlt
      have HLm := hide (show (t.ls.map (Lv.bind σ))[k] = Lv.bind σ t.ls[k] by simp)
      have v3 := hL.var.c3
      have vf3 := hL.var.f 3
      clear hL hold hinx c0 c1 c2 hao HGc IH HW HT
      go_wp2_with fail
      go_region_law (first
        | (refine step_made (f := 53) (B := B) (L := Lv.bind σ t.ls[k]) rfl ?_ HGk.out ?_
           · simp [go_sem]
           intro k1 nm1 A4 n1 cap3 w5 hin5 hb5'
           have hb5 : Below wr.heap.size wr w5 := ⟨hb5'.os, hb5'.tape, hb5'.output, hb5'.size, hb5'.block⟩
           have hL5 := hide (hLW.out.later hb5)
           have hz5 := hb5.size
           have x3 := hL5.out.var.c3
           have xf3 := hL5.out.var.f 3
           have hlt5 : w.heap.size + 2 < w5.heap.size := by omega
           have HB5 := hide hb5
           have HI5 := hide hin5
           clear hb5 hb5' hin5 HGk v3 vf3)
        | (refine step_append_own rfl (.tmp 25) (.tmp 34) 27 rfl (w.heap.size + 2 + 1) 44 i4 _ 3 48 Tryz.underlying27 hj hy0 hy1 hy2 rfl (by decide) (.slice ao k cc) k (flat xs) ?_ (hL5.out.row.own.alloc _) ⟨w5.heap.size, 0, none⟩ 1 1 [.int .i64 k1, .string nm1, .slice A4 n1 cap3] ?_ rfl ?_ ?_ (by decide) (by unfold maxLen; omega) (by omega) ?_ ?_
           · rfl
           · rfl
           · exact three_new _ _ _ _ _
           · intro u hu; simp at hu; rcases hu with rfl | rfl | rfl <;> rfl
           · show w.heap.size + 2 + 1 ≤ (w5.alloc _).heap.size; simp; omega
           intro v' w6 hown6 hgr6 hpl6
           obtain ⟨gr, cap4, rfl, hgb⟩ := shape_row hown6 (by omega)
           have hV6 := (hL5.out.var.alloc (.cells #[.int .i64 k1, .string nm1, .slice A4 n1 cap3] 44)).of_block (hgr6.block (w.heap.size + 2) (by simp; omega) (fun e => by have := (hL5.out.row.own.lt _ e.symm).1; omega))
           have z3 := hV6.c3
           have zf3 := hV6.f 3
           have HO6 := hide hown6
           have HG6 := hide hgr6
           have HP6 := hide hpl6
           clear hown6 hgr6 hpl6 hV6))
      all_goals
        have HN := hide (hLW.out.next (by omega) (m := wr.heap.size) (Nat.le_refl _) hlm HB5.out (by rw [HLm.out]; exact HI5.out) HO6.out HG6.out HP6.out)
        clear HO6 HG6 HP6
        go_wp2_with fail
        go_roundg (t.ls.length - (k + 1))
        case measure => omega
        case rel => exact ⟨k + 1, _, _, by omega, by go_num, HN.out⟩
    · have hke : k = t.ls.length := by omega
      subst hke
      rename World => W1
      have hlen : (t.ls.map (Lv.bind σ)).length = t.ls.length := by simp
      obtain ⟨ao, cc, rfl, hls⟩ := GRow.levels2 (by rw [hlen]; exact hL.row) hL.apart
      have HLs := hide hls
      have hst := hide (TLoop.start (D := d) (ts := t.ts.mapIdx fun i x => chT idF (Lv.bind σ) d (b + t.bnd i) x) hL)
      clear hls hold HGc HLL
      rw [hlen] at hst
      have HLen := hide hlen
      clear hL hlen
      go_wp2_with fail
      clear g0 g1 g2 g3 g4
      go_loopg [9] (t.ts.length) (fun gg i wq => ∃ (k : Nat) (rvT : Value) (xt : List Value), k + gg = t.ts.length ∧ i = .int .i64 k ∧ TLoop ((w.alloc (.cells #[.int .i64 (t.kd : Nat), .int .i64 (t.n : Nat), .string t.nm, .slice A t.ls.length c, .slice A' t.ts.length c'] 30)).alloc ztm) W1 (w.heap.size + 2) B t.kd t.n t.nm d (t.ts.mapIdx fun i x => chT idF (Lv.bind σ) d (b + t.bnd i) x) (.slice ao t.ls.length cc) (.slice none 0 0) k rvT xt wq)
      case atStart => exact ⟨0, _, [], by omega, rfl, hst.out⟩
      case round =>
        obtain ⟨k, rvT, xt, hkg2, rfl, hL⟩ := hrel
        obtain ⟨g0, g1, g2, g3, g4⟩ := TB.cells hL.old
        have hold := TB.old hL.old
        have hsz := hL.var.lt
        by_cases hlt : k < t.ts.length
        · obtain ⟨b1, x, rfl, hb1, h5, hinx⟩ := HT.out k hlt
          obtain ⟨kk, nq, nm', A3, n', cap', A5, n5, cap5, rfl, c0, c1, c2, c3, c4⟩ := h5
          obtain ⟨ai, ci, rfl, hao⟩ := hL.row.shape
          have d0 := cell_later hold c0
          have d1 := cell_later hold c1
          have d2 := cell_later hold c2
          have d3 := cell_later hold c3
          have d4 := cell_later hold c4
          have hLW := hide hL
          have IHk := hide (IH.out t.ts[k] _ (b + t.bnd k) wr.drew (HW.out k hlt) (by have := hold.size; show B ≤ wr.heap.size; omega) (hinx.keep (w' := wr.drew) fun b _ hS => ⟨hS, hold.block b (by omega)⟩) ((HPs.out.below (hold.mono hB)).below (Below.refl _ _).drew) ((HLs0.out.below (hold.mono hB)).below (Below.refl _ _).drew))
          have v4 := hL.var.c4
          have vf4 := hL.var.f 4
          clear hL hold hinx c0 c1 c2 c3 c4 hao IH HW HT
          go_wp2_with fail
          go_region_law (first
            | (refine step_madeT (f := 22) (B := B) (d := d) (t := chT idF (Lv.bind σ) d (b + t.bnd k) t.ts[k]) rfl ?_ IHk.out ?_
               · simp [go_sem]
               intro k1 n1 nm1 A4 l1 cc1 A6 l2 cc2 w5 hin5 hb5'
               have hb5 : Below wr.heap.size wr w5 := ⟨hb5'.os, hb5'.tape, hb5'.output, hb5'.size, hb5'.block⟩
               have hz5 := hb5.size
               have hL5 := hide (hLW.out.later hb5)
               have x4 := hL5.out.var.c4
               have xf4 := hL5.out.var.f 4
               have hlt5 : w.heap.size + 2 < w5.heap.size := by omega
               have HI5 := hide hin5
               have HB5 := hide hb5
               clear hin5 hb5 hb5' IHk v4 vf4)
            | (refine step_append_own rfl (.tmp 45) (.tmp 54) 28 rfl (w.heap.size + 2 + 1) 30 i0 _ 5 80 Tryz.underlying28 hi hz0 hz1 hz2 rfl (by decide) (.slice ai k ci) k (flat xt) ?_ (hL5.out.row.own.alloc _) ⟨w5.heap.size, 0, none⟩ 1 1 [.int .i64 k1, .int .i64 n1, .string nm1, .slice A4 l1 cc1, .slice A6 l2 cc2] ?_ rfl ?_ ?_ (by decide) (by unfold maxLen; omega) (by omega) ?_ ?_
               · rfl
               · rfl
               · exact five_new _ _ _ _ _ _ _
               · intro u hu; simp at hu; rcases hu with rfl | rfl | rfl | rfl | rfl <;> rfl
               · show w.heap.size + 2 + 1 ≤ (w5.alloc _).heap.size; simp; omega
               intro v' w6 hown6 hgr6 hpl6
               obtain ⟨gr, cap6, rfl, hgb⟩ := shape5 hown6 (by omega)
               have hV6 := (hL5.out.var.alloc (.cells #[.int .i64 k1, .int .i64 n1, .string nm1, .slice A4 l1 cc1, .slice A6 l2 cc2] 30)).of_block (hgr6.block (w.heap.size + 2) (by simp; omega) (fun e => by have := (hL5.out.row.own.lt _ e.symm).1; omega))
               have z4 := hV6.c4
               have zf4 := hV6.f 4
               have HO6 := hide hown6
               have HG6 := hide hgr6
               have HP6 := hide hpl6
               clear hown6 hgr6 hpl6 hV6))
          all_goals
            have HN := hide (hLW.out.next (by omega) (m := wr.heap.size) (Nat.le_refl _) HB5.out (TK.map hlt HI5.out) HO6.out HG6.out HP6.out)
            clear HO6 HG6 HP6
            go_wp2_with fail
            go_roundg (t.ts.length - (k + 1))
            case measure => omega
            case rel => exact ⟨k + 1, _, _, by omega, by go_num, HN.out⟩
        · have hke : k = t.ts.length := by omega
          subst hke
          have hlen2 : (t.ts.mapIdx fun i x => chT idF (Lv.bind σ) d (b + t.bnd i) x).length = t.ts.length := by simp
          obtain ⟨x0, x1, x2, x3, x4, xf, xl⟩ := TB.zero hL.old
          obtain ⟨A4, c2, hrv, hin2⟩ := TLoop.made (ls := t.ls.map (Lv.bind σ)) (ts := t.ts.mapIdx fun i x => chT idF (Lv.bind σ) d (b + t.bnd i) x) (A := ao) (c := cc) (kd' := t.kd) (nn' := t.n) (by rw [HLen.out, hlen2]; exact hL) (by omega) HLs.out
          rw [hlen2] at hrv
          subst hrv
          rw [HLen.out, hlen2] at hin2
          have v0 := hL.var.c0
          have v1 := hL.var.c1
          have v2 := hL.var.c2
          have v3 := hL.var.c3
          have v4 := hL.var.c4
          have HF := hide (fill5 (r := w.heap.size + 1) (u0 := .int .i64 (t.kd : Nat)) (u1 := .int .i64 (t.n : Nat)) (u2 := .string t.nm) (u3 := .slice ao t.ls.length cc) (u4 := .slice A4 t.ts.length c2) (by omega) hB hold (fun b _ h => h.imp id fun h => by omega) hin2)
          clear hL hold hin2 HLs hst IH HW HT HL
          go_wp2_with fail
          refine bodyPost_ret (v := .agg #[.int .i64 (t.kd : Nat), .int .i64 (t.n : Nat), .string t.nm, .slice ao t.ls.length cc, .slice A4 t.ts.length c2]) (by simp [results, Tryz.results22, go_sem, x0, x1, x2, x3, x4]) rfl ?_
          exact ⟨_, _, _, _, _, _, _, _, _, rfl, HF.out.1, HF.out.2⟩

theorem rlevels_calls (ps : List ByteArray) (ls : List LvB) (pv lv : Value) (hlen : ps.length = ls.length) (B : Nat) : ∀ (d : Nat) (t : Tm) (v : Value) (b : Nat) (w : World), WfT d t → B ≤ w.heap.size → InTm w (fun b => b < B) d t v → InStrs w B pv ps → InLvs w B lv ls →
    Calls Tryz.prog 22 #[v, pv, lv] w fun en w' => MadeT B w d (chT idF (Lv.bind (lookL ps ls)) d b t) en w'
  | 0, _, _, _, _, h, _, _, _, _ => absurd h (by simp [WfT])
  | d + 1, t, v, b, w, hwf, hB, hin, hps, hls => rlevels_step ps ls pv lv hlen B d b t v w hB hwf hin hps hls fun x v b' W h1 h2 h3 h4 h5 => rlevels_calls ps ls pv lv hlen B d x v b' W h1 h2 h3 h4 h5

end Go.Proofs.YteepmfhpjanbhaaGreatDoor

/- The contracts of Lift, Subst, Levels of package term. -/
namespace Go.Proofs.YteepmfhpjanbhaaGreatDoor
open Go.RowKit

set_option maxRecDepth 100000 in
set_option maxHeartbeats 2000000 in
theorem substM_calls (l : LvB) (ps : List ByteArray) (ls : List LvB) (v pv lv : Value) (B : Nat) (w : World) (hB : B ≤ w.heap.size) (hl : InLv w B l v) (hps : InStrs w B pv ps) (hls : InLvs w B lv ls) (hlen : ps.length = ls.length) :
    Calls Tryz.prog 52 #[v, pv, lv] w fun e w' => Made B w (l.bind (lookL ps ls)) e w' := by
  obtain ⟨A, cap, e1⟩ := hl.form
  have HR : Hid (∀ o, Calls Tryz.prog 80 #[v, .func (.func 81) #[] #[.pointer (some ⟨w.heap.size + 1, 0, none⟩), .pointer (some ⟨w.heap.size + 1 + 1, 0, none⟩)]] ((((w.alloc o).alloc (.cells #[pv] 41)).alloc (.cells #[lv] 27)).alloc zlev) fun e w' => Made B ((((w.alloc o).alloc (.cells #[pv] 41)).alloc (.cells #[lv] 27)).alloc zlev) (l.bind (lookL ps ls)) e w') := fun o => by
    have hold : Below w.heap.size w ((((w.alloc o).alloc (.cells #[pv] 41)).alloc (.cells #[lv] 27)).alloc zlev) := ((((Below.refl _ _).alloc (Nat.le_refl _) _).alloc (by simp) _).alloc (by simp; omega) _).alloc (by simp; omega) _
    refine rebuild_calls 81 _ (lookL ps ls) B (w.heap.size + 4) (by omega) l.nodes l v _ (Nat.le_refl _) (by simp) (hl.below (hold.mono hB))
      (subst1_puts (w.heap.size + 1) (w.heap.size + 1 + 1) ps ls pv lv B _ _ (by omega) (by omega) (by omega) ?_ ?_ (hps.below (hold.mono hB)) (hls.below (hold.mono hB)) hlen)
    · rw [World.cell?_alloc_past _ _ _ (by simp), World.cell?_alloc_past _ _ _ (by simp)]; simp [World.cell?_alloc_at]
    · rw [World.cell?_alloc_past _ _ _ (by simp)]; simp [World.cell?_alloc_at]
  have HO : Hid (∀ o, Below w.heap.size w ((((w.alloc o).alloc (.cells #[pv] 41)).alloc (.cells #[lv] 27)).alloc zlev)) := fun o => ((((Below.refl _ _).alloc (Nat.le_refl _) _).alloc (by simp) _).alloc (by simp; omega) _).alloc (by simp; omega) _
  obtain ⟨hm1, A1, cap1, rfl, -⟩ := hps
  obtain ⟨hm2, A2, cap2, rfl, -⟩ := hls
  subst e1
  clear hl hlen
  generalize l.bind (lookL ps ls) = L at *
  go_enter Tryz.func52, Tryz.ntmps52
  go_wp2_with (go_at_call 80; refine (HR.out _).mono ?_)
  rintro e w1 ⟨k, nm, A3, n, cap3, rfl, hin, hbw⟩
  have hsz : ∀ o1 o2 o3, ((((w.alloc o1).alloc o2).alloc o3).alloc zlev).heap.size = w.heap.size + 4 := fun o1 o2 o3 => by simp
  rw [hsz] at hin hbw
  obtain ⟨z0, z1, z2, zf, zl⟩ := zbox4 hbw
  have HF : Hid (InP (((w1.setCell ⟨w.heap.size + 3, 0, none⟩ (.int .i64 k)).setCell ⟨w.heap.size + 3, 1, none⟩ (.string nm)).setCell ⟨w.heap.size + 3, 2, none⟩ (.slice A3 n cap3)) (fun b => b < B ∨ w.heap.size ≤ b) L (.agg #[.int .i64 k, .string nm, .slice A3 n cap3])) :=
    hin.keep fun b _ hb => ⟨hb.imp id fun h => by omega, by rw [Below.heap_setCell _ _ _ _ (by show b ≠ w.heap.size + 3; omega), Below.heap_setCell _ _ _ _ (by show b ≠ w.heap.size + 3; omega), Below.heap_setCell _ _ _ _ (by show b ≠ w.heap.size + 3; omega)]⟩
  have HB : Hid (Below w.heap.size w (((w1.setCell ⟨w.heap.size + 3, 0, none⟩ (.int .i64 k)).setCell ⟨w.heap.size + 3, 1, none⟩ (.string nm)).setCell ⟨w.heap.size + 3, 2, none⟩ (.slice A3 n cap3))) :=
    ((((HO.out _).trans (hbw.mono (by omega))).setCell (p := ⟨w.heap.size + 3, 0, none⟩) (by show w.heap.size ≤ w.heap.size + 3; omega) _).setCell (p := ⟨w.heap.size + 3, 1, none⟩) (by show w.heap.size ≤ w.heap.size + 3; omega) _).setCell (p := ⟨w.heap.size + 3, 2, none⟩) (by show w.heap.size ≤ w.heap.size + 3; omega) _
  clear hin hbw hsz HR HO
  go_wp2_with fail
  refine bodyPost_ret (v := .agg #[.int .i64 k, .string nm, .slice A3 n cap3]) (by simp [results, Tryz.results52, go_sem, z0, z1, z2]) rfl ?_
  exact ⟨k, nm, A3, n, cap3, rfl, HF.out, HB.out⟩


theorem lookL_nil : lookL [] [] = Lv.param := by funext q; rfl

theorem inStrs_nil (w : World) (B : Nat) : InStrs w B (.slice none 0 0) [] := ⟨by simp, none, 0, rfl, fun i hi => absurd hi (by simp)⟩
theorem inLvs_nil (w : World) (B : Nat) : InLvs w B (.slice none 0 0) [] := ⟨by simp, none, 0, rfl, fun i hi => absurd hi (by simp)⟩

set_option maxRecDepth 100000 in
set_option maxHeartbeats 1000000 in
theorem copiedLevel_calls (l : LvB) (v : Value) (B : Nat) (w : World) (hB : B ≤ w.heap.size) (hl : InLv w B l v) : Calls Tryz.prog 35 #[v] w fun e w' => Made B w l e w' := by
  obtain ⟨A, cap, e1⟩ := hl.form
  have HR : Hid (∀ o, Calls Tryz.prog 52 #[v, .slice none 0 0, .slice none 0 0] ((w.alloc o).alloc zlev) fun e w' => Made B ((w.alloc o).alloc zlev) l e w') := fun o => by
    have hold : Below w.heap.size w ((w.alloc o).alloc zlev) := ((Below.refl _ _).alloc (Nat.le_refl _) _).alloc (by simp) _
    have := substM_calls l [] [] v _ _ B ((w.alloc o).alloc zlev) (Nat.le_trans hB hold.size) (hl.below (hold.mono hB)) (inStrs_nil _ _) (inLvs_nil _ _) rfl
    rw [lookL_nil, Lv.bind_param] at this
    exact this
  subst e1
  clear hl
  go_enter Tryz.func35, Tryz.ntmps35
  go_wp2_with (go_at_call 52; refine (HR.out _).mono ?_)
  rintro e w1 ⟨k, nm, A1, n, cap1, rfl, hin, hbw⟩
  have hsz : ∀ o, ((w.alloc o).alloc zlev).heap.size = w.heap.size + 2 := fun o => by simp
  rw [hsz] at hin hbw
  obtain ⟨z0, z1, z2, zf, zl⟩ := zbox hbw
  have HI := hide (made_fill (u0 := .int .i64 k) (u1 := .string nm) (u2 := .slice A1 n cap1) hB hbw (fun b h => h) hin)
  clear hin hbw HR hsz
  go_wp2_with fail
  refine bodyPost_ret (v := .agg #[.int .i64 k, .string nm, .slice A1 n cap1]) (by simp [results, Tryz.results35, go_sem, z0, z1, z2]) rfl ?_
  exact ⟨k, nm, A1, n, cap1, rfl, HI.out.1, HI.out.2⟩

theorem copied_levs (B D : Nat) (w : World) (hBD : B ≤ D) : Levs 35 #[] id B D w :=
  ⟨fun args w' => by simp [go_sem], fun l v w' hl hD _ => copiedLevel_calls l v B w' (Nat.le_trans hBD hD) hl⟩

/-- The result's block alone, then a call that makes a variable. -/
theorem var_fill {w W : World} {r B d n : Nat} (hr : w.heap.size ≤ r) (hb : Below w.heap.size w W) : InTm (set5 W r (.int .i64 0) (.int .i64 (n : Nat)) (.string ⟨#[]⟩) (.slice none 0 0) (.slice none 0 0)) (fun b => b < B ∨ w.heap.size ≤ b) (d + 1) (tvar n) (.agg #[.int .i64 0, .int .i64 (n : Nat), .string ⟨#[]⟩, .slice none 0 0, .slice none 0 0]) ∧ Below w.heap.size w (set5 W r (.int .i64 0) (.int .i64 (n : Nat)) (.string ⟨#[]⟩) (.slice none 0 0) (.slice none 0 0)) :=
  ⟨InTm.tvar _ _ _ _ _ _ _ _, set5_below hr hb⟩

theorem z_cells {w W : World} (h : Below (w.heap.size + 1) (w.alloc ztm) W) : W.cell? ⟨w.heap.size, 0, none⟩ = some (.int .i64 0) ∧ W.cell? ⟨w.heap.size, 1, none⟩ = some (.int .i64 0) ∧ W.cell? ⟨w.heap.size, 2, none⟩ = some (.string ⟨#[]⟩) ∧ W.cell? ⟨w.heap.size, 3, none⟩ = some (.slice none 0 0) ∧ W.cell? ⟨w.heap.size, 4, none⟩ = some (.slice none 0 0) ∧ (∀ i, W.frozen? ⟨w.heap.size, i, none⟩ = false) ∧ w.heap.size < W.heap.size := by
  have hz := h.size
  simp at hz
  have hb : W.heap[w.heap.size]? = some ztm := by rw [h.block _ (by omega)]; exact heap_alloc_new _ _
  obtain ⟨h0, h1, h2, h3, h4⟩ := cells5 hb
  exact ⟨h0, h1, h2, h3, h4, cells5f hb, by omega⟩

set_option maxRecDepth 100000 in
set_option maxHeartbeats 2000000 in
theorem lift1_calls (n f0 p q M b B : Nat) (w : World) (hn : n ≤ 1000000) (hM : M ≤ 99999) (hb : b ≤ 1000000) (cp : w.cell? ⟨p, 0, none⟩ = some (.int .i64 (f0 : Nat))) (cq : w.cell? ⟨q, 0, none⟩ = some (.int .i64 (n : Nat))) :
    Calls Tryz.prog 33 #[.int .i64 (M : Nat), .int .i64 (b : Nat), .pointer (some ⟨p, 0, none⟩), .pointer (some ⟨q, 0, none⟩)] w fun e w' => MadeT B w 1 (liftF n f0 M b) e w' := by
  unfold liftF
  have HT := hide (Below.refl (w.heap.size + 1) (w.alloc ztm))
  have hold : Below w.heap.size w (w.alloc ztm) := (Below.refl _ _).alloc (Nat.le_refl _) _
  have dp := cell_later hold cp
  have dq := cell_later hold cq
  have hpl : p < w.heap.size := World.block_lt_of_cell? _ _ cp
  have hql : q < w.heap.size := World.block_lt_of_cell? _ _ cq
  by_cases h : f0 ≤ M
  · have q1 : decide ((M : Int) ≥ (f0 : Int)) = true := by simp; omega
    rw [if_pos h]
    obtain ⟨N, hN⟩ : ∃ N, N = M + n + b := ⟨_, rfl⟩
    rw [← hN]
    have HV : Hid (∀ W, Calls Tryz.prog 34 #[.int .i64 ((M : Int) + (n : Int) + (b : Int))] W fun e w' => e = .returned (.agg #[.int .i64 0, .int .i64 (N : Nat), .string ⟨#[]⟩, .slice none 0 0, .slice none 0 0]) ∧ Below W.heap.size W w') := fun W => by
      have := variable_calls N W
      have e9 : ((N : Nat) : Int) = (M : Int) + (n : Int) + (b : Int) := by rw [hN, Int.natCast_add, Int.natCast_add]
      rw [e9] at this
      rw [e9]
      exact this
    clear hN
    clear hold
    go_enter Tryz.func33, Tryz.ntmps33
    go_wp2_with (go_at_call 34; refine (HV.out _).mono ?_)
    rintro e w1 ⟨rfl, hb1⟩
    have hT1 := HT.out.trans (hb1.mono (by simp))
    obtain ⟨x0, x1, x2, x3, x4, xf, xl⟩ := z_cells hT1
    have HF := hide (var_fill (B := B) (d := 0) (n := N) (Nat.le_refl _) (((Below.refl _ _).alloc (Nat.le_refl _) _).trans (hT1.mono (by omega))))
    clear hb1 hT1
    go_wp2_with fail
    refine bodyPost_ret (v := .agg #[.int .i64 0, .int .i64 (N : Nat), .string ⟨#[]⟩, .slice none 0 0, .slice none 0 0]) (by simp [results, Tryz.results33, go_sem, x0, x1, x2, x3, x4]) rfl ?_
    exact ⟨_, _, _, _, _, _, _, _, _, rfl, HF.out.1, HF.out.2⟩
  · have q1 : decide ((M : Int) ≥ (f0 : Int)) = false := by simp; omega
    rw [if_neg h]
    obtain ⟨N, hN⟩ : ∃ N, N = M + b := ⟨_, rfl⟩
    rw [← hN]
    have HV : Hid (∀ W, Calls Tryz.prog 34 #[.int .i64 ((M : Int) + (b : Int))] W fun e w' => e = .returned (.agg #[.int .i64 0, .int .i64 (N : Nat), .string ⟨#[]⟩, .slice none 0 0, .slice none 0 0]) ∧ Below W.heap.size W w') := fun W => by
      have := variable_calls N W
      have e9 : ((N : Nat) : Int) = (M : Int) + (b : Int) := by rw [hN, Int.natCast_add]
      rw [e9] at this
      rw [e9]
      exact this
    clear hN
    clear hold
    go_enter Tryz.func33, Tryz.ntmps33
    go_wp2_with (go_at_call 34; refine (HV.out _).mono ?_)
    rintro e w1 ⟨rfl, hb1⟩
    have hT1 := HT.out.trans (hb1.mono (by simp))
    obtain ⟨x0, x1, x2, x3, x4, xf, xl⟩ := z_cells hT1
    have HF := hide (var_fill (B := B) (d := 0) (n := N) (Nat.le_refl _) (((Below.refl _ _).alloc (Nat.le_refl _) _).trans (hT1.mono (by omega))))
    clear hb1 hT1
    go_wp2_with fail
    refine bodyPost_ret (v := .agg #[.int .i64 0, .int .i64 (N : Nat), .string ⟨#[]⟩, .slice none 0 0, .slice none 0 0]) (by simp [results, Tryz.results33, go_sem, x0, x1, x2, x3, x4]) rfl ?_
    exact ⟨_, _, _, _, _, _, _, _, _, rfl, HF.out.1, HF.out.2⟩

theorem lift_frees (n f0 p q B D : Nat) (w : World) (hn : n ≤ 1000000) (hp : p < D) (hq : q < D) (cp : w.cell? ⟨p, 0, none⟩ = some (.int .i64 (f0 : Nat))) (cq : w.cell? ⟨q, 0, none⟩ = some (.int .i64 (n : Nat))) :
    Frees 33 #[.pointer (some ⟨p, 0, none⟩), .pointer (some ⟨q, 0, none⟩)] (liftF n f0) 1 B D w :=
  ⟨fun args w' => by simp [go_sem], fun M b w' hM hb _ hbl => lift1_calls n f0 p q M b B w' hn hM hb (by rw [hbl.cell hp]; exact cp) (by rw [hbl.cell hq]; exact cq)⟩


theorem ztm_cells {W : World} {r : Nat} (h : W.heap[r]? = some ztm) : W.cell? ⟨r, 0, none⟩ = some (.int .i64 0) ∧ W.cell? ⟨r, 1, none⟩ = some (.int .i64 0) ∧ W.cell? ⟨r, 2, none⟩ = some (.string ⟨#[]⟩) ∧ W.cell? ⟨r, 3, none⟩ = some (.slice none 0 0) ∧ W.cell? ⟨r, 4, none⟩ = some (.slice none 0 0) ∧ (∀ i, W.frozen? ⟨r, i, none⟩ = false) ∧ r < W.heap.size := by
  obtain ⟨h0, h1, h2, h3, h4⟩ := cells5 h
  exact ⟨h0, h1, h2, h3, h4, cells5f h, (Array.getElem?_eq_some_iff.1 h).1⟩

set_option maxRecDepth 100000 in
set_option maxHeartbeats 2000000 in
theorem lift_calls (n f0 B d : Nat) (t : Tm) (v : Value) (w : World) (hn : n ≤ 1000000) (hd : d ≤ 1000000) (hB : B ≤ w.heap.size) (hwf : WfT d t) (hin : InTm w (fun b => b < B) d t v) :
    Calls Tryz.prog 8 #[v, .int .i64 (n : Nat), .int .i64 (f0 : Nat)] w fun en w' => MadeT B w (d + 1) (chT (liftF n f0) id d 0 t) en w' := by
  obtain ⟨k, nn, nm, A, la, lc, A', ta, tc, rfl⟩ := hin.form
  have hex : ∃ W0 : World, W0 = ((((w.alloc (.cells #[.int .i64 k, .int .i64 nn, .string nm, .slice A la lc, .slice A' ta tc] 30)).alloc (.cells #[.int .i64 (n : Nat)] 3)).alloc (.cells #[.int .i64 (f0 : Nat)] 3)).alloc ztm).alloc (.cells #[.func (.func 33) #[] #[.pointer (some ⟨w.heap.size + 1 + 1, 0, none⟩), .pointer (some ⟨w.heap.size + 1, 0, none⟩)], .func (.func 35) #[] #[]] 62) := ⟨_, rfl⟩
  obtain ⟨W0, hW0⟩ := hex
  have hold : Below w.heap.size w W0 := by rw [hW0]; exact (((((Below.refl _ _).alloc (Nat.le_refl _) _).alloc (by simp) _).alloc (by simp; omega) _).alloc (by simp; omega) _).alloc (by simp; omega) _
  have hsz : W0.heap.size = w.heap.size + 5 := by rw [hW0]; simp
  have hn0 : W0.cell? ⟨w.heap.size + 1, 0, none⟩ = some (.int .i64 (n : Nat)) := by
    rw [hW0, World.cell?_alloc_past _ _ _ (by simp), World.cell?_alloc_past _ _ _ (by simp), World.cell?_alloc_past _ _ _ (by simp)]; simp [World.cell?_alloc_at]
  have hf1 : W0.cell? ⟨w.heap.size + 1 + 1, 0, none⟩ = some (.int .i64 (f0 : Nat)) := by
    rw [hW0, World.cell?_alloc_past _ _ _ (by simp), World.cell?_alloc_past _ _ _ (by simp)]; simp [World.cell?_alloc_at]
  have hz3 : W0.heap[w.heap.size + 3]? = some ztm := by
    rw [hW0, Below.heap_alloc _ _ _ (by simp)]
    have := heap_alloc_new (((w.alloc (.cells #[.int .i64 k, .int .i64 nn, .string nm, .slice A la lc, .slice A' ta tc] 30)).alloc (.cells #[.int .i64 (n : Nat)] 3)).alloc (.cells #[.int .i64 (f0 : Nat)] 3)) ztm
    rw [show (((w.alloc (.cells #[.int .i64 k, .int .i64 nn, .string nm, .slice A la lc, .slice A' ta tc] 30)).alloc (.cells #[.int .i64 (n : Nat)] 3)).alloc (.cells #[.int .i64 (f0 : Nat)] 3)).heap.size = w.heap.size + 3 by simp] at this
    exact this
  have HC := hide (under_calls 33 35 _ _ (liftF n f0) id 1 B (w.heap.size + 5) (by omega) d t _ 0 W0 (by omega) (by omega) hwf (hin.below (hold.mono hB)) (lift_frees n f0 (w.heap.size + 1 + 1) (w.heap.size + 1) B (w.heap.size + 5) W0 hn (by omega) (by omega) hf1 hn0) (copied_levs B (w.heap.size + 5) W0 (by omega)))
  have HO := hide hold
  have HZ := hide hz3
  have HS := hide hsz
  clear hin hold hz3 hsz hn0 hf1
  rw [hW0] at HC
  go_enter Tryz.func8, Tryz.ntmps8
  go_wp2_with (go_at_call 36; refine HC.out.mono ?_)
  rw [← hW0]
  rintro en w1 ⟨k1, n1, nm1, A1, l1, cc1, A2, l2, cc2, rfl, hin5, hb5⟩
  have hold1 := HO.out.trans (hb5.mono HO.out.size)
  have hs := HS.out
  obtain ⟨x0, x1, x2, x3, x4, xf, xl⟩ := ztm_cells ((hb5.block (w.heap.size + 3) (by omega)).trans HZ.out)
  rw [hs] at hin5
  have HF := hide (fill5 (r := w.heap.size + 3) (u0 := .int .i64 k1) (u1 := .int .i64 n1) (u2 := .string nm1) (u3 := .slice A1 l1 cc1) (u4 := .slice A2 l2 cc2) (by omega) hB hold1 (fun b _ h => h.imp id fun h => by omega) hin5)
  clear hin5 hb5 hold1 hs hW0
  go_wp2_with fail
  refine bodyPost_ret (v := .agg #[.int .i64 k1, .int .i64 n1, .string nm1, .slice A1 l1 cc1, .slice A2 l2 cc2]) (by simp [results, Tryz.results8, go_sem, x0, x1, x2, x3, x4]) rfl ?_
  exact ⟨_, _, _, _, _, _, _, _, _, rfl, HF.out.1, HF.out.2⟩

end Go.Proofs.YteepmfhpjanbhaaGreatDoor
