/- The contract of rebuild: a level anew, with what a function makes of each parameter. -/
import Derived.Test.YtdbpkbhglghdoaaDoorInP
import Derived.Deep.DeepCutAuto
namespace Go.Proofs.YtdbpkbhglghdoaaDoor
open Go.RowKit

/-- A call has made a level: in old blocks below B, or in new ones. -/
def Made (B : Nat) (w : World) (L : LvB) (e : Ending) (w' : World) : Prop :=
  ∃ (k : Int) (nm : ByteArray) (A : Option Addr) (n cap : Nat), e = .returned (.agg #[.int .i64 k, .string nm, .slice A n cap]) ∧ InP w' (fun b => b < B ∨ w.heap.size ≤ b) L (.agg #[.int .i64 k, .string nm, .slice A n cap]) ∧ Below w.heap.size w w'

/-- What a function puts in the place of parameters. -/
structure Puts (F : FuncId) (C : Array Value) (σ : ByteArray → LvB) (B D : Nat) (w : World) : Prop where
  enter : ∀ (args : Array Value) (w' : World), Sem.run Tryd.prog (callFunc F args) w' = .ok (.enter F args) w'
  calls : ∀ (p : ByteArray) (w' : World), D ≤ w'.heap.size → Below D w w' → Calls Tryd.prog F (#[.agg #[.int .i64 4, .string p, .slice none 0 0]] ++ C) w' fun e w'' => Made B w' (σ p) e w''

theorem Puts.later {F : FuncId} {C : Array Value} {σ : ByteArray → LvB} {B D : Nat} {w w' : World} (h : Puts F C σ B D w) (hb : Below D w w') : Puts F C σ B D w' :=
  ⟨h.enter, fun p w'' hB hb' => h.calls p w'' hB (hb.trans hb')⟩

/-- A call that makes a level, as one step of a region that draws its order. -/
theorem step_made {ops : Array Oper} {o : Oper} {a : Act} {w : World} {K : Act → World → Prop} {Q : Exit → Act → World → Prop} {E : Prop} {args : Array Value} {f : FuncId} {B : Nat} {L : LvB}
    (hg : o.guard = none) (hrun : (execOp a.eval o).run Tryd.prog w = .ok (.enter f args) w) (hc : Calls Tryd.prog f args w fun e w' => Made B w L e w')
    (hK : ∀ (k : Int) (nm : ByteArray) (A : Option Addr) (n cap : Nat) (w' : World), InP w' (fun b => b < B ∨ w.heap.size ≤ b) L (.agg #[.int .i64 k, .string nm, .slice A n cap]) → Below w.heap.size w w' → K (a.put o.dst (.agg #[.int .i64 k, .string nm, .slice A n cap])) w') :
    if Region.wanted o (yielded ops a.tmps) = true then Oper.wp Tryd.prog o a w K Q else E := by
  have hw : Region.wanted o (yielded ops a.tmps) = true := by simp [Region.wanted, hg]
  rw [if_pos hw]
  unfold Oper.wp
  rw [hrun]
  refine hc.mono ?_
  rintro e w' ⟨k, nm, A, n, cap, rfl, h1, h2⟩
  exact hK k nm A n cap w' h1 h2

/-- The result's block, that is filled last. -/
theorem zbox {w W : World} {o : Obj} (h : Below (w.heap.size + 2) ((w.alloc o).alloc zlev) W) : W.cell? ⟨w.heap.size + 1, 0, none⟩ = some (.int .i64 0) ∧ W.cell? ⟨w.heap.size + 1, 1, none⟩ = some (.string ⟨#[]⟩) ∧ W.cell? ⟨w.heap.size + 1, 2, none⟩ = some (.slice none 0 0) ∧ (∀ i, W.frozen? ⟨w.heap.size + 1, i, none⟩ = false) ∧ w.heap.size + 1 < W.heap.size := by
  have hz := h.size
  simp at hz
  refine ⟨?_, ?_, ?_, fun i => ?_, by omega⟩
  · rw [h.cell (by simp)]; simp [World.cell?_alloc_at, zlev]
  · rw [h.cell (by simp)]; simp [World.cell?_alloc_at, zlev]
  · rw [h.cell (by simp)]; simp [World.cell?_alloc_at, zlev]
  · rw [h.frozen (by simp)]
    have := heap_alloc_new (w.alloc o) zlev
    simp at this
    simp [World.frozen?, this, zlev]

/-- .. is filled: what was made stands. -/
theorem made_fill {w W : World} {o : Obj} {B : Nat} {S : Nat → Prop} {L : LvB} {v u0 u1 u2 : Value} (hB : B ≤ w.heap.size) (h : Below (w.heap.size + 2) ((w.alloc o).alloc zlev) W) (hS : ∀ b, S b → b < B ∨ w.heap.size + 2 ≤ b) (hp : InP W S L v) :
    InP (((W.setCell ⟨w.heap.size + 1, 0, none⟩ u0).setCell ⟨w.heap.size + 1, 1, none⟩ u1).setCell ⟨w.heap.size + 1, 2, none⟩ u2) (fun b => b < B ∨ w.heap.size ≤ b) L v ∧
    Below w.heap.size w (((W.setCell ⟨w.heap.size + 1, 0, none⟩ u0).setCell ⟨w.heap.size + 1, 1, none⟩ u1).setCell ⟨w.heap.size + 1, 2, none⟩ u2) := by
  refine ⟨hp.keep fun b _ hb => ?_, ?_⟩
  · have h1 := hS b hb
    refine ⟨h1.imp id fun h2 => by omega, ?_⟩
    rw [Below.heap_setCell _ _ _ _ (by show b ≠ w.heap.size + 1; omega), Below.heap_setCell _ _ _ _ (by show b ≠ w.heap.size + 1; omega), Below.heap_setCell _ _ _ _ (by show b ≠ w.heap.size + 1; omega)]
  · have h0 : Below w.heap.size w W := (((Below.refl _ _).alloc (Nat.le_refl _) _).alloc (by simp) _).trans (h.mono (by omega))
    exact ((h0.setCell (p := ⟨w.heap.size + 1, 0, none⟩) (by show w.heap.size ≤ w.heap.size + 1; omega) _).setCell (p := ⟨w.heap.size + 1, 1, none⟩) (by show w.heap.size ≤ w.heap.size + 1; omega) _).setCell (p := ⟨w.heap.size + 1, 2, none⟩) (by show w.heap.size ≤ w.heap.size + 1; omega) _

set_option maxHeartbeats 2000000 in
theorem rebuild_param (F : FuncId) (C : Array Value) (σ : ByteArray → LvB) (p : ByteArray) (B D : Nat) (w : World) (hBD : B ≤ D) (hD : D ≤ w.heap.size) (hP : Puts F C σ B D w) :
    Calls Tryd.prog 23 #[.agg #[.int .i64 4, .string p, .slice none 0 0], .func (.func F) #[] C] w fun e w' => Made B w (σ p) e w' := by
  have hold : Below w.heap.size w ((w.alloc (.cells #[.int .i64 4, .string p, .slice none 0 0] 29)).alloc zlev) := ((Below.refl _ _).alloc (Nat.le_refl _) _).alloc (by simp) _
  have hB : B ≤ w.heap.size := by omega
  have HC := hide (hP.calls p _ (by simp; omega) (hold.mono hD))
  have hen := hP.enter
  clear hP
  go_enter Tryd.func23, Tryd.ntmps23
  go_wp2_with fail
  refine HC.out.mono ?_
  rintro e w1 ⟨k, nm, A, n, cap, rfl, hin, hbw⟩
  have hsz : ((w.alloc (.cells #[.int .i64 4, .string p, .slice none 0 0] 29)).alloc zlev).heap.size = w.heap.size + 2 := by simp
  rw [hsz] at hin hbw
  obtain ⟨z0, z1, z2, zf, zl⟩ := zbox hbw
  have HI := hide (made_fill (u0 := .int .i64 k) (u1 := .string nm) (u2 := .slice A n cap) hB hbw (fun b h => h) hin)
  clear hin hbw hold HC
  go_wp2_with fail
  refine bodyPost_ret (v := .agg #[.int .i64 k, .string nm, .slice A n cap]) (by simp [results, Tryd.results23, go_sem, z0, z1, z2]) rfl ?_
  exact ⟨k, nm, A, n, cap, rfl, HI.out.1, HI.out.2⟩

/-- The parts that are made, in their order. -/
def Lv.bound (σ : ByteArray → LvB) (l : LvB) (k : Nat) : List LvB := (l.kids.take k).map (Lv.bind σ)
theorem Lv.bound_snoc (σ : ByteArray → LvB) (l : LvB) (k : Nat) (h : k < l.kids.length) : l.bound σ (k + 1) = l.bound σ k ++ [Lv.bind σ l.kids[k]] := by
  unfold bound; rw [List.take_succ_eq_append_getElem h, List.map_append]; rfl
theorem Lv.bound_all (σ : ByteArray → LvB) (l : LvB) (h : l.kind ≠ 4) : l.bound σ l.kids.length = (l.bind σ).kids := by
  unfold bound; rw [(l.bind_kids σ h).1]; simp

/-- While a row is made: the variable, its row, and that nothing old has turned. -/
structure Making (w : World) (o : Obj) (B : Nat) (kd : Int) (ks : List LvB) (rv : Value) (xs : List Value) (W : World) : Prop where
  var : LVar W (w.heap.size + 2) kd rv
  row : Row W B (w.heap.size + 3) ks rv xs
  old : Below (w.heap.size + 2) ((w.alloc o).alloc zlev) W

set_option maxHeartbeats 4000000 in
theorem rebuild_calls (F : FuncId) (C : Array Value) (σ : ByteArray → LvB) (B D : Nat) (hBD : B ≤ D) (N : Nat) : ∀ (l : LvB) (v : Value) (w : World), l.nodes ≤ N → D ≤ w.heap.size → InLv w B l v → Puts F C σ B D w →
    Calls Tryd.prog 23 #[v, .func (.func F) #[] C] w fun e w' => Made B w (l.bind σ) e w' := by
  induction N with
  | zero => intro l v w h; cases l <;> simp [Lv.nodes] at h
  | succ N ih =>
    intro l v w hN hD hl hP
    have hB : B ≤ w.heap.size := by omega
    by_cases hp : l.kind = 4
    · cases l <;> simp [Lv.kind] at hp
      rename_i p
      have e : v = _ := hl
      subst e
      exact rebuild_param F C σ p B D w hBD hD hP
    · obtain ⟨A, cap, rfl, hk⟩ := hl.shape
      obtain ⟨hbk, hbkd, hbnm, hnm⟩ := l.bind_kids σ hp
      have HBd := hide (l.bound_all σ hp)
      rw [hnm]
      have HK := hide hk
      have IH := hide ih
      have HP := hide hP
      have hk2 := l.kids_le
      have hk4 := l.kind_le
      have hq : ((l.kind : Int) == 4) = false := by simp; omega
      have HKd := hide hp
      have HBk := hide hbkd
      obtain ⟨i0, hi, hz0, hz1, hz2⟩ := info_parts Tryd.info29
      clear hk ih hl hp hP hbk hbkd hbnm hnm
      go_enter Tryd.func23, Tryd.ntmps23
      go_wp2_with fail
      go_loopg [20] (l.kids.length) (fun g i wr => ∃ (k : Nat) (rv : Value) (xs : List Value), k + g = l.kids.length ∧ i = .int .i64 k ∧ Making w (.cells #[.int .i64 l.kind, .string ⟨#[]⟩, .slice A l.kids.length cap] 29) B l.kind (l.bound σ k) rv xs wr)
      case atStart => exact ⟨0, .slice none 0 0, [], by omega, rfl, by have := heap_alloc_new ((w.alloc (.cells #[.int .i64 l.kind, .string ⟨#[]⟩, .slice A l.kids.length cap] 29)).alloc zlev) (.cells #[.int .i64 l.kind, .string ⟨#[]⟩, .slice none 0 0] 29); simpa [LVar] using this, Row.start _ _ _, (Below.refl _ _).alloc (by simp) _⟩
      case round =>
        obtain ⟨k, rv, xs, hkg, rfl, hM⟩ := hrel
        have hold : Below w.heap.size w wr := (((Below.refl _ _).alloc (Nat.le_refl _) _).alloc (by simp) _).trans (hM.old.mono (by omega))
        have hz := hM.old.size
        simp at hz
        have hvl := hM.var.lt
        have hxk : xs.length ≤ 2 := by rw [hM.row.len]; simp [Lv.bound]; omega
        obtain ⟨ao, nn, cc, rfl⟩ : ∃ ao nn cc, rv = .slice ao nn cc := by
          rcases hM.row.own.2 with ⟨e, _⟩ | ⟨g, cap, cur, e, _⟩
          · exact ⟨_, _, _, e⟩
          · exact ⟨_, _, _, e⟩
        have HM := hide hM
        by_cases hlt : k < l.kids.length
        · obtain ⟨b, x, rfl, hbB, h3, hin⟩ := HK.out k hlt
          obtain ⟨k', nm', A', n', cap', rfl, c0, c1, c2⟩ := h3
          have d0 := cell_later hold c0
          have d1 := cell_later hold c1
          have d2 := cell_later hold c2
          have hbw : b < wr.heap.size := by omega
          have hnk := Lv.kid_nodes hlt
          have HSn := hide (l.bound_snoc σ k hlt)
          have HI : Hid (∀ W, Below wr.heap.size wr W → Calls Tryd.prog 23 #[.agg #[.int .i64 k', .string nm', .slice A' n' cap'], .func (.func F) #[] C] W fun e w' => Made B W (Lv.bind σ l.kids[k]) e w') := fun W hW =>
            IH.out _ _ W (by omega) (by have := hW.size; omega) ((hin.below (hold.mono hB)).below (hW.mono (by omega))) (HP.out.later ((hold.mono hD).trans (hW.mono (by omega))))
          have hV := hM.var.alloc (.cells #[.int .i64 k', .string nm', .slice A' n' cap'] 29)
          clear hM c0 c1 c2 hin hold
          go_wp2_with fail
          generalize hW : wr.alloc (.cells #[.int .i64 k', .string nm', .slice A' n' cap'] 29) = W at *
          have hbW : Below wr.heap.size wr W := by rw [← hW]; exact (Below.refl _ _).alloc (Nat.le_refl _) _
          have hzW : W.heap.size = wr.heap.size + 1 := by rw [← hW]; simp
          have p0 : W.cell? ⟨wr.heap.size, 0, none⟩ = some (.int .i64 k') := by rw [← hW]; simp
          have p1 : W.cell? ⟨wr.heap.size, 1, none⟩ = some (.string nm') := by rw [← hW]; simp
          have p2 : W.cell? ⟨wr.heap.size, 2, none⟩ = some (.slice A' n' cap') := by rw [← hW]; simp
          have HOw : Hid (W.ownsRow (w.heap.size + 3) 29 3 (.slice ao nn cc) xs.length (flat xs)) := by rw [← hW]; exact HM.out.row.own.alloc _
          have q2 := hV.c2
          have q3 := hV.f 2
          have hcW : w.heap.size + 2 < W.heap.size := by omega
          have HV := hide hV
          have HBW := hide hbW
          clear hW hV hbW d0 d1 d2
          go_region_law (first
            | (refine step_made (f := 23) (B := B) (L := Lv.bind σ l.kids[k]) (args := #[.agg #[.int .i64 k', .string nm', .slice A' n' cap'], .func (.func F) #[] C]) rfl ?_ ?_ ?_
               · simp [go_sem]
               · exact HI.out _ HBW.out.drew
               intro k1 nm1 A1 n1 cap1 w5 hin5 hb5
               have hb6 : Below W.heap.size W w5 := ⟨hb5.os, hb5.tape, hb5.output, hb5.size, hb5.block⟩
               have hV5 : LVar w5 (w.heap.size + 2) l.kind (.slice ao nn cc) := HV.out.of_block (hb6.block _ hcW)
               have v2 := hV5.c2
               have v3 := hV5.f 2
               have hz5 := hb6.size
               have hlt5 : w.heap.size + 2 < w5.heap.size := by omega
               have HV5 := hide hV5
               have HO5 := hide (HOw.out.kept (row := none) ⟨hb6.os, hb6.tape, hb6.output, hb6.size, fun j hj _ => hb6.block j hj⟩ (Classical.em _))
               have HB5 := hide hb6
               have HI5 := hide hin5
               clear hb5 hb6 hin5 hV5)
            | (refine step_append_own rfl (.tmp 25) (.tmp 29) 27 rfl (w.heap.size + 3) 29 i0 _ 3 48 Tryd.underlying27 hi hz0 hz1 hz2 rfl (by decide) (.slice ao nn cc) xs.length (flat xs) ?_ (HO5.out.alloc _) ⟨w5.heap.size, 0, none⟩ 1 1 [.int .i64 k1, .string nm1, .slice A1 n1 cap1] ?_ rfl ?_ ?_ (by decide) (by unfold maxLen; omega) (by omega) ?_ ?_
               · rfl
               · rfl
               · exact three_new _ _ _ _ _
               · intro u hu; simp at hu; rcases hu with rfl | rfl | rfl <;> rfl
               · show w.heap.size + 3 ≤ (w5.alloc _).heap.size; simp; omega
               intro v' w6 hown6 hgr6 hpl6
               obtain ⟨g, cap', rfl, hgb⟩ := shape_row hown6 (by omega)
               have hV6 : LVar w6 (w.heap.size + 2) l.kind (.slice ao nn cc) := (HV5.out.alloc (.cells #[.int .i64 k1, .string nm1, .slice A1 n1 cap1] 29)).of_block (hgr6.block (w.heap.size + 2) (by simp; omega) (fun e => by have := (HM.out.row.own.lt _ e.symm).1; omega))
               have u2 := hV6.c2
               have u3 := hV6.f 2
               have HV6 := hide hV6
               have HO6 := hide hown6
               have HG6 := hide hgr6
               have HP6 := hide hpl6
               clear hown6 hgr6 hpl6 hV6))
          all_goals
            go_wp2_with fail
            go_roundg (l.kids.length - (k + 1))
            case measure => omega
            case rel =>
              have hwr5 : Below wr.heap.size wr w5 := HBW.out.trans (HB5.out.mono (by omega))
              have hrow := HM.out.row.next (c := w.heap.size + 2) (m := W.heap.size) (by omega) (by omega) (by omega) (fun g e => by have := (HM.out.row.own.lt g e).2; omega) hwr5 HI5.out HO6.out HG6.out HP6.out (.slice (some ⟨g, 0, none⟩) (xs.length + 1) cap')
              refine ⟨k + 1, .slice (some ⟨g, 0, none⟩) (xs.length + 1) cap', xs ++ [.agg #[.int .i64 k1, .string nm1, .slice A1 n1 cap1]], by omega, by go_num, HV6.out.set _, by rw [HSn.out]; exact hrow, ?_⟩
              exact ((HM.out.old.trans ((hwr5.mono (by omega)).alloc (by omega) _)).grown HG6.out (by simp; omega) (fun j hj => by have := (HM.out.row.own.lt j hj).1; omega)).setCell (p := ⟨w.heap.size + 2, 2, none⟩) (Nat.le_refl _) _
        · have hke : k = l.kids.length := by omega
          subst hke
          obtain ⟨z0, z1, z2, zf, zl⟩ := zbox hM.old
          have q0 := hM.var.c0
          have q1 := hM.var.c1
          have q2 := hM.var.c2
          have HF := hide (Row.made (l := l.bind σ) (by rw [← HBd.out]; exact hM.row) (by rw [HBk.out]; exact HKd.out))
          rw [HBk.out] at HF
          have HI := hide (made_fill (u0 := .int .i64 l.kind) (u1 := .string ⟨#[]⟩) (u2 := .slice ao nn cc) hB hM.old (fun b h => h.imp id fun h => by omega) HF.out)
          clear hM hold
          go_wp2_with fail
          refine bodyPost_ret (v := .agg #[.int .i64 l.kind, .string ⟨#[]⟩, .slice ao nn cc]) (by simp [results, Tryd.results23, go_sem, z0, z1, z2]) rfl ?_
          exact ⟨l.kind, ⟨#[]⟩, ao, nn, cc, rfl, HI.out.1, HI.out.2⟩

end Go.Proofs.YtdbpkbhglghdoaaDoor
