/- The contract of rebuild: a level anew, with what a function makes of each parameter. -/
import Derived.Test.YtafdlaaohglfdaaGreatDoorInP
import Derived.Deep.DeepCutAuto
import Derived.Test.YtafdlaaohglfdaaGreatDoorKin

namespace Go.Proofs.YtafdlaaohglfdaaGreatDoor
open Go.RowKit

/-- A call has made a level: in old blocks below B, or in new ones. -/
def Made (B : Nat) (w : World) (L : LvB) (e : Ending) (w' : World) : Prop :=
  ∃ (k : Int) (nm : ByteArray) (A : Option Addr) (n cap : Nat), e = .returned (.agg #[.int .i64 k, .string nm, .slice A n cap]) ∧ InP w' (fun b => b < B ∨ w.heap.size ≤ b) L (.agg #[.int .i64 k, .string nm, .slice A n cap]) ∧ Below w.heap.size w w'

/-- What a function puts in the place of parameters. -/
structure Puts (F : FuncId) (C : Array Value) (σ : ByteArray → LvB) (B D : Nat) (w : World) : Prop where
  enter : ∀ (args : Array Value) (w' : World), Sem.run Tryz.prog (callFunc F args) w' = .ok (.enter F args) w'
  calls : ∀ (p : ByteArray) (w' : World), D ≤ w'.heap.size → Below D w w' → Calls Tryz.prog F (#[.agg #[.int .i64 4, .string p, .slice none 0 0]] ++ C) w' fun e w'' => Made B w' (σ p) e w''

theorem Puts.later {F : FuncId} {C : Array Value} {σ : ByteArray → LvB} {B D : Nat} {w w' : World} (h : Puts F C σ B D w) (hb : Below D w w') : Puts F C σ B D w' :=
  ⟨h.enter, fun p w'' hB hb' => h.calls p w'' hB (hb.trans hb')⟩

/-- A call that makes a level, as one step of a region that draws its order. -/
theorem step_made {ops : Array Oper} {o : Oper} {a : Act} {w : World} {K : Act → World → Prop} {Q : Exit → Act → World → Prop} {E : Prop} {args : Array Value} {f : FuncId} {B : Nat} {L : LvB}
    (hg : o.guard = none) (hrun : (execOp a.eval o).run Tryz.prog w = .ok (.enter f args) w) (hc : Calls Tryz.prog f args w fun e w' => Made B w L e w')
    (hK : ∀ (k : Int) (nm : ByteArray) (A : Option Addr) (n cap : Nat) (w' : World), InP w' (fun b => b < B ∨ w.heap.size ≤ b) L (.agg #[.int .i64 k, .string nm, .slice A n cap]) → Below w.heap.size w w' → K (a.put o.dst (.agg #[.int .i64 k, .string nm, .slice A n cap])) w') :
    if Region.wanted o (yielded ops a.tmps) = true then Oper.wp Tryz.prog o a w K Q else E := by
  have hw : Region.wanted o (yielded ops a.tmps) = true := by simp [Region.wanted, hg]
  rw [if_pos hw]
  unfold Oper.wp
  rw [hrun]
  refine hc.mono ?_
  rintro e w' ⟨k, nm, A, n, cap, rfl, h1, h2⟩
  exact hK k nm A n cap w' h1 h2

/-- The result's block, that is filled last. -/
theorem zbox {w W : World} {o : Obj} (h : Below (w.heap.size + 2) ((w.alloc o).alloc zlev) W) : W.cell? ⟨w.heap.size + 1, 0, none⟩ = some (.int .i64 0) ∧ W.cell? ⟨w.heap.size + 1, 1, none⟩ = some (.string ⟨#[]⟩) ∧ W.cell? ⟨w.heap.size + 1, 2, none⟩ = some (.slice none 0 0) ∧ (∀ i, W.frozen? ⟨w.heap.size + 1, i, none⟩ = false) ∧ w.heap.size + 1 < W.heap.size := by
  have hz := h.size
  simp at hz
  refine ⟨?_, ?_, ?_, fun i => ?_, by omega⟩
  · rw [h.cell (by simp)]; simp [World.cell?_alloc_at, zlev]
  · rw [h.cell (by simp)]; simp [World.cell?_alloc_at, zlev]
  · rw [h.cell (by simp)]; simp [World.cell?_alloc_at, zlev]
  · rw [h.frozen (by simp)]
    have := heap_alloc_new (w.alloc o) zlev
    simp at this
    simp [World.frozen?, this, zlev]

/-- .. is filled: what was made stands. -/
theorem made_fill {w W : World} {o : Obj} {B : Nat} {S : Nat → Prop} {L : LvB} {v u0 u1 u2 : Value} (hB : B ≤ w.heap.size) (h : Below (w.heap.size + 2) ((w.alloc o).alloc zlev) W) (hS : ∀ b, S b → b < B ∨ w.heap.size + 2 ≤ b) (hp : InP W S L v) :
    InP (((W.setCell ⟨w.heap.size + 1, 0, none⟩ u0).setCell ⟨w.heap.size + 1, 1, none⟩ u1).setCell ⟨w.heap.size + 1, 2, none⟩ u2) (fun b => b < B ∨ w.heap.size ≤ b) L v ∧
    Below w.heap.size w (((W.setCell ⟨w.heap.size + 1, 0, none⟩ u0).setCell ⟨w.heap.size + 1, 1, none⟩ u1).setCell ⟨w.heap.size + 1, 2, none⟩ u2) := by
  refine ⟨hp.keep fun b _ hb => ?_, ?_⟩
  · have h1 := hS b hb
    refine ⟨h1.imp id fun h2 => by omega, ?_⟩
    rw [Below.heap_setCell _ _ _ _ (by show b ≠ w.heap.size + 1; omega), Below.heap_setCell _ _ _ _ (by show b ≠ w.heap.size + 1; omega), Below.heap_setCell _ _ _ _ (by show b ≠ w.heap.size + 1; omega)]
  · have h0 : Below w.heap.size w W := (((Below.refl _ _).alloc (Nat.le_refl _) _).alloc (by simp) _).trans (h.mono (by omega))
    exact ((h0.setCell (p := ⟨w.heap.size + 1, 0, none⟩) (by show w.heap.size ≤ w.heap.size + 1; omega) _).setCell (p := ⟨w.heap.size + 1, 1, none⟩) (by show w.heap.size ≤ w.heap.size + 1; omega) _).setCell (p := ⟨w.heap.size + 1, 2, none⟩) (by show w.heap.size ≤ w.heap.size + 1; omega) _

set_option maxRecDepth 100000 in
set_option maxHeartbeats 2000000 in
theorem rebuild_param (F : FuncId) (C : Array Value) (σ : ByteArray → LvB) (p : ByteArray) (B D : Nat) (w : World) (hBD : B ≤ D) (hD : D ≤ w.heap.size) (hP : Puts F C σ B D w) :
    Calls Tryz.prog 60 #[.agg #[.int .i64 4, .string p, .slice none 0 0], .func (.func F) #[] C] w fun e w' => Made B w (σ p) e w' := by
  have hold : Below w.heap.size w ((w.alloc (.cells #[.int .i64 4, .string p, .slice none 0 0] 79)).alloc zlev) := ((Below.refl _ _).alloc (Nat.le_refl _) _).alloc (by simp) _
  have hB : B ≤ w.heap.size := by omega
  have HC := hide (hP.calls p _ (by simp; omega) (hold.mono hD))
  have hen := hP.enter
  clear hP
  go_enter Tryz.func60, Tryz.ntmps60
  go_wp2_with fail
  refine HC.out.mono ?_
  rintro e w1 ⟨k, nm, A, n, cap, rfl, hin, hbw⟩
  have hsz : ((w.alloc (.cells #[.int .i64 4, .string p, .slice none 0 0] 79)).alloc zlev).heap.size = w.heap.size + 2 := by simp
  rw [hsz] at hin hbw
  obtain ⟨z0, z1, z2, zf, zl⟩ := zbox hbw
  have HI := hide (made_fill (u0 := .int .i64 k) (u1 := .string nm) (u2 := .slice A n cap) hB hbw (fun b h => h) hin)
  clear hin hbw hold HC
  go_wp2_with fail
  refine bodyPost_ret (v := .agg #[.int .i64 k, .string nm, .slice A n cap]) (by simp [results, Tryz.results60, go_sem, z0, z1, z2]) rfl ?_
  exact ⟨k, nm, A, n, cap, rfl, HI.out.1, HI.out.2⟩

/-- The parts that are made, in their order. -/
def Lv.bound (σ : ByteArray → LvB) (l : LvB) (k : Nat) : List LvB := (l.kids.take k).map (Lv.bind σ)
theorem Lv.bound_snoc (σ : ByteArray → LvB) (l : LvB) (k : Nat) (h : k < l.kids.length) : l.bound σ (k + 1) = l.bound σ k ++ [Lv.bind σ l.kids[k]] := by
  unfold bound; rw [List.take_succ_eq_append_getElem h, List.map_append]; rfl
theorem Lv.bound_all (σ : ByteArray → LvB) (l : LvB) (h : l.kind ≠ 4) : l.bound σ l.kids.length = (l.bind σ).kids := by
  unfold bound; rw [(l.bind_kids σ h).1]; simp

/-- While a row is made: the variable, its row, and that nothing old has turned. -/
structure Making (w : World) (o : Obj) (B : Nat) (kd : Int) (ks : List LvB) (rv : Value) (xs : List Value) (W : World) : Prop where
  var : LVar W (w.heap.size + 2) kd rv
  row : Row W B (w.heap.size + 3) ks rv xs
  old : Below (w.heap.size + 2) ((w.alloc o).alloc zlev) W

set_option maxRecDepth 100000 in
set_option maxHeartbeats 4000000 in
theorem rebuild_calls (F : FuncId) (C : Array Value) (σ : ByteArray → LvB) (B D : Nat) (hBD : B ≤ D) (N : Nat) : ∀ (l : LvB) (v : Value) (w : World), l.nodes ≤ N → D ≤ w.heap.size → InLv w B l v → Puts F C σ B D w →
    Calls Tryz.prog 60 #[v, .func (.func F) #[] C] w fun e w' => Made B w (l.bind σ) e w' := by
  induction N with
  | zero => intro l v w h; cases l <;> simp [Lv.nodes] at h
  | succ N ih =>
    intro l v w hN hD hl hP
    have hB : B ≤ w.heap.size := by omega
    by_cases hp : l.kind = 4
    · cases l <;> simp [Lv.kind] at hp
      rename_i p
      have e : v = _ := hl
      subst e
      exact rebuild_param F C σ p B D w hBD hD hP
    · obtain ⟨A, cap, rfl, hk⟩ := hl.shape
      obtain ⟨hbk, hbkd, hbnm, hnm⟩ := l.bind_kids σ hp
      have HBd := hide (l.bound_all σ hp)
      rw [hnm]
      have HK := hide hk
      have IH := hide ih
      have HP := hide hP
      have hk2 := l.kids_le
      have hk4 := l.kind_le
      have hq : ((l.kind : Int) == 4) = false := by simp; omega
      have HKd := hide hp
      have HBk := hide hbkd
      obtain ⟨i0, hi, hz0, hz1, hz2⟩ := info_parts Tryz.info79
      clear hk ih hl hp hP hbk hbkd hbnm hnm
      go_enter Tryz.func60, Tryz.ntmps60
      go_wp2_with fail
      go_loopg [20] (l.kids.length) (fun g i wr => ∃ (k : Nat) (rv : Value) (xs : List Value), k + g = l.kids.length ∧ i = .int .i64 k ∧ Making w (.cells #[.int .i64 l.kind, .string ⟨#[]⟩, .slice A l.kids.length cap] 79) B l.kind (l.bound σ k) rv xs wr)
      case atStart => exact ⟨0, .slice none 0 0, [], by omega, rfl, by have := heap_alloc_new ((w.alloc (.cells #[.int .i64 l.kind, .string ⟨#[]⟩, .slice A l.kids.length cap] 79)).alloc zlev) (.cells #[.int .i64 l.kind, .string ⟨#[]⟩, .slice none 0 0] 79); simpa [LVar] using this, Row.start _ _ _, (Below.refl _ _).alloc (by simp) _⟩
      case round =>
        obtain ⟨k, rv, xs, hkg, rfl, hM⟩ := hrel
        have hold : Below w.heap.size w wr := (((Below.refl _ _).alloc (Nat.le_refl _) _).alloc (by simp) _).trans (hM.old.mono (by omega))
        have hz := hM.old.size
        simp at hz
        have hvl := hM.var.lt
        have hxk : xs.length ≤ 2 := by rw [hM.row.len]; simp [Lv.bound]; omega
        obtain ⟨ao, nn, cc, rfl⟩ : ∃ ao nn cc, rv = .slice ao nn cc := by
          rcases hM.row.own.2 with ⟨e, _⟩ | ⟨g, cap, cur, e, _⟩
          · exact ⟨_, _, _, e⟩
          · exact ⟨_, _, _, e⟩
        have HM := hide hM
        by_cases hlt : k < l.kids.length
        · obtain ⟨b, x, rfl, hbB, h3, hin⟩ := HK.out k hlt
          obtain ⟨k', nm', A', n', cap', rfl, c0, c1, c2⟩ := h3
          have d0 := cell_later hold c0
          have d1 := cell_later hold c1
          have d2 := cell_later hold c2
          have hbw : b < wr.heap.size := by omega
          have hnk := Lv.kid_nodes hlt
          have HSn := hide (l.bound_snoc σ k hlt)
          have HI : Hid (∀ W, Below wr.heap.size wr W → Calls Tryz.prog 60 #[.agg #[.int .i64 k', .string nm', .slice A' n' cap'], .func (.func F) #[] C] W fun e w' => Made B W (Lv.bind σ l.kids[k]) e w') := fun W hW =>
            IH.out _ _ W (by omega) (by have := hW.size; omega) ((hin.below (hold.mono hB)).below (hW.mono (by omega))) (HP.out.later ((hold.mono hD).trans (hW.mono (by omega))))
          have hV := hM.var.alloc (.cells #[.int .i64 k', .string nm', .slice A' n' cap'] 79)
          clear hM c0 c1 c2 hin hold
          go_wp2_with fail
          generalize hW : wr.alloc (.cells #[.int .i64 k', .string nm', .slice A' n' cap'] 79) = W at *
          have hbW : Below wr.heap.size wr W := by rw [← hW]; exact (Below.refl _ _).alloc (Nat.le_refl _) _
          have hzW : W.heap.size = wr.heap.size + 1 := by rw [← hW]; simp
          have p0 : W.cell? ⟨wr.heap.size, 0, none⟩ = some (.int .i64 k') := by rw [← hW]; simp
          have p1 : W.cell? ⟨wr.heap.size, 1, none⟩ = some (.string nm') := by rw [← hW]; simp
          have p2 : W.cell? ⟨wr.heap.size, 2, none⟩ = some (.slice A' n' cap') := by rw [← hW]; simp
          have HOw : Hid (W.ownsRow (w.heap.size + 3) 79 3 (.slice ao nn cc) xs.length (flat xs)) := by rw [← hW]; exact HM.out.row.own.alloc _
          have q2 := hV.c2
          have q3 := hV.f 2
          have hcW : w.heap.size + 2 < W.heap.size := by omega
          have HV := hide hV
          have HBW := hide hbW
          clear hW hV hbW d0 d1 d2
          go_region_law (first
            | (refine step_made (f := 60) (B := B) (L := Lv.bind σ l.kids[k]) (args := #[.agg #[.int .i64 k', .string nm', .slice A' n' cap'], .func (.func F) #[] C]) rfl ?_ ?_ ?_
               · simp [go_sem]
               · exact HI.out _ HBW.out.drew
               intro k1 nm1 A1 n1 cap1 w5 hin5 hb5
               have hb6 : Below W.heap.size W w5 := ⟨hb5.os, hb5.tape, hb5.output, hb5.size, hb5.block⟩
               have hV5 : LVar w5 (w.heap.size + 2) l.kind (.slice ao nn cc) := HV.out.of_block (hb6.block _ hcW)
               have v2 := hV5.c2
               have v3 := hV5.f 2
               have hz5 := hb6.size
               have hlt5 : w.heap.size + 2 < w5.heap.size := by omega
               have HV5 := hide hV5
               have HO5 := hide (HOw.out.kept (row := none) ⟨hb6.os, hb6.tape, hb6.output, hb6.size, fun j hj _ => hb6.block j hj⟩ (Classical.em _))
               have HB5 := hide hb6
               have HI5 := hide hin5
               clear hb5 hb6 hin5 hV5)
            | (refine step_append_own rfl (.tmp 25) (.tmp 29) 26 rfl (w.heap.size + 3) 79 i0 _ 3 48 Tryz.underlying26 hi hz0 hz1 hz2 rfl (by decide) (.slice ao nn cc) xs.length (flat xs) ?_ (HO5.out.alloc _) ⟨w5.heap.size, 0, none⟩ 1 1 [.int .i64 k1, .string nm1, .slice A1 n1 cap1] ?_ rfl ?_ ?_ (by decide) (by unfold maxLen; omega) (by omega) ?_ ?_
               · rfl
               · rfl
               · exact three_new _ _ _ _ _
               · intro u hu; simp at hu; rcases hu with rfl | rfl | rfl <;> rfl
               · show w.heap.size + 3 ≤ (w5.alloc _).heap.size; simp; omega
               intro v' w6 hown6 hgr6 hpl6
               obtain ⟨g, cap', rfl, hgb⟩ := shape_row hown6 (by omega)
               have hV6 : LVar w6 (w.heap.size + 2) l.kind (.slice ao nn cc) := (HV5.out.alloc (.cells #[.int .i64 k1, .string nm1, .slice A1 n1 cap1] 79)).of_block (hgr6.block (w.heap.size + 2) (by simp; omega) (fun e => by have := (HM.out.row.own.lt _ e.symm).1; omega))
               have u2 := hV6.c2
               have u3 := hV6.f 2
               have HV6 := hide hV6
               have HO6 := hide hown6
               have HG6 := hide hgr6
               have HP6 := hide hpl6
               clear hown6 hgr6 hpl6 hV6))
          all_goals
            go_wp2_with fail
            go_roundg (l.kids.length - (k + 1))
            case measure => omega
            case rel =>
              have hwr5 : Below wr.heap.size wr w5 := HBW.out.trans (HB5.out.mono (by omega))
              have hrow := HM.out.row.next (c := w.heap.size + 2) (m := W.heap.size) (by omega) (by omega) (by omega) (fun g e => by have := (HM.out.row.own.lt g e).2; omega) hwr5.size (fun b hb _ => hwr5.block b hb) HI5.out HO6.out HG6.out HP6.out (.slice (some ⟨g, 0, none⟩) (xs.length + 1) cap')
              refine ⟨k + 1, .slice (some ⟨g, 0, none⟩) (xs.length + 1) cap', xs ++ [.agg #[.int .i64 k1, .string nm1, .slice A1 n1 cap1]], by omega, by go_num, HV6.out.set _, by rw [HSn.out]; exact hrow, ?_⟩
              exact ((HM.out.old.trans ((hwr5.mono (by omega)).alloc (by omega) _)).grown HG6.out (by simp; omega) (fun j hj => by have := (HM.out.row.own.lt j hj).1; omega)).setCell (p := ⟨w.heap.size + 2, 2, none⟩) (Nat.le_refl _) _
        · have hke : k = l.kids.length := by omega
          subst hke
          obtain ⟨z0, z1, z2, zf, zl⟩ := zbox hM.old
          have q0 := hM.var.c0
          have q1 := hM.var.c1
          have q2 := hM.var.c2
          have HF := hide (Row.made (l := l.bind σ) (by rw [← HBd.out]; exact hM.row) (by rw [HBk.out]; exact HKd.out))
          rw [HBk.out] at HF
          have HI := hide (made_fill (u0 := .int .i64 l.kind) (u1 := .string ⟨#[]⟩) (u2 := .slice ao nn cc) hB hM.old (fun b h => h.imp id fun h => by omega) HF.out)
          clear hM hold
          go_wp2_with fail
          refine bodyPost_ret (v := .agg #[.int .i64 l.kind, .string ⟨#[]⟩, .slice ao nn cc]) (by simp [results, Tryz.results60, go_sem, z0, z1, z2]) rfl ?_
          exact ⟨l.kind, ⟨#[]⟩, ao, nn, cc, rfl, HI.out.1, HI.out.2⟩

end Go.Proofs.YtafdlaaohglfdaaGreatDoor

/- A term that is made anew in a variable: its levels first, then its parts. Plain Lean, no walk. -/
namespace Go.Proofs.YtafdlaaohglfdaaGreatDoor
open Go.RowKit

/-- The parts are the levels of a list, none in a certain block. -/
def LK2 (ls : List LvB) (g0 : Option Nat) (W : World) (S : Nat → Prop) (j : Nat) (v : Value) : Prop := ∃ h : j < ls.length, InP W (fun b => S b ∧ g0 ≠ some b) ls[j] v
theorem LK2.keeps (ls : List LvB) (g0 : Option Nat) : Keeps (LK2 ls g0) := fun _ _ _ _ _ _ h ⟨hj, hp⟩ => ⟨hj, hp.keep fun b hb hS => ⟨⟨(h b hb hS.1).1, hS.2⟩, (h b hb hS.1).2⟩⟩

theorem GRow.levels2 {W : World} {B n0 : Nat} {ls : List LvB} {g0 : Option Nat} {rv : Value} {xs : List Value} (h : GRow (LK2 ls g0) W 79 3 B n0 ls.length rv xs) (hne : g0 = none ∨ g0 ≠ rv.ownBlock) : ∃ A c, rv = .slice A ls.length c ∧ LvsIn W (fun b => (b < B ∨ n0 ≤ b) ∧ g0 ≠ some b) A ls := by
  obtain ⟨A, c, e, hp⟩ := h.out (LK2.keeps _ _)
  refine ⟨A, c, e, fun i hi => ?_⟩
  obtain ⟨g, a, ea, hg, hz, hc, _, hin⟩ := hp i hi
  obtain ⟨k, nm, A1, m1, c1, ev⟩ := hin.form
  refine ⟨g, .agg a, ea, ⟨.inr hg, ?_⟩, ⟨k, nm, A1, m1, c1, ev, ?_⟩, hin⟩
  · rcases hne with h0 | h0
    · rw [h0]; simp
    · rw [e, ea] at h0; exact h0
  · injection ev with ev
    subst ev
    exact ⟨by simpa using hc 0 (by omega), by simpa using hc 1 (by omega), by simpa using hc 2 (by omega)⟩

/-- While the levels are made. -/
structure LLoop (W00 : World) (n B : Nat) (kd nn : Int) (nm : ByteArray) (ls : List LvB) (rvT0 : Value) (k : Nat) (rvL : Value) (xs : List Value) (W : World) : Prop where
  var : TVar 29 W n kd nn nm rvL rvT0
  row : GRow (LK2 ls rvT0.ownBlock) W 79 3 B (n + 1) k rvL xs
  rest : W.ownsRow (n + 1) 29 5 rvT0 0 []
  apart : rvT0.ownBlock = none ∨ rvT0.ownBlock ≠ rvL.ownBlock
  old : Below n W00 W

section
variable {W00 : World} {n B : Nat} {kd nn : Int} {nm : ByteArray} {ls : List LvB} {rvT0 : Value} {k : Nat} {rvL : Value} {xs : List Value} {W w5 w6 : World}
theorem LLoop.later (h : LLoop W00 n B kd nn nm ls rvT0 k rvL xs W) {W' : World} (hb : Below W.heap.size W W') : LLoop W00 n B kd nn nm ls rvT0 k rvL xs W' :=
  ⟨h.var.of_block (hb.block _ h.var.lt), h.row.later (LK2.keeps _ _) hb, h.rest.kept (row := none) ⟨hb.os, hb.tape, hb.output, hb.size, fun j hj _ => hb.block j hj⟩ (Classical.em _), h.apart, h.old.trans (hb.mono (Nat.le_of_lt h.var.lt))⟩

theorem LLoop.size (h : LLoop W00 n B kd nn nm ls rvT0 k rvL xs W) : n < W.heap.size := h.var.lt

theorem LLoop.next (h : LLoop W00 n B kd nn nm ls rvT0 k rvL xs W) (hB : B ≤ n) {m : Nat} (hm : W.heap.size ≤ m) {rv' : Value} {k1 : Int} {nm1 : ByteArray} {A1 : Option Addr} {n1 c1 : Nat} (hk : k < ls.length) (hw : Below W.heap.size W w5)
    (hx : InP w5 (fun b => b < B ∨ m ≤ b) ls[k] (.agg #[.int .i64 k1, .string nm1, .slice A1 n1 c1]))
    (hown : w6.ownsRow (n + 1) 79 3 rv' (k + 1) (flat xs ++ [.int .i64 k1, .string nm1, .slice A1 n1 c1])) (hgr : (w5.alloc (.cells #[.int .i64 k1, .string nm1, .slice A1 n1 c1] 79)).grownBy w6 rvL.ownBlock)
    (hpl : rv'.ownBlock = rvL.ownBlock ∨ rv'.ownBlock = some (w5.alloc (.cells #[.int .i64 k1, .string nm1, .slice A1 n1 c1] 79)).heap.size) :
    LLoop W00 n B kd nn nm ls rvT0 (k + 1) rv' (xs ++ [.agg #[.int .i64 k1, .string nm1, .slice A1 n1 c1]]) (w6.setCell ⟨n, 3, none⟩ rv') := by
  have hz := hw.size
  have hvl := h.var.lt
  have hrl := h.rest.lt
  have h5 := h.later hw
  have hnL : rvL.ownBlock ≠ some n := fun e => by have := (h.row.own.lt n e).1; omega
  have hv6 : TVar 29 w6 n kd nn nm rvL rvT0 := (h5.var.alloc (.cells #[.int .i64 k1, .string nm1, .slice A1 n1 c1] 79)).of_block (hgr.block n (by simp; omega) (fun e => hnL e.symm))
  have hrow := GRow.push (LK2.keeps _ _) h.row (m := m) (by omega) (by omega) (fun g e => by have := (h.row.own.lt g e).2; omega) hw ⟨hk, hx.keep fun b _ hS => ⟨⟨hS, fun e => by have := hrl b e; omega⟩, rfl⟩⟩ rfl hown hgr hpl
  refine ⟨hv6.setL rv', hrow.set (LK2.keeps _ _) (by omega) hB _, ?_, ?_, ?_⟩
  · exact ownsRow_setCell_below ((h5.rest.alloc _).kept hgr h.apart) (a := ⟨n, 3, none⟩) (by show n < n + 1; omega) _
  · rcases hpl with e | e
    · rw [e]; exact h.apart
    · refine .inr fun e2 => ?_
      rw [e] at e2
      have := (hrl _ e2).2
      simp at this
      omega
  · exact ((h5.old.alloc (by omega) _).grown hgr (by simp; omega) (fun j hj => by have := (h.row.own.lt j hj).1; omega)).setCell (p := ⟨n, 3, none⟩) (Nat.le_refl _) _
end

/-- While the parts are made. -/
structure TLoop (W00 W1 : World) (n B : Nat) (kd nn : Int) (nm : ByteArray) (D : Nat) (ts : List Tm) (rvL rvT0 : Value) (k : Nat) (rvT : Value) (xs : List Value) (W : World) : Prop where
  var : TVar 29 W n kd nn nm rvL rvT
  row : GRow (TK D ts) W 29 5 B (n + 1) k rvT xs
  old : Below n W00 W
  keep : ∀ b, b < W1.heap.size → b ≠ n → rvT0.ownBlock ≠ some b → W.heap[b]? = W1.heap[b]?
  size : W1.heap.size ≤ W.heap.size
  place : rvT.ownBlock = rvT0.ownBlock ∨ ∀ g, rvT.ownBlock = some g → W1.heap.size ≤ g

section
variable {W00 W1 : World} {n B : Nat} {kd nn : Int} {nm : ByteArray} {D : Nat} {ts : List Tm} {rvL rvT0 : Value} {k : Nat} {rvT : Value} {xs : List Value} {W w5 w6 : World}
theorem TLoop.start {ls : List LvB} {kl : Nat} (h : LLoop W00 n B kd nn nm ls rvT0 kl rvL xs W) : TLoop W00 W n B kd nn nm D ts rvL rvT0 0 rvT0 [] W :=
  ⟨h.var, GRow.begin h.rest, h.old, fun _ _ _ _ => rfl, Nat.le_refl _, .inl rfl⟩

theorem TLoop.later (h : TLoop W00 W1 n B kd nn nm D ts rvL rvT0 k rvT xs W) {W' : World} (hb : Below W.heap.size W W') : TLoop W00 W1 n B kd nn nm D ts rvL rvT0 k rvT xs W' :=
  ⟨h.var.of_block (hb.block _ h.var.lt), h.row.later (TK.keeps _ _) hb, h.old.trans (hb.mono (Nat.le_of_lt h.var.lt)), fun b h1 h2 h3 => (hb.block b (Nat.lt_of_lt_of_le h1 h.size)).trans (h.keep b h1 h2 h3), Nat.le_trans h.size hb.size, h.place⟩

theorem TLoop.next (h : TLoop W00 W1 n B kd nn nm D ts rvL rvT0 k rvT xs W) (hB : B ≤ n) {m : Nat} (hm : W.heap.size ≤ m) {rv' : Value} {k1 n1 : Int} {nm1 : ByteArray} {A1 : Option Addr} {l1 c1 : Nat} {A2 : Option Addr} {l2 c2 : Nat} (hw : Below W.heap.size W w5)
    (hx : TK D ts w5 (fun b => b < B ∨ m ≤ b) k (.agg #[.int .i64 k1, .int .i64 n1, .string nm1, .slice A1 l1 c1, .slice A2 l2 c2]))
    (hown : w6.ownsRow (n + 1) 29 5 rv' (k + 1) (flat xs ++ [.int .i64 k1, .int .i64 n1, .string nm1, .slice A1 l1 c1, .slice A2 l2 c2])) (hgr : (w5.alloc (.cells #[.int .i64 k1, .int .i64 n1, .string nm1, .slice A1 l1 c1, .slice A2 l2 c2] 29)).grownBy w6 rvT.ownBlock)
    (hpl : rv'.ownBlock = rvT.ownBlock ∨ rv'.ownBlock = some (w5.alloc (.cells #[.int .i64 k1, .int .i64 n1, .string nm1, .slice A1 l1 c1, .slice A2 l2 c2] 29)).heap.size) :
    TLoop W00 W1 n B kd nn nm D ts rvL rvT0 (k + 1) rv' (xs ++ [.agg #[.int .i64 k1, .int .i64 n1, .string nm1, .slice A1 l1 c1, .slice A2 l2 c2]]) (w6.setCell ⟨n, 4, none⟩ rv') := by
  have hz := hw.size
  have hvl := h.var.lt
  have h5 := h.later hw
  have hs := h.size
  have hg6 := hgr.size
  simp at hg6
  have hnL : rvT.ownBlock ≠ some n := fun e => by have := (h.row.own.lt n e).1; omega
  have hv6 : TVar 29 w6 n kd nn nm rvL rvT := (h5.var.alloc (.cells #[.int .i64 k1, .int .i64 n1, .string nm1, .slice A1 l1 c1, .slice A2 l2 c2] 29)).of_block (hgr.block n (by simp; omega) (fun e => hnL e.symm))
  have hrow := GRow.push (TK.keeps _ _) h.row (m := m) (by omega) (by omega) (fun g e => by have := (h.row.own.lt g e).2; omega) hw hx rfl hown hgr hpl
  refine ⟨hv6.setA rv', hrow.set (TK.keeps _ _) (by omega) hB _, ?_, fun b h1 h2 h3 => ?_, by simp [World.setCell]; omega, ?_⟩
  · exact ((h5.old.alloc (by omega) _).grown hgr (by simp; omega) (fun j hj => by have := (h.row.own.lt j hj).1; omega)).setCell (p := ⟨n, 4, none⟩) (Nat.le_refl _) _
  · have hne : rvT.ownBlock ≠ some b := by
      rcases h.place with e | e
      · rw [e]; exact h3
      · intro e2; have := e b e2; omega
    rw [Below.heap_setCell _ _ _ _ (by show b ≠ n; omega), hgr.block b (by simp; omega) (fun e => hne e.symm), Below.heap_alloc _ _ _ (by omega)]
    exact h5.keep b h1 h2 h3
  · rcases hpl with e | e
    · rw [e]; exact h.place
    · refine .inr fun g e2 => ?_
      rw [e] at e2
      injection e2 with e2
      simp at e2
      omega

/-- The whole term. -/
theorem TLoop.made {kd' nn' : Nat} {ls : List LvB} {A : Option Addr} {c : Nat} (h : TLoop W00 W1 n B kd' nn' nm D ts (.slice A ls.length c) rvT0 ts.length rvT xs W) (hB : B ≤ n) (hl : LvsIn W1 (fun b => (b < B ∨ n + 1 ≤ b) ∧ rvT0.ownBlock ≠ some b) A ls) :
    ∃ A' c', rvT = .slice A' ts.length c' ∧ InTm W (fun b => b < B ∨ n + 1 ≤ b) (D + 1) (.node kd' nn' nm ls ts) (.agg #[.int .i64 (kd' : Nat), .int .i64 (nn' : Nat), .string nm, .slice A ls.length c, .slice A' ts.length c']) := by
  obtain ⟨A', c', e, hp⟩ := GRow.terms h.row
  exact ⟨A', c', e, InTm.mk rfl rfl (hl.keep fun b hb hS => ⟨hS.1, h.keep b hb (by have := hS.1; omega) hS.2⟩) hp⟩
end

theorem InP.inLvB {w : World} {B : Nat} : ∀ {l : LvB} {v : Value}, InP w (fun b => b < B) l v → InLv w B l v
  | .zero, _, hl => hl
  | .param _, _, hl => hl
  | .succ a, _, ⟨b, cap, x, e, hb, h3, ha⟩ => ⟨b, cap, x, e, hb, h3, InP.inLvB (l := a) ha⟩
  | .max a c, _, ⟨b, cap, x, y, e, hb, h3, h4, ha, hc⟩ => ⟨b, cap, x, y, e, hb, h3, h4, InP.inLvB (l := a) ha, InP.inLvB (l := c) hc⟩
  | .imax a c, _, ⟨b, cap, x, y, e, hb, h3, h4, ha, hc⟩ => ⟨b, cap, x, y, e, hb, h3, h4, InP.inLvB (l := a) ha, InP.inLvB (l := c) hc⟩

end Go.Proofs.YtafdlaaohglfdaaGreatDoor
