/- The contracts of Apply: the document's (app) and the program's (node). -/
import Derived.Test.YteepmfhpjanbhaaGreatDoorRLift
import Derived.Test.YteepmfhpjanbhaaGreatDoorKin

namespace Go.Proofs.YteepmfhpjanbhaaGreatDoor
open Go.RowKit

/-- An application; one of many. -/
def appT (f a : Tm) : Tm := .node 3 0 ⟨#[]⟩ [] [f, a]
def applyT (f : Tm) (xs : List Tm) : Tm := xs.foldl appT f
theorem applyT_succ (f : Tm) (xs : List Tm) (k : Nat) (h : k < xs.length) : applyT f (xs.take (k + 1)) = appT (applyT f (xs.take k)) xs[k] := by
  unfold applyT
  rw [List.take_succ_eq_append_getElem h, List.foldl_append]
  rfl

/-- The terms of a list lie there. -/
def LstT (w : World) (S : Nat → Prop) (d : Nat) (ts : List Tm) (v : Value) : Prop := ∃ (A : Option Addr) (c : Nat), v = .slice A ts.length c ∧ ∀ i (hi : i < ts.length), ∃ b x, A = some ⟨b, 0, none⟩ ∧ S b ∧ Five w b (i * 5) x ∧ InTm w S d ts[i] x
theorem LstT.keep {w w' : World} {S S' : Nat → Prop} (h : ∀ b, b < w.heap.size → S b → S' b ∧ w'.heap[b]? = w.heap[b]?) {d : Nat} {ts : List Tm} {v : Value} (hl : LstT w S d ts v) : LstT w' S' d ts v := by
  obtain ⟨A, c, e, hp⟩ := hl
  refine ⟨A, c, e, fun i hi => ?_⟩
  obtain ⟨b, x, e1, hb, h5, hin⟩ := hp i hi
  exact ⟨b, x, e1, (h b h5.lt hb).1, h5.of_block (h b h5.lt hb).2, hin.keep h⟩

/-- The value is a term, all in blocks of that kind or in new ones. -/
def MadeS (S : Nat → Prop) (w : World) (d : Nat) (t : Tm) (e : Ending) (w' : World) : Prop :=
  ∃ (k n : Int) (nm : ByteArray) (A : Option Addr) (la lc : Nat) (A' : Option Addr) (ta tc : Nat), e = .returned (.agg #[.int .i64 k, .int .i64 n, .string nm, .slice A la lc, .slice A' ta tc]) ∧
    InTm w' (fun b => S b ∨ w.heap.size ≤ b) d t (.agg #[.int .i64 k, .int .i64 n, .string nm, .slice A la lc, .slice A' ta tc]) ∧ Below w.heap.size w w'

theorem pair_in {W : World} {S : Nat → Prop} {d g : Nat} {f a : Tm} {k n : Int} {nm : ByteArray} {A : Option Addr} {m c : Nat} {A' : Option Addr} {m' c' : Nat} {k2 n2 : Int} {nm2 : ByteArray} {B : Option Addr} {l o : Nat} {B' : Option Addr} {l' o' : Nat} {fr : Nat × Nat} (hS : S g)
    (hb : W.heap[g]? = some (.cells #[.int .i64 k, .int .i64 n, .string nm, .slice A m c, .slice A' m' c', .int .i64 k2, .int .i64 n2, .string nm2, .slice B l o, .slice B' l' o'] 30 fr))
    (hf : InTm W S d f (.agg #[.int .i64 k, .int .i64 n, .string nm, .slice A m c, .slice A' m' c'])) (ha : InTm W S d a (.agg #[.int .i64 k2, .int .i64 n2, .string nm2, .slice B l o, .slice B' l' o'])) (cc : Nat) :
    InTm W S (d + 1) (appT f a) (.agg #[.int .i64 3, .int .i64 0, .string ⟨#[]⟩, .slice none 0 0, .slice (some ⟨g, 0, none⟩) 2 cc]) := by
  refine InTm.mk (kd := 3) (n := 0) rfl rfl (fun i hi => absurd hi (by simp)) fun i hi => ?_
  match i, hi with
  | 0, _ => exact ⟨g, _, rfl, hS, ⟨k, n, nm, A, m, c, A', m', c', rfl, by simp [World.cell?, hb], by simp [World.cell?, hb], by simp [World.cell?, hb], by simp [World.cell?, hb], by simp [World.cell?, hb]⟩, hf⟩
  | 1, _ => exact ⟨g, _, rfl, hS, ⟨k2, n2, nm2, B, l, o, B', l', o', rfl, by simp [World.cell?, hb], by simp [World.cell?, hb], by simp [World.cell?, hb], by simp [World.cell?, hb], by simp [World.cell?, hb]⟩, ha⟩
  | i + 2, hi => exact absurd hi (by simp)

set_option maxRecDepth 100000 in
set_option maxHeartbeats 2000000 in
theorem rapp_calls (S : Nat → Prop) (d : Nat) (f a : Tm) (k n : Int) (nm : ByteArray) (A : Option Addr) (m c : Nat) (A' : Option Addr) (m' c' : Nat) (k2 n2 : Int) (nm2 : ByteArray) (B : Option Addr) (l o : Nat) (B' : Option Addr) (l' o' : Nat) (w : World)
    (hf : InTm w S d f (.agg #[.int .i64 k, .int .i64 n, .string nm, .slice A m c, .slice A' m' c'])) (ha : InTm w S d a (.agg #[.int .i64 k2, .int .i64 n2, .string nm2, .slice B l o, .slice B' l' o'])) :
    Calls Tryz.prog 57 #[.agg #[.int .i64 k, .int .i64 n, .string nm, .slice A m c, .slice A' m' c'], .agg #[.int .i64 k2, .int .i64 n2, .string nm2, .slice B l o, .slice B' l' o']] w fun e w' =>
      MadeS S w (d + 1) (appT f a) e w' := by
  have HF := hide hf
  have HA := hide ha
  clear hf ha
  go_enter Tryz.func57, Tryz.ntmps57
  go_wp2_with fail
  refine bodyPost_ret (v := .agg #[.int .i64 3, .int .i64 0, .string ⟨#[]⟩, .slice none 0 0, .slice (some ⟨w.heap.size + 1 + 1 + 1, 0, none⟩) 2 2]) (by simp [results, Tryz.results57, go_sem]) rfl ?_
  have hb := ((((Below.refl w.heap.size w).alloc (Nat.le_refl _) (.cells #[.int .i64 k, .int .i64 n, .string nm, .slice A m c, .slice A' m' c'] 30)).alloc (by simp) (.cells #[.int .i64 k2, .int .i64 n2, .string nm2, .slice B l o, .slice B' l' o'] 30)).alloc (by simp; omega) (.cells #[.int .i64 3, .int .i64 0, .string ⟨#[]⟩, .slice none 0 0, .slice (some ⟨w.heap.size + 1 + 1 + 1, 0, none⟩) 2 2] 30)).alloc (by simp; omega) (.cells #[.int .i64 k, .int .i64 n, .string nm, .slice A m c, .slice A' m' c', .int .i64 k2, .int .i64 n2, .string nm2, .slice B l o, .slice B' l' o'] 30)
  refine ⟨_, _, _, _, _, _, _, _, _, rfl, pair_in (fr := (0, 0)) (.inr (by omega)) ?_ (HF.out.keep fun b hbl hS => ⟨.inl hS, hb.block b hbl⟩) (HA.out.keep fun b hbl hS => ⟨.inl hS, hb.block b hbl⟩) 2, hb⟩
  have := heap_alloc_new (((w.alloc (.cells #[.int .i64 k, .int .i64 n, .string nm, .slice A m c, .slice A' m' c'] 30)).alloc (.cells #[.int .i64 k2, .int .i64 n2, .string nm2, .slice B l o, .slice B' l' o'] 30)).alloc (.cells #[.int .i64 3, .int .i64 0, .string ⟨#[]⟩, .slice none 0 0, .slice (some ⟨w.heap.size + 1 + 1 + 1, 0, none⟩) 2 2] 30)) (.cells #[.int .i64 k, .int .i64 n, .string nm, .slice A m c, .slice A' m' c', .int .i64 k2, .int .i64 n2, .string nm2, .slice B l o, .slice B' l' o'] 30)
  simpa using this

set_option maxRecDepth 100000 in
set_option maxHeartbeats 2000000 in
theorem node_calls (A' : Option Addr) (m' c' : Nat) (w : World) :
    Calls Tryz.prog 56 #[.int .i64 3, .slice A' m' c'] w fun e w' => e = .returned (.agg #[.int .i64 3, .int .i64 0, .string ⟨#[]⟩, .slice none 0 0, .slice A' m' c']) ∧ Below w.heap.size w w' := by
  go_enter Tryz.func56, Tryz.ntmps56
  go_wp2_with fail
  refine bodyPost_ret (v := .agg #[.int .i64 3, .int .i64 0, .string ⟨#[]⟩, .slice none 0 0, .slice A' m' c']) (by simp [results, Tryz.results56, go_sem]) rfl ?_
  exact ⟨rfl, (Below.refl _ _).alloc (Nat.le_refl _) _⟩

theorem step_madeS {ops : Array Oper} {o : Oper} {a : Act} {w : World} {K : Act → World → Prop} {Q : Exit → Act → World → Prop} {E : Prop} {args : Array Value} {f : FuncId} {S : Nat → Prop} {d : Nat} {t : Tm}
    (hg : o.guard = none) (hrun : (execOp a.eval o).run Tryz.prog w = .ok (.enter f args) w) (hc : Calls Tryz.prog f args w fun e w' => MadeS S w d t e w')
    (hK : ∀ (k n : Int) (nm : ByteArray) (A : Option Addr) (la lc : Nat) (A' : Option Addr) (ta tc : Nat) (w' : World), InTm w' (fun b => S b ∨ w.heap.size ≤ b) d t (.agg #[.int .i64 k, .int .i64 n, .string nm, .slice A la lc, .slice A' ta tc]) → Below w.heap.size w w' → K (a.put o.dst (.agg #[.int .i64 k, .int .i64 n, .string nm, .slice A la lc, .slice A' ta tc])) w') :
    if Region.wanted o (yielded ops a.tmps) = true then Oper.wp Tryz.prog o a w K Q else E := by
  have hw : Region.wanted o (yielded ops a.tmps) = true := by simp [Region.wanted, hg]
  rw [if_pos hw]
  unfold Oper.wp
  rw [hrun]
  refine hc.mono ?_
  rintro e w' ⟨k, n, nm, A, la, lc, A', ta, tc, rfl, h1, h2⟩
  exact hK k n nm A la lc A' ta tc w' h1 h2

/-- A term's variable holds a term, the result's block is as it was made, and nothing old has turned. -/
structure Held2 (w : World) (B d : Nat) (t : Tm) (wr : World) : Prop where
  var : ∃ (k n : Int) (nm : ByteArray) (A : Option Addr) (la lc : Nat) (A' : Option Addr) (ta tc : Nat), TVar 30 wr w.heap.size k n nm (.slice A la lc) (.slice A' ta tc) ∧ InTm wr (fun b => b < B ∨ w.heap.size + 2 ≤ b) d t (.agg #[.int .i64 k, .int .i64 n, .string nm, .slice A la lc, .slice A' ta tc])
  zero : TVar 30 wr (w.heap.size + 1) 0 0 ⟨#[]⟩ (.slice none 0 0) (.slice none 0 0)
  old : Below w.heap.size w wr

theorem TVar.set5 {wr : World} {c : Nat} {k n : Int} {nm : ByteArray} {v v' : Value} (h : TVar 30 wr c k n nm v v') (k2 n2 : Int) (nm2 : ByteArray) (u u' : Value) : TVar 30 (set5 wr c (.int .i64 k2) (.int .i64 n2) (.string nm2) u u') c k2 n2 nm2 u u' := by
  unfold TVar at *
  simp [World.setCell, Array.getElem?_modify, h]

/-- A new term is stored in the variable. -/
theorem Held2.store {w wr w1 : World} {B d d' : Nat} {t t' : Tm} (h : Held2 w B d t wr) (hb : Below wr.heap.size wr w1) {k n : Int} {nm : ByteArray} {A : Option Addr} {la lc : Nat} {A' : Option Addr} {ta tc : Nat} {S : Nat → Prop} (hB : B ≤ w.heap.size) (hS : ∀ b, S b → b < B ∨ w.heap.size + 2 ≤ b)
    (hin : InTm w1 S d' t' (.agg #[.int .i64 k, .int .i64 n, .string nm, .slice A la lc, .slice A' ta tc])) : Held2 w B d' t' (set5 w1 w.heap.size (.int .i64 k) (.int .i64 n) (.string nm) (.slice A la lc) (.slice A' ta tc)) := by
  obtain ⟨⟨k0, n0, nm0, A0, a0, c0, A1, a1, c1, hv, _⟩, hz, ho⟩ := h
  have hv1 := hv.of_block (hb.block _ hv.lt)
  have hz1 := hz.of_block (hb.block _ hz.lt)
  refine ⟨⟨_, _, _, _, _, _, _, _, _, hv1.set5 _ _ _ _ _, hin.keep fun b _ hSb => ⟨hS b hSb, set5_block ?_⟩⟩, hz1.of_block (set5_block (by omega)), set5_below (Nat.le_refl _) (ho.trans (hb.mono ho.size))⟩
  rcases hS b hSb with h | h <;> omega

set_option maxRecDepth 100000 in
set_option maxHeartbeats 4000000 in
theorem rapply_calls (B d : Nat) (f : Tm) (xs : List Tm) (vf va : Value) (w : World) (hB : B ≤ w.heap.size) (hn : xs.length ≤ 1000000) (hf : InTm w (fun b => b < B) d f vf) (ha : LstT w (fun b => b < B) d xs va) :
    Calls Tryz.prog 26 #[vf, va] w fun e w' => MadeT B w (d + xs.length) (applyT f xs) e w' := by
  obtain ⟨k, nn, nm, A, la, lc, A', ta, tc, rfl⟩ := hf.form
  obtain ⟨A2, c2, rfl, hp⟩ := ha
  have hH : Held2 w B d f ((w.alloc (.cells #[.int .i64 k, .int .i64 nn, .string nm, .slice A la lc, .slice A' ta tc] 30)).alloc ztm) := by
    have ho : Below w.heap.size w ((w.alloc (.cells #[.int .i64 k, .int .i64 nn, .string nm, .slice A la lc, .slice A' ta tc] 30)).alloc ztm) := ((Below.refl _ _).alloc (Nat.le_refl _) _).alloc (by simp) _
    refine ⟨⟨k, nn, nm, A, la, lc, A', ta, tc, ?_, hf.keep fun b hbl hS => ⟨.inl hS, ho.block b hbl⟩⟩, ?_, ho⟩
    · exact TVar.alloc (by exact heap_alloc_new _ _) _
    · have := heap_alloc_new (w.alloc (.cells #[.int .i64 k, .int .i64 nn, .string nm, .slice A la lc, .slice A' ta tc] 30)) ztm
      simpa [TVar] using this
  have HH := hide hH
  have HP := hide hp
  clear hf hp hH
  go_enter Tryz.func26, Tryz.ntmps26
  go_wp2_with fail
  go_loopg [5] (xs.length) (fun g i wr => ∃ k0 : Nat, k0 + g = xs.length ∧ i = .int .i64 k0 ∧ Held2 w B (d + k0) (applyT f (xs.take k0)) wr)
  case atStart => exact ⟨0, by omega, rfl, by simpa [applyT] using HH.out⟩
  case round =>
    obtain ⟨k0, hkg, rfl, hH⟩ := hrel
    have HH1 := hide hH
    obtain ⟨⟨k1, n1, nm1, A3, l3, c3, A4, l4, c4, hv, hin⟩, hz, ho⟩ := hH
    have g0 := hv.c0
    have g1 := hv.c1
    have g2 := hv.c2
    have g3 := hv.c3
    have g4 := hv.c4
    have gl := hv.lt
    have gf := hv.f
    have x0 := hz.c0
    have x1 := hz.c1
    have x2 := hz.c2
    have x3 := hz.c3
    have x4 := hz.c4
    have xf := hz.f
    have xl := hz.lt
    by_cases hlt : k0 < xs.length
    · obtain ⟨b1, x, rfl, hb1, h5, hinx⟩ := HP.out k0 hlt
      obtain ⟨k2, n2, nm2, A5, l5, c5, A6, l6, c6, rfl, e0, e1, e2, e3, e4⟩ := h5
      have d0 := cell_later ho e0
      have d1 := cell_later ho e1
      have d2 := cell_later ho e2
      have d3 := cell_later ho e3
      have d4 := cell_later ho e4
      have HC := hide (rapp_calls (fun b => b < B ∨ w.heap.size + 2 ≤ b) (d + k0) _ _ _ _ _ _ _ _ _ _ _ _ _ _ _ _ _ _ _ _ wr.drew (InTm.keep (w := wr) (w' := wr.drew) (fun b _ hS => ⟨hS, rfl⟩) hin) ((hinx.keep (w' := wr.drew) fun b hb hS => ⟨.inl hS, ho.block b hb⟩).deeper (by omega)))
      clear hv hin hz ho hinx e0 e1 e2 e3 e4 x0 x1 x2 x3 x4 xf
      go_wp2_with fail
      go_region_law (first
        | (refine step_madeS (f := 57) (S := fun b => b < B ∨ w.heap.size + 2 ≤ b) (d := d + k0 + 1) (t := appT (applyT f (xs.take k0)) xs[k0]) rfl ?_ HC.out ?_
           · simp [go_sem]
           intro k5 n5 nm5 A7 l7 c7 A8 l8 c8 w1 hin1 hb1''
           have hb1' : Below wr.heap.size wr w1 := ⟨hb1''.os, hb1''.tape, hb1''.output, hb1''.size, hb1''.block⟩
           have HS := hide (HH1.out.store hb1' hB (fun b h => h.elim id fun h => .inr (by have : wr.heap.size ≤ b := h; omega)) hin1)
           have gl1 : w.heap.size < w1.heap.size := Nat.lt_of_lt_of_le gl hb1'.size
           have gf1 : ∀ i, w1.frozen? ⟨w.heap.size, i, none⟩ = false := fun i => by rw [World.frozen?_of_block (hb1'.block _ gl)]; exact gf i
           have p0 := cell_later hb1' g0
           have p1 := cell_later hb1' g1
           have p2 := cell_later hb1' g2
           have p3 := cell_later hb1' g3
           have p4 := cell_later hb1' g4
           clear hin1 hb1' hb1'' HC g0 g1 g2 g3 g4 gf d0 d1 d2 d3 d4))
      all_goals
        go_wp2_with fail
        go_roundg (xs.length - (k0 + 1))
        case measure => omega
        case rel => exact ⟨k0 + 1, by omega, by go_num, by rw [applyT_succ f xs k0 hlt]; exact HS.out⟩
    · have hk : k0 = xs.length := by omega
      subst hk
      rw [List.take_length] at hin
      have HF := hide (fill5 (r := w.heap.size + 1) (u0 := .int .i64 k1) (u1 := .int .i64 n1) (u2 := .string nm1) (u3 := .slice A3 l3 c3) (u4 := .slice A4 l4 c4) (by omega) hB ho (fun b _ h => h.imp id fun h => by omega) hin)
      clear hv hin hz ho
      go_wp2_with fail
      refine bodyPost_ret (v := .agg #[.int .i64 k1, .int .i64 n1, .string nm1, .slice A3 l3 c3, .slice A4 l4 c4]) (by simp [results, Tryz.results26, go_sem, x0, x1, x2, x3, x4]) rfl ?_
      exact ⟨_, _, _, _, _, _, _, _, _, rfl, HF.out.1, HF.out.2⟩

end Go.Proofs.YteepmfhpjanbhaaGreatDoor

/- The contract of the document's Spine. -/
namespace Go.Proofs.YteepmfhpjanbhaaGreatDoor
open Go.RowKit

/-- A spine's head; its arguments, the last ahead. -/
def headT : Nat → Tm → Tm
  | 0, t => t
  | d + 1, t => if t.kd = 3 then headT d (t.ch 0) else t
def backT : Nat → Tm → List Tm
  | 0, _ => []
  | d + 1, t => if t.kd = 3 then t.ch 1 :: backT d (t.ch 0) else []
theorem spine_step {d : Nat} {t : Tm} (h : t.kd = 3) : headT (d + 1) t = headT d (t.ch 0) ∧ backT (d + 1) t = t.ch 1 :: backT d (t.ch 0) := by simp [headT, backT, h]
theorem spine_end {d : Nat} {t : Tm} (h : t.kd ≠ 3) : headT (d + 1) t = t ∧ backT (d + 1) t = [] := by simp [headT, backT, h]
theorem backT_len : ∀ (d : Nat) (t : Tm), (backT d t).length ≤ d
  | 0, _ => by simp [backT]
  | d + 1, t => by
    unfold backT
    split
    · have := backT_len d (t.ch 0); simp only [List.length_cons]; omega
    · simp

theorem var_open {wr : World} {S : Nat → Prop} {e c : Nat} {u : Tm} {k n : Int} {nm : ByteArray} {A : Option Addr} {la lc : Nat} {A' : Option Addr} {ta tc : Nat} (hv : TVar 30 wr c k n nm (.slice A la lc) (.slice A' ta tc)) (hin : InTm wr S (e + 1) u (.agg #[.int .i64 k, .int .i64 n, .string nm, .slice A la lc, .slice A' ta tc])) :
    ∃ (A : Option Addr) (lc : Nat) (A' : Option Addr) (tc : Nat), TVar 30 wr c (u.kd : Nat) (u.n : Nat) u.nm (.slice A u.ls.length lc) (.slice A' u.ts.length tc) ∧ InTm wr S (e + 1) u (.agg #[.int .i64 (u.kd : Nat), .int .i64 (u.n : Nat), .string u.nm, .slice A u.ls.length lc, .slice A' u.ts.length tc]) ∧
      ∀ i (hi : i < u.ts.length), ∃ b x, A' = some ⟨b, 0, none⟩ ∧ S b ∧ Five wr b (i * 5) x ∧ InTm wr S e u.ts[i] x := by
  have h0 := hin
  obtain ⟨A1, c1, A2, c2, ev, hl, ht⟩ := hin
  refine ⟨A1, c1, A2, c2, ?_, by rw [← ev]; exact h0, ht⟩
  injection ev with ev
  unfold TVar at *
  have e1 : ([Value.int .i64 k, .int .i64 n, .string nm, .slice A la lc, .slice A' ta tc]).toArray = [Value.int .i64 (u.kd : Nat), .int .i64 (u.n : Nat), .string u.nm, .slice A1 u.ls.length c1, .slice A2 u.ts.length c2].toArray := ev
  rw [hv]
  show some (Obj.cells ([Value.int .i64 k, .int .i64 n, .string nm, .slice A la lc, .slice A' ta tc]).toArray 30 (0, 0)) = _
  rw [e1]

/-- A spine that is being taken apart: the variable holds u, so many arguments lie in the row. -/
structure SpSt (w : World) (B d k e : Nat) (L : List Tm) (u : Tm) (wr : World) (rv : Value) (xs : List Value) : Prop where
  var : ∃ (k n : Int) (nm : ByteArray) (A : Option Addr) (la lc : Nat) (A' : Option Addr) (ta tc : Nat), TVar 30 wr w.heap.size k n nm (.slice A la lc) (.slice A' ta tc) ∧ InTm wr (fun b => b < B) e u (.agg #[.int .i64 k, .int .i64 n, .string nm, .slice A la lc, .slice A' ta tc])
  zero : TVar 30 wr (w.heap.size + 1) 0 0 ⟨#[]⟩ (.slice none 0 0) (.slice none 0 0)
  old : Below w.heap.size w wr
  row : GRow (TK d L) wr 30 5 B (w.heap.size + 2) k rv xs

/-- One argument more, and the variable holds the function. -/
theorem SpSt.next {w wr w5 w6 : World} {B d k e e' : Nat} {L : List Tm} {u u' : Tm} {rv rv' : Value} {xs : List Value} (h : SpSt w B d k e L u wr rv xs) (hB : B ≤ w.heap.size) {a : Array Value} (hw : Below wr.heap.size wr w5) (hk : k < L.length) (hx : InTm w5 (fun b => b < B ∨ wr.heap.size ≤ b) d L[k] (.agg a)) (ha : a.size = 5)
    (hown : w6.ownsRow (w.heap.size + 2) 30 5 rv' (k + 1) (flat xs ++ a.toList)) (hgr : (w5.alloc (.cells a 30)).grownBy w6 rv.ownBlock) (hpl : rv'.ownBlock = rv.ownBlock ∨ rv'.ownBlock = some (w5.alloc (.cells a 30)).heap.size)
    {k1 n1 : Int} {nm1 : ByteArray} {A1 : Option Addr} {l1 c1 : Nat} {A2 : Option Addr} {l2 c2 : Nat} (hu : InTm wr (fun b => b < B) e' u' (.agg #[.int .i64 k1, .int .i64 n1, .string nm1, .slice A1 l1 c1, .slice A2 l2 c2])) :
    SpSt w B d (k + 1) e' L u' (set5 w6 w.heap.size (.int .i64 k1) (.int .i64 n1) (.string nm1) (.slice A1 l1 c1) (.slice A2 l2 c2)) rv' (xs ++ [.agg a]) ∧ ∀ b, b < wr.heap.size → rv.ownBlock ≠ some b → w6.heap[b]? = wr.heap[b]? := by
  obtain ⟨⟨k0, n0, nm0, A0, a0, c0, A3, a3, c3, hv, _⟩, hz, ho, hr⟩ := h
  have hsz := hw.size
  have hblk : ∀ b, b < wr.heap.size → rv.ownBlock ≠ some b → w6.heap[b]? = wr.heap[b]? := fun b hb hne => by
    rw [hgr.block b (by simp; omega) (fun e => hne e.symm), Below.heap_alloc _ _ _ (by omega)]
    exact hw.block b hb
  have hne : ∀ b, b < w.heap.size + 2 → rv.ownBlock ≠ some b := fun b hb e => by have := (hr.own.lt b e).1; omega
  have hl := hv.lt
  have hl2 := hz.lt
  have hrow := GRow.push (TK.keeps _ _) hr (m := wr.heap.size) (by omega) (by omega) (fun g e => (hr.own.lt g e).2) hw ⟨hk, hx⟩ ha hown hgr hpl
  have hv6 := hv.of_block (hblk _ hl (hne _ (by omega)))
  have hz6 := hz.of_block (hblk _ hl2 (hne _ (by omega)))
  have ho6 : Below w.heap.size w w6 := Below.grown ((ho.trans (hw.mono ho.size)).alloc (by have := ho.size; omega) (.cells a 30)) hgr (by simp; have := ho.size; omega) (fun j hj => by have := (hr.own.lt j hj).1; omega)
  refine ⟨⟨⟨_, _, _, _, _, _, _, _, _, hv6.set5 _ _ _ _ _, hu.keep fun b hb hS => ⟨hS, ?_⟩⟩, hz6.of_block (set5_block (by omega)), set5_below (Nat.le_refl _) ho6, ?_⟩, hblk⟩
  · rw [set5_block (by omega)]; exact hblk b hb (hne b (by omega))
  · exact GRow.set (TK.keeps _ _) (GRow.set (TK.keeps _ _) (GRow.set (TK.keeps _ _) (GRow.set (TK.keeps _ _) (GRow.set (TK.keeps _ _) hrow (by omega) hB _) (by omega) hB _) (by omega) hB _) (by omega) hB _) (by omega) hB _

/-- The parts are the terms of a list, none in block r. -/
def TKN (r d : Nat) (ts : List Tm) (W : World) (S : Nat → Prop) (j : Nat) (v : Value) : Prop := ∃ h : j < ts.length, InTm W (fun b => S b ∧ b ≠ r) d ts[j] v
theorem TKN.keeps (r d : Nat) (ts : List Tm) : Keeps (TKN r d ts) := fun _ _ _ _ _ _ h ⟨hj, hp⟩ => ⟨hj, hp.keep fun b hb hS => ⟨⟨(h b hb hS.1).1, hS.2⟩, (h b hb hS.1).2⟩⟩

theorem lst_of_row {W w' : World} {r B n0 d : Nat} {ts : List Tm} {rv : Value} {xs : List Value} (h : GRow (TKN r d ts) W 30 5 B n0 ts.length rv xs) (hr : r < n0) (hk : ∀ b, b < W.heap.size → b ≠ r → w'.heap[b]? = W.heap[b]?) :
    ∃ A c, rv = .slice A ts.length c ∧ LstT w' (fun _ => True) d ts (.slice A ts.length c) := by
  obtain ⟨A, c, e, hp⟩ := h.out (TKN.keeps _ _ _)
  refine ⟨A, c, e, A, c, rfl, fun i hi => ?_⟩
  obtain ⟨g, a, ea, hg, hz, hc, _, hin⟩ := hp i hi
  obtain ⟨k, n, nm, A1, m1, c1, A2, m2, c2, ev⟩ := hin.form
  have hin' := hin.keep (w' := w') (S' := fun _ => True) fun b hb hS => ⟨trivial, hk b hb hS.2⟩
  injection ev with ev
  subst ev
  have h5 : Five W g (i * 5) (.agg #[.int .i64 k, .int .i64 n, .string nm, .slice A1 m1 c1, .slice A2 m2 c2]) := ⟨k, n, nm, A1, m1, c1, A2, m2, c2, rfl, by simpa using hc 0 (by omega), by simpa using hc 1 (by omega), by simpa using hc 2 (by omega), by simpa using hc 3 (by omega), by simpa using hc 4 (by omega)⟩
  exact ⟨g, _, ea, trivial, h5.of_block (hk g h5.lt (by omega)), hin'⟩

/-- What Spine answers. -/
def Spined (w : World) (d : Nat) (h : Tm) (xs : List Tm) (e : Ending) (w' : World) : Prop :=
  ∃ (k n : Int) (nm : ByteArray) (A : Option Addr) (la lc : Nat) (A' : Option Addr) (ta tc : Nat) (A2 : Option Addr) (c2 : Nat), e = .returned (.tuple #[.agg #[.int .i64 k, .int .i64 n, .string nm, .slice A la lc, .slice A' ta tc], .slice A2 xs.length c2]) ∧
    InTm w' (fun _ => True) d h (.agg #[.int .i64 k, .int .i64 n, .string nm, .slice A la lc, .slice A' ta tc]) ∧ LstT w' (fun _ => True) d xs (.slice A2 xs.length c2) ∧ Below w.heap.size w w'

set_option maxRecDepth 100000 in
set_option maxHeartbeats 4000000 in
theorem rspine_calls (B d : Nat) (t : Tm) (v : Value) (w : World) (hd : d ≤ 1000000) (hB : B ≤ w.heap.size) (hwf : WfT d t) (hin : InTm w (fun b => b < B) d t v) :
    Calls Tryz.prog 24 #[v] w fun e w' => Spined w d (headT d t) (backT d t).reverse e w' := by
  obtain ⟨k, nn, nm, A, la, lc, A', ta, tc, rfl⟩ := hin.form
  have hS : SpSt w B d 0 d (backT d t) t ((w.alloc (.cells #[.int .i64 k, .int .i64 nn, .string nm, .slice A la lc, .slice A' ta tc] 30)).alloc ztm) (.slice none 0 0) [] := by
    have ho : Below w.heap.size w ((w.alloc (.cells #[.int .i64 k, .int .i64 nn, .string nm, .slice A la lc, .slice A' ta tc] 30)).alloc ztm) := ((Below.refl _ _).alloc (Nat.le_refl _) _).alloc (by simp) _
    refine ⟨⟨k, nn, nm, A, la, lc, A', ta, tc, ?_, hin.keep fun b hbl hS => ⟨hS, ho.block b hbl⟩⟩, ?_, ho, GRow.start _ _ _ _ _ _⟩
    · exact TVar.alloc (by exact heap_alloc_new _ _) _
    · have := heap_alloc_new (w.alloc (.cells #[.int .i64 k, .int .i64 nn, .string nm, .slice A la lc, .slice A' ta tc] 30)) ztm
      simpa [TVar] using this
  have hL := backT_len d t
  have HS := hide hS
  have HWf := hide hwf
  obtain ⟨i0, hi, hz0, hz1, hz2⟩ := info_parts Tryz.info30
  clear hS hin hwf
  generalize hLe : backT d t = L at *
  generalize hHe : headT d t = H at *
  have HL := hide hLe
  have HHd := hide hHe
  clear hLe hHe
  go_enter Tryz.func24, Tryz.ntmps24
  go_wp2_with fail
  go_loopg [4] (d) (fun g rv wr => ∃ (k0 e : Nat) (u : Tm) (xs : List Value), e ≤ g ∧ k0 + (backT e u).length = L.length ∧ L.drop k0 = backT e u ∧ H = headT e u ∧ WfT e u ∧ SpSt w B d k0 e L u wr rv xs ∧ k0 + e ≤ d)
  case atStart => exact ⟨0, d, t, [], Nat.le_refl _, by rw [HL.out]; omega, by rw [HL.out]; rfl, HHd.out.symm, HWf.out, HS.out, by omega⟩
  case round =>
    obtain ⟨k0, e, u, xs, hg, hlen, hdrop, hhead, hwu, hS, hke⟩ := hrel
    cases e with
    | zero => exact absurd hwu (by simp [WfT])
    | succ e =>
    have HS1 := hide hS
    obtain ⟨⟨_, _, _, _, _, _, _, _, _, hv0, hin0⟩, hz, ho, hr⟩ := hS
    obtain ⟨A3, c3, A4, c4, hv, hin, hparts⟩ := var_open hv0 hin0
    have g0 := hv.c0
    have g1 := hv.c1
    have g2 := hv.c2
    have g3 := hv.c3
    have g4 := hv.c4
    have gl := hv.lt
    have gf := hv.f
    have xl := hz.lt
    have hsz := ho.size
    obtain ⟨a1, a2, a3, a4, a5, a6, a7, a8, a9, a10⟩ := hwu
    by_cases hk3 : u.kd = 3
    · have q0 : ((u.kd : Int) == 3) = true := by simp; omega
      have h2 : u.ts.length = 2 := by rw [a8, hk3]; rfl
      obtain ⟨b1, x, eb, hb1, h5, hin1⟩ := hparts 1 (by omega)
      obtain ⟨b2, y, eb2, hb2, h6, hin2⟩ := hparts 0 (by omega)
      rw [eb] at eb2
      injection eb2 with eb2
      injection eb2 with eb2 _
      subst eb2
      subst eb
      rw [h2] at g4
      obtain ⟨k7, n7, nm7, A7, l7, c7, A8, l8, c8, rfl, e0, e1, e2, e3, e4⟩ := h5
      obtain ⟨k9, n9, nm9, A9, l9, c9, A0, l0, c0, rfl, f0, f1, f2, f3, f4⟩ := h6
      simp only [Nat.one_mul, Nat.zero_mul, Nat.zero_add, Nat.reduceAdd] at e0 e1 e2 e3 e4 f0 f1 f2 f3 f4
      obtain ⟨ao, cc, rfl, hao⟩ := hr.shape
      have hst := spine_step (d := e) hk3
      have hk0 : k0 < L.length := by rw [hst.2] at hlen; simp only [List.length_cons] at hlen; omega
      have hLk : L[k0] = u.ts[1] := by
        have h7 : L[k0]? = some (u.ch 1) := by
          have := congrArg (fun l => l[0]?) hdrop
          simp only [List.getElem?_drop, Nat.add_zero, hst.2, List.getElem?_cons_zero] at this
          exact this
        rw [List.getElem?_eq_getElem hk0] at h7
        injection h7 with h7
        rw [h7, Tm.ch_eq (by omega)]
      have HRow := hide hr
      have HIn1 : Hid (InTm wr (fun b => b < B ∨ wr.heap.size ≤ b) d L[k0] (.agg #[.int .i64 k7, .int .i64 n7, .string nm7, .slice A7 l7 c7, .slice A8 l8 c8])) := by
        rw [hLk]
        exact (hin1.keep (fun b _ hS => ⟨.inl hS, rfl⟩)).deeper (by omega)
      have HIn2 := hide hin2
      have HO := hide ho
      have hnext : L.drop (k0 + 1) = backT e (u.ch 0) := by
        have := congrArg List.tail hdrop
        rw [hst.2, List.tail_cons, List.tail_drop] at this
        exact this
      have HN : Hid (k0 + 1 + (backT e (u.ch 0)).length = L.length ∧ L.drop (k0 + 1) = backT e (u.ch 0) ∧ H = headT e (u.ch 0) ∧ WfT e (u.ch 0)) := ⟨by rw [hst.2] at hlen; simp only [List.length_cons] at hlen; omega, hnext, by rw [hhead, hst.1], by rw [Tm.ch_eq (by omega)]; exact a10 0 (by omega)⟩
      have hch : u.ts[0] = u.ch 0 := (Tm.ch_eq (by omega)).symm
      rw [hch] at HIn2
      have hao' : ∀ g, ao = some g → g.block ≠ w.heap.size ∧ g.block ≠ b1 ∧ g.block < wr.heap.size := fun g e => by have := hao g e; omega
      have HAo := hide hao
      clear hv0 hin0 hz ho hr hv hin hparts hin1 hin2 hlen hdrop hhead a3 a4 a5 a7 a8 a9 a10 hLk hst hnext hch hao hao'
      go_wp2_with (at_builtin; refine wpList_append_placed _ rfl _ _ 28 rfl (w.heap.size + 2) 30 i0 _ 5 80 Tryz.underlying28 hi hz0 hz1 hz2 rfl (by decide) (.slice ao k0 cc) k0 (flat xs) ?z1 (HRow.out.own.alloc _) ⟨wr.heap.size, 0, none⟩ 1 1 [.int .i64 k7, .int .i64 n7, .string nm7, .slice A7 l7 c7, .slice A8 l8 c8] ?z2 rfl ?z3 ?z4 (by decide) ?z5 ?z6 ?z7 ?_)
      case z4 => exact ⟨rfl, rfl, rfl, rfl, rfl⟩
      case z5 => unfold maxLen; omega
      case z6 => omega
      case z7 => omega
      intro v' w6 hown6 hgr6 hpl6
      obtain ⟨hS6, hblk⟩ := HS1.out.next hB (Below.refl _ _) hk0 HIn1.out rfl hown6 hgr6 (by simpa using hpl6) HIn2.out
      have HS6 := hide hS6
      have hne : ∀ b, b < w.heap.size + 2 → (Value.slice ao k0 cc).ownBlock ≠ some b := fun b hb e => by have := (HRow.out.own.lt b e).1; omega
      have hcc : ∀ b o u, b < w.heap.size + 2 → wr.cell? ⟨b, o, none⟩ = some u → w6.cell? ⟨b, o, none⟩ = some u := fun b o u hb hc => by
        rw [World.cell?_of_block (hblk b (by omega) (hne b hb))]; exact hc
      have p0 := hcc _ _ _ (by omega) g0
      have p1 := hcc _ _ _ (by omega) g1
      have p2 := hcc _ _ _ (by omega) g2
      have p3 := hcc _ _ _ (by omega) g3
      have p4 := hcc _ _ _ (by omega) g4
      have pf : ∀ i, w6.frozen? ⟨w.heap.size, i, none⟩ = false := fun i => by rw [World.frozen?_of_block (hblk _ gl (hne w.heap.size (by omega)))]; exact gf i
      have r0 := hcc _ _ _ (by omega) f0
      have r1 := hcc _ _ _ (by omega) f1
      have r2 := hcc _ _ _ (by omega) f2
      have r3 := hcc _ _ _ (by omega) f3
      have r4 := hcc _ _ _ (by omega) f4
      have pl : w.heap.size < w6.heap.size := Nat.lt_of_lt_of_le gl (Nat.le_trans (by simp) hgr6.size)
      clear hS6 hblk hne hcc hown6 hgr6 hpl6 g0 g1 g2 g3 g4 gf e0 e1 e2 e3 e4 f0 f1 f2 f3 f4
      go_wp2_with fail
      go_roundg (e)
      case measure => omega
      case rel => exact ⟨k0 + 1, e, u.ch 0, _, Nat.le_refl _, HN.out.1, HN.out.2.1, HN.out.2.2.1, HN.out.2.2.2, HS6.out, by omega⟩
    · have q0 : ((u.kd : Int) == 3) = false := by simp; omega
      have hend := spine_end (d := e) hk3
      have hkl : k0 = L.length := by rw [hend.2] at hlen; simp at hlen; omega
      have hHu : H = u := by rw [hhead, hend.1]
      subst hkl
      obtain ⟨ao, cc, rfl, hout⟩ := hr.out (TK.keeps _ _)
      have HO := hide ho
      have HI : Hid (InTm wr (fun b => b < B) d H (.agg #[.int .i64 (u.kd : Nat), .int .i64 (u.n : Nat), .string u.nm, .slice A3 u.ls.length c3, .slice A4 u.ts.length c4])) := by rw [hHu]; exact hin.deeper (by omega)
      have HOut := hide hout
      have HV := hide hv
      have HZ := hide hz
      clear hv0 hin0 hz ho hr hv hin hparts hlen hdrop hhead a3 a4 a5 a7 a8 a9 a10 hout hHu hend HS1
      obtain ⟨W1, hW1⟩ : ∃ W, W = wr := ⟨_, rfl⟩
      subst hW1
      go_wp2_with fail
      go_loopg [5, 6] (L.length) (fun g rv i wq => ∃ (k : Nat) (ys : List Value), k + g = L.length ∧ i = .int .i64 ((L.length : Int) - 1 - (k : Int)) ∧ GRow (TKN (w.heap.size + 1) d L.reverse) wq 30 5 W1.heap.size W1.heap.size k rv ys ∧ Below W1.heap.size W1 wq)
      case atStart => exact ⟨0, [], by omega, by simp, GRow.start _ _ _ _ _ _, Below.refl _ _⟩
      case round =>
        obtain ⟨k, ys, hkg, rfl, hrow, hbel⟩ := hrel
        by_cases hlt : k < L.length
        · obtain ⟨j, hj⟩ : ∃ j, j + k + 1 = L.length := ⟨L.length - 1 - k, by omega⟩
          have hidx : (L.length : Int) - 1 - (k : Int) = (j : Int) := by omega
          rw [hidx]
          obtain ⟨gb, a, rfl, hgb, haz, hcells, hjL, hinj⟩ := HOut.out j (by omega)
          obtain ⟨k7, n7, nm7, A7, l7, c7, A8, l8, c8, ea⟩ := hinj.form
          injection ea with ea
          subst ea
          have hbq := hbel.size
          have d0 := cell_later hbel (by simpa using hcells 0 (by omega))
          have d1 := cell_later hbel (by simpa using hcells 1 (by omega))
          have d2 := cell_later hbel (by simpa using hcells 2 (by omega))
          have d3 := cell_later hbel (by simpa using hcells 3 (by omega))
          have d4 := cell_later hbel (by simpa using hcells 4 (by omega))
          obtain ⟨ai, ci, rfl, hai⟩ := hrow.shape
          have HRow := hide hrow
          have HBel := hide hbel
          have HK : Hid (InTm wr (fun b => (b < W1.heap.size ∨ wr.heap.size ≤ b) ∧ b ≠ w.heap.size + 1) d (L.reverse[k]'(by simpa using hlt)) (.agg #[.int .i64 k7, .int .i64 n7, .string nm7, .slice A7 l7 c7, .slice A8 l8 c8])) := by
            have e : L.reverse[k]'(by simpa using hlt) = L[j] := by rw [List.getElem_reverse]; congr 1; omega
            rw [e]
            exact hinj.keep fun b hb hS => ⟨⟨.inl hb, by rcases hS with h | h <;> omega⟩, hbel.block b hb⟩
          clear hrow hbel hinj hcells hidx
          go_wp2_with (at_builtin; refine wpList_append_placed _ rfl _ _ 28 rfl (W1.heap.size) 30 i0 _ 5 80 Tryz.underlying28 hi hz0 hz1 hz2 rfl (by decide) (.slice ai k ci) k (flat ys) ?y1 (HRow.out.own.alloc _) ⟨wr.heap.size, 0, none⟩ 1 1 [.int .i64 k7, .int .i64 n7, .string nm7, .slice A7 l7 c7, .slice A8 l8 c8] ?y2 rfl ?y3 ?y4 (by decide) ?y5 ?y6 ?y7 ?_)
          case y1 => rfl
          case y2 => rfl
          case y3 => exact five_new _ _ _ _ _ _ _
          case y4 => intro u hu; simp at hu; rcases hu with rfl | rfl | rfl | rfl | rfl <;> rfl
          case y5 => unfold maxLen; omega
          case y6 => omega
          case y7 => simp; omega
          intro v' w6 hown6 hgr6 hpl6
          have HRow6 := hide (GRow.push (TKN.keeps _ _ _) HRow.out (m := wr.heap.size) (Nat.le_refl _) hbq (fun g e => (HRow.out.own.lt g e).2) (Below.refl _ _) ⟨by simpa using hlt, HK.out⟩ rfl hown6 hgr6 (by simpa using hpl6))
          have HB6 := hide (Below.grown (HBel.out.alloc hbq (.cells #[.int .i64 k7, .int .i64 n7, .string nm7, .slice A7 l7 c7, .slice A8 l8 c8] 30)) hgr6 (by simp; omega) (fun j hj => (HRow.out.own.lt j hj).1))
          clear hown6 hgr6 hpl6
          go_wp2_with fail
          go_roundg (L.length - (k + 1))
          case measure => omega
          case rel => exact ⟨k + 1, _, by omega, by congr 1; omega, HRow6.out, HB6.out⟩
        · have hk : k = L.length := by omega
          subst hk
          have hv := HV.out.of_block (hbel.block _ HV.out.lt)
          have hz := HZ.out.of_block (hbel.block _ HZ.out.lt)
          have g0 := hv.c0
          have g1 := hv.c1
          have g2 := hv.c2
          have g3 := hv.c3
          have g4 := hv.c4
          have x0 := hz.c0
          have x1 := hz.c1
          have x2 := hz.c2
          have x3 := hz.c3
          have x4 := hz.c4
          have xf := hz.f
          have xl2 := hz.lt
          have hidx : decide ((L.length : Int) - 1 - (L.length : Int) ≥ 0) = false := by simp; omega
          have hrow' := hrow
          rw [show L.length = L.reverse.length by simp] at hrow'
          obtain ⟨ai, ci, rfl, hts⟩ := lst_of_row (w' := set5 wr (w.heap.size + 1) (.int .i64 (u.kd : Nat)) (.int .i64 (u.n : Nat)) (.string u.nm) (.slice A3 u.ls.length c3) (.slice A4 u.ts.length c4)) hrow' (by omega) (fun b _ hne => set5_block hne)
          have hoW : Below w.heap.size w wr := HO.out.trans (hbel.mono HO.out.size)
          have HR : Hid (InTm (set5 wr (w.heap.size + 1) (.int .i64 (u.kd : Nat)) (.int .i64 (u.n : Nat)) (.string u.nm) (.slice A3 u.ls.length c3) (.slice A4 u.ts.length c4)) (fun _ => True) d H (.agg #[.int .i64 (u.kd : Nat), .int .i64 (u.n : Nat), .string u.nm, .slice A3 u.ls.length c3, .slice A4 u.ts.length c4]) ∧
              LstT (set5 wr (w.heap.size + 1) (.int .i64 (u.kd : Nat)) (.int .i64 (u.n : Nat)) (.string u.nm) (.slice A3 u.ls.length c3) (.slice A4 u.ts.length c4)) (fun _ => True) d L.reverse (.slice ai L.reverse.length ci) ∧ Below w.heap.size w (set5 wr (w.heap.size + 1) (.int .i64 (u.kd : Nat)) (.int .i64 (u.n : Nat)) (.string u.nm) (.slice A3 u.ls.length c3) (.slice A4 u.ts.length c4))) := by
            refine ⟨HI.out.keep fun b hb hS => ⟨trivial, ?_⟩, hts, set5_below (by omega) hoW⟩
            rw [set5_block (by omega)]; exact hbel.block b hb
          rw [List.length_reverse] at HR ⊢
          clear hv hz hbel hrow hrow' hts hoW
          go_wp2_with fail
          refine bodyPost_ret (v := .tuple #[.agg #[.int .i64 (u.kd : Nat), .int .i64 (u.n : Nat), .string u.nm, .slice A3 u.ls.length c3, .slice A4 u.ts.length c4], .slice ai L.length ci]) (by simp [results, Tryz.results24, go_sem, x0, x1, x2, x3, x4]) rfl ?_
          exact ⟨_, _, _, _, _, _, _, _, _, ai, ci, by rw [List.length_reverse], HR.out.1, by rw [List.length_reverse]; exact HR.out.2.1, HR.out.2.2⟩
end Go.Proofs.YteepmfhpjanbhaaGreatDoor
