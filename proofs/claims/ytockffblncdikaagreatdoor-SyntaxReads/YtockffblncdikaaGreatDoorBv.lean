/- The contracts of the text builder's String and Grow, as it lies within the printer. -/
import Derived.Test.YtockffblncdikaaGreatDoorWs
namespace Go.Proofs.YtockffblncdikaaGreatDoor
open Go.RowKit
set_option maxRecDepth 100000
set_option maxHeartbeats 16000000
theorem alloc_setCell_heap (w : World) (o : Obj) (a : Addr) (u : Value) (h : a.block < w.heap.size) : ((w.setCell a u).alloc o).heap = ((w.alloc o).setCell a u).heap := by
 apply Array.ext_getElem?
 intro i
 simp only [World.setCell, World.alloc, Array.getElem?_modify, Array.getElem?_push, Array.size_modify]
 by_cases h1 : i = w.heap.size
 . subst h1
   simp [Nat.ne_of_lt h]
 . simp [h1]
theorem freeze_grown (w : World) (g n : Nat) : w.grownBy (w.freeze ⟨g, 0, none⟩ n) (some g) := by
 unfold World.freeze
 split
 . exact World.grownBy.refl _ _
 . exact ⟨rfl, rfl, rfl, by simp, fun k _ hk => by
    simp only [Array.getElem?_modify]
    rw [if_neg (fun e => hk (by rw [e]))]⟩
theorem ownsRowF_froze {w : World} {B : Nat} {e : TypeId} {g cap : Nat} {bs : List Value} (hown : w.ownsRowF B e 1 (.slice (some ⟨g, 0, none⟩) bs.length cap) bs.length bs) : (w.freeze ⟨g, 0, none⟩ bs.length).ownsRowF B e 1 (.slice (some ⟨g, 0, none⟩) bs.length cap) bs.length bs := by
 unfold World.freeze
 split
 . exact hown
 . refine ⟨hown.1, ?_⟩
   rcases hown.2 with ⟨hv, _⟩ | ⟨g', cap', cur, fz, hv, hbg, hg, hfz, rest⟩
   . cases hv
   . injection hv with ha _ hcap
     injection ha with ha; injection ha with hgg _ _; subst hgg; subst hcap; obtain ⟨lo, hi⟩ := fz
     refine .inr ⟨g, _, cur, (if lo == hi then (0, 0 + bs.length) else (min lo 0, max hi (0 + bs.length))), rfl, hbg, ?_, ?_, rest⟩
     . simp [Array.getElem?_modify, hg]
     . simp only at hfz
       split <;> simp <;> omega
section
variable {W W' : World} {n0 pb n kk : Nat} {ko : Option (Array Value)} {wr : Wk} {tg : Bool} {l : List UInt8} {st : List Pc} {pp bv tv tac : Value} {mb : Nat}
theorem PX.bufSame (h : PX W n0 pb ⟨true, kk, ko⟩ n l tg st pp bv tv mb tac) {w2 : World} (hg : W.grownBy w2 bv.ownBlock) (hown : w2.ownsRowF n0 5 1 bv l.length (Lib.byteCells l)) : PX w2 n0 pb ⟨true, kk, ko⟩ n l tg st pp bv tv mb tac := by
 have hb := h.rest.buf rfl
 have hpb : w2.heap[pb]? = some (.cells #[pp, bv, .bool true, .int .i64 (n : Nat), .int .i64 8589934592, .bool tg, tv, .int .i64 33554432, .map (some mb), tac] 75 (0, 0)) := (hg.block pb h.lt (Ne.symm (ownsRowF_ne hb.2 h.blk (by decide)))).trans h.blk
 have hr0 : PR W n0 pb ⟨false, kk, ko⟩ n l st pp bv tv mb tac := ⟨h.rest.lo, h.rest.stk, h.rest.ok, h.rest.map, (fun e => nomatch (show false = true from e)), h.rest.tac⟩
 have hr1 : PR w2 n0 pb ⟨false, kk, ko⟩ n l st pp bv tv mb tac := by
  refine hr0.frame hg (fun b e => (hb.2.lt b e).1) (ownsRow_two h.rest.stk hb.2 (by decide)) (fun e => ?_) (fun e => by cases e) (fun tb c e e2 => ?_) (fun cs e => ownsRowF_ne hb.2 (h.rest.tac.kp cs e) (by decide))
  . obtain ⟨_, es, c, hm, _⟩ := h.rest.map
    exact ownsRowF_ne_map hb.2 hm e
  . obtain ⟨tb', c', e', _, h6, h7, h8, h8', _⟩ := h.rest.tac
    rw [e'] at e; injection e with e _ _; injection e with e; injection e with e _ _; subst e
    rcases hb.2.2 with ⟨e3, _⟩ | ⟨g, cap, cur, fz, e3, _, hgb, _⟩
    . rw [e3] at e2; cases e2
    . rw [e3] at e2
      simp only [Value.ownBlock, Option.some.injEq] at e2
      subst e2; exact absurd (h8 _ _ _ hgb) (by decide)
 exact ⟨hpb, h.few, hr1.lo, hr1.stk, hr1.ok, hr1.map, fun _ => ⟨hb.1, hown⟩, hr1.tac⟩
end
theorem Tryz.cells5 : Tryz.prog.cellsOf 5 = 1 := by kernel_rfl
theorem Tryz.size5 : (Tryz.prog.info? 5).map (·.size) = some 1 := by kernel_rfl
section
variable {n0 pb n kk : Nat} {ko : Option (Array Value)} {tg : Bool} {l : List UInt8} {st : List Pc} {pp bv tv tac : Value} {mb : Nat}
theorem bString_calls (w : World) (h : PX w n0 pb ⟨true, kk, ko⟩ n l tg st pp bv tv mb tac) :
 Calls Tryz.prog 23 #[.pointer (some ⟨pb, 0, none⟩)] w fun e w' => e = .returned (.string ⟨l.toArray⟩) /\ PX w' n0 pb ⟨true, kk, ko⟩ n l tg st pp bv tv mb tac /\ Below n0 w w' /\ Oth pb w w' := by
 have mixed : Tryz.prog.follows Departure.mixedOrders = true := by kernel_rfl
 have hb := h.rest.buf rfl; have c1 : w.drew.cell? ⟨pb, 1, none⟩ = some bv := h.c.2.1; have hl2 := Lib.byteCells_length l
 by_cases h0 : l = []
 . subst h0
   have hUS : ∀ (W : World) (q : Option Addr), (Builtin.unsafeString_ #[92, 3] 9 #[.pointer q, .int .i64 0]).run Tryz.prog W = .ok (.string .empty) W := fun W q => Lib.run_unsafeString_none W _ _ _ q
   rcases hb.2.2 with ⟨e, _⟩ | ⟨g, cap, cur, fz, e, hbg, hg, hfz, hnc, hcm, hcs, htake⟩
   . subst e
     have hSD : (Builtin.unsafeSliceData_ #[69] 92 #[.slice none 0 0]).run Tryz.prog w.drew = .ok (.pointer none) w.drew := rfl
     have HX : Hid (PX w.drew n0 pb ⟨true, kk, ko⟩ n [] tg st pp (.slice none 0 0) tv mb tac) := hide (h.later (Below.refl _ _).drew); clear h hb
     go_enter Tryz.func23, Tryz.ntmps23
     go_wp2_with fail
     go_region_o
     all_goals (go_wp2; go_ret; exact ⟨rfl, HX.out, (Below.refl _ _).drew, (Oth.refl pb w).later (Below.refl _ _).drew⟩)
   . subst e
     by_cases hc0 : cap = 0
     . subst hc0
       have hlt := (Array.getElem?_eq_some_iff.1 h.blk).1
       have hSD : (Builtin.unsafeSliceData_ #[69] 92 #[.slice (some ⟨g, 0, none⟩) 0 0]).run Tryz.prog w.drew = .ok (.pointer (some ⟨w.drew.heap.size, 0, none⟩)) (w.drew.alloc (.view ⟨g, 0, none⟩ 5)) :=
        Lib.run_unsafeSliceData_zero w.drew _ _ 5 Tryz.underlying92 ⟨g, 0, none⟩ 0 (5, cur.size) (by have hg' : w.drew.heap[g]? = some (.cells cur 5 fz) := hg; simp [World.shape?, hg'])
       have c2 : (w.drew.alloc (.view ⟨g, 0, none⟩ 5)).cell? ⟨pb, 1, none⟩ = some (.slice (some ⟨g, 0, none⟩) 0 0) := (World.cell?_of_block (a := ⟨pb, 1, none⟩) (Lib.alloc_old w.drew _ pb hlt)).trans c1
       have c3 : (w.alloc (.view ⟨g, 0, none⟩ 5)).drew.cell? ⟨pb, 1, none⟩ = some (.slice (some ⟨g, 0, none⟩) 0 0) := c2
       have hBl : Below w.heap.size w (w.drew.alloc (.view ⟨g, 0, none⟩ 5)) := (Below.refl _ _).drew.alloc (Nat.le_refl _) _; have HX := hide (h.later hBl); have HOo := hide ((Oth.refl pb w).later hBl)
       have HB : Hid (Below n0 w (w.drew.alloc (.view ⟨g, 0, none⟩ 5))) := hide (hBl.mono (by have := h.rest.lo; omega)); clear h hb hcs htake hnc
       have hUS : ∀ (ty : TypeId) (W : World) (q : Option Addr), (Builtin.unsafeString_ #[92, 3] ty #[.pointer q, .int .i64 0]).run Tryz.prog W = .ok (.string .empty) W := fun ty W q => Lib.run_unsafeString_none W _ _ _ q
       go_enter Tryz.func23, Tryz.ntmps23
       go_wp2_with fail
       go_region_o
       all_goals (go_wp2; go_ret; exact ⟨rfl, HX.out, HB.out, HOo.out⟩)
     . have hSD : (Builtin.unsafeSliceData_ #[69] 92 #[.slice (some ⟨g, 0, none⟩) 0 cap]).run Tryz.prog w.drew = .ok (.pointer (some ⟨g, 0, none⟩)) w.drew := Lib.run_unsafeSliceData_row _ _ _ _ _ _ hc0
       have HX : Hid (PX w.drew n0 pb ⟨true, kk, ko⟩ n [] tg st pp (.slice (some ⟨g, 0, none⟩) 0 cap) tv mb tac) := hide (h.later (Below.refl _ _).drew); clear h hb hcs htake hnc; clear hc0
       go_enter Tryz.func23, Tryz.ntmps23
       go_wp2_with fail
       go_region_o
       all_goals (go_wp2; go_ret; exact ⟨rfl, HX.out, (Below.refl _ _).drew, (Oth.refl pb w).later (Below.refl _ _).drew⟩)
 . have hl0 : l.length ≠ 0 := by simpa using h0
   obtain ⟨g, cap, cur, fz, e, hbg, hg, hfz, hnc, hcm, hcs, htake⟩ : ∃ g cap cur fz, bv = .slice (some ⟨g, 0, none⟩) l.length cap /\ n0 <= g /\ w.heap[g]? = some (.cells cur 5 fz) /\ fz.2 <= l.length * 1 /\ l.length <= cap /\ cap <= maxLen /\ cur.size = cap * 1 /\ cur.toList.take (l.length * 1) = Lib.byteCells l := by
    rcases hb.2.2 with ⟨_, hz⟩ | ⟨g, cap, cur, fz, hv, r⟩
    . exact absurd hz hl0
    . exact ⟨g, cap, cur, fz, hv, r⟩
   subst e
   have hSD : (Builtin.unsafeSliceData_ #[69] 92 #[.slice (some ⟨g, 0, none⟩) l.length cap]).run Tryz.prog w.drew = .ok (.pointer (some ⟨g, 0, none⟩)) w.drew := Lib.run_unsafeSliceData_row _ _ _ _ _ _ (by omega)
   have hUS : (Builtin.unsafeString_ #[92, 3] 9 #[.pointer (some ⟨g, 0, none⟩), .int .i64 l.length]).run Tryz.prog w.drew = .ok (.string ⟨l.toArray⟩) (w.drew.freeze ⟨g, 0, none⟩ l.length) := by
    refine Lib.run_unsafeString_row w.drew 92 3 9 5 Tryz.underlying92 Tryz.cells5 g cur.size (by have hg' : w.drew.heap[g]? = some (.cells cur 5 fz) := hg; simp [World.shape?, hg']) l h0 (by omega) (by unfold maxLen at hcm; omega) ?_
    intro j x hx; have := hb.2.cells (g := g) rfl j (.int .u8 x.toNat) (by simp [Lib.byteCells, hx]); exact this
   have HX : Hid (PX (w.drew.freeze ⟨g, 0, none⟩ l.length) n0 pb ⟨true, kk, ko⟩ n l tg st pp (.slice (some ⟨g, 0, none⟩) l.length cap) tv mb tac) := by
    refine hide ((h.later (Below.refl _ _).drew).bufSame (freeze_grown w.drew g l.length) ?_)
    have hk : w.drew.ownsRowF n0 5 1 (.slice (some ⟨g, 0, none⟩) (Lib.byteCells l).length cap) (Lib.byteCells l).length (Lib.byteCells l) := by rw [hl2]; exact hb.2
    have := ownsRowF_froze hk; rw [hl2] at this; exact this
   have HOo : Hid (Oth pb w (w.drew.freeze ⟨g, 0, none⟩ l.length)) := hide (((Oth.refl pb w).later (Below.refl _ _).drew).row (freeze_grown w.drew g l.length) (fun k e => by injection e with e; subst e; exact ⟨cur, fz, hg⟩))
   have HB : Hid (Below n0 w (w.drew.freeze ⟨g, 0, none⟩ l.length)) := hide (Lib.below_freeze (Below.refl _ _).drew (p := ⟨g, 0, none⟩) hbg _); clear h hb hcs htake hnc hg hl2
   go_enter Tryz.func23, Tryz.ntmps23
   go_wp2_with fail
   go_region_o
   all_goals (go_wp2; go_ret; exact ⟨rfl, HX.out, HB.out, HOo.out⟩)
set_option maxRecDepth 1000000 in
theorem grow_calls (m : Nat) (hm : m <= 8589934592) (w : World) (h : PX w n0 pb ⟨true, kk, ko⟩ n [] tg st (.pointer (some ⟨pb, 0, none⟩)) (.slice none 0 0) tv mb tac) :
 Calls Tryz.prog 35 #[.pointer (some ⟨pb, 0, none⟩), .int .i64 (m : Nat)] w fun e w' => ∃ bv', e = .returned (.tuple #[]) /\ PX w' n0 pb ⟨true, kk, ko⟩ n [] tg st (.pointer (some ⟨pb, 0, none⟩)) bv' tv mb tac /\ Below n0 w w' := by
 obtain ⟨cs, hrun, hle, hmax⟩ := Lib.run_makeNoZero (P := Tryz.prog) w.drew #[3] 69 5 Tryz.underlying69 m (by omega)
 have hw : IntKind.i64.wrap (IntKind.i64.wrap 0 + (m : Int)) = m := by
  rw [IntKind.wrap_i64, IntKind.wrap_i64]; omega
 have hcall : (callFunc 59 #[.int .i64 (IntKind.i64.wrap (IntKind.i64.wrap 0 + (m : Int)))]).run Tryz.prog w.drew = .ok (.value (.slice (some ⟨w.drew.heap.size, 0, none⟩) m cs.size)) (w.drew.drew.drew.alloc (.cells cs 5)) := by
  rw [hw, run_callFunc_extern Tryz.func59 (by kernel_rfl) (by kernel_rfl) (by kernel_rfl) (e := Extern.BytealgMakeNoZero.makeNoZero #[3] #[69]) (by kernel_rfl), hrun]
  rfl
 have hlt := h.lt; have hlo := h.rest.lo; have c1 : w.drew.cell? ⟨pb, 1, none⟩ = some (.slice none 0 0) := h.c.2.1; have hal : (w.alloc (.cells cs 5)).heap[pb]? = w.heap[pb]? := Lib.alloc_old w _ pb hlt
 have c2 : (w.alloc (.cells cs 5)).cell? ⟨pb, 1, none⟩ = some (.slice none 0 0) := (World.cell?_of_block (a := ⟨pb, 1, none⟩) hal).trans c1
 have f2 : (w.alloc (.cells cs 5)).frozen? ⟨pb, 1, none⟩ = false := (World.frozen?_of_block (a := ⟨pb, 1, none⟩) hal).trans (h.c.2.2.2.2.2.2.2.2.2.2 1)
 have hcopy : ∀ W : World, (Builtin.copy_ #[69, 69] 3 #[.slice (some ⟨w.heap.size, 0, none⟩) 0 cs.size, .slice none 0 0]).run Tryz.prog W = .ok (goInt 0) W :=
  fun W => run_copy_none W 69 69 3 5 _ _ 0 cs.size 0 0 Tryz.underlying69 Tryz.size5 rfl
 have hB : ∀ W3 : World, W3.heap = ((w.setCell ⟨pb, 1, none⟩ (.slice (some ⟨w.heap.size, 0, none⟩) 0 cs.size)).alloc (.cells cs 5)).heap -> W3.os = w.os -> W3.tape = w.tape -> W3.output = w.output -> PX W3 n0 pb ⟨true, kk, ko⟩ n [] tg st (.pointer (some ⟨pb, 0, none⟩)) (.slice (some ⟨w.heap.size, 0, none⟩) 0 cs.size) tv mb tac /\ Below n0 w W3 := fun W3 hh h1 h2 h3 => by
  rw [alloc_setCell_heap w _ _ _ hlt] at hh
  have hX := h.putBuf (w2 := w.alloc (.cells cs 5)) (World.grownBy_alloc _ _ _) (v' := .slice (some ⟨w.heap.size, 0, none⟩) 0 cs.size) (l' := []) ⟨rfl, .inr ⟨w.heap.size, cs.size, cs, (0, 0), rfl, by omega, heap_alloc_new w _, Nat.zero_le _, Nat.zero_le _, hmax (by unfold maxLen; omega), by simp, by simp [Lib.byteCells]⟩⟩
  refine ⟨hX.later ?_, ?_⟩
  . exact ⟨by rw [h1]; rfl, by rw [h2]; rfl, by rw [h3]; rfl, by rw [hh]; exact Nat.le_refl _, fun k _ => by rw [hh]⟩
  . exact ⟨h1, h2, h3, by rw [hh]; simp [World.setCell], fun k hk => by
     rw [hh, Below.heap_setCell _ _ _ _ (by show k ≠ pb; omega)]; exact Lib.alloc_old w _ k (by omega)⟩
 have HB := hide hB; clear hw h hB hal; have mixed : Tryz.prog.follows Departure.mixedOrders = true := by kernel_rfl
 go_enter Tryz.func35, Tryz.ntmps35
 go_wp2_with fail
 go_region_o
 all_goals (go_wp2; go_end0; exact ⟨_, rfl, HB.out _ rfl rfl rfl rfl⟩)
end
end Go.Proofs.YtockffblncdikaaGreatDoor
