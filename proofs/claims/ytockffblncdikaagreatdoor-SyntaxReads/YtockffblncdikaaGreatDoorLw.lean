/- The contracts of isSuccessor, takenOff, levelPart, part. -/
import Derived.Test.YtockffblncdikaaGreatDoorWs
import Derived.Test.YtockffblncdikaaGreatDoorMd
import Derived.Test.YtockffblncdikaaGreatDoorRq
namespace Go.Proofs.YtockffblncdikaaGreatDoor
open Go.RowKit
set_option maxRecDepth 100000
set_option maxHeartbeats 16000000
section
variable {W W' : World} {n0 pb n : Nat} {wb : Wk} {tg : Bool} {l : List UInt8} {st : List Pc} {pp bv tv tac : Value} {mb : Nat} {B : Prop}
theorem PX.push (h : PX W n0 pb wb n l tg st pp bv tv mb tac) {w6 : World} (hg : W.grownBy w6 tv.ownBlock) {v' : Value} {p : Pc} (hown : w6.ownsRow n0 106 6 v' (st.length + 1) (flatP st ++ p.cells.toList)) (hok : p.Ok W n0) : PX (w6.setCell ⟨pb, 6, none⟩ v') n0 pb wb n l tg (st ++ [p]) pp bv v' mb tac := by
 have hlo := h.rest.lo
 have hpb : w6.heap[pb]? = some (.cells #[pp, bv, .bool wb.b, .int .i64 (n : Nat), .int .i64 8589934592, .bool tg, tv, .int .i64 33554432, .map (some mb), tac] 75 (0, 0)) := (hg.block pb h.lt (Ne.symm (ownsRow_ne h.rest.stk h.blk (by decide)))).trans h.blk
 have hr0 : PR W n0 pb wb n l [] pp bv (.slice none 0 0) mb tac := ⟨hlo, World.ownsRow_nil _ _ _ _, (fun p hp => by simp at hp), h.rest.map, h.rest.buf, h.rest.tac⟩
 have hr1 : PR w6 n0 pb wb n l [] pp bv (.slice none 0 0) mb tac := by
  refine hr0.frame hg (fun b e => (h.rest.stk.lt b e).1) (.inl rfl) (fun e => ?_) (fun hw => ?_) (fun tb c e e2 => ?_) (fun cs e => ownsRow_ne h.rest.stk (h.rest.tac.kp cs e) (by decide))
  . obtain ⟨_, es, c, hm, _⟩ := h.rest.map
    exact ownsRow_ne_map h.rest.stk hm e
  . rcases ownsRow_two h.rest.stk (h.rest.buf hw).2 (by decide) with e | e
    . rw [e]; exact Classical.em _
    . exact .inr (Ne.symm e)
  . obtain ⟨tb', c', e', _, h6, h7, h8, h8', _⟩ := h.rest.tac
    rw [e'] at e; injection e with e _ _; injection e with e; injection e with e _ _; subst e
    rcases h.rest.stk.2 with ⟨e3, _⟩ | ⟨g, cap, cur, e3, _, hgb, _⟩
    . rw [e3] at e2; cases e2
    . rw [e3] at e2
      simp only [Value.ownBlock, Option.some.injEq] at e2
      subst e2; exact absurd (h8 _ _ _ hgb) (by decide)
 have hr2 : PR (w6.setCell ⟨pb, 6, none⟩ v') n0 pb wb n l [] pp bv (.slice none 0 0) mb tac := by
  refine hr1.frame (setCell_grown w6 pb 6 v') (fun b e => by injection e with e; rw [<- e]; exact hlo) (.inl rfl) (fun e => ?_) (fun hw => .inr (ownsRowF_ne (hr1.buf hw).2 hpb (by decide))) (fun tb c e e2 => ?_) (hr1.tac.kp.ne hpb (by decide))
  . injection e with e
    obtain ⟨_, es, c, hm, _⟩ := hr1.map; rw [<- e, hpb] at hm
    cases hm
  . injection e2 with e2
    obtain ⟨tb', c', e', _, h6, _⟩ := hr1.tac; rw [e'] at e; injection e with e _ _; injection e with e; injection e with e _ _; exact h6 (by rw [e, <- e2])
 have hs : (w6.setCell ⟨pb, 6, none⟩ v').ownsRow n0 106 6 v' (st ++ [p]).length (flatP (st ++ [p])) := by
  rw [flatP_append, flatP_one, List.length_append, List.length_singleton]; exact hown.kept (setCell_grown w6 pb 6 v') (.inr (ownsRow_ne hown hpb (by decide)))
 refine ⟨heap_setCell_same w6 pb 6 _ _ _ hpb, h.few, hlo, hs, fun q hq => ?_, hr2.map, hr2.buf, hr2.tac⟩
 have hq' : q.Ok W n0 := by
  rcases List.mem_append.1 hq with hq | hq
  . exact h.rest.ok q hq
  . rw [List.mem_singleton.1 hq]; exact hok
 have low : ∀ b, b < n0 -> b < W.heap.size -> (w6.setCell ⟨pb, 6, none⟩ v').heap[b]? = W.heap[b]? := fun b hb hl => by
  rw [Below.heap_setCell _ _ _ _ (by show b ≠ pb; omega)]; exact hg.block b hl fun e => by have := (h.rest.stk.lt b e.symm).1; omega
 cases q with
 | tok t => exact hq'
 | ex e t b o k => exact ⟨hq'.1.keep fun b hl hb => ⟨hb, low b hb hl⟩, hq'.2⟩
 | lv x b o k => exact ⟨hq'.1.keep fun b hl hb => ⟨hb, low b hb hl⟩, hq'.2⟩
 | en e b o f => exact ⟨hq'.1.keep fun b hl hb => ⟨hb, low b hb hl⟩, hq'.2⟩
def PsIn (w : World) (n1 : Nat) (A : Option Addr) (pcs : List Pc) : Prop := ∀ i (h : i < pcs.length), ∃ b, A = some ⟨b, 0, none⟩ /\ n1 <= b /\ ∀ q, q < 6 -> w.cell? ⟨b, i * 6 + q, none⟩ = pcs[i].cells[q]?
theorem PsIn.nil (w : World) (n1 : Nat) (A : Option Addr) : PsIn w n1 A [] := fun i hi => absurd hi (by simp)
theorem PsIn.keep {w w' : World} {n1 : Nat} {A : Option Addr} {pcs : List Pc} (h : PsIn w n1 A pcs) (hk : ∀ b, b < w.heap.size -> A = some ⟨b, 0, none⟩ -> n1 <= b -> w'.heap[b]? = w.heap[b]?) : PsIn w' n1 A pcs := fun i hi => by
 obtain ⟨b, e, hb, hc⟩ := h i hi; have hl : b < w.heap.size := World.block_lt_of_cell? _ ⟨b, i * 6 + 0, none⟩ ((hc 0 (by omega)).trans (Array.getElem?_eq_getElem (by rw [Pc.size]; omega)))
 exact ⟨b, e, hb, fun q hq => (World.cell?_of_block (hk b hl e hb)).trans (hc q hq)⟩
theorem Pc.shape (p : Pc) : ∃ (s : ByteArray) (p1 p2 : Option Addr) (k : Int) (b : Bool) (f : Int), p.cells = #[.string s, .pointer p1, .pointer p2, .int .i64 k, .bool b, .int .i64 f] := by
 cases p <;> exact ⟨_, _, _, _, _, _, rfl⟩
theorem Tryz.info106 : (Tryz.prog.info? 106).map (fun i => (i.zero, i.size, i.bytes)) = some (some (.agg #[.string ⟨#[]⟩, .pointer none, .pointer none, .int .i64 0, .bool false, .int .i64 0]), 6, 56) := by kernel_rfl
theorem next_calls (pcs : List Pc) (A : Option Addr) (c : Nat) (w0 w : World) (h0 : PS w0 n0 pb wb l tg st) (hb0 : Below w0.heap.size w0 w) (hps : PsIn w w0.heap.size A pcs) (hok : ∀ p ∈ pcs, p.Ok w0 n0) (hm : st.length + pcs.length <= 1152921504606846976) (hB : B \/ st.length + pcs.length <= 33554432) :
 Calls Tryz.prog 74 #[.pointer (some ⟨pb, 0, none⟩), .slice A pcs.length c] w fun e w' => (e = .returned (.tuple #[]) /\ PS w' n0 pb wb l tg (st ++ pcs.reverse) /\ Below n0 w w' /\ st.length + pcs.length <= 33554432) \/ (B /\ Thr n0 w e w') := by
 have KW := hide (wait_calls (B := B) (st.length + pcs.length) hm w (h0.later hb0) hB); have hlo := h0.lo; have hlt := h0.lt; have hz0 := hb0.size; obtain ⟨pp, bv, tv, mb, tac, hX0⟩ := h0; have hX := hX0.later hb0
 have htv : ∀ b, w0.heap.size <= b -> tv.ownBlock ≠ some b := fun b hb e => by have := (hX0.rest.stk.lt b e).2; omega
 obtain ⟨At, ct, etv⟩ := own_row_slice hX.rest.stk; subst etv; obtain ⟨_, _, _, _, _, _, c6, _, _, _, cf⟩ := hX.c; have hok' : ∀ p ∈ pcs, p.Ok w n0 := fun p hp => (hok p hp).keep fun b hb => hb0.block b (by omega)
 obtain ⟨i0, hi, hz1, hz2, hz3⟩ := infoParts Tryz.info106; have hsum : ((st.length : Int) + (pcs.length : Int)) = ((st.length + pcs.length : Nat) : Int) := by omega
 have hw : IntKind.i64.wrap ((st.length : Int) + (pcs.length : Int)) = ((st.length + pcs.length : Nat) : Int) := by rw [hsum, IntKind.wrap_i64]; omega
 have hw1 : IntKind.i64.wrap ((pcs.length : Int) - 1) = (pcs.length : Int) - 1 := by rw [IntKind.wrap_i64]; omega
 have HS0 : Hid (∃ (A' : Option Addr) (c' : Nat), PX w n0 pb wb l.length l tg (st ++ (pcs.drop pcs.length).reverse) pp bv (.slice A' (st ++ (pcs.drop pcs.length).reverse).length c') mb tac /\ Below n0 w w /\ PsIn w w0.heap.size A pcs /\ (∀ b, w0.heap.size <= b -> b < w.heap.size -> (Value.slice A' (st ++ (pcs.drop pcs.length).reverse).length c').ownBlock ≠ some b) /\ ∀ p ∈ pcs, p.Ok w n0) := hide ⟨At, ct, by rw [List.drop_length]; simpa using hX, Below.refl _ _, hps, fun b hb _ => by rw [List.drop_length]; simp only [List.reverse_nil, List.append_nil]; exact htv b hb, hok'⟩
 have HP0 := hide hps; clear hX hX0 hb0 hps hok htv hok' hB hsum
 go_enter Tryz.func74, Tryz.ntmps74
 go_wp2_with (go_at_call 90; refine KW.out.mono ?_)
 intro e w1 h1
 rcases h1 with ⟨rfl, rfl, hm2⟩ | ⟨hb, hth⟩
 rotate_left
 . have HF : Hid (B /\ Thr n0 w e w1) := hide ⟨hb, hth⟩
   obtain ⟨-, fb, rfl⟩ := hth
   go_wp2_with fail
   exact ⟨rfl, .inr HF.out⟩
 clear c6 KW
 go_wp2_with fail
 go_loopg [4] pcs.length (fun g v wr' => ∃ k : Int, v = .int .i64 k /\ k = (g : Int) - 1 /\ g <= pcs.length /\ Hid (∃ (A' : Option Addr) (c' : Nat), PX wr' n0 pb wb l.length l tg (st ++ (pcs.drop g).reverse) pp bv (.slice A' (st ++ (pcs.drop g).reverse).length c') mb tac /\ Below n0 w1 wr' /\ PsIn wr' w0.heap.size A pcs /\ (∀ b, w0.heap.size <= b -> b < w1.heap.size -> (Value.slice A' (st ++ (pcs.drop g).reverse).length c').ownBlock ≠ some b) /\ ∀ p ∈ pcs, p.Ok wr' n0))
 case atStart => exact ⟨_, rfl, rfl, Nat.le_refl _, HS0.out⟩
 case round =>
  obtain ⟨k, rfl, hk, hgp, HR⟩ := hrel; clear HS0
  by_cases hg0 : gk = 0
  . subst hg0
    have hk' : k = -1 := by omega
    subst hk'
    have HF : Hid (PS wr n0 pb wb l tg (st ++ pcs.reverse) /\ Below n0 w1 wr) := hide (by
     obtain ⟨A', c', h1, h2, _⟩ := HR.out; exact ⟨⟨_, _, _, _, _, by simp only [List.drop_zero] at h1; exact h1⟩, h2⟩)
    clear HR hgp hw hw1 hk
    go_wp2_with fail
    go_end0; exact .inl ⟨rfl, HF.out.1, HF.out.2, hm2⟩
  . obtain ⟨g', rfl⟩ : ∃ g', gk = g' + 1 := ⟨gk - 1, by omega⟩
    have hk' : k = (g' : Int) := by omega
    subst hk'; have hgl : g' < pcs.length := by omega
    have hdr : (pcs.drop g').reverse = (pcs.drop (g' + 1)).reverse ++ [pcs[g']] := by rw [List.drop_eq_getElem_cons hgl, List.reverse_cons]
    obtain ⟨A', c', hX, hbr, hpr, hner, hokr⟩ := HR.out; have hst : st ++ (pcs.drop g').reverse = (st ++ (pcs.drop (g' + 1)).reverse) ++ [pcs[g']] := by rw [hdr, List.append_assoc]
    obtain ⟨b, rfl, hb1, hc⟩ := hpr g' hgl; obtain ⟨s, p1, p2, kk, bb, ff, hce⟩ := Pc.shape pcs[g']; rw [hce] at hc; have e0 : wr.cell? ⟨b, g' * 6, none⟩ = some (.string s) := hc 0 (by omega)
    have e1 : wr.cell? ⟨b, g' * 6 + 1, none⟩ = some (.pointer p1) := hc 1 (by omega); have e2 : wr.cell? ⟨b, g' * 6 + 2, none⟩ = some (.pointer p2) := hc 2 (by omega)
    have e3 : wr.cell? ⟨b, g' * 6 + 3, none⟩ = some (.int .i64 kk) := hc 3 (by omega); have e4 : wr.cell? ⟨b, g' * 6 + 4, none⟩ = some (.bool bb) := hc 4 (by omega)
    have e5 : wr.cell? ⟨b, g' * 6 + 5, none⟩ = some (.int .i64 ff) := hc 5 (by omega); obtain ⟨_, _, _, _, _, _, d6, _, _, _, df⟩ := hX.c; have f6 := df 6; have hpbl := hX.lt
    have hpk := hokr pcs[g'] (List.getElem_mem hgl)
    have hbl : b < w1.heap.size := by
     obtain ⟨b', eb, _, hc'⟩ := HP0.out g' hgl; injection eb with eb; injection eb with eb _ _; subst eb
     exact World.block_lt_of_cell? _ ⟨b, g' * 6 + 0, none⟩ ((hc' 0 (by omega)).trans (Array.getElem?_eq_getElem (by rw [Pc.size]; omega)))
    generalize hS : st ++ (pcs.drop (g' + 1)).reverse = S at *; have hzr := hbr.size; have hown0 := hX.rest.stk
    have HN : Hid (∀ (W5 w6 : World) (v' : Value), Below wr.heap.size wr W5 -> w6.ownsRow n0 106 6 v' (S.length + 1) (flatP S ++ [.string s, .pointer p1, .pointer p2, .int .i64 kk, .bool bb, .int .i64 ff]) -> W5.grownBy w6 (Value.slice A' S.length c').ownBlock -> (v'.ownBlock = (Value.slice A' S.length c').ownBlock \/ v'.ownBlock = some W5.heap.size) ->
     ∃ A6 c6, v' = .slice A6 (S.length + 1) c6 /\ w6.cell? ⟨pb, 6, none⟩ = some (.slice A' S.length c') /\ w6.frozen? ⟨pb, 6, none⟩ = false /\ PX (w6.setCell ⟨pb, 6, none⟩ v') n0 pb wb l.length l tg (S ++ [pcs[g']]) pp bv v' mb tac /\ Below n0 w1 (w6.setCell ⟨pb, 6, none⟩ v') /\ PsIn (w6.setCell ⟨pb, 6, none⟩ v') w0.heap.size (some ⟨b, 0, none⟩) pcs /\ (∀ b', w0.heap.size <= b' -> b' < w1.heap.size -> v'.ownBlock ≠ some b') /\ ∀ p ∈ pcs, p.Ok (w6.setCell ⟨pb, 6, none⟩ v') n0) := hide fun W5 w6 v' hb5 hown6 hgr6 hpl6 => by
     have hz5 := hb5.size; have hX5 := hX.later hb5; have hX6 := hX5.push (p := pcs[g']) hgr6 (by rw [hce]; exact hown6) (hpk.keep fun b hb => hb5.block b (by omega)); have hpbn := ownsRow_ne hown0 hX.blk (by decide)
     have hpk6 : w6.heap[pb]? = wr.heap[pb]? := (hgr6.block pb (by omega) (Ne.symm hpbn)).trans (hb5.block pb (by omega))
     have low : ∀ b', b' < n0 -> (w6.setCell ⟨pb, 6, none⟩ v').heap[b']? = wr.heap[b']? := fun b' hb' => by
      rw [Below.heap_setCell _ _ _ _ (by show b' ≠ pb; omega)]; exact (hgr6.block b' (by omega) (fun e => by have := (hown0.lt b' e.symm).1; omega)).trans (hb5.block b' (by omega))
     obtain ⟨A6, c6, ev⟩ := own_row_slice hown6; refine ⟨A6, c6, ev, (World.cell?_of_block (a := ⟨pb, 6, none⟩) hpk6).trans d6, (World.frozen?_of_block (a := ⟨pb, 6, none⟩) hpk6).trans f6, hX6, ?_, ?_, ?_, ?_⟩
     . exact ((hbr.trans (hb5.mono (by omega))).grown hgr6 (by omega) (fun k hk => (hown0.lt k hk).1)).setCell (p := ⟨pb, 6, none⟩) hlo _
     . refine hpr.keep fun b' hl' eb' hn' => ?_
       injection eb' with eb'; injection eb' with eb' _ _; subst eb'; rw [Below.heap_setCell _ _ _ _ (by show b ≠ pb; omega)]
       exact (hgr6.block b (by omega) (fun e => hner b hn' hbl e.symm)).trans (hb5.block b hl')
     . intro b' h1 h2 e
       rcases hpl6 with e' | e'
       . exact hner b' h1 h2 (e' ▸ e)
       . rw [e'] at e
         injection e with e; omega
     . exact fun p hp => (hokr p hp).keep low
    have HO := hide (hX.rest.stk.kept (w' := wr.alloc (.cells #[.string s, .pointer p1, .pointer p2, .int .i64 kk, .bool bb, .int .i64 ff] 106)) (World.grownBy_alloc _ _ none) (Classical.em _)); have HSt := hide hst
    have HSe := hide hS
    have hSl : S.length + 1 <= 33554433 := by
     rw [<- hS, List.length_append, List.length_reverse, List.length_drop]; omega
    clear hX hbr hpr hner hokr HR hc df hw hw1 hst hS hce hpk hdr hk hgp hown0 HP0
    go_wp2_with fail
    go_region_law (first
     | (refine step_append_own rfl (.tmp 26) (.tmp 31) 72 rfl n0 106 i0 _ 6 56 Tryz.underlying72 hi hz1 hz2 hz3 rfl (by decide) (.slice A' S.length c') S.length (flatP S) ?_ ?_ ⟨wr.heap.size, 0, none⟩ 1 1 [.string s, .pointer p1, .pointer p2, .int .i64 kk, .bool bb, .int .i64 ff] ?_ rfl ?_ ?_ (by decide) ?_ ?_ ?_ ?_
        . rfl
        . exact HO.out
        . rfl
        . exact cells_new _ _ _
        . intro u hu; simp at hu; rcases hu with rfl | rfl | rfl | rfl | rfl | rfl <;> rfl
        . unfold maxLen; omega
        . omega
        . simp; omega
        intro v' w6 hown6 hgr6 hpl6
        obtain ⟨A6, c6, hv6, d6', f6', hX6, hb6, hp6, hn6, ho6⟩ := HN.out _ _ _ (by first | exact ((Below.refl _ _).alloc (Nat.le_refl _) _).drew | exact ((Below.refl _ _).drew.alloc (Nat.le_refl _) _)) hown6 hgr6 hpl6
        subst hv6; have HX6 := hide hX6; have HB6 := hide hb6; have HP6 := hide hp6; have HN6 := hide hn6; have HO6 := hide ho6; clear hown6 hgr6 hpl6 hX6 hb6 hp6 hn6 ho6))
    all_goals
     clear HN HO
     go_wp2_with fail
     go_roundg g'
     case measure => omega
     case rel => exact ⟨_, by go_num, rfl, by omega, by rw [HSt.out, show (S ++ [pcs[g']]).length = S.length + 1 from by simp]; exact ⟨A6, c6, HX6.out, HB6.out, HP6.out, HN6.out, HO6.out⟩⟩
end
theorem set6 {W : World} {b T : Nat} {v0 v1 v2 v3 v4 v5 : Value} (h : W.heap[b]? = some (.cells #[v0, v1, v2, v3, v4, v5] T (0, 0))) (x y z u v t : Value) : ((((((W.setCell ⟨b, 0, none⟩ x).setCell ⟨b, 1, none⟩ y).setCell ⟨b, 2, none⟩ z).setCell ⟨b, 3, none⟩ u).setCell ⟨b, 4, none⟩ v).setCell ⟨b, 5, none⟩ t).heap[b]? = some (.cells #[x, y, z, u, v, t] T (0, 0)) :=
 heap_setCell_same _ b 5 _ _ t (heap_setCell_same _ b 4 _ _ v (heap_setCell_same _ b 3 _ _ u (heap_setCell_same _ b 2 _ _ z (heap_setCell_same _ b 1 _ _ y (heap_setCell_same _ b 0 _ _ x h)))))
theorem below6 {n0 b : Nat} {w W : World} (h : Below n0 w W) (hb : n0 <= b) (x y z u v t : Value) : Below n0 w ((((((W.setCell ⟨b, 0, none⟩ x).setCell ⟨b, 1, none⟩ y).setCell ⟨b, 2, none⟩ z).setCell ⟨b, 3, none⟩ u).setCell ⟨b, 4, none⟩ v).setCell ⟨b, 5, none⟩ t) :=
 (((((h.setCell (p := ⟨b, 0, none⟩) hb _).setCell (p := ⟨b, 1, none⟩) hb _).setCell (p := ⟨b, 2, none⟩) hb _).setCell (p := ⟨b, 3, none⟩) hb _).setCell (p := ⟨b, 4, none⟩) hb _).setCell (p := ⟨b, 5, none⟩) hb _
def kndL : LvB -> Nat
 | .zero => 0
 | .succ _ => 1
 | .max _ _ => 2
 | .imax _ _ => 3
 | .param _ => 4
def nmL : LvB -> ByteArray
 | .param q => q
 | _ => ⟨#[]⟩
def kidsL : LvB -> List LvB
 | .succ a => [a]
 | .max a c => [a, c]
 | .imax a c => [a, c]
 | _ => []
def topL : LvB -> LvB
 | .succ a => topL a
 | l => l
theorem LAt.open {w : World} {S : Nat -> Prop} {l : LvB} {b o : Nat} (h : LAt w S l b o) : ∃ (A : Option Addr) (c : Nat), b < w.heap.size /\ S b /\ w.cell? ⟨b, o, none⟩ = some (.int .i64 (kndL l : Nat)) /\ w.cell? ⟨b, o + 1, none⟩ = some (.string (nmL l)) /\ w.cell? ⟨b, o + 2, none⟩ = some (.slice A (kidsL l).length c) /\ ∀ i (hi : i < (kidsL l).length), ∃ g, A = some ⟨g, 0, none⟩ /\ LAt w S (kidsL l)[i] g (i * 3) := by
 obtain ⟨v, hs, h3, hp⟩ := h; have hlt := h3.lt; obtain ⟨k, nm, A, n, cap, e, h0, h1, h2⟩ := h3
 cases l with
 | zero =>
   have hp' : v = _ := hp; rw [e] at hp'; injection hp' with hp'
   simp at hp'
   obtain ⟨rfl, rfl, rfl, rfl, rfl⟩ := hp'; exact ⟨_, _, hlt, hs, h0, h1, h2, fun i hi => absurd hi (by simp [kidsL])⟩
 | param q =>
   have hp' : v = _ := hp; rw [e] at hp'; injection hp' with hp'
   simp at hp'
   obtain ⟨rfl, rfl, rfl, rfl, rfl⟩ := hp'; exact ⟨_, _, hlt, hs, h0, h1, h2, fun i hi => absurd hi (by simp [kidsL])⟩
 | succ a =>
   obtain ⟨g, cap', x, e', hg, g3, ga⟩ := hp; rw [e] at e'; injection e' with e'
   simp at e'
   obtain ⟨rfl, rfl, rfl, rfl, rfl⟩ := e'; refine ⟨_, _, hlt, hs, h0, h1, h2, fun i hi => ?_⟩
   match i, hi with
   | 0, _ => exact ⟨g, rfl, x, hg, g3, ga⟩
 | max a c =>
   obtain ⟨g, cap', x, y, e', hg, g3, g4, ga, gc⟩ := hp; rw [e] at e'; injection e' with e'
   simp at e'
   obtain ⟨rfl, rfl, rfl, rfl, rfl⟩ := e'; refine ⟨_, _, hlt, hs, h0, h1, h2, fun i hi => ?_⟩
   match i, hi with
   | 0, _ => exact ⟨g, rfl, x, hg, g3, ga⟩
   | 1, _ => exact ⟨g, rfl, y, hg, g4, gc⟩
 | imax a c =>
   obtain ⟨g, cap', x, y, e', hg, g3, g4, ga, gc⟩ := hp; rw [e] at e'; injection e' with e'
   simp at e'
   obtain ⟨rfl, rfl, rfl, rfl, rfl⟩ := e'; refine ⟨_, _, hlt, hs, h0, h1, h2, fun i hi => ?_⟩
   match i, hi with
   | 0, _ => exact ⟨g, rfl, x, hg, g3, ga⟩
   | 1, _ => exact ⟨g, rfl, y, hg, g4, gc⟩
def isS : LvB -> Bool
 | .succ _ => true
 | _ => false
theorem isSuccessor_calls {S : Nat -> Prop} (x : LvB) (b o : Nat) (w : World) (h : LAt w S x b o) : Calls Tryz.prog 113 #[.pointer (some ⟨b, o, none⟩)] w fun e w' => e = .returned (.bool (isS x)) /\ w' = w := by
 obtain ⟨A, c, _, _, c0, _, c2, _⟩ := h.open; clear h
 cases x with
 | succ a =>
   go_enter Tryz.func113, Tryz.ntmps113
   simp only [kndL, kidsL] at c0 c2
   go_wp2_with fail
   go_ret; exact ⟨rfl, rfl⟩
 | _ =>
   go_enter Tryz.func113, Tryz.ntmps113
   simp only [kndL, kidsL] at c0 c2
   go_wp2_with fail
   go_ret; exact ⟨rfl, rfl⟩
section
variable {n0 pb : Nat} {wb : Wk} {tg : Bool} {l : List UInt8} {st : List Pc} {B : Prop}
theorem good_chain : ∀ {x : LvB} {k : Nat}, GoodAt x k -> chain x + k < 100
 | .succ a, k, h => by
   have := good_chain (x := a) (k := k + 1) h
   simp only [chain]
   omega
 | .zero, k, h => by simp only [chain]; have : k < 100 := h; omega
 | .param q, k, h => by simp only [chain]; have := h.1; omega
 | .max a b, k, h => by simp only [chain]; have := h.1; omega
 | .imax a b, k, h => by simp only [chain]; have := h.1; omega
theorem takenOff_calls {S : Nat -> Prop} (x : LvB) (b o : Nat) (w : World) (hP : PS w n0 pb wb l tg st) (h : LAt w S x b o) (hg : GoodAt x 0) :
 Calls Tryz.prog 100 #[.pointer (some ⟨pb, 0, none⟩), .pointer (some ⟨b, o, none⟩)] w fun e w' => ∃ b' o', e = .returned (.tuple #[.pointer (some ⟨b', o', none⟩), .int .i64 (chain x : Nat)]) /\ LAt w S (topL x) b' o' /\ w' = w := by
 have hch := good_chain hg
 have KI : Hid (∀ (y : LvB) (b o : Nat), LAt w S y b o -> Calls Tryz.prog 113 #[.pointer (some ⟨b, o, none⟩)] w fun e w' => e = .returned (.bool (isS y)) /\ w' = w) := hide fun y b o hy => isSuccessor_calls y b o w hy
 have KW : Hid (∀ m : Nat, m <= 33554432 -> Calls Tryz.prog 90 #[.pointer (some ⟨pb, 0, none⟩), .int .i64 (m : Nat)] w fun e w' => e = .returned (.tuple #[]) /\ w' = w) := hide fun m hm => (wait_calls (B := False) m (by omega) w hP (.inr hm)).mono fun e w' h => by
  rcases h with h | h
  . exact ⟨h.1, h.2.1⟩
  . exact h.1.elim
 have HL := hide h; clear hP h hg
 go_enter Tryz.func100, Tryz.ntmps100
 go_wp2_with fail
 go_loopg [1, 6] (chain x) (fun g p v wr => ∃ (y : LvB) (b' o' k : Nat), p = .pointer (some ⟨b', o', none⟩) /\ v = .int .i64 (k : Nat) /\ g = chain y /\ k + chain y = chain x /\ Hid (LAt w S y b' o') /\ topL y = topL x /\ wr = w)
 case atStart => exact ⟨x, b, o, 0, rfl, rfl, rfl, by omega, HL.out, rfl, rfl⟩
 case round =>
  clear HL; obtain ⟨y, b', o', k, rfl, rfl, hgk, hk, HY, hty, rfl⟩ := hrel; have KS := hide (KI.out y b' o' HY.out)
  by_cases hy : isS y = true
  . obtain ⟨a, rfl⟩ : ∃ a, y = .succ a := by cases y <;> first | exact ⟨_, rfl⟩ | (simp [isS] at hy)
    obtain ⟨A, c, _, _, _, _, c2, hkid⟩ := HY.out.open; obtain ⟨g', rfl, hA⟩ := hkid 0 (by simp [kidsL])
    simp only [kidsL] at c2
    have HA : Hid (LAt wr S a g' 0) := hide (by simpa [kidsL] using hA); have hca : chain (.succ a : LvB) = chain a + 1 := rfl; rw [hca] at hgk hk
    have hw1 : IntKind.i64.wrap ((k : Int) + 1) = ((k + 1 : Nat) : Int) := by rw [show ((k : Int) + 1) = ((k + 1 : Nat) : Int) by omega, IntKind.wrap_i64]; omega
    have KW1 := hide (KW.out (k + 1) (by omega)); have hty' : topL a = topL x := hty; have e0 : isS (.succ a : LvB) = true := rfl; rw [e0] at KS; clear hkid hA hy hty hca e0 HY KI
    go_wp2_with (go_at_call 113; refine KS.out.mono ?_)
    rintro e w1 ⟨rfl, rfl⟩; obtain ⟨k1, hk1⟩ : ∃ k1 : Int, k1 = ((k + 1 : Nat) : Int) := ⟨_, rfl⟩; rw [<- hk1] at hw1 KW1; have HK := hide (congrArg (Value.int .i64) hk1); clear hk1
    go_wp2_with (go_at_call 90; refine KW1.out.mono ?_)
    rintro e w2 ⟨rfl, rfl⟩
    go_wp2_with fail
    go_roundg (chain a)
    case measure => omega
    case rel => exact ⟨a, g', 0, k + 1, rfl, HK.out, rfl, by omega, HA.out, hty', rfl⟩
  . have hy' : isS y = false := by simpa using hy
    rw [hy'] at KS; have hch0 : chain y = 0 := by cases y <;> first | rfl | (simp [isS] at hy)
    have htp : topL y = y := by cases y <;> first | rfl | (simp [isS] at hy)
    have hkx : k = chain x := by omega
    subst hkx; have HF : Hid (LAt wr S (topL x) b' o') := hide (by rw [<- hty, htp]; exact HY.out); clear hy hy' hch0 htp hty HY KI hgk hk
    go_wp2_with (go_at_call 113; refine KS.out.mono ?_)
    rintro e w1 ⟨rfl, rfl⟩
    go_wp2_with fail
    go_ret2
    exact ⟨b', o', rfl, HF.out, rfl⟩
theorem levelPart_calls {S : Nat -> Prop} (x : LvB) (b o i : Nat) (w : World) (h : LAt w S x b o) (hi : i < (kidsL x).length) :
 Calls Tryz.prog 103 #[.pointer (some ⟨b, o, none⟩), .int .i64 (i : Nat)] w fun e w' => ∃ g, e = .returned (.agg (Pc.lv (kidsL x)[i] g (i * 3) 3).cells) /\ LAt w S (kidsL x)[i] g (i * 3) /\ Below w.heap.size w w' /\ ∃ n c, w.cell? ⟨b, o + 2, none⟩ = some (.slice (some ⟨g, 0, none⟩) n c) := by
 obtain ⟨A, c, _, _, _, _, c2, hkid⟩ := h.open; obtain ⟨g, rfl, hA⟩ := hkid i hi; have hlt := h.open.choose_spec.choose_spec.1
 have e1 := (cell_later (W := w.alloc (.cells #[.string ⟨#[]⟩, .pointer none, .pointer none, .int .i64 0, .bool false, .int .i64 0] 106)) ((Below.refl _ _).alloc (Nat.le_refl _) _) c2)
 have KI : Hid (∀ W, Calls Tryz.prog 102 #[.pointer (some ⟨g, i * 3, none⟩), .int .i64 3] W fun e' w' => e' = .returned (.agg #[.string ⟨#[]⟩, .pointer none, .pointer (some ⟨g, i * 3, none⟩), .int .i64 3, .bool false, .int .i64 0]) /\ Below W.heap.size W w') := hide fun W => levelIn_calls (kidsL x)[i] g (i * 3) 3 W
 have q1 : decide (((kidsL x).length : Int) <= (i : Int)) = false := by simp; omega
 have HA := hide hA; clear hkid hA h; generalize (kidsL x)[i] = y at *; generalize (kidsL x).length = n at *
 go_enter Tryz.func103, Tryz.ntmps103
 go_wp2_with (go_at_call 102; refine (KI.out _).mono ?_)
 rintro e w1 ⟨rfl, hb1⟩; have hbx := (hb1.block w.heap.size (by simp)).trans (heap_alloc_new w (.cells #[.string ⟨#[]⟩, .pointer none, .pointer none, .int .i64 0, .bool false, .int .i64 0] 106))
 have r0 := cell_of hbx 0 rfl; have r1 := cell_of hbx 1 rfl; have r2 := cell_of hbx 2 rfl; have r3 := cell_of hbx 3 rfl; have r4 := cell_of hbx 4 rfl; have r5 := cell_of hbx 5 rfl; have rf := frozen_of hbx
 have HR := hide (set6 hbx (.string ⟨#[]⟩) (.pointer none) (.pointer (some ⟨g, i * 3, none⟩)) (.int .i64 3) (.bool false) (.int .i64 0))
 have HB := hide (below6 (Below.trans ((Below.refl w.heap.size w).alloc (Nat.le_refl _) _) (hb1.mono (by simp))) (Nat.le_refl w.heap.size) (.string ⟨#[]⟩) (.pointer none) (.pointer (some ⟨g, i * 3, none⟩)) (.int .i64 3) (.bool false) (.int .i64 0))
 clear hbx hb1
 go_wp2_with fail
 refine bodyPost_ret (results_cell_row rfl _ _ w.heap.size 106 _ (0, 0) _ rfl HR.out Tryz.underlying106 rfl Tryz.size106) rfl ?_; exact ⟨g, rfl, HA.out, HB.out, _, _, c2⟩
theorem part_calls {S : Nat -> Prop} {kd a : Nat} {nm : ByteArray} {ex gi inf im : Bool} {ls : List LvB} {xs : List Ex} (b o i k : Nat) (t : List ByteArray) (w : World) (h : XAt w S (.node kd a nm ex gi inf im ls xs) b o) (hi : i < xs.length) :
 Calls Tryz.prog 99 #[.pointer (some ⟨b, o, none⟩), .int .i64 (i : Nat), .int .i64 (k : Nat)] w fun e w' => ∃ g, e = .returned (.agg (Pc.ex xs[i] t g (i * 9) k).cells) /\ XAt w S xs[i] g (i * 9) /\ Below w.heap.size w w' /\ ∃ n c, w.cell? ⟨b, o + 8, none⟩ = some (.slice (some ⟨g, 0, none⟩) n c) := by
 obtain ⟨_, _, A, c, hlt, _, _, _, _, _, _, _, _, c8, _, hkid⟩ := h.open; obtain ⟨g, rfl, hA⟩ := hkid i hi
 have e1 := (cell_later (W := w.alloc (.cells #[.string ⟨#[]⟩, .pointer none, .pointer none, .int .i64 0, .bool false, .int .i64 0] 106)) ((Below.refl _ _).alloc (Nat.le_refl _) _) c8)
 have KI : Hid (∀ W, Calls Tryz.prog 54 #[.pointer (some ⟨g, i * 9, none⟩), .int .i64 (k : Nat)] W fun e' w' => e' = .returned (.agg #[.string ⟨#[]⟩, .pointer (some ⟨g, i * 9, none⟩), .pointer none, .int .i64 (k : Nat), .bool false, .int .i64 0]) /\ Below W.heap.size W w') := hide fun W => exprIn_calls xs[i] t g (i * 9) k W
 have q1 : decide ((xs.length : Int) <= (i : Int)) = false := by simp; omega
 have HA := hide hA; clear hkid hA h; generalize xs[i] = y at *; generalize xs.length = n at *
 go_enter Tryz.func99, Tryz.ntmps99
 go_wp2_with (go_at_call 54; refine (KI.out _).mono ?_)
 rintro e w1 ⟨rfl, hb1⟩; have hbx := (hb1.block w.heap.size (by simp)).trans (heap_alloc_new w (.cells #[.string ⟨#[]⟩, .pointer none, .pointer none, .int .i64 0, .bool false, .int .i64 0] 106))
 have r0 := cell_of hbx 0 rfl; have r1 := cell_of hbx 1 rfl; have r2 := cell_of hbx 2 rfl; have r3 := cell_of hbx 3 rfl; have r4 := cell_of hbx 4 rfl; have r5 := cell_of hbx 5 rfl; have rf := frozen_of hbx
 have HR := hide (set6 hbx (.string ⟨#[]⟩) (.pointer (some ⟨g, i * 9, none⟩)) (.pointer none) (.int .i64 (k : Nat)) (.bool false) (.int .i64 0))
 have HB := hide (below6 (Below.trans ((Below.refl w.heap.size w).alloc (Nat.le_refl _) _) (hb1.mono (by simp))) (Nat.le_refl w.heap.size) (.string ⟨#[]⟩) (.pointer (some ⟨g, i * 9, none⟩)) (.pointer none) (.int .i64 (k : Nat)) (.bool false) (.int .i64 0))
 clear hbx hb1
 go_wp2_with fail
 refine bodyPost_ret (results_cell_row rfl _ _ w.heap.size 106 _ (0, 0) _ rfl HR.out Tryz.underlying106 rfl Tryz.size106) rfl ?_; exact ⟨g, rfl, HA.out, HB.out, _, _, c8⟩
end
end Go.Proofs.YtockffblncdikaaGreatDoor
