/- The contracts of wait, use, put, token, start. -/
import Derived.Test.YtockffblncdikaaGreatDoorPx
import Derived.Test.YtockffblncdikaaGreatDoorAd
import Derived.Shelf.Strings.BuilderK
import Derived.Lib.MakeNoZero
namespace Go.Proofs.YtockffblncdikaaGreatDoor
open Go.RowKit
set_option maxRecDepth 100000
set_option maxHeartbeats 16000000
theorem ownsRow_two {W : World} {B B' : Nat} {T T' : TypeId} {z z' n n' : Nat} {v v' : Value} {xs xs' : List Value} (h : W.ownsRow B T z v n xs) (h' : W.ownsRowF B' T' z' v' n' xs') (hT : T ≠ T') : v.ownBlock = none \/ v.ownBlock ≠ v'.ownBlock := by
 rcases h.2 with ⟨rfl, _⟩ | ⟨g, cap, cur, rfl, _, hg, _⟩
 . exact .inl rfl
 . exact .inr fun e => ownsRowF_ne h' hg hT e.symm
def Oth (pb : Nat) (w w' : World) : Prop := ∀ b cs T f, w.heap[b]? = some (.cells cs T f) -> b ≠ pb -> T ≠ 5 -> w'.heap[b]? = w.heap[b]?
theorem Oth.refl (pb : Nat) (w : World) : Oth pb w w := fun _ _ _ _ _ _ _ => rfl
theorem Oth.trans {pb : Nat} {w w' w'' : World} (h : Oth pb w w') (h' : Oth pb w' w'') : Oth pb w w'' := fun b cs T f hb hn hT => (h' b cs T f ((h b cs T f hb hn hT).trans hb) hn hT).trans (h b cs T f hb hn hT)
theorem Oth.set {pb : Nat} {w w' : World} (h : Oth pb w w') (i : Nat) (u : Value) : Oth pb w (w'.setCell ⟨pb, i, none⟩ u) := fun b cs T f hb hn hT => (Below.heap_setCell _ _ _ _ (by show b ≠ pb; exact hn)).trans (h b cs T f hb hn hT)
theorem Oth.later {pb : Nat} {w w' w'' : World} (h : Oth pb w w') (hb : Below w'.heap.size w' w'') : Oth pb w w'' := fun b cs T f hb' hn hT => (hb.block b (Array.getElem?_eq_some_iff.1 ((h b cs T f hb' hn hT).trans hb')).1).trans (h b cs T f hb' hn hT)
theorem Oth.row {pb : Nat} {w w' w'' : World} (h : Oth pb w w') {row : Option Nat} (hg : w'.grownBy w'' row) (hr : ∀ k, row = some k -> ∃ cs f, w'.heap[k]? = some (.cells cs 5 f)) : Oth pb w w'' := fun b cs T f hb hn hT => by
 have h1 := h b cs T f hb hn hT; refine (hg.block b (Array.getElem?_eq_some_iff.1 (h1.trans hb)).1 (fun e => ?_)).trans h1; obtain ⟨cs', f', hk⟩ := hr b e.symm; rw [h1, hb] at hk; injection hk with hk
 injection hk with _ hk _; exact hT hk
theorem ownsRowF_kind5 {w : World} {base n : Nat} {v : Value} {xs : List Value} (h : w.ownsRowF base 5 1 v n xs) : ∀ k, v.ownBlock = some k -> ∃ cs f, w.heap[k]? = some (.cells cs 5 f) := fun k hk => by
 rcases h.2 with ⟨e, _⟩ | ⟨g, cap, cur, fz, e, _, hg, _⟩
 . rw [e] at hk; cases hk
 . rw [e] at hk
   simp only [Value.ownBlock, Option.some.injEq] at hk
   subst hk; exact ⟨_, _, hg⟩
section
variable {W W' : World} {n0 pb n kk : Nat} {ko : Option (Array Value)} {wr : Wk} {tg : Bool} {l : List UInt8} {st : List Pc} {pp bv tv tac : Value} {mb : Nat}
theorem PX.putBuf (h : PX W n0 pb ⟨true, kk, ko⟩ n l tg st pp bv tv mb tac) {w2 : World} (hg : W.grownBy w2 bv.ownBlock) {v' : Value} {l' : List UInt8} (hown : w2.ownsRowF n0 5 1 v' l'.length (Lib.byteCells l')) : PX (w2.setCell ⟨pb, 1, none⟩ v') n0 pb ⟨true, kk, ko⟩ n l' tg st pp v' tv mb tac := by
 have hb := h.rest.buf rfl
 have hpb : w2.heap[pb]? = some (.cells #[pp, bv, .bool true, .int .i64 (n : Nat), .int .i64 8589934592, .bool tg, tv, .int .i64 33554432, .map (some mb), tac] 75 (0, 0)) := (hg.block pb h.lt (Ne.symm (ownsRowF_ne hb.2 h.blk (by decide)))).trans h.blk
 have hr0 : PR W n0 pb ⟨false, kk, ko⟩ n l st pp bv tv mb tac := ⟨h.rest.lo, h.rest.stk, h.rest.ok, h.rest.map, (fun e => nomatch (show false = true from e)), h.rest.tac⟩
 have hr1 : PR w2 n0 pb ⟨false, kk, ko⟩ n l st pp bv tv mb tac := by
  refine hr0.frame hg (fun b e => (hb.2.lt b e).1) (ownsRow_two h.rest.stk hb.2 (by decide)) (fun e => ?_) (fun e => by cases e) (fun tb c e e2 => ?_) (fun cs e => ownsRowF_ne hb.2 (h.rest.tac.kp cs e) (by decide))
  . obtain ⟨_, es, c, hm, _⟩ := h.rest.map
    exact ownsRowF_ne_map hb.2 hm e
  . obtain ⟨tb', c', e', _, h6, h7, h8, h8', _⟩ := h.rest.tac
    rw [e'] at e; injection e with e _ _; injection e with e; injection e with e _ _; subst e
    rcases hb.2.2 with ⟨e3, _⟩ | ⟨g, cap, cur, fz, e3, _, hgb, _⟩
    . rw [e3] at e2; cases e2
    . rw [e3] at e2
      simp only [Value.ownBlock, Option.some.injEq] at e2
      subst e2; exact absurd (h8 _ _ _ hgb) (by decide)
 have hx : PX w2 n0 pb ⟨false, kk, ko⟩ n l tg st pp bv tv mb tac -> True := fun _ => trivial
 have hc : (w2.setCell ⟨pb, 1, none⟩ v').heap[pb]? = some (.cells #[pp, v', .bool true, .int .i64 (n : Nat), .int .i64 8589934592, .bool tg, tv, .int .i64 33554432, .map (some mb), tac] 75 (0, 0)) := heap_setCell_same w2 pb 1 _ _ _ hpb
 have hr2 : PR (w2.setCell ⟨pb, 1, none⟩ v') n0 pb ⟨false, kk, ko⟩ n l st pp bv tv mb tac := by
  refine hr1.frame (setCell_grown w2 pb 1 v') (fun b e => by injection e with e; rw [<- e]; exact h.rest.lo) (.inr (ownsRow_ne hr1.stk hpb (by decide))) (fun e => ?_) (fun e => by cases e) (fun tb c e e2 => ?_) (hr1.tac.kp.ne hpb (by decide))
  . injection e with e
    obtain ⟨_, es, c, hm, _⟩ := hr1.map; rw [<- e, hpb] at hm
    cases hm
  . injection e2 with e2
    obtain ⟨tb', c', e', _, h6, _⟩ := hr1.tac; rw [e'] at e; injection e with e _ _; injection e with e; injection e with e _ _; exact h6 (by rw [e, <- e2])
 exact ⟨hc, h.few, hr2.lo, hr2.stk, hr2.ok, hr2.map, fun _ => ⟨hb.1, hown.kept (setCell_grown w2 pb 1 v') (.inr (ownsRowF_ne hown hpb (by decide)))⟩, hr2.tac⟩
theorem PX.setPp (h : PX W n0 pb wr n l tg st pp bv tv mb tac) : PX (W.setCell ⟨pb, 0, none⟩ (.pointer (some ⟨pb, 0, none⟩))) n0 pb wr n l tg st (.pointer (some ⟨pb, 0, none⟩)) bv tv mb tac := by
 have hr := h.setRest 0 (.pointer (some ⟨pb, 0, none⟩)); exact ⟨heap_setCell_same W pb 0 _ _ _ h.blk, h.few, hr.lo, hr.stk, hr.ok, hr.map, fun e => ⟨.inr rfl, (hr.buf e).2⟩, hr.tac⟩
end
theorem Tryz.size71 : (Tryz.prog.info? 71).map (·.size) = some 2 := by kernel_rfl
theorem Tryz.liesB : liesAt Tryz.prog Tryz.prog.depth 75 (10 / Tryz.prog.cellsOf 75) 0 71 1 = true := by kernel_rfl
theorem Tryz.info5' : (Tryz.prog.info? 5).map (fun i => (i.zero, i.size, i.bytes)) = some (some (.int .u8 0), 1, 1) := by kernel_rfl
theorem copyCheck_used (b : Nat) (w : World) (h0 : w.cell? ⟨b, 0, none⟩ = some (.pointer (some ⟨b, 0, none⟩))) :
 Calls Tryz.prog 34 #[.pointer (some ⟨b, 0, none⟩)] w fun e w' => e = .returned (.tuple #[]) /\ w' = w := by
 obtain ⟨j, hj, _⟩ := Option.map_eq_some_iff.1 Tryz.size71
 go_enter Tryz.func34, Tryz.ntmps34
 go_wp2_with fail
 rw [Lib.run_neq_ptr_same w _ Tryz.underlying68 hj]
 go_wp2_with fail
 go_end0; exact ⟨rfl, rfl⟩
theorem copyCheck_fresh (b : Nat) (w : World) (h0 : w.cell? ⟨b, 0, none⟩ = some (.pointer none)) (hsh : w.shape? b = some (75, 10)) (hfz : w.frozen? ⟨b, 0, none⟩ = false) :
 Calls Tryz.prog 34 #[.pointer (some ⟨b, 0, none⟩)] w fun e w' => e = .returned (.tuple #[]) /\ w' = w.setCell ⟨b, 0, none⟩ (.pointer (some ⟨b, 0, none⟩)) := by
 obtain ⟨j, hj, hjs⟩ := Option.map_eq_some_iff.1 Tryz.size71
 go_enter Tryz.func34, Tryz.ntmps34
 go_wp2_with fail
 rw [Lib.run_to_unsafe w ⟨b, 0, none⟩ Tryz.underlying68 Tryz.underlying116 hj (by rw [hjs]; decide) hsh (by show 0 < 10; decide)]
 simp only [Result.andThen]
 rw [Oper.upon_value]
 go_wp2_with fail
 rw [run_callFunc_extern Tryz.func58 (by kernel_rfl) (by kernel_rfl) (by kernel_rfl) (e := Extern.AbiNoEscape.same) (by kernel_rfl)]; rw [Lib.run_noEscape]
 simp only [Result.andThen]
 rw [Oper.upon_value]
 go_wp2_with fail
 rw [Lib.run_from_unsafe w ⟨b, 0, none⟩ Tryz.underlying116 Tryz.underlying68 hj hsh Tryz.liesB]
 simp only [Result.andThen]
 rw [Oper.upon_value]
 go_wp2_with fail
 go_end0; exact ⟨rfl, rfl⟩
section
variable {n0 pb n kk : Nat} {ko : Option (Array Value)} {tg : Bool} {l : List UInt8} {st : List Pc} {pp bv tv tac : Value} {mb : Nat}
theorem copyCheck_calls (w : World) (h : PX w n0 pb ⟨true, kk, ko⟩ n l tg st pp bv tv mb tac) :
 Calls Tryz.prog 34 #[.pointer (some ⟨pb, 0, none⟩)] w fun e w' => e = .returned (.tuple #[]) /\ PX w' n0 pb ⟨true, kk, ko⟩ n l tg st (.pointer (some ⟨pb, 0, none⟩)) bv tv mb tac /\ Below n0 w w' /\ Oth pb w w' := by
 obtain ⟨c0, _, _, _, _, _, _, _, _, _, cf⟩ := h.c
 rcases (h.rest.buf rfl).1 with e | e
 . subst e
   refine (copyCheck_fresh pb w c0 (by simp [World.shape?, h.blk]) (cf 0)).mono ?_; rintro e w' ⟨rfl, rfl⟩; exact ⟨rfl, h.setPp, (Below.refl n0 w).setCell (p := ⟨pb, 0, none⟩) h.rest.lo _, (Oth.refl pb w).set 0 _⟩
 . subst e
   refine (copyCheck_used pb w c0).mono ?_; rintro e w' ⟨rfl, rfl⟩; exact ⟨rfl, h, Below.refl _ _, Oth.refl _ _⟩
theorem writeString_calls (s : ByteArray) (w : World) (h : PX w n0 pb ⟨true, kk, ko⟩ n l tg st pp bv tv mb tac) (hlen : l.length <= 1000000000000) (hs : s.size <= 1000000000000) :
 Calls Tryz.prog 81 #[.pointer (some ⟨pb, 0, none⟩), .string s] w fun e w' => ∃ pp' bv', e = .returned (.tuple #[.int .i64 s.size, .nilIface]) /\ PX w' n0 pb ⟨true, kk, ko⟩ n (l ++ s.data.toList) tg st pp' bv' tv mb tac /\ Below n0 w w' /\ Oth pb w w' := by
 obtain ⟨i0, hi, hz0, hz1, hz2⟩ := infoParts Tryz.info5'; have HC := hide (copyCheck_calls w h); clear h
 go_enter Tryz.func81, Tryz.ntmps81
 go_wp2_with (go_at_call 34; refine HC.out.mono ?_)
 rintro e w1 ⟨rfl, h1, hb1, ho1⟩; have hown := (h1.rest.buf rfl).2; obtain ⟨c0, c1, _, _, _, _, _, _, _, _, cf⟩ := h1.c; have hlt := h1.lt; have hlo := h1.rest.lo; have HP := hide h1; have HB := hide hb1; clear h1 hb1
 go_wp2_with (at_builtin; refine Lib.wpList_append_own_stringF _ rfl _ _ 69 9 rfl n0 5 i0 Tryz.underlying69 Tryz.underlying9 hi hz0 hz1 hz2 _ _ _ rfl hown s rfl ?c3 ?c4 ?c5 ?_)
 case c3 => unfold maxLen; omega
 case c4 => omega
 case c5 => omega
 intro v' w2 hown' hgrow _; have hcs : Lib.byteCells (l ++ s.data.toList) = Lib.byteCells l ++ Lib.strCells s := by simp [Lib.byteCells, Lib.strCells]
 have hl2 : (l ++ s.data.toList).length = l.length + s.size := by rw [List.length_append, Array.length_toList]; rfl
 have HX := hide (HP.out.putBuf hgrow (v' := v') (l' := l ++ s.data.toList) (by rw [hcs, hl2]; exact hown'))
 have HB2 : Hid (Below n0 w (w2.setCell ⟨pb, 1, none⟩ v')) := hide ((HB.out.grown hgrow (by have := HB.out.size; omega) (fun k hk => (hown.lt k hk).1)).setCell (p := ⟨pb, 1, none⟩) hlo _)
 have HO2 : Hid (Oth pb w (w2.setCell ⟨pb, 1, none⟩ v')) := hide ((ho1.row hgrow (ownsRowF_kind5 hown)).set 1 _)
 have hb2 : w2.heap[pb]? = w1.heap[pb]? := hgrow.block pb hlt (Ne.symm (ownsRowF_ne hown HP.out.blk (by decide))); have d1 : w2.cell? ⟨pb, 1, none⟩ = some bv := (World.cell?_of_block (a := ⟨pb, 1, none⟩) hb2).trans c1
 have f1 : w2.frozen? ⟨pb, 1, none⟩ = false := (World.frozen?_of_block (a := ⟨pb, 1, none⟩) hb2).trans (cf 1)
 obtain ⟨ao, n', cap, rfl⟩ : ∃ ao n' cap, v' = .slice ao n' cap := by
  rcases hown'.2 with ⟨hv, _⟩ | ⟨g, cap, cur, fz, hv, _⟩
  . exact ⟨_, _, _, hv⟩
  . exact ⟨_, _, _, hv⟩
 clear hown hown' hgrow hb2 HC HP HB ho1
 go_wp2_with fail
 go_ret2
 exact ⟨_, _, rfl, HX.out, HB2.out, HO2.out⟩
end
theorem Tryz.size106 : (Tryz.prog.info? 106).map (·.size) = some 6 := by kernel_rfl
theorem word_calls (t : ByteArray) (w : World) : Calls Tryz.prog 50 #[.string t] w fun e w' => e = .returned (.agg (Pc.tok t).cells) /\ Below w.heap.size w w' := by
 go_enter Tryz.func50, Tryz.ntmps50
 go_wp2_with fail
 refine bodyPost_ret (results_cell_row rfl _ _ w.heap.size 106 _ (0, 0) _ rfl (heap_alloc_new w _) Tryz.underlying106 rfl Tryz.size106) rfl ?_; exact ⟨rfl, (Below.refl _ _).alloc (Nat.le_refl _) _⟩
theorem exprIn_calls (e : Ex) (t : List ByteArray) (b o k : Nat) (w : World) : Calls Tryz.prog 54 #[.pointer (some ⟨b, o, none⟩), .int .i64 (k : Nat)] w fun e' w' => e' = .returned (.agg (Pc.ex e t b o k).cells) /\ Below w.heap.size w w' := by
 go_enter Tryz.func54, Tryz.ntmps54
 go_wp2_with fail
 refine bodyPost_ret (results_cell_row rfl _ _ w.heap.size 106 _ (0, 0) _ rfl (heap_alloc_new w _) Tryz.underlying106 rfl Tryz.size106) rfl ?_; exact ⟨rfl, (Below.refl _ _).alloc (Nat.le_refl _) _⟩
theorem levelIn_calls (l : LvB) (b o k : Nat) (w : World) : Calls Tryz.prog 102 #[.pointer (some ⟨b, o, none⟩), .int .i64 (k : Nat)] w fun e' w' => e' = .returned (.agg (Pc.lv l b o k).cells) /\ Below w.heap.size w w' := by
 go_enter Tryz.func102, Tryz.ntmps102
 go_wp2_with fail
 refine bodyPost_ret (results_cell_row rfl _ _ w.heap.size 106 _ (0, 0) _ rfl (heap_alloc_new w _) Tryz.underlying106 rfl Tryz.size106) rfl ?_; exact ⟨rfl, (Below.refl _ _).alloc (Nat.le_refl _) _⟩
theorem brackets_calls (im : Bool) (w : World) : Calls Tryz.prog 53 #[.bool im] w fun e w' => e = .returned (.tuple #[.string (if im = true then sBrace else sOpen), .string (if im = true then sUnbrace else sShut)]) /\ w' = w := by
 cases im with
 | true =>
   go_enter Tryz.func53, Tryz.ntmps53
   go_wp2_with fail
   go_ret2
   exact ⟨rfl, rfl⟩
 | false =>
   go_enter Tryz.func53, Tryz.ntmps53
   go_wp2_with fail
   go_ret2
   exact ⟨rfl, rfl⟩
theorem hugsLeft_calls (t : ByteArray) (w : World) : Calls Tryz.prog 104 #[.string t] w fun e w' => e = .returned (.bool (hugL t)) /\ w' = w := by
 by_cases h : hugL t = true
 . rw [h]
   simp only [hugL, Bool.or_eq_true, decide_eq_true_eq] at h
   rcases h with (((((h | h) | h) | h) | h) | h) | h <;> subst h <;> (go_enter Tryz.func104, Tryz.ntmps104; go_wp2_with fail; go_ret; exact ⟨rfl, rfl⟩)
 . have h' : hugL t = false := by simpa using h
   rw [h']
   simp only [hugL, Bool.or_eq_true, decide_eq_true_eq, not_or] at h
   obtain ⟨⟨⟨⟨⟨⟨h1, h2⟩, h3⟩, h4⟩, h5⟩, h6⟩, h7⟩ := h; have m1 := sameLit_neg (l := [41]) h1; have m2 := sameLit_neg (l := [125]) h2; have m3 := sameLit_neg (l := [44]) h3; have m4 := sameLit_neg (l := [46]) h4
   have m5 := sameLit_neg (l := [59]) h5; have m6 := sameLit_neg (l := [46, 123]) h6; have m7 := sameLit_neg (l := [43]) h7; clear h' h1 h2 h3 h4 h5 h6 h7
   go_enter Tryz.func104, Tryz.ntmps104
   go_wp2_with fail
   go_ret; exact ⟨rfl, rfl⟩
theorem hugsRight_calls (t : ByteArray) (w : World) : Calls Tryz.prog 105 #[.string t] w fun e w' => e = .returned (.bool (hugR t)) /\ w' = w := by
 by_cases h : hugR t = true
 . rw [h]
   simp only [hugR, Bool.or_eq_true, decide_eq_true_eq] at h
   rcases h with (((h | h) | h) | h) | h <;> subst h <;> (go_enter Tryz.func105, Tryz.ntmps105; go_wp2_with fail; go_ret; exact ⟨rfl, rfl⟩)
 . have h' : hugR t = false := by simpa using h
   rw [h']
   simp only [hugR, Bool.or_eq_true, decide_eq_true_eq, not_or] at h
   obtain ⟨⟨⟨⟨h1, h2⟩, h3⟩, h4⟩, h5⟩ := h; have m1 := sameLit_neg (l := [40]) h1; have m2 := sameLit_neg (l := [123]) h2; have m3 := sameLit_neg (l := [46, 123]) h3; have m4 := sameLit_neg (l := [64]) h4
   have m5 := sameLit_neg (l := [43]) h5; clear h' h1 h2 h3 h4 h5
   go_enter Tryz.func105, Tryz.ntmps105
   go_wp2_with fail
   go_ret; exact ⟨rfl, rfl⟩
theorem kw_word : Hid (∀ (t : ByteArray) (W : World), Calls Tryz.prog 50 #[.string t] W fun e w' => e = .returned (.agg #[.string t, .pointer none, .pointer none, .int .i64 0, .bool false, .int .i64 0]) /\ Below W.heap.size W w') := hide fun t W => word_calls t W
theorem kwc_word : Hid (∀ (t : ByteArray) (W : World), Calls Tryz.prog 50 #[.string t] W fun e w' => ∃ v, e = .returned (.agg v) /\ (v = #[.string t, .pointer none, .pointer none, .int .i64 0, .bool false, .int .i64 0] /\ Below W.heap.size W w')) := hide fun t W => (word_calls t W).mono fun _ _ ⟨h1, h2⟩ => ⟨_, h1, rfl, h2⟩
theorem Tryz.mixed : Tryz.prog.follows Departure.mixedOrders = true := by kernel_rfl
section
variable {n0 pb n : Nat} {wr : Wk} {tg : Bool} {l : List UInt8} {st : List Pc} {pp bv tv tac : Value} {mb : Nat} {B : Prop}
theorem Thr.from {w0 w w' : World} {e : Ending} (h : Thr n0 w e w') (hb : Below n0 w0 w) : Thr n0 w0 e w' := ⟨hb.trans h.1, h.2⟩
theorem tired_calls (w : World) (h0 : n0 <= w.heap.size) : Calls Tryz.prog 8 #[.int .i64 14] w fun e w' => Thr n0 w e w' :=
 (throw_calls 14 w.heap.size w).mono fun _ _ ⟨fb, he, _, _, hT⟩ => ⟨hT.below h0 h0, fb, he⟩
theorem wait_calls (m : Nat) (hm : m <= 1152921504606846976) (w : World) (h : PS w n0 pb wr l tg st) (hB : B \/ m <= 33554432) :
 Calls Tryz.prog 90 #[.pointer (some ⟨pb, 0, none⟩), .int .i64 (m : Nat)] w fun e w' => (e = .returned (.tuple #[]) /\ w' = w /\ m <= 33554432) \/ (B /\ Thr n0 w e w') := by
 obtain ⟨pp, bv, tv, mb, tac, hX⟩ := h; obtain ⟨_, _, _, _, _, _, _, c7, _, _, cf⟩ := hX.c
 by_cases hq : m <= 33554432
 . have q1 : decide ((33554432 : Int) < (m : Int)) = false := by simp; omega
   clear hX
   go_enter Tryz.func90, Tryz.ntmps90
   go_wp2_with fail
   go_end0; exact .inl ⟨rfl, rfl, hq⟩
 . have hb : B := hB.resolve_right hq
   have q1 : decide ((33554432 : Int) < (m : Int)) = true := by simp; omega
   have K := hide (tired_calls (n0 := n0) w (by have := hX.lt; have := hX.rest.lo; omega)); clear hX
   go_enter Tryz.func90, Tryz.ntmps90
   go_wp2_with (go_at_call 8; refine K.out.mono ?_)
   intro e w1 h1; have HF : Hid ((e = .returned (.tuple #[]) /\ w1 = w /\ m <= 33554432) \/ (B /\ Thr n0 w e w1)) := hide (.inr ⟨hb, h1⟩); obtain ⟨-, fb, rfl⟩ := h1
   go_wp2_with fail
   exact ⟨rfl, HF.out⟩
theorem use_calls (k : Nat) (hk : k <= 1099511627776) (w : World) (h : PX w n0 pb wr n l tg st pp bv tv mb tac) (hB : B \/ n + k <= 8589934592) :
 Calls Tryz.prog 80 #[.pointer (some ⟨pb, 0, none⟩), .int .i64 (k : Nat)] w fun e w' => (e = .returned (.tuple #[]) /\ PX w' n0 pb wr (n + k) l tg st pp bv tv mb tac /\ Below n0 w w' /\ Oth pb w w') \/ (B /\ Thr n0 w e w') := by
 obtain ⟨_, _, _, c3, c4, _, _, _, _, _, cf⟩ := h.c; have hfew := h.few; have hlo := h.rest.lo; have hlt := h.lt; obtain ⟨hr, hc⟩ := h.setLen (m := n + k) (by omega)
 have hsum : ((n : Int) + (k : Int)) = ((n + k : Nat) : Int) := by omega
 have hw : IntKind.i64.wrap ((n : Int) + (k : Int)) = ((n + k : Nat) : Int) := by rw [hsum, IntKind.wrap_i64]; omega
 have HB1 : Hid (Below n0 w (w.setCell ⟨pb, 3, none⟩ (.int .i64 ((n + k : Nat) : Int)))) := hide ((Below.refl _ _).setCell (p := ⟨pb, 3, none⟩) hlo _); have d3 := cell_of hc 3 rfl; have d4 := cell_of hc 4 rfl
 by_cases hq : n + k <= 8589934592
 . have q1 : decide ((8589934592 : Int) < ((n + k : Nat) : Int)) = false := by simp; omega
   have HX : Hid (PX (w.setCell ⟨pb, 3, none⟩ (.int .i64 ((n + k : Nat) : Int))) n0 pb wr (n + k) l tg st pp bv tv mb tac) := hide ⟨hc, hq, hr⟩
   have HX2 : Hid (∀ W, Below (w.setCell ⟨pb, 3, none⟩ (.int .i64 ((n + k : Nat) : Int))).heap.size (w.setCell ⟨pb, 3, none⟩ (.int .i64 ((n + k : Nat) : Int))) W -> PX W n0 pb wr (n + k) l tg st pp bv tv mb tac /\ Below n0 w W /\ Oth pb w W) := hide fun W hW => ⟨HX.out.later hW, HB1.out.trans (hW.mono (by simp [World.setCell]; omega)), ((Oth.refl pb w).set 3 _).later hW⟩
   clear h hr hc hsum HX; generalize ((n + k : Nat) : Int) = nk at *; have mixed := Tryz.mixed
   go_enter Tryz.func80, Tryz.ntmps80
   go_wp2_with fail
   go_region_o
   all_goals (go_wp2_with fail; go_end0; exact .inl ⟨rfl, HX2.out _ (Below.refl _ _).drew⟩)
 . have hb : B := hB.resolve_right hq
   have q1 : decide ((8589934592 : Int) < ((n + k : Nat) : Int)) = true := by simp; omega
   have K : Hid (∀ W, Below (w.setCell ⟨pb, 3, none⟩ (.int .i64 ((n + k : Nat) : Int))).heap.size (w.setCell ⟨pb, 3, none⟩ (.int .i64 ((n + k : Nat) : Int))) W -> Calls Tryz.prog 8 #[.int .i64 14] W fun e w' => Thr n0 w e w') := hide fun W hW => by
    have hz := hW.size
    simp [World.setCell] at hz
    exact (tired_calls W (by omega)).mono fun _ _ hT => hT.from (HB1.out.trans (hW.mono (by simp [World.setCell]; omega)))
   clear h hr hc hsum; generalize ((n + k : Nat) : Int) = nk at *; have mixed := Tryz.mixed
   go_enter Tryz.func80, Tryz.ntmps80
   go_wp2_with fail
   go_region_o
   all_goals
    go_wp2_with (go_at_call 8; refine (K.out _ (Below.refl _ _).drew).mono ?_)
    intro e w1 h1; have HF : Hid ((B /\ Thr n0 w e w1)) := hide ⟨hb, h1⟩; obtain ⟨-, fb, rfl⟩ := h1
    go_wp2_with fail
    exact ⟨rfl, .inr HF.out⟩
theorem put_calls2 (t : ByteArray) (ht : t.size <= 17179869184) (w : World) (h : PS w n0 pb wr l tg st) (hB : B \/ l.length + t.size <= 8589934592) :
 Calls Tryz.prog 57 #[.pointer (some ⟨pb, 0, none⟩), .string t] w fun e w' => (e = .returned (.tuple #[]) /\ PS w' n0 pb wr (l ++ t.data.toList) tg st /\ Below n0 w w' /\ Oth pb w w') \/ (B /\ Thr n0 w e w') := by
 obtain ⟨pp, bv, tv, mb, tac, hX⟩ := h; have KU := hide (use_calls t.size (by omega) w hX hB); have hfew := hX.few
 have hl : (l ++ t.data.toList).length = l.length + t.size := by rw [List.length_append, Array.length_toList]; rfl
 clear hX
 go_enter Tryz.func57, Tryz.ntmps57
 go_wp2_with (go_at_call 80; refine KU.out.mono ?_)
 intro e w1 h1
 rcases h1 with ⟨rfl, hX1, hb1, ho1⟩ | ⟨hb, hth⟩
 . obtain ⟨_, _, c2, _, _, _, _, _, _, _, cf⟩ := hX1.c
   obtain ⟨wr, kk, ko⟩ := wr
   cases wr with
   | true =>
     replace c2 : w1.cell? ⟨pb, 2, none⟩ = some (.bool true) := c2; have KW := hide (writeString_calls t w1 hX1 (by omega) (by omega)); have HB1 := hide hb1; have HO1 := hide ho1; clear hX1 hb1 KU ho1
     go_wp2_with (go_at_call 81; refine KW.out.mono ?_)
     intro e2 w2 h2; obtain ⟨pp', bv', rfl, hX2, hb2, ho2⟩ := h2
     have HF : Hid (PS w2 n0 pb ⟨true, kk, ko⟩ (l ++ t.data.toList) tg st /\ Below n0 w w2 /\ Oth pb w w2) := hide ⟨⟨pp', bv', tv, mb, tac, by rw [hl]; exact hX2⟩, HB1.out.trans hb2, HO1.out.trans ho2⟩
     clear hX2 hb2 KW ho2
     go_wp2_with fail
     go_end0; exact .inl ⟨rfl, HF.out⟩
   | false =>
     replace c2 : w1.cell? ⟨pb, 2, none⟩ = some (.bool false) := c2
     have HF : Hid (PS w1 n0 pb ⟨false, kk, ko⟩ (l ++ t.data.toList) tg st /\ Below n0 w w1 /\ Oth pb w w1) := hide ⟨⟨pp, bv, tv, mb, tac, by
      rw [hl]; exact ⟨hX1.blk, hX1.few, hX1.rest.lo, hX1.rest.stk, hX1.rest.ok, hX1.rest.map, (fun e => nomatch (show false = true from e)), hX1.rest.tac⟩⟩, hb1, ho1⟩
     clear hX1 hb1 KU ho1
     go_wp2_with fail
     go_end0; exact .inl ⟨rfl, HF.out⟩
 . have HF : Hid (B /\ Thr n0 w e w1) := hide ⟨hb, hth⟩
   obtain ⟨-, fb, rfl⟩ := hth
   go_wp2_with fail
   exact ⟨rfl, .inr HF.out⟩
theorem put_calls (t : ByteArray) (ht : t.size <= 17179869184) (w : World) (h : PS w n0 pb wr l tg st) (hB : B \/ l.length + t.size <= 8589934592) :
 Calls Tryz.prog 57 #[.pointer (some ⟨pb, 0, none⟩), .string t] w fun e w' => (e = .returned (.tuple #[]) /\ PS w' n0 pb wr (l ++ t.data.toList) tg st /\ Below n0 w w') \/ (B /\ Thr n0 w e w') :=
 (put_calls2 t ht w h hB).mono fun _ _ h => h.imp (fun ⟨a, b, c, _⟩ => ⟨a, b, c⟩) id
theorem PS.setTg {w : World} (h : PS w n0 pb wr l tg st) (b : Bool) : PS (w.setCell ⟨pb, 5, none⟩ (.bool b)) n0 pb wr l b st := by
 obtain ⟨pp, bv, tv, mb, tac, h⟩ := h; exact ⟨pp, bv, tv, mb, tac, h.setTg b⟩
theorem PS.cells {w : World} (h : PS w n0 pb wr l tg st) : w.cell? ⟨pb, 2, none⟩ = some (.bool wr.b) /\ w.cell? ⟨pb, 3, none⟩ = some (.int .i64 (l.length : Nat)) /\ w.cell? ⟨pb, 5, none⟩ = some (.bool tg) /\ ∀ i, w.frozen? ⟨pb, i, none⟩ = false := by
 obtain ⟨pp, bv, tv, mb, tac, h⟩ := h; obtain ⟨_, _, c2, c3, _, c5, _, _, _, _, cf⟩ := h.c; exact ⟨c2, c3, c5, cf⟩
theorem PS.cell5 {w : World} (h : PS w n0 pb wr l tg st) : ∃ u, w.cell? ⟨pb, 5, none⟩ = some u := ⟨_, h.cells.2.2.1⟩
def behind (tg : Bool) (t : ByteArray) (l : List UInt8) : List UInt8 := l ++ (blT (tg || hugL t) ++ t.data.toList)
theorem behind_len (tg : Bool) (t : ByteArray) (l : List UInt8) : (behind tg t l).length = l.length + ((blT (tg || hugL t)).length + t.size) := by
 have : t.data.toList.length = t.size := by rw [Array.length_toList]; rfl
 unfold behind
 simp only [List.length_append, this]
theorem token_calls (t : ByteArray) (ht : t.size <= 17179869184) (w : World) (h : PS w n0 pb wr l tg st) (hB : B \/ (behind tg t l).length <= 8589934592) :
 Calls Tryz.prog 78 #[.pointer (some ⟨pb, 0, none⟩), .string t] w fun e w' => (e = .returned (.tuple #[]) /\ PS w' n0 pb wr (behind tg t l) (hugR t) st /\ Below n0 w w') \/ (B /\ Thr n0 w e w') := by
 have hbl := behind_len tg t l; obtain ⟨_, _, c5, cf⟩ := h.cells; have hlo := h.lo; have KL := hide (hugsLeft_calls t w)
 have KR : Hid (∀ W, Calls Tryz.prog 105 #[.string t] W fun e w' => e = .returned (.bool (hugR t)) /\ w' = W) := hide fun W => hugsRight_calls t W
 have KP2 : Hid (∀ W, PS W n0 pb wr (l ++ blT (tg || hugL t)) tg st -> Calls Tryz.prog 57 #[.pointer (some ⟨pb, 0, none⟩), .string t] W fun e w' => (e = .returned (.tuple #[]) /\ PS w' n0 pb wr (behind tg t l) tg st /\ Below n0 W w') \/ (B /\ Thr n0 W e w')) := hide fun W hW => by
  have := put_calls (B := B) t ht W hW (hB.imp id fun x => by rw [hbl] at x; rw [List.length_append]; omega); have e : l ++ blT (tg || hugL t) ++ t.data.toList = behind tg t l := by unfold behind; simp
  rw [e] at this; exact this
 have KE : Hid (∀ W e w', ((e = .returned (.tuple #[]) /\ PS w' n0 pb wr (behind tg t l) tg st /\ Below n0 W w') \/ (B /\ Thr n0 W e w')) -> Below n0 w W -> ((e = .returned (.tuple #[]) /\ Hid (PS w' n0 pb wr (behind tg t l) tg st /\ Below n0 w w')) \/ ((∃ fb, e = .panicked [{ v := .iface 41 (.pointer (some ⟨fb, 0, none⟩)), recovered := false }]) /\ Hid (B /\ Thr n0 w e w')))) := hide fun W e w' h1 h2 => h1.imp (fun ⟨a, b, c⟩ => ⟨a, hide ⟨b, h2.trans c⟩⟩) fun ⟨a, b⟩ => ⟨b.2, hide ⟨a, b.from h2⟩⟩
 have KF : Hid (∀ W, PS W n0 pb wr (behind tg t l) tg st /\ Below n0 w W -> PS (W.setCell ⟨pb, 5, none⟩ (.bool (hugR t))) n0 pb wr (behind tg t l) (hugR t) st /\ Below n0 w (W.setCell ⟨pb, 5, none⟩ (.bool (hugR t)))) := hide fun W hW => ⟨hW.1.setTg _, hW.2.setCell (p := ⟨pb, 5, none⟩) hlo _⟩
 cases htg : tg with
 | true =>
   subst htg; have HP : Hid (PS w n0 pb wr (l ++ blT (true || hugL t)) true st) := hide (by simpa [blT] using h); clear h hB
   go_enter Tryz.func78, Tryz.ntmps78
   go_wp2_with (go_at_call 57; refine (KP2.out w HP.out).mono ?_)
   intro e w1 h1
   rcases KE.out w e w1 h1 (Below.refl _ _) with ⟨rfl, H1⟩ | ⟨⟨fb, rfl⟩, HF⟩
   . clear h1
     obtain ⟨u, d5⟩ := H1.out.1.cell5; have df := H1.out.1.cells.2.2.2 5
     go_wp2_with (go_at_call 105; refine (KR.out w1).mono ?_)
     rintro e2 w2 ⟨rfl, rfl⟩
     go_wp2_with fail
     go_end0; exact .inl ⟨rfl, KF.out _ H1.out⟩
   . clear h1
     go_wp2_with fail
     exact ⟨rfl, .inr HF.out⟩
 | false =>
   subst htg
   cases hg : hugL t with
   | true =>
     rw [hg] at KL; have HP : Hid (PS w n0 pb wr (l ++ blT (false || hugL t)) false st) := hide (by rw [hg]; simpa [blT] using h); clear h hB
     go_enter Tryz.func78, Tryz.ntmps78
     go_wp2_with (first | (go_at_call 104; refine KL.out.mono ?_; rintro e w' ⟨rfl, rfl⟩))
     go_wp2_with (go_at_call 57; refine (KP2.out _ HP.out).mono ?_)
     intro e w1 h1
     rcases KE.out _ e w1 h1 (Below.refl _ _) with ⟨rfl, H1⟩ | ⟨⟨fb, rfl⟩, HF⟩
     . clear h1
       obtain ⟨u, d5⟩ := H1.out.1.cell5; have df := H1.out.1.cells.2.2.2 5
       go_wp2_with (go_at_call 105; refine (KR.out w1).mono ?_)
       rintro e2 w2 ⟨rfl, rfl⟩
       go_wp2_with fail
       go_end0; exact .inl ⟨rfl, KF.out _ H1.out⟩
     . clear h1
       go_wp2_with fail
       exact ⟨rfl, .inr HF.out⟩
   | false =>
     rw [hg] at KL
     have KP1 := hide (put_calls (B := B) (⟨#[32]⟩ : ByteArray) (by decide) w h (hB.imp id fun x => by rw [hbl, hg] at x; simp only [Bool.or_false, blT] at x; have e : (⟨#[32]⟩ : ByteArray).size = 1 := rfl; rw [e]; simp at x; omega))
     have e32 : l ++ (⟨#[32]⟩ : ByteArray).data.toList = l ++ blT (false || hugL t) := by rw [hg]; rfl
     rw [e32] at KP1; clear h hB
     go_enter Tryz.func78, Tryz.ntmps78
     go_wp2_with (first | (go_at_call 104; refine KL.out.mono ?_; rintro e w' ⟨rfl, rfl⟩))
     go_wp2_with (go_at_call 57; refine KP1.out.mono ?_)
     intro e w1 h1
     rcases h1 with ⟨rfl, hP1, hb1⟩ | ⟨hb, hth⟩
     . have HB1 := hide hb1
       have HP1 := hide hP1; clear hP1 hb1 KP1
       go_wp2_with (go_at_call 57; refine (KP2.out _ HP1.out).mono ?_)
       intro e w2 h2
       rcases KE.out _ e w2 h2 HB1.out with ⟨rfl, H1⟩ | ⟨⟨fb, rfl⟩, HF⟩
       . clear h2
         obtain ⟨u, d5⟩ := H1.out.1.cell5; have df := H1.out.1.cells.2.2.2 5
         go_wp2_with (go_at_call 105; refine (KR.out w2).mono ?_)
         rintro e2 w2 ⟨rfl, rfl⟩
         go_wp2_with fail
         go_end0; exact .inl ⟨rfl, KF.out _ H1.out⟩
       . clear h2
         go_wp2_with fail
         exact ⟨rfl, .inr HF.out⟩
     . have HF : Hid (B /\ Thr n0 _ e w1) := hide ⟨hb, hth⟩
       obtain ⟨-, fb, rfl⟩ := hth
       go_wp2_with fail
       exact ⟨rfl, .inr HF.out⟩
end
end Go.Proofs.YtockffblncdikaaGreatDoor
