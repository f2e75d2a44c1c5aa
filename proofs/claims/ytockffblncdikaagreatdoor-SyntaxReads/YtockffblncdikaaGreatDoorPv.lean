/- Prints one behind the other. -/
import Derived.Test.YtockffblncdikaaGreatDoorKx
import Derived.Test.YtockffblncdikaaGreatDoorLv
namespace Go.Proofs.YtockffblncdikaaGreatDoor
open Go.RowKit
set_option maxRecDepth 100000
set_option maxHeartbeats 16000000
section
variable {n0 pb : Nat} {wb : Wk} {tg : Bool} {l : List UInt8} {st : List Pc} {B : Prop}
def RoundG (B : Prop) (n0 : Nat) (w : World) (pb : Nat) (wb : Wk) (l : List UInt8) (tg : Bool) (st : List Pc) (e : Ending) (w' : World) : Prop :=
 (e = .returned (.tuple #[]) /\ ∃ l' tg' st', PS w' n0 pb wb l' tg' st' /\ Below n0 w w' /\ st'.length <= 33554432 /\ wtS st' < wtS st /\ l.length <= l'.length /\ (l.length < 8388608 -> l' ++ tokT tg' (popT st') = l ++ tokT tg (popT st) /\ tgB tg' (popT st') = tgB tg (popT st))) \/ (B /\ Thr n0 w e w')
theorem RoundG.form {w w' : World} {e : Ending} (h : RoundG B n0 w pb wb l tg st e w') : e = .returned (.tuple #[]) \/ ∃ fb, e = .panicked [{ v := .iface 41 (.pointer (some ⟨fb, 0, none⟩)), recovered := false }] := by
 rcases h with ⟨he, _⟩ | ⟨_, _, fb, he⟩
 . exact .inl he
 . exact .inr ⟨fb, he⟩
theorem RoundG.step {w w1 w' : World} {p : Pc} {e : Ending} (h : StepR B n0 w1 pb wb l tg st p e w') (hb : Below n0 w w1) : RoundG B n0 w pb wb l tg (st ++ [p]) e w' := by
 rcases h with ⟨l', tg', st2, he, hP, hB, hlen, hl, hw, hg⟩ | ⟨hB, ht⟩
 . refine .inl ⟨he, l', tg', st ++ st2, hP, hb.trans hB, hlen, ?_, hl, fun h8 => ?_⟩
   . rw [wtS_append, wtS_append, wtS_one]
     omega
   . obtain ⟨rfl, rfl, h3⟩ := hg h8
     rw [popT_append, popT_append, popT_one, h3]; exact ⟨rfl, rfl⟩
 . exact .inr ⟨hB, ht.from hb⟩
theorem RoundG.word {w w1 w' : World} {t : ByteArray} {e : Ending} (h : (e = .returned (.tuple #[]) /\ PS w' n0 pb wb (behind tg t l) (hugR t) st /\ Below n0 w1 w') \/ (B /\ Thr n0 w1 e w')) (hb : Below n0 w w1) (hst : st.length <= 33554432) : RoundG B n0 w pb wb l tg (st ++ [.tok t]) e w' := by
 rcases h with ⟨he, hP, hB⟩ | ⟨hB, ht⟩
 . refine .inl ⟨he, _, _, st, hP, hb.trans hB, hst, ?_, ?_, fun h8 => ?_⟩
   . rw [wtS_append, wtS_one]
     show _ < _ + 1; omega
   . unfold behind
     rw [List.length_append]; omega
   . rw [popT_append, popT_one]
     refine ⟨?_, rfl⟩; show behind tg t l ++ tokT (hugR t) (popT st) = l ++ (blT (tg || hugL t) ++ t.data.toList ++ tokT (hugR t) (popT st)); unfold behind
     simp
 . exact .inr ⟨hB, ht.from hb⟩
theorem RoundG.ends {w w1 w' : World} {x : Ex} {b o f : Nat} {e : Ending} (h : e = .returned (.tuple #[]) /\ PS w' n0 pb wb l tg st /\ Below n0 w1 w') (hb : Below n0 w w1) (hst : st.length <= 33554432) : RoundG B n0 w pb wb l tg (st ++ [.en x b o f]) e w' := by
 obtain ⟨he, hP, hB⟩ := h; refine .inl ⟨he, _, _, st, hP, hb.trans hB, hst, ?_, Nat.le_refl _, fun h8 => ?_⟩
 . rw [wtS_append, wtS_one]
   show _ < _ + 1; omega
 . rw [popT_append, popT_one]
   exact ⟨rfl, rfl⟩
def PrintR (B : Prop) (n0 : Nat) (w : World) (pb : Nat) (wb : Wk) (l : List UInt8) (tg : Bool) (tk : List ByteArray) (e : Ending) (w' : World) : Prop :=
 (e = .returned (.tuple #[]) /\ ∃ l' tg', PS w' n0 pb wb l' tg' [] /\ Below n0 w w' /\ l.length <= l'.length /\ (B \/ l'.length < 8388608) /\ (l'.length < 8388608 -> l' = l ++ tokT tg tk /\ tg' = tgB tg tk)) \/ (B /\ Thr n0 w e w')
theorem PrintR.form {w w' : World} {tk : List ByteArray} {e : Ending} (h : PrintR B n0 w pb wb l tg tk e w') : e = .returned (.tuple #[]) \/ ∃ fb, e = .panicked [{ v := .iface 41 (.pointer (some ⟨fb, 0, none⟩)), recovered := false }] := by
 rcases h with ⟨he, _⟩ | ⟨_, _, fb, he⟩
 . exact .inl he
 . exact .inr ⟨fb, he⟩
theorem RoundG.next {w0 w' : World} {l0 : List UInt8} {tg0 : Bool} {tk : List ByteArray} {e : Ending} (h : RoundG B n0 w0 pb wb l tg st e w') (hl : l0.length <= l.length) (hBI : B \/ (wtS st <= 33554432 /\ (l ++ tokT tg (popT st)).length < 8388608)) (hE : l.length < 8388608 -> l ++ tokT tg (popT st) = l0 ++ tokT tg0 tk /\ tgB tg (popT st) = tgB tg0 tk) :
 (e = .returned (.tuple #[]) /\ ∃ l2 tg2 st2, wtS st2 < wtS st /\ Hid (PS w' n0 pb wb l2 tg2 st2 /\ Below n0 w0 w' /\ st2.length <= 33554432 /\ l0.length <= l2.length) /\ Hid (B \/ (wtS st2 <= 33554432 /\ (l2 ++ tokT tg2 (popT st2)).length < 8388608)) /\ Hid (l2.length < 8388608 -> l2 ++ tokT tg2 (popT st2) = l0 ++ tokT tg0 tk /\ tgB tg2 (popT st2) = tgB tg0 tk)) \/
 ((∃ fb, e = .panicked [{ v := .iface 41 (.pointer (some ⟨fb, 0, none⟩)), recovered := false }]) /\ Hid (PrintR B n0 w0 pb wb l0 tg0 tk e w')) := by
 rcases h with ⟨he, l2, tg2, st2, hP, hB, hlen, hw, hll, hg⟩ | ⟨hB, hth⟩
 . have q1 : B \/ (wtS st2 <= 33554432 /\ (l2 ++ tokT tg2 (popT st2)).length < 8388608) := by
    rcases hBI with hBI | ⟨h1, h2⟩
    . exact .inl hBI
    . have h3 : l.length < 8388608 := by rw [List.length_append] at h2; omega
      rw [(hg h3).1]; exact .inr ⟨by omega, h2⟩
   have q2 : l2.length < 8388608 -> l2 ++ tokT tg2 (popT st2) = l0 ++ tokT tg0 tk /\ tgB tg2 (popT st2) = tgB tg0 tk := fun h8 => by
    have h3 : l.length < 8388608 := by omega
    obtain ⟨h4, h5⟩ := hg h3; obtain ⟨h6, h7⟩ := hE h3; exact ⟨h4.trans h6, h5.trans h7⟩
   exact .inl ⟨he, l2, tg2, st2, hw, ⟨hP, hB, hlen, by omega⟩, q1, q2⟩
 . obtain ⟨hb, fb, he⟩ := hth
   exact .inr ⟨⟨fb, he⟩, .inr ⟨hB, hb, fb, he⟩⟩
theorem print_calls (pcs : List Pc) {A : Option Addr} {c n1 : Nat} (w0 w : World) (h8 : 8 < n0) (hT : Tb w0) (hn : w0.heap.size <= n1) (hp : PsIn w n1 A pcs) (hok : ∀ q ∈ pcs, q.Ok w0 n0) (hl : pcs.length <= 1000000000) (h : PS w0 n0 pb wb l tg []) (hb : Below w0.heap.size w0 w) (hB : B \/ (wtS pcs <= 33554432 /\ (l ++ tokT tg (pcs.flatMap Pc.toks)).length < 8388608)) :
 Calls Tryz.prog 49 #[.pointer (some ⟨pb, 0, none⟩), .slice A pcs.length c] w fun e w' => PrintR B n0 w0 pb wb l tg (pcs.flatMap Pc.toks) e w' := by
 have KN := hide (next_at (B := B) (c := c) pcs hn hp hok hl h hb (by simp) (hB.imp id fun ⟨h1, _⟩ => by
  have := wtS_len pcs
  simpa using Nat.le_trans this h1))
 have HT : Hid (∀ W, Below n0 w0 W -> Tb W) := hide fun W hW => hT.low hW h8
 have HBI : Hid (B \/ (wtS pcs.reverse <= 33554432 /\ (l ++ tokT tg (popT pcs.reverse)).length < 8388608)) := hide (by rw [wtS_reverse, popT_reverse]; exact hB)
 have HPo : Hid (popT pcs.reverse = pcs.flatMap Pc.toks) := hide (popT_reverse pcs); have hlo := h.lo; generalize pcs.flatMap Pc.toks = tk at *; clear hT hp hok h hb hB
 go_enter Tryz.func49, Tryz.ntmps49
 go_wp2_with (go_at_call 74; refine KN.out.mono ?_)
 intro e w1 h1; have HF1 := hide h1
 rcases h1.form with rfl | ⟨fb, rfl⟩
 rotate_left
 . have HZ : Hid (PrintR B n0 w0 pb wb l tg tk (.panicked [{ v := .iface 41 (.pointer (some ⟨fb, 0, none⟩)), recovered := false }]) w1) := hide (by
    rcases HF1.out with ⟨he, _⟩ | h
    . cases he
    . exact .inr h)
   clear h1 KN
   go_wp2_with fail
   exact ⟨rfl, HZ.out⟩
 have HP1 := hide HF1.out.good; clear h1 KN HF1
 go_wp2_with fail
 go_loopg [] (wtS pcs.reverse) (fun g wr => ∃ (l' : List UInt8) (tg' : Bool) (st' : List Pc), g = wtS st' /\ Hid (PS wr n0 pb wb l' tg' st' /\ Below n0 w0 wr /\ st'.length <= 33554432 /\ l.length <= l'.length) /\ Hid (B \/ (wtS st' <= 33554432 /\ (l' ++ tokT tg' (popT st')).length < 8388608)) /\ Hid (l'.length < 8388608 -> l' ++ tokT tg' (popT st') = l ++ tokT tg tk /\ tgB tg' (popT st') = tgB tg tk))
 case atStart => exact ⟨l, tg, pcs.reverse, rfl, ⟨by simpa using HP1.out.1, HP1.out.2.1, by simpa using HP1.out.2.2, Nat.le_refl _⟩, HBI, fun _ => by rw [HPo.out]; exact ⟨rfl, rfl⟩⟩
 case round =>
  clear HP1 HBI HPo; obtain ⟨l', tg', st', rfl, HP, HBI, HE⟩ := hrel
  rcases List.eq_nil_or_concat st' with rfl | ⟨st1, p, rfl⟩
  . obtain ⟨pp, bv, tv, mb, tac, hX⟩ := HP.out.1
    obtain ⟨At, ct, etv⟩ := own_row_slice hX.rest.stk; subst etv; obtain ⟨_, _, _, _, _, _, c6, _⟩ := hX.c
    have HZ : Hid (PrintR B n0 w0 pb wb l tg tk (.returned (.tuple #[])) wr) := hide (.inl ⟨rfl, l', tg', HP.out.1, HP.out.2.1, HP.out.2.2.2, HBI.out.imp id (fun h => by simpa [popT, tokT] using h.2), fun h => by
     obtain ⟨h1, h2⟩ := HE.out h; exact ⟨by simpa [popT, tokT] using h1, by simpa [popT, tgB] using h2⟩⟩)
    simp only [List.length_nil] at c6
    clear hX HP HBI HE
    go_wp2_with fail
    go_end0; exact HZ.out
  . rw [List.concat_eq_append] at *
    obtain ⟨pp, bv, tv, mb, tac, hX⟩ := HP.out.1; obtain ⟨At, ct, etv⟩ := own_row_slice hX.rest.stk; subst etv; obtain ⟨_, _, _, _, _, _, c6, _, _, _, cf⟩ := hX.c; have c6f := cf 6
    have hlen : (st1 ++ [p]).length = st1.length + 1 := by simp
    have hown := hX.rest.stk; rw [hlen, flatP_append, flatP_one] at hown; rw [hlen] at c6; obtain ⟨g, rfl, hcap, hgl, hown1, hcells⟩ := ownsRow_pop hown (by rw [Array.length_toList, p.size])
    have hpk : p.Ok wr n0 := hX.rest.ok p (by simp); have hst1 : st1.length <= 33554431 := by have := HP.out.2.2.1; rw [hlen] at this; omega
    obtain ⟨s, p1, p2, kk, bb, ff, hce⟩ := Pc.shape p
    have hc : ∀ q, q < 6 -> wr.cell? ⟨g, st1.length * 6 + q, none⟩ = (#[.string s, .pointer p1, .pointer p2, .int .i64 kk, .bool bb, .int .i64 ff] : Array Value)[q]? := fun q hq => by rw [hcells q hq, hce]; simp
    have e0 : wr.cell? ⟨g, st1.length * 6, none⟩ = some (.string s) := hc 0 (by omega); have e1 : wr.cell? ⟨g, st1.length * 6 + 1, none⟩ = some (.pointer p1) := hc 1 (by omega)
    have e2 : wr.cell? ⟨g, st1.length * 6 + 2, none⟩ = some (.pointer p2) := hc 2 (by omega); have e3 : wr.cell? ⟨g, st1.length * 6 + 3, none⟩ = some (.int .i64 kk) := hc 3 (by omega)
    have e4 : wr.cell? ⟨g, st1.length * 6 + 4, none⟩ = some (.bool bb) := hc 4 (by omega); have e5 : wr.cell? ⟨g, st1.length * 6 + 5, none⟩ = some (.int .i64 ff) := hc 5 (by omega)
    have hw1 : IntKind.i64.wrap (((st1.length : Int) + 1) - 1) = (st1.length : Int) := by rw [IntKind.wrap_i64]; omega
    have hpbz := hX.lt
    have hP2 : PS ((wr.setCell ⟨pb, 6, none⟩ (.slice (some ⟨g, 0, none⟩) st1.length ct)).alloc (.cells #[.string s, .pointer p1, .pointer p2, .int .i64 kk, .bool bb, .int .i64 ff] 106)) n0 pb wb l' tg' st1 :=
     (PS.later ⟨_, _, _, _, _, hX.setTodo hown1 (fun q hq => hX.rest.ok q (by simp [hq]))⟩ ((Below.refl _ _).alloc (Nat.le_refl _) _))
    have hB2 : Below n0 w0 ((wr.setCell ⟨pb, 6, none⟩ (.slice (some ⟨g, 0, none⟩) st1.length ct)).alloc (.cells #[.string s, .pointer p1, .pointer p2, .int .i64 kk, .bool bb, .int .i64 ff] 106)) := by
     have hz := HP.out.2.1.size; have h1 := HP.out.2.1.setCell (p := ⟨pb, 6, none⟩) hlo (.slice (some ⟨g, 0, none⟩) st1.length ct)
     exact h1.alloc (by have := h1.size; have := hX.lt; have e : (wr.setCell ⟨pb, 6, none⟩ (.slice (some ⟨g, 0, none⟩) st1.length ct)).heap.size = wr.heap.size := by simp [World.setCell]
                        omega) _
    have hO2 : p.Ok ((wr.setCell ⟨pb, 6, none⟩ (.slice (some ⟨g, 0, none⟩) st1.length ct)).alloc (.cells #[.string s, .pointer p1, .pointer p2, .int .i64 kk, .bool bb, .int .i64 ff] 106)) n0 := hpk.keep fun b hb => by
     have hpb : b < wr.heap.size := by have := hX.lt; omega
     have h1 : (wr.setCell ⟨pb, 6, none⟩ (.slice (some ⟨g, 0, none⟩) st1.length ct)).heap[b]? = wr.heap[b]? := Below.heap_setCell _ _ _ _ (by show b ≠ pb; omega); rw [<- h1]
     exact ((Below.refl (wr.setCell ⟨pb, 6, none⟩ (.slice (some ⟨g, 0, none⟩) st1.length ct)).heap.size _).alloc (Nat.le_refl _) _).block b (by simpa [World.setCell] using hpb)
    have hbx : ((wr.setCell ⟨pb, 6, none⟩ (.slice (some ⟨g, 0, none⟩) st1.length ct)).alloc (.cells #[.string s, .pointer p1, .pointer p2, .int .i64 kk, .bool bb, .int .i64 ff] 106)).heap[wr.heap.size]? = some (.cells #[.string s, .pointer p1, .pointer p2, .int .i64 kk, .bool bb, .int .i64 ff] 106 (0, 0)) := by
     have := heap_alloc_new (wr.setCell ⟨pb, 6, none⟩ (.slice (some ⟨g, 0, none⟩) st1.length ct)) (.cells #[.string s, .pointer p1, .pointer p2, .int .i64 kk, .bool bb, .int .i64 ff] 106)
     have e : (wr.setCell ⟨pb, 6, none⟩ (.slice (some ⟨g, 0, none⟩) st1.length ct)).heap.size = wr.heap.size := by simp [World.setCell]
     rwa [e] at this
    have HP2 := hide hP2; have HB2 := hide hB2; have HO2 := hide hO2; clear hX hc hcells hown cf hP2 hB2 hO2 hpk hown1
    go_upto_region 6 with fail
    generalize ((wr.setCell ⟨pb, 6, none⟩ (.slice (some ⟨g, 0, none⟩) st1.length ct)).alloc (.cells #[.string s, .pointer p1, .pointer p2, .int .i64 kk, .bool bb, .int .i64 ff] 106)) = W2 at *
    have f0 := cell_of hbx 0 rfl; have f1 := cell_of hbx 1 rfl; have f2 := cell_of hbx 2 rfl; have f3 := cell_of hbx 3 rfl; have f4 := cell_of hbx 4 rfl; have f5 := cell_of hbx 5 rfl
    clear hbx e0 e1 e2 e3 e4 e5 c6 c6f hcap hgl hw1; have HT2 := hide (HT.out W2 HB2.out)
    have HWt : Hid (B \/ (wtS st1 + p.wt <= 33554432 /\ l'.length < 8388608)) := hide (HBI.out.imp id fun ⟨h1, h2⟩ => by
     rw [wtS_append, wtS_one] at h1; rw [List.length_append] at h2; exact ⟨h1, by omega⟩)
    clear hlen
    cases p with
    | tok t =>
      simp only [Pc.cells, Array.mk.injEq, List.cons.injEq, Value.string.injEq, Value.pointer.injEq, Value.int.injEq, Value.bool.injEq, true_and, and_true] at hce
      obtain ⟨rfl, rfl, rfl, rfl, rfl, rfl⟩ := hce
      have K := hide (token_calls (B := B) t (by have : t.size <= 100 := HO2.out; omega) W2 HP2.out (HBI.out.imp id fun ⟨_, h2⟩ => by
       rw [popT_append, popT_one] at h2
       have e1 : l' ++ tokT tg' ([t] ++ popT st1) = behind tg' t l' ++ tokT (hugR t) (popT st1) := by
        show l' ++ (blT (tg' || hugL t) ++ t.data.toList ++ tokT (hugR t) (popT st1)) = _; unfold behind
        simp
       have h3 : (behind tg' t l' ++ tokT (hugR t) (popT st1)).length < 8388608 := e1 ▸ h2; rw [List.length_append] at h3; omega))
      go_wp2_with (go_at_call 78; refine K.out.mono ?_)
      intro r9 w9 h9; have HR : Hid (RoundG B n0 w0 pb wb l' tg' (st1 ++ [Pc.tok t]) r9 w9) := hide (RoundG.word h9 HB2.out (by omega)); clear h9 K
      rcases HR.out.next HP.out.2.2.2 HBI.out HE.out with ⟨rfl, l2, tg2, st2, hw2, HP', HBI', HE'⟩ | ⟨⟨fb, rfl⟩, HZ⟩
      . clear HP HBI HE HR
        go_wp2_with fail
        go_roundg (wtS st2)
        case measure => exact hw2
        case rel => exact ⟨l2, tg2, st2, rfl, HP', HBI', HE'⟩
      . go_wp2_with fail
        exact ⟨rfl, HZ.out⟩
    | ex e t b o k =>
      simp only [Pc.cells, Array.mk.injEq, List.cons.injEq, Value.string.injEq, Value.pointer.injEq, Value.int.injEq, Value.bool.injEq, true_and, and_true] at hce
      obtain ⟨rfl, rfl, rfl, rfl, rfl, rfl⟩ := hce; have K := hide (expr_calls (B := B) e t HO2.out.2.1 b o k HO2.out.2.2.1 HO2.out.2.2.2 W2 HP2.out HO2.out.1 (by omega) HWt.out)
      go_wp2_with (go_at_call 76; refine K.out.mono ?_)
      intro r9 w9 h9; have HR : Hid (RoundG B n0 w0 pb wb l' tg' (st1 ++ [Pc.ex e t b o k]) r9 w9) := hide (RoundG.step h9 HB2.out); clear h9 K
      rcases HR.out.next HP.out.2.2.2 HBI.out HE.out with ⟨rfl, l2, tg2, st2, hw2, HP', HBI', HE'⟩ | ⟨⟨fb, rfl⟩, HZ⟩
      . clear HP HBI HE HR
        go_wp2_with fail
        go_roundg (wtS st2)
        case measure => exact hw2
        case rel => exact ⟨l2, tg2, st2, rfl, HP', HBI', HE'⟩
      . go_wp2_with fail
        exact ⟨rfl, HZ.out⟩
    | lv x b o k =>
      simp only [Pc.cells, Array.mk.injEq, List.cons.injEq, Value.string.injEq, Value.pointer.injEq, Value.int.injEq, Value.bool.injEq, true_and, and_true] at hce
      obtain ⟨rfl, rfl, rfl, rfl, rfl, rfl⟩ := hce; have K := hide (level_calls (B := B) x b o k W2 HP2.out HT2.out HO2.out.1 HO2.out.2.1 HO2.out.2.2 (by omega) (HWt.out.imp id (·.1)))
      go_wp2_with (go_at_call 77; refine K.out.mono ?_)
      intro r9 w9 h9; have HR : Hid (RoundG B n0 w0 pb wb l' tg' (st1 ++ [Pc.lv x b o k]) r9 w9) := hide (RoundG.step h9 HB2.out); clear h9 K
      rcases HR.out.next HP.out.2.2.2 HBI.out HE.out with ⟨rfl, l2, tg2, st2, hw2, HP', HBI', HE'⟩ | ⟨⟨fb, rfl⟩, HZ⟩
      . clear HP HBI HE HR
        go_wp2_with fail
        go_roundg (wtS st2)
        case measure => exact hw2
        case rel => exact ⟨l2, tg2, st2, rfl, HP', HBI', HE'⟩
      . go_wp2_with fail
        exact ⟨rfl, HZ.out⟩
    | en x b o f =>
      simp only [Pc.cells, Array.mk.injEq, List.cons.injEq, Value.string.injEq, Value.pointer.injEq, Value.int.injEq, Value.bool.injEq, true_and, and_true] at hce
      obtain ⟨rfl, rfl, rfl, rfl, rfl, rfl⟩ := hce; have K := hide (remember_calls x b o f W2 HP2.out HO2.out)
      go_wp2_with (go_at_call 75; refine K.out.mono ?_)
      intro r9 w9 h9; have HR : Hid (RoundG B n0 w0 pb wb l' tg' (st1 ++ [Pc.en x b o f]) r9 w9) := hide (RoundG.ends h9 HB2.out (by omega)); clear h9 K
      rcases HR.out.next HP.out.2.2.2 HBI.out HE.out with ⟨rfl, l2, tg2, st2, hw2, HP', HBI', HE'⟩ | ⟨⟨fb, rfl⟩, HZ⟩
      . clear HP HBI HE HR
        go_wp2_with fail
        go_roundg (wtS st2)
        case measure => exact hw2
        case rel => exact ⟨l2, tg2, st2, rfl, HP', HBI', HE'⟩
      . go_wp2_with fail
        exact ⟨rfl, HZ.out⟩
end
section
variable {n0 pb : Nat} {wb : Wk} {tg : Bool} {l : List UInt8} {B : Prop} {w0 : World} {tk : List ByteArray}
def Wr (B : Prop) (n0 : Nat) (w0 : World) (pb : Nat) (wb : Wk) (l : List UInt8) (tg : Bool) (tk : List ByteArray) (W : World) : Prop :=
 ∃ l' tg', PS W n0 pb wb l' tg' [] /\ Below n0 w0 W /\ l.length <= l'.length /\ (B \/ l'.length < 8388608) /\ (l'.length < 8388608 -> l' = l ++ tokT tg tk /\ tg' = tgB tg tk)
def PrR (B : Prop) (n0 : Nat) (w0 : World) (pb : Nat) (wb : Wk) (l : List UInt8) (tg : Bool) (tk : List ByteArray) (e : Ending) (W : World) : Prop := (e = .returned (.tuple #[]) /\ Hid (Wr B n0 w0 pb wb l tg tk W)) \/ ((∃ fb, e = .panicked [{ v := .iface 41 (.pointer (some ⟨fb, 0, none⟩)), recovered := false }]) /\ Hid (B /\ Thr n0 w0 e W))
theorem Wr.start {W : World} (h : PS W n0 pb wb l tg []) (hb : Below n0 w0 W) (hB : B \/ l.length < 8388608) : Wr B n0 w0 pb wb l tg [] W :=
 ⟨l, tg, h, hb, Nat.le_refl _, hB, fun _ => ⟨by simp [tokT], rfl⟩⟩
theorem Wr.low {W : World} (h : Wr B n0 w0 pb wb l tg tk W) : Below n0 w0 W := by
 obtain ⟨_, _, _, hb, _⟩ := h; exact hb
theorem Wr.lt {W : World} (h : Wr B n0 w0 pb wb l tg tk W) : n0 <= pb /\ pb < W.heap.size := by
 obtain ⟨_, _, h, _⟩ := h; exact ⟨h.lo, h.lt⟩
theorem Wr.later {W W' : World} (h : Wr B n0 w0 pb wb l tg tk W) (hb : Below W.heap.size W W') : Wr B n0 w0 pb wb l tg tk W' := by
 have h2 := h.lt; obtain ⟨l', tg', hP, hB, r⟩ := h; exact ⟨l', tg', hP.later hb, hB.trans (hb.mono (by omega)), r⟩
theorem tokT_room {tk2 : List ByteArray} : (l ++ tokT tg (tk ++ tk2)).length = (l ++ tokT tg tk).length + (tokT (tgB tg tk) tk2).length := by
 rw [tokT_append, <- List.append_assoc, List.length_append]
theorem Wr.print {W0 W : World} (h : Wr B n0 w0 pb wb l tg tk W0) (pcs : List Pc) {A : Option Addr} {c n1 : Nat} (h8 : 8 < n0) (hT : Tb w0) (hn : W0.heap.size <= n1) (hp : PsIn W n1 A pcs) (hok : ∀ q ∈ pcs, q.Ok w0 n0) (hl : pcs.length <= 1000000000) (hb : Below W0.heap.size W0 W) (hB : B \/ (wtS pcs <= 33554432 /\ (l ++ tokT tg (tk ++ pcs.flatMap Pc.toks)).length < 8388608)) :
 Calls Tryz.prog 49 #[.pointer (some ⟨pb, 0, none⟩), .slice A pcs.length c] W fun e w' => PrR B n0 w0 pb wb l tg (tk ++ pcs.flatMap Pc.toks) e w' := by
 obtain ⟨l', tg', hP, hlow, hll, hs, hg⟩ := h; have hlt := hP.lt; refine (print_calls (B := B) pcs W0 W h8 (hT.low hlow h8) hn hp (fun q hq => (hok q hq).keep fun b hb => hlow.block b hb) hl hP hb ?_).mono ?_
 . rcases hB with hB | ⟨h1, h2⟩
   . exact .inl hB
   . rcases hs with hs | hs
     . exact .inl hs
     . obtain ⟨e1, e2⟩ := hg hs
       refine .inr ⟨h1, ?_⟩; rw [tokT_room] at h2; rw [e1, e2, List.length_append]; exact h2
 . intro e w' hr
   rcases hr with ⟨he, l2, tg2, hP2, hb2, hl2, hs2, hg2⟩ | ⟨hB', hth⟩
   . refine .inl ⟨he, l2, tg2, hP2, hlow.trans hb2, by omega, hs2, fun h => ?_⟩
     obtain ⟨e1, e2⟩ := hg2 h; obtain ⟨e3, e4⟩ := hg (by omega); rw [e1, e2, e3, e4, tokT_append, tgB_append, List.append_assoc]; exact ⟨rfl, rfl⟩
   . have hth' := hth.from hlow
     obtain ⟨hb3, fb, he⟩ := hth; exact .inr ⟨⟨fb, he⟩, hB', hth'⟩
theorem Wr.made {W0 W : World} (h : Wr B n0 w0 pb wb l tg tk W0) (pcs : List Pc) (cs : Array Value) {c : Nat} (hcs : cs.toList = flatP pcs) (h8 : 8 < n0) (hT : Tb w0) (hok : ∀ q ∈ pcs, q.Ok w0 n0) (hl : pcs.length <= 1000000000) (hb : Below W0.heap.size W0 W) (hB : B \/ (wtS pcs <= 33554432 /\ (l ++ tokT tg (tk ++ pcs.flatMap Pc.toks)).length < 8388608)) :
 Calls Tryz.prog 49 #[.pointer (some ⟨pb, 0, none⟩), .slice (some ⟨W.heap.size, 0, none⟩) pcs.length c] (W.alloc (.cells cs 106)) fun e w' => PrR B n0 w0 pb wb l tg (tk ++ pcs.flatMap Pc.toks) e w' :=
 h.print pcs h8 hT (Nat.le_refl _) (PsIn.made W W0.heap.size hb.size pcs cs hcs 106) hok hl (hb.alloc hb.size _) hB
end
end Go.Proofs.YtockffblncdikaaGreatDoor
