/- The contract of params: names in brackets. -/
import Derived.Test.YtkgkmlikpljbiaaDoorFTot

namespace Go.Proofs.YtkgkmlikpljbiaaDoor
open Go.RowKit

/-- While names are read. -/
structure NmsRd (w : World) (sc : Nat) (s : ByteArray) (p1 : Nat) (ns : List ByteArray) (pk : Nat) (rv : Value) (W : World) : Prop where
  seq : SeqG (WordAt s) ns p1 pk
  le : pk ≤ s.size
  few : ns.length ≤ pk
  scan : ScAt W sc s pk
  old : Touched w sc W
  own : W.ownsRow w.heap.size 9 1 rv ns.length (ns.map .string)

/-- What params comes to. -/
def ParEnd (w : World) (sc : Nat) (s : ByteArray) (p : Nat) (e : Ending) (w' : World) : Prop :=
  (∃ ps p' A c, ParamsAt s ps p p' ∧ e = .returned (.slice A ps.length c) ∧ w'.ownsRow w.heap.size 9 1 (.slice A ps.length c) ps.length (ps.map .string) ∧ ps.length ≤ s.size ∧ ScAt w' sc s p' ∧ Touched w sc w') ∨ ((∀ ps p', ¬ ParamsAt s ps p p') ∧ Thrown w sc e w')

theorem own_row_slice {w : World} {base T z n : Nat} {v : Value} {xs : List Value} (h : w.ownsRow base T z v n xs) : ∃ A c, v = .slice A n c := by
  rcases h.2 with ⟨e, h0⟩ | ⟨g, cap, cur, e, _⟩
  · exact ⟨none, 0, by rw [e, h0]⟩
  · exact ⟨_, _, e⟩
theorem tok_of_shut {s : ByteArray} {p p' : Nat} (h : SignAt s 41 p p') : (tok s p).t = ⟨#[41]⟩ := shut_tok h

theorem Tryd.info9' : (Tryd.prog.info? 9).map (fun i => (i.zero, i.size, i.bytes)) = some (some (.string ⟨#[]⟩), 1, 16) := by kernel_rfl

set_option maxRecDepth 100000 in
set_option maxHeartbeats 8000000 in
theorem params_total (sc : Nat) (s : ByteArray) (p : Nat) (w : World) (hs : s.size ≤ 200000) (hp : p ≤ s.size) (h : ScAt w sc s p) (ht : Tabs3 w) (hsc : 7 < sc) :
    Calls Tryd.prog 31 #[.pointer (some ⟨sc, 0, none⟩)] w fun e w' => ParEnd w sc s p e w' := by
  have hlt := h.lt
  have hT0 := ht.alloc (.cells #[.int .i64 1] 56)
  have K1 := hide (sign_total sc s p _ hs hp (h.alloc (.cells #[.int .i64 1] 56)) hT0 hsc 40 1 (.inl ⟨rfl, rfl⟩) (.slice (some ⟨w.heap.size, 0, none⟩) 1 1) (kinds1 1) (fun b n cap e => by injection e with e; injection e with e; injection e with e; omega))
  have HTb := hide ht
  obtain ⟨i0, hi, hz0, hz1, hz2⟩ := infoParts Tryd.info9'
  clear h ht hT0
  go_enter Tryd.func31, Tryd.ntmps31
  go_wp2_with (go_at_call 15; refine K1.out.mono ?_)
  intro e w1 h9
  rcases h9 with ⟨v1, p1, hs1, rfl, hS1, hT1⟩ | ⟨hno, hth⟩
  · have hT1' : Touched w sc w1 := (Touched.alloc w sc _).trans hT1
    have HSt : Hid (NmsRd w sc s p1 [] p1 (.slice none 0 0) w1) := ⟨rfl, hs1.le, by simp, hS1, hT1', World.ownsRow_nil _ _ _ _⟩
    have HS1 := hide hs1
    clear hS1 hT1 hT1' hs1 K1
    go_wp2_with fail
    go_loopg [3] (s.size - p1) (fun g v wr => ∃ (ns : List ByteArray) (pk : Nat), pk + g = s.size ∧ Hid (NmsRd w sc s p1 ns pk v wr))
    case atStart => exact ⟨[], p1, by have := HSt.out.le; omega, HSt.out⟩
    case round =>
      clear HSt
      obtain ⟨ns, pk, hpk, HM⟩ := hrel
      obtain ⟨ao, cc, hu⟩ := own_row_slice HM.out.own
      subst hu
      have htw := HTb.out.touched HM.out.old hsc
      have hslt := HM.out.scan.lt
      have KB := hide (before_calls sc s pk wr hs HM.out.le HM.out.scan htw.b.a)
      by_cases hc : (tok s pk).t = ⟨#[41]⟩
      · rw [show decide ((tok s pk).t = ⟨#[41]⟩) = true from by simp [hc]] at KB
        obtain ⟨px, hx⟩ : ∃ px, SignAt s 41 pk px := ⟨_, tok_shut HM.out.le hc⟩
        have HX := hide hx
        clear hx hc
        go_wp2_with (go_at_call 16; refine KB.out.mono ?_)
        intro e W1 h9
        first | (subst h9; intro hb1) | (obtain ⟨rfl, hb1⟩ := h9)
        have K2 := hide (sign_total sc s pk _ hs HM.out.le ((HM.out.scan.below hb1).alloc (.cells #[.int .i64 2] 56)) ((htw.later hb1).alloc (.cells #[.int .i64 2] 56)) hsc 41 2 (.inr ⟨rfl, rfl⟩) (.slice (some ⟨W1.heap.size, 0, none⟩) 1 1) (kinds1 2) (fun b n cap e => by injection e with e; injection e with e; injection e with e; have := hb1.size; omega))
        have HB1 := hide hb1
        clear hb1 KB htw
        go_wp2_with (go_at_call 15; refine K2.out.mono ?_)
        intro e w2 h9
        rcases h9 with ⟨v2, p2, hs2, rfl, hS2, hT2⟩ | ⟨hno, hth⟩
        · have hB : Touched wr sc w2 := ((Touched.of_below HB1.out).trans (Touched.alloc W1 sc _)).trans hT2
          have HF : Hid (ParEnd w sc s p (.returned (.slice ao ns.length cc)) w2) := .inl ⟨ns, p2, ao, cc, ⟨p1, pk, HS1.out, namesAt_iff.2 HM.out.seq, hs2⟩, rfl, HM.out.own.kept (row := some sc) hB (.inr (fun e => by have := (HM.out.own.lt sc e).1; omega)), by have := HM.out.few; have := HM.out.le; omega, hS2, HM.out.old.trans hB⟩
          clear hB hs2 hS2 hT2 K2
          go_wp2_with fail
          go_ret
          exact HF.out
        · exact absurd HX.out (hno px)
      · rw [show decide ((tok s pk).t = ⟨#[41]⟩) = false from by simp [hc]] at KB
        have HNc := hide hc
        clear hc
        go_wp2_with (go_at_call 16; refine KB.out.mono ?_)
        intro e W1 h9
        first | (subst h9; intro hb1) | (obtain ⟨rfl, hb1⟩ := h9)
        have K2 := hide (name_total sc s pk W1 hs HM.out.le (HM.out.scan.below hb1) (htw.later hb1) hsc)
        have HB1 := hide hb1
        clear hb1 KB htw
        go_wp2_with (go_at_call 30; refine K2.out.mono ?_)
        intro e w2 h9
        rcases h9 with ⟨v2, p2, ⟨q, rfl, hw2⟩, rfl, hS2, hT2⟩ | ⟨hno, hth⟩
        · have hB : Touched wr sc w2 := (Touched.of_below HB1.out).trans hT2
          have hlt2 := hw2.lt.1
          have hle2 := hw2.le
          have hz2' := hB.size
          have hfew := HM.out.few
          have hpl := HM.out.le
          have HO5 := hide ((HM.out.own.kept (row := some sc) hB (.inr (fun e => by have := (HM.out.own.lt sc e).1; omega))).alloc (.cells #[.string q] 9))
          have HBt := hide hB
          have HS2 := hide hS2
          have HW2 := hide hw2
          clear hB hS2 hT2 hw2 K2
          go_wp2_with (at_builtin; refine wpList_append_placed _ rfl _ _ 38 rfl w.heap.size 9 i0 (.string ⟨#[]⟩) 1 16 Tryd.underlying38 hi hz0 hz1 hz2 rfl (by decide) (.slice ao ns.length cc) ns.length (ns.map .string) rfl HO5.out ⟨w2.heap.size, 0, none⟩ 1 1 [.string q] rfl rfl ?c1 ?c2 (by decide) ?c3 ?c4 ?c5 ?_)
          case c1 => exact cell_one_new w2 (.string q) 9
          case c2 => intro u hu; simp at hu; subst hu; rfl
          case c3 => unfold maxLen; omega
          case c4 => have := HM.out.old.size; omega
          case c5 => have := HM.out.old.size; simp; omega
          intro v' w6 hown6 hgr6 hpl6
          have hT7 : Touched w sc w6 := by
            refine ⟨hgr6.os.trans (HBt.out.os.trans HM.out.old.os), hgr6.tape.trans (HBt.out.tape.trans HM.out.old.tape), hgr6.output.trans (HBt.out.output.trans HM.out.old.output), by have := hgr6.size; simp at this; have := HM.out.old.size; omega, fun b hb hne => ?_⟩
            have hzo := HM.out.old.size
            rw [hgr6.block b (by simp; omega) (fun e => by have := (HM.out.own.lt _ e.symm).1; omega), Below.heap_alloc _ _ _ (by omega), HBt.out.block b (by omega) hne]
            exact HM.out.old.block b hb hne
          have HNx : Hid (NmsRd w sc s p1 (ns ++ [q]) p2 v' w6) := by
            refine ⟨HM.out.seq.snoc HW2.out, hle2, by simp; omega, ?_, hT7, ?_⟩
            · exact (HS2.out.alloc _).of_block (hgr6.block sc (by simp; have := HM.out.old.size; omega) (fun e => by have := (HM.out.own.lt _ e.symm).1; omega))
            · simpa using hown6
          clear hT7 hown6 hgr6 hpl6
          go_wp2_with fail
          go_roundg (s.size - p2)
          case measure => omega
          case rel => exact ⟨ns ++ [q], p2, by omega, HNx.out⟩
        · have HF : Hid (ParEnd w sc s p e w2) := by
            refine .inr ⟨fun ps p' hx => ?_, hth.from (HM.out.old.trans (Touched.of_below HB1.out))⟩
            obtain ⟨a, b, g1, g2, g3⟩ := hx
            obtain rfl := HS1.out.same g1
            obtain ⟨zs, _, hz⟩ := SeqG.fit word_det HM.out.seq (namesAt_iff.1 g2) (fun _ _ h => shut_no_word g3 h)
            cases zs with
            | nil =>
              have e : b = pk := hz
              subst e
              exact HNc.out (tok_of_shut g3)
            | cons z zs =>
              obtain ⟨_, hz, _⟩ := hz
              exact hno _ _ hz
          obtain ⟨c, a, fb, rfl, -⟩ := hth
          go_wp2_with fail
          exact ⟨rfl, HF.out⟩
  · have HF : Hid (ParEnd w sc s p e w1) := .inr ⟨fun ps p' hx => by obtain ⟨a, b, g1, _⟩ := hx; exact hno _ g1, hth.from (Touched.alloc w sc _)⟩
    obtain ⟨c, a, fb, rfl, -⟩ := hth
    go_wp2_with fail
    exact ⟨rfl, HF.out⟩

end Go.Proofs.YtkgkmlikpljbiaaDoor
