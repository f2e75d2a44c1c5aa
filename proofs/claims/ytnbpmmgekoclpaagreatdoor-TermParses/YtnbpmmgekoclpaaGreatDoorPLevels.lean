/- The contract of the scanner's levels. -/
import Derived.Test.YtnbpmmgekoclpaaGreatDoorPTok
namespace Go.Proofs.YtnbpmmgekoclpaaGreatDoor
open Go.RowKit

theorem Row.nextv {W w5 w6 : World} {n0 n m : Nat} {ks : List LvB} {l : LvB} {rv rv' : Value} {xs : List Value} {k : Int} {nm : ByteArray} {A : Option Addr} {cap : Nat} (h : Row W 0 n0 ks rv xs) (hnm : n0 ≤ m) (hm' : ∀ g, rv.ownBlock = some g → g < m)
    (hz : W.heap.size ≤ w5.heap.size) (hw : ∀ b, b < W.heap.size → n0 ≤ b → w5.heap[b]? = W.heap[b]?) (hx : InP w5 (fun b => m ≤ b) l (.agg #[.int .i64 k, .string nm, .slice A n cap]))
    (hown : w6.ownsRow n0 69 3 rv' (xs.length + 1) (flat xs ++ [.int .i64 k, .string nm, .slice A n cap])) (hgr : (w5.alloc (.cells #[.int .i64 k, .string nm, .slice A n cap] 69)).grownBy w6 rv.ownBlock)
    (hpl : rv'.ownBlock = rv.ownBlock ∨ rv'.ownBlock = some (w5.alloc (.cells #[.int .i64 k, .string nm, .slice A n cap] 69)).heap.size) :
    Row w6 0 n0 (ks ++ [l]) rv' (xs ++ [.agg #[.int .i64 k, .string nm, .slice A n cap]]) := by
  have hblock : ∀ b, b < w5.heap.size → rv.ownBlock ≠ some b → w6.heap[b]? = w5.heap[b]? := fun b hb hne => by
    rw [hgr.block b (by simp; omega) (fun e => hne e.symm)]
    exact Below.heap_alloc _ _ _ hb
  have hne' : ∀ b, b < w5.heap.size → rv.ownBlock ≠ some b → rv'.ownBlock ≠ some b := fun b hb hne => by
    rcases hpl with e | e
    · rw [e]; exact hne
    · rw [e]; simp; omega
  refine ⟨?_, fun e => by simp at e, by simp [h.len], fun j hj hj' => ?_⟩
  · have : flat (xs ++ [Value.agg #[.int .i64 k, .string nm, .slice A n cap]]) = flat xs ++ [.int .i64 k, .string nm, .slice A n cap] := by rw [flat_append]; simp [flat]
    rw [this, List.length_append, List.length_singleton]
    exact hown
  · by_cases hjx : j < xs.length
    · have hjk : j < ks.length := by rw [← h.len]; exact hjx
      rw [List.getElem_append_left hjx, List.getElem_append_left hjk]
      refine (h.parts j hjx hjk).keep fun b hb hS => ⟨⟨hS.1, hne' b (by omega) hS.2⟩, ?_⟩
      rw [hblock b (by omega) hS.2]
      exact hw b hb (by rcases hS.1 with h1 | h1 <;> omega)
    · have e : j = xs.length := by simp at hj; omega
      subst e
      have hjk : ¬ xs.length < ks.length := by rw [h.len]; omega
      have e2 : (ks ++ [l])[xs.length] = l := by rw [List.getElem_append_right (by omega)]; simp
      rw [e2, List.getElem_append_right (Nat.le_refl _)]
      simp only [Nat.sub_self, List.getElem_cons_zero]
      refine hx.keep fun b hb hS => ?_
      have hne : rv.ownBlock ≠ some b := fun e => by
        have h1 := hm' b e
        omega
      exact ⟨⟨.inr (by omega), hne' b hb hne⟩, hblock b hb hne⟩

/-- While levels are read. -/
def LevsRd (w : World) (sc : Nat) (s : ByteArray) (ls : List LvB) (k pe : Nat) (rv : Value) (xs : List Value) (W : World) : Prop :=
  Row W 0 w.heap.size (ls.take k) rv xs ∧ (∃ pk, ReadsAll s (ls.drop k) pk pe ∧ pk ≤ s.size ∧ ScAt W sc s pk) ∧ Touched w sc W

/-- What levels leaves: the list that was read; or a throw. -/
def LevsEnd (w : World) (sc : Nat) (s : ByteArray) (ls : List LvB) (p4 : Nat) (fin : Option Nat) (e : Ending) (w' : World) : Prop :=
  (fin = none → ∃ (A : Option Addr) (lc : Nat), e = .returned (.slice A ls.length lc) ∧ LvsIn w' (fun b => w.heap.size ≤ b) A ls ∧ ScAt w' sc s p4 ∧ Touched w sc w') ∧ (∀ a, fin = some a → Threw w sc 1 a e w')

set_option maxRecDepth 100000 in
set_option maxHeartbeats 8000000 in
theorem levels_count (s : ByteArray) (hs : s.size ≤ 20000) (sc p3 p4 : Nat) (hsc : 6 < sc) (hp3 : p3 ≤ s.size) (ls : List LvB) (n : Nat) (hn : ls.length ≤ n) (hn2 : n ≤ 1) (hk : ReadsAll s ls p3 p4) (fin : Option Nat) (hend : (fin = none → ls.length = n) ∧ ∀ a, fin = some a → ls.length < n ∧ Fails s p4 a)
    (w : World) (h : ScAt w sc s p3) (ht : Tabs w) :
    Calls Tryz.prog 36 #[.pointer (some ⟨sc, 0, none⟩), .int .i64 (n : Nat)] w fun e w' => LevsEnd w sc s ls p4 fin e w' := by
  have hlt := h.lt
  have hfew := ReadsAll.few hp3 hk
  have HTb := hide ht
  have HEn := hide hend
  have HSt : Hid (LevsRd w sc s ls 0 p4 (.slice none 0 0) [] w) := ⟨by simpa using Row.start _ _ _, ⟨p3, by simpa using hk, hp3, h⟩, Touched.refl _ _⟩
  obtain ⟨i0, hi, hz0, hz1, hz2⟩ := info_parts Tryz.info69
  clear h ht hk hend
  go_enter Tryz.func36, Tryz.ntmps36
  go_wp2_with fail
  go_loopg [5] (ls.length) (fun g v wr => ∃ (k : Nat) (rv : Value) (xs : List Value), k + g = ls.length ∧ v = rv ∧ Hid (LevsRd w sc s ls k p4 rv xs wr))
  case atStart => exact ⟨0, _, _, by omega, rfl, HSt.out⟩
  case round =>
    clear HSt
    obtain ⟨k, rv, xs, hkg, rfl, HM⟩ := hrel
    obtain ⟨hRow, ⟨pk, hra, hpk, hSk⟩, hOld⟩ := HM.out
    have hxk : xs.length = k := by rw [hRow.len]; simp; omega
    have hslt := hSk.lt
    obtain ⟨ao, nn, cc, rfl⟩ : ∃ ao nn cc, u5 = .slice ao nn cc := by
      rcases hRow.own.2 with ⟨e, _⟩ | ⟨g, cap, cur, e, _⟩
      · exact ⟨_, _, _, e⟩
      · exact ⟨_, _, _, e⟩
    have hnn : nn = k := by
      rcases hRow.own.2 with ⟨e, h0⟩ | ⟨g, cap, cur, e, _⟩
      · injection e with _ e _; omega
      · injection e with _ e _; omega
    subst hnn
    have htw := HTb.out.touched hOld hsc
    by_cases hkl : nn < ls.length
    · rw [List.drop_eq_getElem_cons hkl] at hra
      obtain ⟨pn, hr1, hr2⟩ := hra
      have hpn := hr1.le
      have hkn : nn < n := by omega
      have HRow := hide hRow
      have HR2 := hide hr2
      have HO := hide hOld
      have hzo := hOld.size
      have HW1 : Hid (Below wr.heap.size wr wr) := Below.refl _ _
      have hSk1 := hSk
      have htw1 := htw
      have KL := hide (slevel_calls s hs sc hsc _ ls[nn] pk pn wr (Nat.le_refl _) hr1 hpk hSk1 htw1)
      clear hRow hr1 hr2 hOld HM hSk1 htw1 htw hSk
      go_wp2_with (go_at_call 50; refine KL.out.mono ?_)
      rintro e w5 ⟨k1, nm1, A3, n1, cap3, rfl, hin5, hS5, hT5⟩
      have hT6 : Touched wr sc w5 := (Touched.of_below HW1.out).trans hT5
      have hz5 := hT6.size
      have HO5 := hide ((HRow.out.own.kept (row := some sc) hT6 (.inr (fun e => by have := (HRow.out.own.lt sc e).1; omega))).alloc (.cells #[.int .i64 k1, .string nm1, .slice A3 n1 cap3] 69))
      have HT5 := hide hT6
      have HS5 := hide hS5
      have HI5 := hide hin5
      clear hT5 hT6 hin5 hS5
      go_wp2_with (at_builtin; refine wpList_append_placed _ rfl _ _ 27 rfl w.heap.size 69 i0 _ 3 48 Tryz.underlying27 hi hz0 hz1 hz2 rfl (by decide) (.slice ao nn cc) xs.length (flat xs) rfl HO5.out ⟨w5.heap.size, 0, none⟩ 1 1 [.int .i64 k1, .string nm1, .slice A3 n1 cap3] rfl rfl (three_new _ _ _ _ _) (by intro u hu; simp at hu; rcases hu with rfl | rfl | rfl <;> rfl) (by decide) (by unfold maxLen; omega) (by omega) (by simp; omega) ?_)
      intro v' w6 hown6 hgr6 hpl6
      obtain ⟨g, cap', rfl, hgb⟩ := shape_row hown6 (by omega)
      have hT7 : Touched w sc w6 := by
        refine ⟨hgr6.os.trans (HT5.out.os.trans HO.out.os), hgr6.tape.trans (HT5.out.tape.trans HO.out.tape), hgr6.output.trans (HT5.out.output.trans HO.out.output), by have := hgr6.size; simp at this; omega, fun b hb hne => ?_⟩
        rw [hgr6.block b (by simp; omega) (fun e => by have := (HRow.out.own.lt _ e.symm).1; omega), Below.heap_alloc _ _ _ (by omega), HT5.out.block b (by omega) hne]
        exact HO.out.block b hb hne
      have hNx : LevsRd w sc s ls (nn + 1) p4 (.slice (some ⟨g, 0, none⟩) (nn + 1) cap') (xs ++ [.agg #[.int .i64 k1, .string nm1, .slice A3 n1 cap3]]) w6 := by
        refine ⟨?_, ⟨pn, HR2.out, hpn, ?_⟩, hT7⟩
        · have e1 : ls.take (nn + 1) = ls.take nn ++ [ls[nn]] := by rw [List.take_add_one, List.getElem?_eq_getElem hkl]; rfl
          rw [e1]
          exact HRow.out.nextv hzo (fun g e => (HRow.out.own.lt g e).2) (HT5.out.size) (fun b hb h => HT5.out.at hb (by omega)) (HI5.out.keep fun b hb h => ⟨Nat.le_trans HW1.out.size h, rfl⟩) (by rw [hxk]; exact hown6) hgr6 (by simpa using hpl6)
        · exact (HS5.out.alloc _).of_block (hgr6.block sc (by simp; omega) (fun e => by have := (HRow.out.own.lt _ e.symm).1; omega))
      have HNx := hide hNx
      clear hNx hT7 hown6 hgr6 hpl6
      go_wp2_with fail
      go_roundg (ls.length - (nn + 1))
      case measure => omega
      case rel => exact ⟨nn + 1, _, _, by omega, rfl, HNx.out⟩
    · have hkl' : nn = ls.length := by omega
      subst hkl'
      have hpe : p4 = pk := by simpa [ReadsAll] using hra
      subst hpe
      cases fin with
      | none =>
        have hkn : ¬ ls.length < n := by have := HEn.out.1 rfl; omega
        have hn1 : ((n : Int) == -1) = false := by simp <;> omega
        have HRow := hide hRow
        have HO := hide hOld
        have HW1 : Hid (Below wr.heap.size wr wr) := Below.refl _ _
        have HS9 := hide hSk
        clear hSk
        clear hRow hOld HM htw hra
        go_wp2_with fail
        go_ret
        refine ⟨fun _ => ?_, fun a e => by cases e⟩
        obtain ⟨A, c, e, hL⟩ := HRow.out.list
        rw [List.take_length] at e hL
        exact ⟨_, _, rfl, by
          injection e with e1 e2 e3
          rw [e1]
          exact hL.keep fun b hb h => ⟨h, HW1.out.block b hb⟩, HS9.out, HO.out.trans (Touched.of_below HW1.out)⟩
      | some a =>
        have hkn : ls.length < n := (HEn.out.2 a rfl).1
        have HO := hide hOld
        have HW1 : Hid (Below wr.heap.size wr wr) := Below.refl _ _
        have hSk1 := hSk
        have htw1 := htw
        have KF := hide (slevel_fails s hs sc hsc (HEn.out.2 a rfl).2 wr hpk hSk1 htw1)
        clear hRow hOld HM htw hra hSk1 htw1 hSk
        go_wp2_with (go_at_call 50; refine KF.out.mono ?_)
        intro e w5 h5
        have H5 := hide (h5.from (HO.out.trans (Touched.of_below HW1.out)))
        obtain ⟨fb, rfl, -⟩ := h5
        go_wp2_with fail
        refine ⟨rfl, ?_⟩
        show LevsEnd _ _ _ _ _ _ _ _
        unfold LevsEnd
        exact ⟨fun e => (by cases e), fun a' e => (by cases e; exact H5.out)⟩

set_option maxRecDepth 100000 in
set_option maxHeartbeats 8000000 in
theorem levels_free (s : ByteArray) (hs : s.size ≤ 20000) (sc p3 p4 : Nat) (hsc : 6 < sc) (hp3 : p3 ≤ s.size) (ls : List LvB)  (hk : ReadsAll s ls p3 p4) (fin : Option Nat) (hend : (fin = none → (tok s p4).t = ⟨#[41]⟩) ∧ ∀ a, fin = some a → (tok s p4).t ≠ ⟨#[41]⟩ ∧ Fails s p4 a)
    (w : World) (h : ScAt w sc s p3) (ht : Tabs w) :
    Calls Tryz.prog 36 #[.pointer (some ⟨sc, 0, none⟩), .int .i64 (-1)] w fun e w' => LevsEnd w sc s ls p4 fin e w' := by
  have hlt := h.lt
  have hfew := ReadsAll.few hp3 hk
  have HTb := hide ht
  have HEn := hide hend
  have HSt : Hid (LevsRd w sc s ls 0 p4 (.slice none 0 0) [] w) := ⟨by simpa using Row.start _ _ _, ⟨p3, by simpa using hk, hp3, h⟩, Touched.refl _ _⟩
  obtain ⟨i0, hi, hz0, hz1, hz2⟩ := info_parts Tryz.info69
  clear h ht hk hend
  go_enter Tryz.func36, Tryz.ntmps36
  go_wp2_with fail
  go_loopg [5] (ls.length) (fun g v wr => ∃ (k : Nat) (rv : Value) (xs : List Value), k + g = ls.length ∧ v = rv ∧ Hid (LevsRd w sc s ls k p4 rv xs wr))
  case atStart => exact ⟨0, _, _, by omega, rfl, HSt.out⟩
  case round =>
    clear HSt
    obtain ⟨k, rv, xs, hkg, rfl, HM⟩ := hrel
    obtain ⟨hRow, ⟨pk, hra, hpk, hSk⟩, hOld⟩ := HM.out
    have hxk : xs.length = k := by rw [hRow.len]; simp; omega
    have hslt := hSk.lt
    obtain ⟨ao, nn, cc, rfl⟩ : ∃ ao nn cc, u5 = .slice ao nn cc := by
      rcases hRow.own.2 with ⟨e, _⟩ | ⟨g, cap, cur, e, _⟩
      · exact ⟨_, _, _, e⟩
      · exact ⟨_, _, _, e⟩
    have hnn : nn = k := by
      rcases hRow.own.2 with ⟨e, h0⟩ | ⟨g, cap, cur, e, _⟩
      · injection e with _ e _; omega
      · injection e with _ e _; omega
    subst hnn
    have htw := HTb.out.touched hOld hsc
    by_cases hkl : nn < ls.length
    · rw [List.drop_eq_getElem_cons hkl] at hra
      obtain ⟨pn, hr1, hr2⟩ := hra
      have hpn := hr1.le
      have hkn : decide ((nn : Int) < -1) = false := by simp <;> omega
      have htk := close_no_level hr1
      have HRow := hide hRow
      have HR2 := hide hr2
      have HO := hide hOld
      have hzo := hOld.size
      have KB := hide (before_calls sc s pk wr hs hpk hSk htw)
      rw [show decide ((tok s pk).t = ⟨#[41]⟩) = false from by simp [htk]] at KB
      clear hRow HM hOld
      go_wp2_with (go_at_call 49; refine KB.out.mono ?_)
      first | (intro e W1 he hb1; subst he) | (rintro e W1 ⟨rfl, hb1⟩)
      have HW1 := hide hb1
      have hSk1 := hSk.below hb1
      have htw1 := htw.below hb1 htw.lt
      clear hb1
      have KL := hide (slevel_calls s hs sc hsc _ ls[nn] pk pn W1 (Nat.le_refl _) hr1 hpk hSk1 htw1)
      clear hr1 hr2 hSk1 htw1 htw hSk
      go_wp2_with (go_at_call 50; refine KL.out.mono ?_)
      rintro e w5 ⟨k1, nm1, A3, n1, cap3, rfl, hin5, hS5, hT5⟩
      have hT6 : Touched wr sc w5 := (Touched.of_below HW1.out).trans hT5
      have hz5 := hT6.size
      have HO5 := hide ((HRow.out.own.kept (row := some sc) hT6 (.inr (fun e => by have := (HRow.out.own.lt sc e).1; omega))).alloc (.cells #[.int .i64 k1, .string nm1, .slice A3 n1 cap3] 69))
      have HT5 := hide hT6
      have HS5 := hide hS5
      have HI5 := hide hin5
      clear hT5 hT6 hin5 hS5
      go_wp2_with (at_builtin; refine wpList_append_placed _ rfl _ _ 27 rfl w.heap.size 69 i0 _ 3 48 Tryz.underlying27 hi hz0 hz1 hz2 rfl (by decide) (.slice ao nn cc) xs.length (flat xs) rfl HO5.out ⟨w5.heap.size, 0, none⟩ 1 1 [.int .i64 k1, .string nm1, .slice A3 n1 cap3] rfl rfl (three_new _ _ _ _ _) (by intro u hu; simp at hu; rcases hu with rfl | rfl | rfl <;> rfl) (by decide) (by unfold maxLen; omega) (by omega) (by simp; omega) ?_)
      intro v' w6 hown6 hgr6 hpl6
      obtain ⟨g, cap', rfl, hgb⟩ := shape_row hown6 (by omega)
      have hT7 : Touched w sc w6 := by
        refine ⟨hgr6.os.trans (HT5.out.os.trans HO.out.os), hgr6.tape.trans (HT5.out.tape.trans HO.out.tape), hgr6.output.trans (HT5.out.output.trans HO.out.output), by have := hgr6.size; simp at this; omega, fun b hb hne => ?_⟩
        rw [hgr6.block b (by simp; omega) (fun e => by have := (HRow.out.own.lt _ e.symm).1; omega), Below.heap_alloc _ _ _ (by omega), HT5.out.block b (by omega) hne]
        exact HO.out.block b hb hne
      have hNx : LevsRd w sc s ls (nn + 1) p4 (.slice (some ⟨g, 0, none⟩) (nn + 1) cap') (xs ++ [.agg #[.int .i64 k1, .string nm1, .slice A3 n1 cap3]]) w6 := by
        refine ⟨?_, ⟨pn, HR2.out, hpn, ?_⟩, hT7⟩
        · have e1 : ls.take (nn + 1) = ls.take nn ++ [ls[nn]] := by rw [List.take_add_one, List.getElem?_eq_getElem hkl]; rfl
          rw [e1]
          exact HRow.out.nextv hzo (fun g e => (HRow.out.own.lt g e).2) (HT5.out.size) (fun b hb h => HT5.out.at hb (by omega)) (HI5.out.keep fun b hb h => ⟨Nat.le_trans HW1.out.size h, rfl⟩) (by rw [hxk]; exact hown6) hgr6 (by simpa using hpl6)
        · exact (HS5.out.alloc _).of_block (hgr6.block sc (by simp; omega) (fun e => by have := (HRow.out.own.lt _ e.symm).1; omega))
      have HNx := hide hNx
      clear hNx hT7 hown6 hgr6 hpl6
      go_wp2_with fail
      go_roundg (ls.length - (nn + 1))
      case measure => omega
      case rel => exact ⟨nn + 1, _, _, by omega, rfl, HNx.out⟩
    · have hkl' : nn = ls.length := by omega
      subst hkl'
      have hpe : p4 = pk := by simpa [ReadsAll] using hra
      subst hpe
      cases fin with
      | none =>
        have hkn : decide ((ls.length : Int) < -1) = false := by simp <;> omega
        have htk := HEn.out.1 rfl
        have HRow := hide hRow
        have HO := hide hOld
        have KB := hide (before_calls sc s p4 wr hs hpk hSk htw)
        rw [show decide ((tok s p4).t = ⟨#[41]⟩) = true from by simp [htk]] at KB
        have HSk := hide hSk
        clear hRow hOld HM htw hra hSk
        go_wp2_with (go_at_call 49; refine KB.out.mono ?_)
        first | (intro e W1 he hb1; subst he) | (rintro e W1 ⟨rfl, hb1⟩)
        have HW1 := hide hb1
        have HS9 := hide (HSk.out.below hb1)
        clear hb1
        go_wp2_with fail
        go_ret
        refine ⟨fun _ => ?_, fun a e => by cases e⟩
        obtain ⟨A, c, e, hL⟩ := HRow.out.list
        rw [List.take_length] at e hL
        exact ⟨_, _, rfl, by
          injection e with e1 e2 e3
          rw [e1]
          exact hL.keep fun b hb h => ⟨h, HW1.out.block b hb⟩, HS9.out, HO.out.trans (Touched.of_below HW1.out)⟩
      | some a =>
        have hkn : decide ((ls.length : Int) < -1) = false := by simp <;> omega
        have htk := (HEn.out.2 a rfl).1
        have HO := hide hOld
        have KB := hide (before_calls sc s p4 wr hs hpk hSk htw)
        rw [show decide ((tok s p4).t = ⟨#[41]⟩) = false from by simp [htk]] at KB
        clear hRow HM hOld
        go_wp2_with (go_at_call 49; refine KB.out.mono ?_)
        first | (intro e W1 he hb1; subst he) | (rintro e W1 ⟨rfl, hb1⟩)
        have HW1 := hide hb1
        have hSk1 := hSk.below hb1
        have htw1 := htw.below hb1 htw.lt
        clear hb1
        have KF := hide (slevel_fails s hs sc hsc (HEn.out.2 a rfl).2 W1 hpk hSk1 htw1)
        clear htw hra hSk1 htw1 hSk
        go_wp2_with (go_at_call 50; refine KF.out.mono ?_)
        intro e w5 h5
        have H5 := hide (h5.from (HO.out.trans (Touched.of_below HW1.out)))
        obtain ⟨fb, rfl, -⟩ := h5
        go_wp2_with fail
        refine ⟨rfl, ?_⟩
        show LevsEnd _ _ _ _ _ _ _ _
        unfold LevsEnd
        exact ⟨fun e => (by cases e), fun a' e => (by cases e; exact H5.out)⟩

end Go.Proofs.YtnbpmmgekoclpaaGreatDoor
