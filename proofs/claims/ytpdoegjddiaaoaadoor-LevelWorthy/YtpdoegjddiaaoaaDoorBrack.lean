/- The contract of the scanner's levelInBrackets, and so of Level: where a level stands, it is read. -/
import Derived.Test.YtpdoegjddiaaoaaDoorLev
namespace Go.Proofs.YtpdoegjddiaaoaaDoor
open Go.RowKit

/-- A call that reads a level, as one step of a region that draws its order. -/
theorem step_lev {ops : Array Oper} {o : Oper} {a : Act} {w : World} {K : Act → World → Prop} {Q : Exit → Act → World → Prop} {E : Prop} {args : Array Value} {f : FuncId} {sc p' : Nat} {s : ByteArray} {L : LvB}
    (hg : o.guard = none) (hrun : (execOp a.eval o).run Tryd.prog w = .ok (.enter f args) w) (hc : Calls Tryd.prog f args w fun e w' => LevOf w sc s L p' e w')
    (hK : ∀ (k : Int) (nm : ByteArray) (A : Option Addr) (n cap : Nat) (w' : World), InP w' (fun b => w.heap.size ≤ b) L (.agg #[.int .i64 k, .string nm, .slice A n cap]) → ScAt w' sc s p' → Touched w sc w' → K (a.put o.dst (.agg #[.int .i64 k, .string nm, .slice A n cap])) w') :
    if Region.wanted o (yielded ops a.tmps) = true then Oper.wp Tryd.prog o a w K Q else E := by
  have hw : Region.wanted o (yielded ops a.tmps) = true := by simp [Region.wanted, hg]
  rw [if_pos hw]
  unfold Oper.wp
  rw [hrun]
  refine hc.mono ?_
  rintro e w' ⟨k, nm, A, n, cap, rfl, h1, h2, h3⟩
  exact hK k nm A n cap w' h1 h2 h3

/-- While the parts of a level are read: its variable, its row, the scanner, and what was there. -/
structure Reading (w : World) (sc c : Nat) (s : ByteArray) (kd : Int) (l : LvB) (k pe : Nat) (rv : Value) (xs : List Value) (W : World) : Prop where
  var : LVar W c kd rv
  row : Row W 0 (c + 1) (l.kids.take k) rv xs
  scan : ∃ pk, ReadsAll s (l.kids.drop k) pk pe ∧ pk ≤ s.size ∧ ScAt W sc s pk
  old : Touched (w.alloc zlev) sc W

theorem wordB_kind (l : LvB) (h0 : l.kind ≠ 0) (h4 : l.kind ≠ 4) : KindOf l.wordB l.kind := by
  cases l <;> simp [Lv.kind] at h0 h4 <;> simp [KindOf, Lv.wordB, Lv.kind]

set_option maxRecDepth 100000 in
set_option maxHeartbeats 8000000 in
theorem brack_calls (s : ByteArray) (hs : s.size ≤ 20000) (l : LvB) (h0 : l.kind ≠ 0) (h4 : l.kind ≠ 4) (sc p1 p2 p3 p' : Nat) (hsc : 1 < sc) (hp1 : p1 ≤ s.size) (hw : WordAt s l.wordB p1 p2) (hk : ReadsAll s l.kids p2 p3) (hp3 : p3 ≤ s.size) (hcl : SignAt s 41 p3 p')
    (ih : ∀ k (hk : k < l.kids.length) (p p' : Nat) (W : World), Reads s l.kids[k] p p' → p ≤ s.size → ScAt W sc s p → Tabs W → Calls Tryd.prog 25 #[.pointer (some ⟨sc, 0, none⟩)] W fun e w' => LevOf W sc s l.kids[k] p' e w') (w : World) (h : ScAt w sc s p1) (ht : Tabs w) :
    Calls Tryd.prog 44 #[.pointer (some ⟨sc, 0, none⟩)] w fun e w' => LevOf w sc s l p' e w' := by
  have hlt := h.lt
  have hkd : (l.kind = 1 ∧ l.kids.length = 1) ∨ (l.kind = 2 ∧ l.kids.length = 2) ∨ (l.kind = 3 ∧ l.kids.length = 2) := by cases l <;> simp [Lv.kind] at h0 h4 <;> simp [Lv.kind, Lv.kids]
  have ht0 := ht.below ((Below.refl _ _).alloc (Nat.le_refl _) zlev) ht.lt
  have K1 := hide (word_calls sc s p1 _ p2 l.kind _ _ (hw.nexts hs hp1) (h.alloc zlev) ht0 hsc (wordB_kind l h0 h4))
  have HTb := hide ht0
  have IH := hide ih
  have HRd := hide hk
  have HCl := hide hcl
  have HW2 := hide hw.le
  have H4 := hide h4
  obtain ⟨i0, hi, hz0, hz1, hz2⟩ := info_parts Tryd.info28
  clear h ht ht0 hw hk ih h0 h4 hcl
  generalize hkk : l.kind = kd at *
  have HKK := hide hkk
  clear hkk
  go_enter Tryd.func44, Tryd.ntmps44
  go_wp2_with (go_at_call 56; refine K1.out.mono ?_)
  rintro e w1 ⟨rfl, hS1, hT1⟩
  have HS1 := hide hS1
  have HT1 := hide hT1
  obtain ⟨-, -, ⟨n0, n1, n2, n3, n4⟩⟩ := HTb.out.touched hT1 hsc
  have hz := hT1.size
  simp at hz
  have hw0 : 0 < w1.heap.size := by omega
  clear hS1 hT1
  have hkp : ∃ off : Nat, (kd = 1 ∧ off = 3 ∨ kd = 2 ∧ off = 5 ∨ kd = 3 ∧ off = 7) ∧ w1.cell? ⟨0, off, none⟩ = some (.int .i64 (l.kids.length : Nat)) := by
    rcases hkd with ⟨rfl, hl⟩ | ⟨rfl, hl⟩ | ⟨rfl, hl⟩
    · exact ⟨3, .inl ⟨rfl, rfl⟩, by rw [hl]; exact n1⟩
    · exact ⟨5, .inr (.inl ⟨rfl, rfl⟩), by rw [hl]; exact n2⟩
    · exact ⟨7, .inr (.inr ⟨rfl, rfl⟩), by rw [hl]; exact n3⟩
  have hk2 := l.kids_le
  obtain ⟨off, hoff, hcell⟩ := hkp
  clear n0 n1 n2 n3 n4 hkd
  rcases hoff with ⟨rfl, rfl⟩ | ⟨rfl, rfl⟩ | ⟨rfl, rfl⟩
  · go_wp2_with fail
    go_loopg [12] (l.kids.length) (fun g i wr => ∃ (k : Nat) (rv : Value) (xs : List Value), k + g = l.kids.length ∧ i = .int .i64 k ∧ Hid (Reading w sc w1.heap.size s l.kind l k p3 rv xs wr))
    case atStart =>
      refine ⟨0, .slice none 0 0, [], by omega, rfl, ?_⟩
      have hv := heap_alloc_new w1 (.cells #[.int .i64 l.kind, .string ⟨#[]⟩, .slice none 0 0] 28)
      rw [HKK.out] at hv
      exact ⟨by rw [HKK.out]; exact hv, by simpa using Row.start _ _ _, ⟨p2, by simpa using HRd.out, HW2.out, HS1.out.alloc _⟩, HT1.out.trans (Touched.alloc _ _ _)⟩
    case round =>
      obtain ⟨k, rv, xs, hkg, rfl, HM⟩ := hrel
      have hxk : xs.length ≤ 2 := by rw [HM.out.row.len]; simp; omega
      have hvl := HM.out.var.lt
      obtain ⟨ao, nn, cc, rfl⟩ : ∃ ao nn cc, rv = .slice ao nn cc := by
        rcases HM.out.row.own.2 with ⟨e, _⟩ | ⟨g, cap, cur, e, _⟩
        · exact ⟨_, _, _, e⟩
        · exact ⟨_, _, _, e⟩
      by_cases hkl : k < l.kids.length
      · obtain ⟨pk, hra, hpk, hSk⟩ := HM.out.scan
        rw [List.drop_eq_getElem_cons hkl] at hra
        obtain ⟨pn, hr1, hr2⟩ := hra
        have HR2 := hide hr2
        have hpn := hr1.le
        have HI : Hid (Calls Tryd.prog 25 #[.pointer (some ⟨sc, 0, none⟩)] wr.drew fun e w' => LevOf wr.drew sc s l.kids[k] pn e w') := IH.out k hkl pk pn wr.drew hr1 hpk hSk (HTb.out.touched HM.out.old.drew' hsc)
        have hV := HM.out.var
        have HOw := hide HM.out.row.own
        have q2 := hV.c2
        have q3 := hV.f 2
        have HV := hide hV
        clear hV hr1 hr2 hSk
        go_wp2_with fail
        go_region_law (first
          | (refine step_lev (f := 25) (sc := sc) (s := s) (p' := pn) (L := l.kids[k]) (args := #[.pointer (some ⟨sc, 0, none⟩)]) rfl ?_ ?_ ?_
             · simp [go_sem]
             · exact HI.out
             intro k1 nm1 A3 n1 cap3 w5 hin5 hS5 hT5
             have hT6 : Touched wr sc w5 := ⟨hT5.os, hT5.tape, hT5.output, hT5.size, hT5.block⟩
             have hV5 : LVar w5 w1.heap.size l.kind (.slice ao nn cc) := HV.out.of_block (hT6.block _ hvl (by simp; omega))
             have v2 := hV5.c2
             have v3 := hV5.f 2
             have hz5 := hT6.size
             have hlt5 : w1.heap.size < w5.heap.size := by omega
             have HV5 := hide hV5
             have HO5 := hide (HOw.out.kept (row := some sc) hT6 (.inr (fun e => by have := (HM.out.row.own.lt sc e).1; omega)))
             have HT5 := hide hT6
             have HS5 := hide hS5
             have HI5 := hide hin5
             clear hT5 hT6 hin5 hV5 hS5)
          | (refine step_append_own rfl (.tmp 15) (.tmp 18) 26 rfl (w1.heap.size + 1) 28 i0 _ 3 48 Tryd.underlying26 hi hz0 hz1 hz2 rfl (by decide) (.slice ao nn cc) xs.length (flat xs) ?_ (HO5.out.alloc _) ⟨w5.heap.size, 0, none⟩ 1 1 [.int .i64 k1, .string nm1, .slice A3 n1 cap3] ?_ rfl ?_ ?_ (by decide) (by unfold maxLen; omega) (by omega) ?_ ?_
             · rfl
             · rfl
             · exact three_new _ _ _ _ _
             · intro u hu; simp at hu; rcases hu with rfl | rfl | rfl <;> rfl
             · show w1.heap.size + 1 ≤ (w5.alloc _).heap.size; simp; omega
             intro v' w6 hown6 hgr6 hpl6
             obtain ⟨g, cap', rfl, hgb⟩ := shape_row hown6 (by omega)
             have hV6 : LVar w6 w1.heap.size l.kind (.slice ao nn cc) := (HV5.out.alloc (.cells #[.int .i64 k1, .string nm1, .slice A3 n1 cap3] 28)).of_block (hgr6.block w1.heap.size (by simp; omega) (fun e => by have := (HM.out.row.own.lt _ e.symm).1; omega))
             have u2 := hV6.c2
             have u3 := hV6.f 2
             have HV6 := hide hV6
             have HO6 := hide hown6
             have HG6 := hide hgr6
             have HP6 := hide hpl6
             clear hown6 hgr6 hpl6 hV6))
        all_goals
          go_wp2_with fail
          go_roundg (l.kids.length - (k + 1))
          case measure => omega
          case rel =>
            have hrow := HM.out.row.next (c := w1.heap.size) (m := wr.heap.size) (by omega) (by omega) (by omega) (fun g e => (HM.out.row.own.lt g e).2) HT5.out.size (fun b hb hS => HT5.out.block b hb (by simp; omega)) (HI5.out.keep (S' := fun b => b < 0 ∨ wr.heap.size ≤ b) fun b _ hb => ⟨.inr hb, rfl⟩) HO6.out HG6.out HP6.out (.slice (some ⟨g, 0, none⟩) (xs.length + 1) cap')
            refine ⟨k + 1, .slice (some ⟨g, 0, none⟩) (xs.length + 1) cap', xs ++ [.agg #[.int .i64 k1, .string nm1, .slice A3 n1 cap3]], by omega, by go_num, ?_⟩
            refine ⟨HV6.out.set _, by rw [List.take_succ_eq_append_getElem hkl]; exact hrow, ⟨pn, HR2.out, hpn, ?_⟩, ?_⟩
            · refine HS5.out.of_block ?_
              rw [Below.heap_setCell _ _ _ _ (by show sc ≠ w1.heap.size; omega), HG6.out.block sc (by simp; have := HS5.out.lt; omega) (fun e => by have := (HM.out.row.own.lt _ e.symm).1; omega)]
              exact Below.heap_alloc _ _ _ HS5.out.lt
            · have z5 := HT5.out.size
              have z6 := HG6.out.size
              have zo := HM.out.old.size
              simp at z6 zo
              refine ⟨HG6.out.os.trans (HT5.out.os.trans HM.out.old.os), HG6.out.tape.trans (HT5.out.tape.trans HM.out.old.tape), HG6.out.output.trans (HT5.out.output.trans HM.out.old.output), by simp [World.setCell]; omega, fun b hb hne => ?_⟩
              have hb' : b < w.heap.size + 1 := by simpa using hb
              rw [Below.heap_setCell _ _ _ _ (by show b ≠ w1.heap.size; omega), HG6.out.block b (by simp; omega) (fun e => by have := (HM.out.row.own.lt _ e.symm).1; omega), Below.heap_alloc _ _ _ (by omega), HT5.out.block b (by omega) hne]
              exact HM.out.old.block b hb hne
      · have hke : k = l.kids.length := by omega
        subst hke
        obtain ⟨pk, hra, hpk, hSk⟩ := HM.out.scan
        rw [List.drop_length] at hra
        have hra' : p3 = pk := hra
        subst hra'
        have htw := HTb.out.touched HM.out.old hsc
        have K9 := hide (expect_calls sc s p3 2 _ p' _ [2] (.slice (some ⟨wr.heap.size, 0, none⟩) 1 1) _ (HCl.out.nexts hs hp3 2 (.inr ⟨rfl, rfl⟩)) (hSk.alloc (.cells #[.int .i64 2] 86)) (htw.below ((Below.refl _ _).alloc (Nat.le_refl _) _) htw.lt) hsc ⟨by simp, wr.heap.size, 1, rfl, fun i hi => by match i, hi with | 0, _ => simp⟩ (fun b n cap e => by injection e with e; injection e with e; injection e with e; have := hSk.lt; omega) (by simp))
        have HF := hide (Row.made (l := l) (by have := HM.out.row; rwa [List.take_length] at this) (by rw [HKK.out]; exact H4.out))
        rw [HKK.out] at HF
        clear htw hSk hra
        generalize s.extract (runTo blankB s p3) p' = tt at *
        generalize runTo blankB s p3 = kk at *
        go_wp2_with (go_at_call 43; refine K9.out.mono ?_)
        rintro e w7 ⟨rfl, hS7, hT7⟩
        have hT8 := (Touched.alloc wr sc (.cells #[.int .i64 2] 86)).trans hT7
        obtain ⟨d0, d1, d2, d3, d4⟩ := lcells hlt (HM.out.old.trans hT8)
        have hV7 := HM.out.var.of_block (hT8.block _ hvl (by simp; omega))
        rw [HKK.out] at hV7
        have v0 := hV7.c0
        have v1 := hV7.c1
        have v2 := hV7.c2
        have v3 := hV7.lt
        have HFi := hide (lev_fill hlt ((Touched.alloc w sc zlev).trans (HM.out.old.trans hT8)) hS7 (HF.out.keep (S' := fun b => w.heap.size + 1 ≤ b) fun b hb hS => ⟨by omega, hT8.block b hb (by simp; omega)⟩) (.int .i64 (1 : Nat)) (.string ⟨#[]⟩) (.slice ao nn cc))
        clear hS7 hT7 hT8 hV7
        go_wp2_with fail
        refine bodyPost_ret (v := .agg #[.int .i64 (1 : Nat), .string ⟨#[]⟩, .slice ao nn cc]) (by simp [results, Tryd.results44, go_sem, d0, d1, d2]) rfl ?_
        exact HFi.out
  · go_wp2_with fail
    go_loopg [12] (l.kids.length) (fun g i wr => ∃ (k : Nat) (rv : Value) (xs : List Value), k + g = l.kids.length ∧ i = .int .i64 k ∧ Hid (Reading w sc w1.heap.size s l.kind l k p3 rv xs wr))
    case atStart =>
      refine ⟨0, .slice none 0 0, [], by omega, rfl, ?_⟩
      have hv := heap_alloc_new w1 (.cells #[.int .i64 l.kind, .string ⟨#[]⟩, .slice none 0 0] 28)
      rw [HKK.out] at hv
      exact ⟨by rw [HKK.out]; exact hv, by simpa using Row.start _ _ _, ⟨p2, by simpa using HRd.out, HW2.out, HS1.out.alloc _⟩, HT1.out.trans (Touched.alloc _ _ _)⟩
    case round =>
      obtain ⟨k, rv, xs, hkg, rfl, HM⟩ := hrel
      have hxk : xs.length ≤ 2 := by rw [HM.out.row.len]; simp; omega
      have hvl := HM.out.var.lt
      obtain ⟨ao, nn, cc, rfl⟩ : ∃ ao nn cc, rv = .slice ao nn cc := by
        rcases HM.out.row.own.2 with ⟨e, _⟩ | ⟨g, cap, cur, e, _⟩
        · exact ⟨_, _, _, e⟩
        · exact ⟨_, _, _, e⟩
      by_cases hkl : k < l.kids.length
      · obtain ⟨pk, hra, hpk, hSk⟩ := HM.out.scan
        rw [List.drop_eq_getElem_cons hkl] at hra
        obtain ⟨pn, hr1, hr2⟩ := hra
        have HR2 := hide hr2
        have hpn := hr1.le
        have HI : Hid (Calls Tryd.prog 25 #[.pointer (some ⟨sc, 0, none⟩)] wr.drew fun e w' => LevOf wr.drew sc s l.kids[k] pn e w') := IH.out k hkl pk pn wr.drew hr1 hpk hSk (HTb.out.touched HM.out.old.drew' hsc)
        have hV := HM.out.var
        have HOw := hide HM.out.row.own
        have q2 := hV.c2
        have q3 := hV.f 2
        have HV := hide hV
        clear hV hr1 hr2 hSk
        go_wp2_with fail
        go_region_law (first
          | (refine step_lev (f := 25) (sc := sc) (s := s) (p' := pn) (L := l.kids[k]) (args := #[.pointer (some ⟨sc, 0, none⟩)]) rfl ?_ ?_ ?_
             · simp [go_sem]
             · exact HI.out
             intro k1 nm1 A3 n1 cap3 w5 hin5 hS5 hT5
             have hT6 : Touched wr sc w5 := ⟨hT5.os, hT5.tape, hT5.output, hT5.size, hT5.block⟩
             have hV5 : LVar w5 w1.heap.size l.kind (.slice ao nn cc) := HV.out.of_block (hT6.block _ hvl (by simp; omega))
             have v2 := hV5.c2
             have v3 := hV5.f 2
             have hz5 := hT6.size
             have hlt5 : w1.heap.size < w5.heap.size := by omega
             have HV5 := hide hV5
             have HO5 := hide (HOw.out.kept (row := some sc) hT6 (.inr (fun e => by have := (HM.out.row.own.lt sc e).1; omega)))
             have HT5 := hide hT6
             have HS5 := hide hS5
             have HI5 := hide hin5
             clear hT5 hT6 hin5 hV5 hS5)
          | (refine step_append_own rfl (.tmp 15) (.tmp 18) 26 rfl (w1.heap.size + 1) 28 i0 _ 3 48 Tryd.underlying26 hi hz0 hz1 hz2 rfl (by decide) (.slice ao nn cc) xs.length (flat xs) ?_ (HO5.out.alloc _) ⟨w5.heap.size, 0, none⟩ 1 1 [.int .i64 k1, .string nm1, .slice A3 n1 cap3] ?_ rfl ?_ ?_ (by decide) (by unfold maxLen; omega) (by omega) ?_ ?_
             · rfl
             · rfl
             · exact three_new _ _ _ _ _
             · intro u hu; simp at hu; rcases hu with rfl | rfl | rfl <;> rfl
             · show w1.heap.size + 1 ≤ (w5.alloc _).heap.size; simp; omega
             intro v' w6 hown6 hgr6 hpl6
             obtain ⟨g, cap', rfl, hgb⟩ := shape_row hown6 (by omega)
             have hV6 : LVar w6 w1.heap.size l.kind (.slice ao nn cc) := (HV5.out.alloc (.cells #[.int .i64 k1, .string nm1, .slice A3 n1 cap3] 28)).of_block (hgr6.block w1.heap.size (by simp; omega) (fun e => by have := (HM.out.row.own.lt _ e.symm).1; omega))
             have u2 := hV6.c2
             have u3 := hV6.f 2
             have HV6 := hide hV6
             have HO6 := hide hown6
             have HG6 := hide hgr6
             have HP6 := hide hpl6
             clear hown6 hgr6 hpl6 hV6))
        all_goals
          go_wp2_with fail
          go_roundg (l.kids.length - (k + 1))
          case measure => omega
          case rel =>
            have hrow := HM.out.row.next (c := w1.heap.size) (m := wr.heap.size) (by omega) (by omega) (by omega) (fun g e => (HM.out.row.own.lt g e).2) HT5.out.size (fun b hb hS => HT5.out.block b hb (by simp; omega)) (HI5.out.keep (S' := fun b => b < 0 ∨ wr.heap.size ≤ b) fun b _ hb => ⟨.inr hb, rfl⟩) HO6.out HG6.out HP6.out (.slice (some ⟨g, 0, none⟩) (xs.length + 1) cap')
            refine ⟨k + 1, .slice (some ⟨g, 0, none⟩) (xs.length + 1) cap', xs ++ [.agg #[.int .i64 k1, .string nm1, .slice A3 n1 cap3]], by omega, by go_num, ?_⟩
            refine ⟨HV6.out.set _, by rw [List.take_succ_eq_append_getElem hkl]; exact hrow, ⟨pn, HR2.out, hpn, ?_⟩, ?_⟩
            · refine HS5.out.of_block ?_
              rw [Below.heap_setCell _ _ _ _ (by show sc ≠ w1.heap.size; omega), HG6.out.block sc (by simp; have := HS5.out.lt; omega) (fun e => by have := (HM.out.row.own.lt _ e.symm).1; omega)]
              exact Below.heap_alloc _ _ _ HS5.out.lt
            · have z5 := HT5.out.size
              have z6 := HG6.out.size
              have zo := HM.out.old.size
              simp at z6 zo
              refine ⟨HG6.out.os.trans (HT5.out.os.trans HM.out.old.os), HG6.out.tape.trans (HT5.out.tape.trans HM.out.old.tape), HG6.out.output.trans (HT5.out.output.trans HM.out.old.output), by simp [World.setCell]; omega, fun b hb hne => ?_⟩
              have hb' : b < w.heap.size + 1 := by simpa using hb
              rw [Below.heap_setCell _ _ _ _ (by show b ≠ w1.heap.size; omega), HG6.out.block b (by simp; omega) (fun e => by have := (HM.out.row.own.lt _ e.symm).1; omega), Below.heap_alloc _ _ _ (by omega), HT5.out.block b (by omega) hne]
              exact HM.out.old.block b hb hne
      · have hke : k = l.kids.length := by omega
        subst hke
        obtain ⟨pk, hra, hpk, hSk⟩ := HM.out.scan
        rw [List.drop_length] at hra
        have hra' : p3 = pk := hra
        subst hra'
        have htw := HTb.out.touched HM.out.old hsc
        have K9 := hide (expect_calls sc s p3 2 _ p' _ [2] (.slice (some ⟨wr.heap.size, 0, none⟩) 1 1) _ (HCl.out.nexts hs hp3 2 (.inr ⟨rfl, rfl⟩)) (hSk.alloc (.cells #[.int .i64 2] 86)) (htw.below ((Below.refl _ _).alloc (Nat.le_refl _) _) htw.lt) hsc ⟨by simp, wr.heap.size, 1, rfl, fun i hi => by match i, hi with | 0, _ => simp⟩ (fun b n cap e => by injection e with e; injection e with e; injection e with e; have := hSk.lt; omega) (by simp))
        have HF := hide (Row.made (l := l) (by have := HM.out.row; rwa [List.take_length] at this) (by rw [HKK.out]; exact H4.out))
        rw [HKK.out] at HF
        clear htw hSk hra
        generalize s.extract (runTo blankB s p3) p' = tt at *
        generalize runTo blankB s p3 = kk at *
        go_wp2_with (go_at_call 43; refine K9.out.mono ?_)
        rintro e w7 ⟨rfl, hS7, hT7⟩
        have hT8 := (Touched.alloc wr sc (.cells #[.int .i64 2] 86)).trans hT7
        obtain ⟨d0, d1, d2, d3, d4⟩ := lcells hlt (HM.out.old.trans hT8)
        have hV7 := HM.out.var.of_block (hT8.block _ hvl (by simp; omega))
        rw [HKK.out] at hV7
        have v0 := hV7.c0
        have v1 := hV7.c1
        have v2 := hV7.c2
        have v3 := hV7.lt
        have HFi := hide (lev_fill hlt ((Touched.alloc w sc zlev).trans (HM.out.old.trans hT8)) hS7 (HF.out.keep (S' := fun b => w.heap.size + 1 ≤ b) fun b hb hS => ⟨by omega, hT8.block b hb (by simp; omega)⟩) (.int .i64 (2 : Nat)) (.string ⟨#[]⟩) (.slice ao nn cc))
        clear hS7 hT7 hT8 hV7
        go_wp2_with fail
        refine bodyPost_ret (v := .agg #[.int .i64 (2 : Nat), .string ⟨#[]⟩, .slice ao nn cc]) (by simp [results, Tryd.results44, go_sem, d0, d1, d2]) rfl ?_
        exact HFi.out
  · go_wp2_with fail
    go_loopg [12] (l.kids.length) (fun g i wr => ∃ (k : Nat) (rv : Value) (xs : List Value), k + g = l.kids.length ∧ i = .int .i64 k ∧ Hid (Reading w sc w1.heap.size s l.kind l k p3 rv xs wr))
    case atStart =>
      refine ⟨0, .slice none 0 0, [], by omega, rfl, ?_⟩
      have hv := heap_alloc_new w1 (.cells #[.int .i64 l.kind, .string ⟨#[]⟩, .slice none 0 0] 28)
      rw [HKK.out] at hv
      exact ⟨by rw [HKK.out]; exact hv, by simpa using Row.start _ _ _, ⟨p2, by simpa using HRd.out, HW2.out, HS1.out.alloc _⟩, HT1.out.trans (Touched.alloc _ _ _)⟩
    case round =>
      obtain ⟨k, rv, xs, hkg, rfl, HM⟩ := hrel
      have hxk : xs.length ≤ 2 := by rw [HM.out.row.len]; simp; omega
      have hvl := HM.out.var.lt
      obtain ⟨ao, nn, cc, rfl⟩ : ∃ ao nn cc, rv = .slice ao nn cc := by
        rcases HM.out.row.own.2 with ⟨e, _⟩ | ⟨g, cap, cur, e, _⟩
        · exact ⟨_, _, _, e⟩
        · exact ⟨_, _, _, e⟩
      by_cases hkl : k < l.kids.length
      · obtain ⟨pk, hra, hpk, hSk⟩ := HM.out.scan
        rw [List.drop_eq_getElem_cons hkl] at hra
        obtain ⟨pn, hr1, hr2⟩ := hra
        have HR2 := hide hr2
        have hpn := hr1.le
        have HI : Hid (Calls Tryd.prog 25 #[.pointer (some ⟨sc, 0, none⟩)] wr.drew fun e w' => LevOf wr.drew sc s l.kids[k] pn e w') := IH.out k hkl pk pn wr.drew hr1 hpk hSk (HTb.out.touched HM.out.old.drew' hsc)
        have hV := HM.out.var
        have HOw := hide HM.out.row.own
        have q2 := hV.c2
        have q3 := hV.f 2
        have HV := hide hV
        clear hV hr1 hr2 hSk
        go_wp2_with fail
        go_region_law (first
          | (refine step_lev (f := 25) (sc := sc) (s := s) (p' := pn) (L := l.kids[k]) (args := #[.pointer (some ⟨sc, 0, none⟩)]) rfl ?_ ?_ ?_
             · simp [go_sem]
             · exact HI.out
             intro k1 nm1 A3 n1 cap3 w5 hin5 hS5 hT5
             have hT6 : Touched wr sc w5 := ⟨hT5.os, hT5.tape, hT5.output, hT5.size, hT5.block⟩
             have hV5 : LVar w5 w1.heap.size l.kind (.slice ao nn cc) := HV.out.of_block (hT6.block _ hvl (by simp; omega))
             have v2 := hV5.c2
             have v3 := hV5.f 2
             have hz5 := hT6.size
             have hlt5 : w1.heap.size < w5.heap.size := by omega
             have HV5 := hide hV5
             have HO5 := hide (HOw.out.kept (row := some sc) hT6 (.inr (fun e => by have := (HM.out.row.own.lt sc e).1; omega)))
             have HT5 := hide hT6
             have HS5 := hide hS5
             have HI5 := hide hin5
             clear hT5 hT6 hin5 hV5 hS5)
          | (refine step_append_own rfl (.tmp 15) (.tmp 18) 26 rfl (w1.heap.size + 1) 28 i0 _ 3 48 Tryd.underlying26 hi hz0 hz1 hz2 rfl (by decide) (.slice ao nn cc) xs.length (flat xs) ?_ (HO5.out.alloc _) ⟨w5.heap.size, 0, none⟩ 1 1 [.int .i64 k1, .string nm1, .slice A3 n1 cap3] ?_ rfl ?_ ?_ (by decide) (by unfold maxLen; omega) (by omega) ?_ ?_
             · rfl
             · rfl
             · exact three_new _ _ _ _ _
             · intro u hu; simp at hu; rcases hu with rfl | rfl | rfl <;> rfl
             · show w1.heap.size + 1 ≤ (w5.alloc _).heap.size; simp; omega
             intro v' w6 hown6 hgr6 hpl6
             obtain ⟨g, cap', rfl, hgb⟩ := shape_row hown6 (by omega)
             have hV6 : LVar w6 w1.heap.size l.kind (.slice ao nn cc) := (HV5.out.alloc (.cells #[.int .i64 k1, .string nm1, .slice A3 n1 cap3] 28)).of_block (hgr6.block w1.heap.size (by simp; omega) (fun e => by have := (HM.out.row.own.lt _ e.symm).1; omega))
             have u2 := hV6.c2
             have u3 := hV6.f 2
             have HV6 := hide hV6
             have HO6 := hide hown6
             have HG6 := hide hgr6
             have HP6 := hide hpl6
             clear hown6 hgr6 hpl6 hV6))
        all_goals
          go_wp2_with fail
          go_roundg (l.kids.length - (k + 1))
          case measure => omega
          case rel =>
            have hrow := HM.out.row.next (c := w1.heap.size) (m := wr.heap.size) (by omega) (by omega) (by omega) (fun g e => (HM.out.row.own.lt g e).2) HT5.out.size (fun b hb hS => HT5.out.block b hb (by simp; omega)) (HI5.out.keep (S' := fun b => b < 0 ∨ wr.heap.size ≤ b) fun b _ hb => ⟨.inr hb, rfl⟩) HO6.out HG6.out HP6.out (.slice (some ⟨g, 0, none⟩) (xs.length + 1) cap')
            refine ⟨k + 1, .slice (some ⟨g, 0, none⟩) (xs.length + 1) cap', xs ++ [.agg #[.int .i64 k1, .string nm1, .slice A3 n1 cap3]], by omega, by go_num, ?_⟩
            refine ⟨HV6.out.set _, by rw [List.take_succ_eq_append_getElem hkl]; exact hrow, ⟨pn, HR2.out, hpn, ?_⟩, ?_⟩
            · refine HS5.out.of_block ?_
              rw [Below.heap_setCell _ _ _ _ (by show sc ≠ w1.heap.size; omega), HG6.out.block sc (by simp; have := HS5.out.lt; omega) (fun e => by have := (HM.out.row.own.lt _ e.symm).1; omega)]
              exact Below.heap_alloc _ _ _ HS5.out.lt
            · have z5 := HT5.out.size
              have z6 := HG6.out.size
              have zo := HM.out.old.size
              simp at z6 zo
              refine ⟨HG6.out.os.trans (HT5.out.os.trans HM.out.old.os), HG6.out.tape.trans (HT5.out.tape.trans HM.out.old.tape), HG6.out.output.trans (HT5.out.output.trans HM.out.old.output), by simp [World.setCell]; omega, fun b hb hne => ?_⟩
              have hb' : b < w.heap.size + 1 := by simpa using hb
              rw [Below.heap_setCell _ _ _ _ (by show b ≠ w1.heap.size; omega), HG6.out.block b (by simp; omega) (fun e => by have := (HM.out.row.own.lt _ e.symm).1; omega), Below.heap_alloc _ _ _ (by omega), HT5.out.block b (by omega) hne]
              exact HM.out.old.block b hb hne
      · have hke : k = l.kids.length := by omega
        subst hke
        obtain ⟨pk, hra, hpk, hSk⟩ := HM.out.scan
        rw [List.drop_length] at hra
        have hra' : p3 = pk := hra
        subst hra'
        have htw := HTb.out.touched HM.out.old hsc
        have K9 := hide (expect_calls sc s p3 2 _ p' _ [2] (.slice (some ⟨wr.heap.size, 0, none⟩) 1 1) _ (HCl.out.nexts hs hp3 2 (.inr ⟨rfl, rfl⟩)) (hSk.alloc (.cells #[.int .i64 2] 86)) (htw.below ((Below.refl _ _).alloc (Nat.le_refl _) _) htw.lt) hsc ⟨by simp, wr.heap.size, 1, rfl, fun i hi => by match i, hi with | 0, _ => simp⟩ (fun b n cap e => by injection e with e; injection e with e; injection e with e; have := hSk.lt; omega) (by simp))
        have HF := hide (Row.made (l := l) (by have := HM.out.row; rwa [List.take_length] at this) (by rw [HKK.out]; exact H4.out))
        rw [HKK.out] at HF
        clear htw hSk hra
        generalize s.extract (runTo blankB s p3) p' = tt at *
        generalize runTo blankB s p3 = kk at *
        go_wp2_with (go_at_call 43; refine K9.out.mono ?_)
        rintro e w7 ⟨rfl, hS7, hT7⟩
        have hT8 := (Touched.alloc wr sc (.cells #[.int .i64 2] 86)).trans hT7
        obtain ⟨d0, d1, d2, d3, d4⟩ := lcells hlt (HM.out.old.trans hT8)
        have hV7 := HM.out.var.of_block (hT8.block _ hvl (by simp; omega))
        rw [HKK.out] at hV7
        have v0 := hV7.c0
        have v1 := hV7.c1
        have v2 := hV7.c2
        have v3 := hV7.lt
        have HFi := hide (lev_fill hlt ((Touched.alloc w sc zlev).trans (HM.out.old.trans hT8)) hS7 (HF.out.keep (S' := fun b => w.heap.size + 1 ≤ b) fun b hb hS => ⟨by omega, hT8.block b hb (by simp; omega)⟩) (.int .i64 (3 : Nat)) (.string ⟨#[]⟩) (.slice ao nn cc))
        clear hS7 hT7 hT8 hV7
        go_wp2_with fail
        refine bodyPost_ret (v := .agg #[.int .i64 (3 : Nat), .string ⟨#[]⟩, .slice ao nn cc]) (by simp [results, Tryd.results44, go_sem, d0, d1, d2]) rfl ?_
        exact HFi.out

theorem ReadsAll.le {s : ByteArray} : ∀ {ls : List LvB} {p p' : Nat}, ReadsAll s ls p p' → p ≤ s.size → p' ≤ s.size
  | [], _, _, h, hp => by rw [show _ = _ from h]; exact hp
  | _ :: _, _, _, ⟨_, h1, h2⟩, _ => ReadsAll.le h2 h1.le

/-- Where a level stands, it is read. -/
theorem slevel_calls (s : ByteArray) (hs : s.size ≤ 20000) (sc : Nat) (hsc : 1 < sc) (N : Nat) : ∀ (l : LvB) (p p' : Nat) (w : World), l.nodes ≤ N → Reads s l p p' → p ≤ s.size → ScAt w sc s p → Tabs w →
    Calls Tryd.prog 25 #[.pointer (some ⟨sc, 0, none⟩)] w fun e w' => LevOf w sc s l p' e w' := by
  induction N with
  | zero => intro l p p' w h; cases l <;> simp [Lv.nodes] at h
  | succ N ih =>
    intro l p p' w hN hr hp hS hT
    by_cases h0 : l.kind = 0
    · cases l <;> simp [Lv.kind] at h0
      exact lev_zero sc s p p' w hs hp hr hS hT hsc
    · by_cases h4 : l.kind = 4
      · cases l <;> simp [Lv.kind] at h4
        exact lev_param sc s _ p p' w hs hp hr hS hT hsc
      · obtain ⟨p1, p2, p3, h1, h2, h3, h5⟩ := hr.inside h0 h4
        exact lev_open sc s l p p1 p' w hs hp h1 hS hT hsc fun W hS' hT' => brack_calls s hs l h0 h4 sc p1 p2 p3 p' hsc h1.le h2 h3 (h3.le h2.le) h5 (fun k hk q q' W' hr' hq hS2 hT2 => ih _ q q' W' (by have := Lv.kid_nodes hk; omega) hr' hq hS2 hT2) W hS' hT'

end Go.Proofs.YtpdoegjddiaaoaaDoor
