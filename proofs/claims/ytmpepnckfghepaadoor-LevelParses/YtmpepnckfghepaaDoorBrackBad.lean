/- The contract of the scanner's levelInBrackets, and so of Level, where no level stands: what is thrown. -/
import Derived.Test.YtmpepnckfghepaaDoorBrack
import Derived.Test.YtmpepnckfghepaaDoorLevBad
namespace Go.Proofs.YtmpepnckfghepaaDoor
open Go.RowKit

/-- A call that throws, as one step of a region that draws its order. (What would follow if it returned is asked under a condition that never holds: the walk wants a goal that goes on.) -/
theorem step_throw {ops : Array Oper} {o : Oper} {a : Act} {w : World} {K : Act → World → Prop} {Q : Exit → Act → World → Prop} {E : Prop} {args : Array Value} {f : FuncId} {sc a0 : Nat}
    (hg : o.guard = none) (hrun : (execOp a.eval o).run Tryd.prog w = .ok (.enter f args) w) (hc : Calls Tryd.prog f args w fun e w' => Threw w sc 1 a0 e w')
    (hQ : ∀ (fb : Nat) (w' : World), Threw w sc 1 a0 (.panicked [{ v := .iface 62 (.pointer (some ⟨fb, 0, none⟩)), recovered := false }]) w' → Q (.panic [{ v := .iface 62 (.pointer (some ⟨fb, 0, none⟩)), recovered := false }]) a w')
    (hK : ∀ (k : Int) (nm : ByteArray) (A : Option Addr) (n cap : Nat) (w' : World), Hid False → K (a.put o.dst (.agg #[.int .i64 k, .string nm, .slice A n cap])) w') :
    if Region.wanted o (yielded ops a.tmps) = true then Oper.wp Tryd.prog o a w K Q else E := by
  have hw : Region.wanted o (yielded ops a.tmps) = true := by simp [Region.wanted, hg]
  rw [if_pos hw]
  unfold Oper.wp
  rw [hrun]
  refine hc.mono ?_
  intro e w' h
  obtain ⟨fb, rfl, h1⟩ := h
  have _ := hK
  exact hQ fb w' ⟨fb, rfl, h1⟩

/-- While the parts of a level are read: its variable, its row, the scanner, and what was there. -/
structure ReadingL (w : World) (sc c : Nat) (s : ByteArray) (kd : Int) (ls : List LvB) (k pe : Nat) (rv : Value) (xs : List Value) (W : World) : Prop where
  var : LVar W c kd rv
  row : Row W 0 (c + 1) (ls.take k) rv xs
  scan : ∃ pk, ReadsAll s (ls.drop k) pk pe ∧ pk ≤ s.size ∧ ScAt W sc s pk
  old : Touched (w.alloc zlev) sc W

/-- What comes behind the parts that stand there. -/
def Ends (s : ByteArray) (sc n m pj a : Nat) : Prop := (m < n ∧ ∀ W, ScAt W sc s pj → Tabs W → Calls Tryd.prog 10 #[.pointer (some ⟨sc, 0, none⟩)] W fun e w' => Threw W sc 1 a e w') ∨ (m = n ∧ (tok s pj).t ≠ ⟨#[41]⟩ ∧ a = runTo blankB s pj)

set_option maxRecDepth 100000 in
set_option maxHeartbeats 8000000 in
theorem brack_parts (s : ByteArray) (hs : s.size ≤ 20000) (q : ByteArray) (kd : Nat) (hkq : KindOf q kd) (sc p1 p2 pj a : Nat) (hsc : 5 < sc) (hp1 : p1 ≤ s.size) (hw : WordAt s q p1 p2) (ls : List LvB) (hk : ReadsAll s ls p2 pj) (hpj : pj ≤ s.size) (hlen : ls.length ≤ partsOf kd) (hend : Ends s sc (partsOf kd) ls.length pj a)
    (w : World) (h : ScAt w sc s p1) (ht : Tabs w) :
    Calls Tryd.prog 18 #[.pointer (some ⟨sc, 0, none⟩)] w fun e w' => Threw w sc 1 a e w' := by
  have hlt := h.lt
  have ht0 := ht.below ((Below.refl _ _).alloc (Nat.le_refl _) zlev) ht.lt
  have K1 := hide (word_calls sc s p1 _ p2 kd _ _ (hw.nexts hs hp1) (h.alloc zlev) ht0 hsc hkq)
  have HTb := hide ht0
  have HRd := hide hk
  have HEn := hide hend
  have HW2 := hide hw.le
  obtain ⟨i0, hi, hz0, hz1, hz2⟩ := info_parts Tryd.info29
  have hpk : (kd = 1 ∧ partsOf kd = 1) ∨ (kd = 2 ∧ partsOf kd = 2) ∨ (kd = 3 ∧ partsOf kd = 2) := by rcases hkq with ⟨_, rfl⟩ | ⟨_, rfl⟩ | ⟨_, rfl⟩ <;> simp [partsOf]
  clear h ht ht0 hw hk hend hkq
  generalize hpn : partsOf kd = n at *
  clear hpn
  go_enter Tryd.func18, Tryd.ntmps18
  go_wp2_with (go_at_call 30; refine K1.out.mono ?_)
  rintro e w1 ⟨rfl, hS1, hT1⟩
  have HS1 := hide hS1
  have HT1 := hide hT1
  obtain ⟨-, -, ⟨n0, n1, n2, n3, n4⟩, -, -, -⟩ := HTb.out.touched hT1 hsc
  have hz := hT1.size
  simp at hz
  have hw0 : 0 < w1.heap.size := by omega
  clear hS1 hT1
  have hkp : ∃ off : Nat, (kd = 1 ∧ off = 3 ∨ kd = 2 ∧ off = 5 ∨ kd = 3 ∧ off = 7) ∧ w1.cell? ⟨0, off, none⟩ = some (.int .i64 (n : Nat)) := by
    rcases hpk with ⟨rfl, rfl⟩ | ⟨rfl, rfl⟩ | ⟨rfl, rfl⟩
    · exact ⟨3, .inl ⟨rfl, rfl⟩, n1⟩
    · exact ⟨5, .inr (.inl ⟨rfl, rfl⟩), n2⟩
    · exact ⟨7, .inr (.inr ⟨rfl, rfl⟩), n3⟩
  have hn2 : n ≤ 2 := by omega
  obtain ⟨off, hoff, hcell⟩ := hkp
  clear n0 n1 n2 n3 n4 hpk
  rcases hoff with ⟨rfl, rfl⟩ | ⟨rfl, rfl⟩ | ⟨rfl, rfl⟩
  · go_wp2_with fail
    go_loopg [12] (ls.length) (fun g i wr => ∃ (k : Nat) (rv : Value) (xs : List Value), k + g = ls.length ∧ i = .int .i64 k ∧ Hid (ReadingL w sc w1.heap.size s ((1 : Nat) : Int) ls k pj rv xs wr))
    case atStart =>
      refine ⟨0, .slice none 0 0, [], by omega, rfl, ?_⟩
      have hv := heap_alloc_new w1 (.cells #[.int .i64 ((1 : Nat) : Int), .string ⟨#[]⟩, .slice none 0 0] 29)
      exact ⟨hv, by simpa using Row.start _ _ _, ⟨p2, by simpa using HRd.out, HW2.out, HS1.out.alloc _⟩, HT1.out.trans (Touched.alloc _ _ _)⟩
    case round =>
      obtain ⟨k, rv, xs, hkg, rfl, HM⟩ := hrel
      have hxk : xs.length ≤ 2 := by rw [HM.out.row.len]; simp; omega
      have hvl := HM.out.var.lt
      obtain ⟨ao, nn, cc, rfl⟩ : ∃ ao nn cc, rv = .slice ao nn cc := by
        rcases HM.out.row.own.2 with ⟨e, _⟩ | ⟨g, cap, cur, e, _⟩
        · exact ⟨_, _, _, e⟩
        · exact ⟨_, _, _, e⟩
      by_cases hkl : k < ls.length
      · obtain ⟨pk, hra, hpk, hSk⟩ := HM.out.scan
        rw [List.drop_eq_getElem_cons hkl] at hra
        obtain ⟨pn, hr1, hr2⟩ := hra
        have HR2 := hide hr2
        have hpn := hr1.le
        have hkn : decide ((k : Int) < (n : Int)) = true := by simp; omega
        have HI : Hid (Calls Tryd.prog 10 #[.pointer (some ⟨sc, 0, none⟩)] wr.drew fun e w' => LevOf wr.drew sc s ls[k] pn e w') := slevel_calls s hs sc hsc _ ls[k] pk pn wr.drew (Nat.le_refl _) hr1 hpk hSk (HTb.out.touched HM.out.old.drew' hsc)
        have hV := HM.out.var
        have HOw := hide HM.out.row.own
        have q2 := hV.c2
        have q3 := hV.f 2
        have HV := hide hV
        clear hV hr1 hr2 hSk
        go_wp2_with fail
        go_region_law (first
          | (refine step_lev (f := 10) (sc := sc) (s := s) (p' := pn) (L := ls[k]) (args := #[.pointer (some ⟨sc, 0, none⟩)]) rfl ?_ ?_ ?_
             · simp [go_sem]
             · exact HI.out
             intro k1 nm1 A3 n1 cap3 w5 hin5 hS5 hT5
             have hT6 : Touched wr sc w5 := ⟨hT5.os, hT5.tape, hT5.output, hT5.size, hT5.block⟩
             have hV5 : LVar w5 w1.heap.size ((1 : Nat) : Int) (.slice ao nn cc) := HV.out.of_block (hT6.block _ hvl (by simp; omega))
             have v2 := hV5.c2
             have v3 := hV5.f 2
             have hz5 := hT6.size
             have hlt5 : w1.heap.size < w5.heap.size := by omega
             have HV5 := hide hV5
             have HO5 := hide (HOw.out.kept (row := some sc) hT6 (.inr (fun e => by have := (HM.out.row.own.lt sc e).1; omega)))
             have HT5 := hide hT6
             have HS5 := hide hS5
             have HI5 := hide hin5
             clear hT5 hT6 hin5 hV5 hS5)
          | (refine step_append_own rfl (.tmp 15) (.tmp 18) 27 rfl (w1.heap.size + 1) 29 i0 _ 3 48 Tryd.underlying27 hi hz0 hz1 hz2 rfl (by decide) (.slice ao nn cc) xs.length (flat xs) ?_ (HO5.out.alloc _) ⟨w5.heap.size, 0, none⟩ 1 1 [.int .i64 k1, .string nm1, .slice A3 n1 cap3] ?_ rfl ?_ ?_ (by decide) (by unfold maxLen; omega) (by omega) ?_ ?_
             · rfl
             · rfl
             · exact three_new _ _ _ _ _
             · intro u hu; simp at hu; rcases hu with rfl | rfl | rfl <;> rfl
             · show w1.heap.size + 1 ≤ (w5.alloc _).heap.size; simp; omega
             intro v' w6 hown6 hgr6 hpl6
             obtain ⟨g, cap', rfl, hgb⟩ := shape_row hown6 (by omega)
             have hV6 : LVar w6 w1.heap.size ((1 : Nat) : Int) (.slice ao nn cc) := (HV5.out.alloc (.cells #[.int .i64 k1, .string nm1, .slice A3 n1 cap3] 29)).of_block (hgr6.block w1.heap.size (by simp; omega) (fun e => by have := (HM.out.row.own.lt _ e.symm).1; omega))
             have u2 := hV6.c2
             have u3 := hV6.f 2
             have HV6 := hide hV6
             have HO6 := hide hown6
             have HG6 := hide hgr6
             have HP6 := hide hpl6
             clear hown6 hgr6 hpl6 hV6))
        all_goals
          go_wp2_with fail
          go_roundg (ls.length - (k + 1))
          case measure => omega
          case rel =>
            have hrow := HM.out.row.next (c := w1.heap.size) (m := wr.heap.size) (by omega) (by omega) (by omega) (fun g e => (HM.out.row.own.lt g e).2) HT5.out.size (fun b hb hS => HT5.out.block b hb (by simp; omega)) (HI5.out.keep (S' := fun b => b < 0 ∨ wr.heap.size ≤ b) fun b _ hb => ⟨.inr hb, rfl⟩) HO6.out HG6.out HP6.out (.slice (some ⟨g, 0, none⟩) (xs.length + 1) cap')
            refine ⟨k + 1, .slice (some ⟨g, 0, none⟩) (xs.length + 1) cap', xs ++ [.agg #[.int .i64 k1, .string nm1, .slice A3 n1 cap3]], by omega, by go_num, ?_⟩
            refine ⟨HV6.out.set _, by rw [List.take_succ_eq_append_getElem hkl]; exact hrow, ⟨pn, HR2.out, hpn, ?_⟩, ?_⟩
            · refine HS5.out.of_block ?_
              rw [Below.heap_setCell _ _ _ _ (by show sc ≠ w1.heap.size; omega), HG6.out.block sc (by simp; have := HS5.out.lt; omega) (fun e => by have := (HM.out.row.own.lt _ e.symm).1; omega)]
              exact Below.heap_alloc _ _ _ HS5.out.lt
            · have z5 := HT5.out.size
              have z6 := HG6.out.size
              have zo := HM.out.old.size
              simp at z6 zo
              refine ⟨HG6.out.os.trans (HT5.out.os.trans HM.out.old.os), HG6.out.tape.trans (HT5.out.tape.trans HM.out.old.tape), HG6.out.output.trans (HT5.out.output.trans HM.out.old.output), by simp [World.setCell]; omega, fun b hb hne => ?_⟩
              have hb' : b < w.heap.size + 1 := by simpa using hb
              rw [Below.heap_setCell _ _ _ _ (by show b ≠ w1.heap.size; omega), HG6.out.block b (by simp; omega) (fun e => by have := (HM.out.row.own.lt _ e.symm).1; omega), Below.heap_alloc _ _ _ (by omega), HT5.out.block b (by omega) hne]
              exact HM.out.old.block b hb hne
      · have hke : k = ls.length := by omega
        subst hke
        obtain ⟨pk, hra, hpk, hSk⟩ := HM.out.scan
        rw [List.drop_length] at hra
        have hra' : pj = pk := hra
        subst hra'
        have htw := HTb.out.touched HM.out.old hsc
        have HOld := hide ((Touched.alloc w sc zlev).trans HM.out.old)
        rcases HEn.out with ⟨hm, hthrow⟩ | ⟨hm, hcl, rfl⟩
        · have hkn : decide ((ls.length : Int) < (n : Int)) = true := by simp; omega
          have HI : Hid (Calls Tryd.prog 10 #[.pointer (some ⟨sc, 0, none⟩)] wr.drew fun e w' => Threw wr.drew sc 1 a e w') := hthrow wr.drew hSk (HTb.out.touched HM.out.old.drew' hsc)
          have hV := HM.out.var
          have q2 := hV.c2
          have q3 := hV.f 2
          clear hV hSk htw hthrow
          go_wp2_with fail
          go_region_law (first
            | (refine step_throw (f := 10) (sc := sc) (a0 := a) (args := #[.pointer (some ⟨sc, 0, none⟩)]) rfl ?_ ?_ ?_ ?_
               · simp [go_sem]
               · exact HI.out
               · intro fb w5 h5
                 exact ⟨rfl, h5.from HOld.out.drew'⟩
               intro k1 nm1 A3 n1 cap3 w5 HF
               have v2 : w5.cell? ⟨w1.heap.size, 2, none⟩ = some (.slice ao nn cc) := HF.out.elim
               have v3 : w5.frozen? ⟨w1.heap.size, 2, none⟩ = false := HF.out.elim
               have hlt5 : w1.heap.size < w5.heap.size := HF.out.elim)
            | (refine step_append_own rfl (.tmp 15) (.tmp 18) 27 rfl (w1.heap.size + 1) 29 i0 _ 3 48 Tryd.underlying27 hi hz0 hz1 hz2 rfl (by decide) (.slice ao nn cc) xs.length (flat xs) ?_ HF.out.elim ⟨w5.heap.size, 0, none⟩ 1 1 [.int .i64 k1, .string nm1, .slice A3 n1 cap3] ?_ rfl HF.out.elim HF.out.elim (by decide) HF.out.elim HF.out.elim HF.out.elim ?_
               · rfl
               · rfl
               intro v' w6 _ _ _
               obtain ⟨g, cap', rfl⟩ : ∃ (g cap' : Nat), v' = .slice (some ⟨g, 0, none⟩) (xs.length + 1) cap' := HF.out.elim
               have u2 : w6.cell? ⟨w1.heap.size, 2, none⟩ = some (.slice ao nn cc) := HF.out.elim
               have u3 : w6.frozen? ⟨w1.heap.size, 2, none⟩ = false := HF.out.elim))
          all_goals exact HF.out.elim
        · have hkn : decide ((ls.length : Int) < (n : Int)) = false := by simp; omega
          have hx := next_all (s := s) (p := pj) hs hpj
          have hkd : (ntok s pj).1 ≠ 2 := by
            by_cases he : runTo blankB s pj = s.size
            · rw [ntok_end he]; simp
            · rw [ntok_in he]
              exact scan_close (by have := runTo_le blankB s hpj; omega) hcl
          have K9 := hide (expect_bad sc s pj _ _ _ _ [2] (.slice (some ⟨wr.heap.size, 0, none⟩) 1 1) _ hx (hSk.alloc (.cells #[.int .i64 2] 54)) (htw.below ((Below.refl _ _).alloc (Nat.le_refl _) _) htw.lt) hsc (kinds1 2) (fun b n cap e => by injection e with e; injection e with e; injection e with e; have := hSk.lt; omega) (by simp) (by simpa using hkd))
          clear hx hkd hcl htw hSk
          go_wp2_with (go_at_call 17; refine K9.out.mono ?_)
          intro e w7 h7
          have H7 := hide (h7.from (HOld.out.trans (Touched.alloc wr sc (.cells #[.int .i64 2] 54))))
          obtain ⟨fb, rfl, -⟩ := h7
          go_wp2_with fail
          exact ⟨rfl, H7.out⟩
  · go_wp2_with fail
    go_loopg [12] (ls.length) (fun g i wr => ∃ (k : Nat) (rv : Value) (xs : List Value), k + g = ls.length ∧ i = .int .i64 k ∧ Hid (ReadingL w sc w1.heap.size s ((2 : Nat) : Int) ls k pj rv xs wr))
    case atStart =>
      refine ⟨0, .slice none 0 0, [], by omega, rfl, ?_⟩
      have hv := heap_alloc_new w1 (.cells #[.int .i64 ((2 : Nat) : Int), .string ⟨#[]⟩, .slice none 0 0] 29)
      exact ⟨hv, by simpa using Row.start _ _ _, ⟨p2, by simpa using HRd.out, HW2.out, HS1.out.alloc _⟩, HT1.out.trans (Touched.alloc _ _ _)⟩
    case round =>
      obtain ⟨k, rv, xs, hkg, rfl, HM⟩ := hrel
      have hxk : xs.length ≤ 2 := by rw [HM.out.row.len]; simp; omega
      have hvl := HM.out.var.lt
      obtain ⟨ao, nn, cc, rfl⟩ : ∃ ao nn cc, rv = .slice ao nn cc := by
        rcases HM.out.row.own.2 with ⟨e, _⟩ | ⟨g, cap, cur, e, _⟩
        · exact ⟨_, _, _, e⟩
        · exact ⟨_, _, _, e⟩
      by_cases hkl : k < ls.length
      · obtain ⟨pk, hra, hpk, hSk⟩ := HM.out.scan
        rw [List.drop_eq_getElem_cons hkl] at hra
        obtain ⟨pn, hr1, hr2⟩ := hra
        have HR2 := hide hr2
        have hpn := hr1.le
        have hkn : decide ((k : Int) < (n : Int)) = true := by simp; omega
        have HI : Hid (Calls Tryd.prog 10 #[.pointer (some ⟨sc, 0, none⟩)] wr.drew fun e w' => LevOf wr.drew sc s ls[k] pn e w') := slevel_calls s hs sc hsc _ ls[k] pk pn wr.drew (Nat.le_refl _) hr1 hpk hSk (HTb.out.touched HM.out.old.drew' hsc)
        have hV := HM.out.var
        have HOw := hide HM.out.row.own
        have q2 := hV.c2
        have q3 := hV.f 2
        have HV := hide hV
        clear hV hr1 hr2 hSk
        go_wp2_with fail
        go_region_law (first
          | (refine step_lev (f := 10) (sc := sc) (s := s) (p' := pn) (L := ls[k]) (args := #[.pointer (some ⟨sc, 0, none⟩)]) rfl ?_ ?_ ?_
             · simp [go_sem]
             · exact HI.out
             intro k1 nm1 A3 n1 cap3 w5 hin5 hS5 hT5
             have hT6 : Touched wr sc w5 := ⟨hT5.os, hT5.tape, hT5.output, hT5.size, hT5.block⟩
             have hV5 : LVar w5 w1.heap.size ((2 : Nat) : Int) (.slice ao nn cc) := HV.out.of_block (hT6.block _ hvl (by simp; omega))
             have v2 := hV5.c2
             have v3 := hV5.f 2
             have hz5 := hT6.size
             have hlt5 : w1.heap.size < w5.heap.size := by omega
             have HV5 := hide hV5
             have HO5 := hide (HOw.out.kept (row := some sc) hT6 (.inr (fun e => by have := (HM.out.row.own.lt sc e).1; omega)))
             have HT5 := hide hT6
             have HS5 := hide hS5
             have HI5 := hide hin5
             clear hT5 hT6 hin5 hV5 hS5)
          | (refine step_append_own rfl (.tmp 15) (.tmp 18) 27 rfl (w1.heap.size + 1) 29 i0 _ 3 48 Tryd.underlying27 hi hz0 hz1 hz2 rfl (by decide) (.slice ao nn cc) xs.length (flat xs) ?_ (HO5.out.alloc _) ⟨w5.heap.size, 0, none⟩ 1 1 [.int .i64 k1, .string nm1, .slice A3 n1 cap3] ?_ rfl ?_ ?_ (by decide) (by unfold maxLen; omega) (by omega) ?_ ?_
             · rfl
             · rfl
             · exact three_new _ _ _ _ _
             · intro u hu; simp at hu; rcases hu with rfl | rfl | rfl <;> rfl
             · show w1.heap.size + 1 ≤ (w5.alloc _).heap.size; simp; omega
             intro v' w6 hown6 hgr6 hpl6
             obtain ⟨g, cap', rfl, hgb⟩ := shape_row hown6 (by omega)
             have hV6 : LVar w6 w1.heap.size ((2 : Nat) : Int) (.slice ao nn cc) := (HV5.out.alloc (.cells #[.int .i64 k1, .string nm1, .slice A3 n1 cap3] 29)).of_block (hgr6.block w1.heap.size (by simp; omega) (fun e => by have := (HM.out.row.own.lt _ e.symm).1; omega))
             have u2 := hV6.c2
             have u3 := hV6.f 2
             have HV6 := hide hV6
             have HO6 := hide hown6
             have HG6 := hide hgr6
             have HP6 := hide hpl6
             clear hown6 hgr6 hpl6 hV6))
        all_goals
          go_wp2_with fail
          go_roundg (ls.length - (k + 1))
          case measure => omega
          case rel =>
            have hrow := HM.out.row.next (c := w1.heap.size) (m := wr.heap.size) (by omega) (by omega) (by omega) (fun g e => (HM.out.row.own.lt g e).2) HT5.out.size (fun b hb hS => HT5.out.block b hb (by simp; omega)) (HI5.out.keep (S' := fun b => b < 0 ∨ wr.heap.size ≤ b) fun b _ hb => ⟨.inr hb, rfl⟩) HO6.out HG6.out HP6.out (.slice (some ⟨g, 0, none⟩) (xs.length + 1) cap')
            refine ⟨k + 1, .slice (some ⟨g, 0, none⟩) (xs.length + 1) cap', xs ++ [.agg #[.int .i64 k1, .string nm1, .slice A3 n1 cap3]], by omega, by go_num, ?_⟩
            refine ⟨HV6.out.set _, by rw [List.take_succ_eq_append_getElem hkl]; exact hrow, ⟨pn, HR2.out, hpn, ?_⟩, ?_⟩
            · refine HS5.out.of_block ?_
              rw [Below.heap_setCell _ _ _ _ (by show sc ≠ w1.heap.size; omega), HG6.out.block sc (by simp; have := HS5.out.lt; omega) (fun e => by have := (HM.out.row.own.lt _ e.symm).1; omega)]
              exact Below.heap_alloc _ _ _ HS5.out.lt
            · have z5 := HT5.out.size
              have z6 := HG6.out.size
              have zo := HM.out.old.size
              simp at z6 zo
              refine ⟨HG6.out.os.trans (HT5.out.os.trans HM.out.old.os), HG6.out.tape.trans (HT5.out.tape.trans HM.out.old.tape), HG6.out.output.trans (HT5.out.output.trans HM.out.old.output), by simp [World.setCell]; omega, fun b hb hne => ?_⟩
              have hb' : b < w.heap.size + 1 := by simpa using hb
              rw [Below.heap_setCell _ _ _ _ (by show b ≠ w1.heap.size; omega), HG6.out.block b (by simp; omega) (fun e => by have := (HM.out.row.own.lt _ e.symm).1; omega), Below.heap_alloc _ _ _ (by omega), HT5.out.block b (by omega) hne]
              exact HM.out.old.block b hb hne
      · have hke : k = ls.length := by omega
        subst hke
        obtain ⟨pk, hra, hpk, hSk⟩ := HM.out.scan
        rw [List.drop_length] at hra
        have hra' : pj = pk := hra
        subst hra'
        have htw := HTb.out.touched HM.out.old hsc
        have HOld := hide ((Touched.alloc w sc zlev).trans HM.out.old)
        rcases HEn.out with ⟨hm, hthrow⟩ | ⟨hm, hcl, rfl⟩
        · have hkn : decide ((ls.length : Int) < (n : Int)) = true := by simp; omega
          have HI : Hid (Calls Tryd.prog 10 #[.pointer (some ⟨sc, 0, none⟩)] wr.drew fun e w' => Threw wr.drew sc 1 a e w') := hthrow wr.drew hSk (HTb.out.touched HM.out.old.drew' hsc)
          have hV := HM.out.var
          have q2 := hV.c2
          have q3 := hV.f 2
          clear hV hSk htw hthrow
          go_wp2_with fail
          go_region_law (first
            | (refine step_throw (f := 10) (sc := sc) (a0 := a) (args := #[.pointer (some ⟨sc, 0, none⟩)]) rfl ?_ ?_ ?_ ?_
               · simp [go_sem]
               · exact HI.out
               · intro fb w5 h5
                 exact ⟨rfl, h5.from HOld.out.drew'⟩
               intro k1 nm1 A3 n1 cap3 w5 HF
               have v2 : w5.cell? ⟨w1.heap.size, 2, none⟩ = some (.slice ao nn cc) := HF.out.elim
               have v3 : w5.frozen? ⟨w1.heap.size, 2, none⟩ = false := HF.out.elim
               have hlt5 : w1.heap.size < w5.heap.size := HF.out.elim)
            | (refine step_append_own rfl (.tmp 15) (.tmp 18) 27 rfl (w1.heap.size + 1) 29 i0 _ 3 48 Tryd.underlying27 hi hz0 hz1 hz2 rfl (by decide) (.slice ao nn cc) xs.length (flat xs) ?_ HF.out.elim ⟨w5.heap.size, 0, none⟩ 1 1 [.int .i64 k1, .string nm1, .slice A3 n1 cap3] ?_ rfl HF.out.elim HF.out.elim (by decide) HF.out.elim HF.out.elim HF.out.elim ?_
               · rfl
               · rfl
               intro v' w6 _ _ _
               obtain ⟨g, cap', rfl⟩ : ∃ (g cap' : Nat), v' = .slice (some ⟨g, 0, none⟩) (xs.length + 1) cap' := HF.out.elim
               have u2 : w6.cell? ⟨w1.heap.size, 2, none⟩ = some (.slice ao nn cc) := HF.out.elim
               have u3 : w6.frozen? ⟨w1.heap.size, 2, none⟩ = false := HF.out.elim))
          all_goals exact HF.out.elim
        · have hkn : decide ((ls.length : Int) < (n : Int)) = false := by simp; omega
          have hx := next_all (s := s) (p := pj) hs hpj
          have hkd : (ntok s pj).1 ≠ 2 := by
            by_cases he : runTo blankB s pj = s.size
            · rw [ntok_end he]; simp
            · rw [ntok_in he]
              exact scan_close (by have := runTo_le blankB s hpj; omega) hcl
          have K9 := hide (expect_bad sc s pj _ _ _ _ [2] (.slice (some ⟨wr.heap.size, 0, none⟩) 1 1) _ hx (hSk.alloc (.cells #[.int .i64 2] 54)) (htw.below ((Below.refl _ _).alloc (Nat.le_refl _) _) htw.lt) hsc (kinds1 2) (fun b n cap e => by injection e with e; injection e with e; injection e with e; have := hSk.lt; omega) (by simp) (by simpa using hkd))
          clear hx hkd hcl htw hSk
          go_wp2_with (go_at_call 17; refine K9.out.mono ?_)
          intro e w7 h7
          have H7 := hide (h7.from (HOld.out.trans (Touched.alloc wr sc (.cells #[.int .i64 2] 54))))
          obtain ⟨fb, rfl, -⟩ := h7
          go_wp2_with fail
          exact ⟨rfl, H7.out⟩
  · go_wp2_with fail
    go_loopg [12] (ls.length) (fun g i wr => ∃ (k : Nat) (rv : Value) (xs : List Value), k + g = ls.length ∧ i = .int .i64 k ∧ Hid (ReadingL w sc w1.heap.size s ((3 : Nat) : Int) ls k pj rv xs wr))
    case atStart =>
      refine ⟨0, .slice none 0 0, [], by omega, rfl, ?_⟩
      have hv := heap_alloc_new w1 (.cells #[.int .i64 ((3 : Nat) : Int), .string ⟨#[]⟩, .slice none 0 0] 29)
      exact ⟨hv, by simpa using Row.start _ _ _, ⟨p2, by simpa using HRd.out, HW2.out, HS1.out.alloc _⟩, HT1.out.trans (Touched.alloc _ _ _)⟩
    case round =>
      obtain ⟨k, rv, xs, hkg, rfl, HM⟩ := hrel
      have hxk : xs.length ≤ 2 := by rw [HM.out.row.len]; simp; omega
      have hvl := HM.out.var.lt
      obtain ⟨ao, nn, cc, rfl⟩ : ∃ ao nn cc, rv = .slice ao nn cc := by
        rcases HM.out.row.own.2 with ⟨e, _⟩ | ⟨g, cap, cur, e, _⟩
        · exact ⟨_, _, _, e⟩
        · exact ⟨_, _, _, e⟩
      by_cases hkl : k < ls.length
      · obtain ⟨pk, hra, hpk, hSk⟩ := HM.out.scan
        rw [List.drop_eq_getElem_cons hkl] at hra
        obtain ⟨pn, hr1, hr2⟩ := hra
        have HR2 := hide hr2
        have hpn := hr1.le
        have hkn : decide ((k : Int) < (n : Int)) = true := by simp; omega
        have HI : Hid (Calls Tryd.prog 10 #[.pointer (some ⟨sc, 0, none⟩)] wr.drew fun e w' => LevOf wr.drew sc s ls[k] pn e w') := slevel_calls s hs sc hsc _ ls[k] pk pn wr.drew (Nat.le_refl _) hr1 hpk hSk (HTb.out.touched HM.out.old.drew' hsc)
        have hV := HM.out.var
        have HOw := hide HM.out.row.own
        have q2 := hV.c2
        have q3 := hV.f 2
        have HV := hide hV
        clear hV hr1 hr2 hSk
        go_wp2_with fail
        go_region_law (first
          | (refine step_lev (f := 10) (sc := sc) (s := s) (p' := pn) (L := ls[k]) (args := #[.pointer (some ⟨sc, 0, none⟩)]) rfl ?_ ?_ ?_
             · simp [go_sem]
             · exact HI.out
             intro k1 nm1 A3 n1 cap3 w5 hin5 hS5 hT5
             have hT6 : Touched wr sc w5 := ⟨hT5.os, hT5.tape, hT5.output, hT5.size, hT5.block⟩
             have hV5 : LVar w5 w1.heap.size ((3 : Nat) : Int) (.slice ao nn cc) := HV.out.of_block (hT6.block _ hvl (by simp; omega))
             have v2 := hV5.c2
             have v3 := hV5.f 2
             have hz5 := hT6.size
             have hlt5 : w1.heap.size < w5.heap.size := by omega
             have HV5 := hide hV5
             have HO5 := hide (HOw.out.kept (row := some sc) hT6 (.inr (fun e => by have := (HM.out.row.own.lt sc e).1; omega)))
             have HT5 := hide hT6
             have HS5 := hide hS5
             have HI5 := hide hin5
             clear hT5 hT6 hin5 hV5 hS5)
          | (refine step_append_own rfl (.tmp 15) (.tmp 18) 27 rfl (w1.heap.size + 1) 29 i0 _ 3 48 Tryd.underlying27 hi hz0 hz1 hz2 rfl (by decide) (.slice ao nn cc) xs.length (flat xs) ?_ (HO5.out.alloc _) ⟨w5.heap.size, 0, none⟩ 1 1 [.int .i64 k1, .string nm1, .slice A3 n1 cap3] ?_ rfl ?_ ?_ (by decide) (by unfold maxLen; omega) (by omega) ?_ ?_
             · rfl
             · rfl
             · exact three_new _ _ _ _ _
             · intro u hu; simp at hu; rcases hu with rfl | rfl | rfl <;> rfl
             · show w1.heap.size + 1 ≤ (w5.alloc _).heap.size; simp; omega
             intro v' w6 hown6 hgr6 hpl6
             obtain ⟨g, cap', rfl, hgb⟩ := shape_row hown6 (by omega)
             have hV6 : LVar w6 w1.heap.size ((3 : Nat) : Int) (.slice ao nn cc) := (HV5.out.alloc (.cells #[.int .i64 k1, .string nm1, .slice A3 n1 cap3] 29)).of_block (hgr6.block w1.heap.size (by simp; omega) (fun e => by have := (HM.out.row.own.lt _ e.symm).1; omega))
             have u2 := hV6.c2
             have u3 := hV6.f 2
             have HV6 := hide hV6
             have HO6 := hide hown6
             have HG6 := hide hgr6
             have HP6 := hide hpl6
             clear hown6 hgr6 hpl6 hV6))
        all_goals
          go_wp2_with fail
          go_roundg (ls.length - (k + 1))
          case measure => omega
          case rel =>
            have hrow := HM.out.row.next (c := w1.heap.size) (m := wr.heap.size) (by omega) (by omega) (by omega) (fun g e => (HM.out.row.own.lt g e).2) HT5.out.size (fun b hb hS => HT5.out.block b hb (by simp; omega)) (HI5.out.keep (S' := fun b => b < 0 ∨ wr.heap.size ≤ b) fun b _ hb => ⟨.inr hb, rfl⟩) HO6.out HG6.out HP6.out (.slice (some ⟨g, 0, none⟩) (xs.length + 1) cap')
            refine ⟨k + 1, .slice (some ⟨g, 0, none⟩) (xs.length + 1) cap', xs ++ [.agg #[.int .i64 k1, .string nm1, .slice A3 n1 cap3]], by omega, by go_num, ?_⟩
            refine ⟨HV6.out.set _, by rw [List.take_succ_eq_append_getElem hkl]; exact hrow, ⟨pn, HR2.out, hpn, ?_⟩, ?_⟩
            · refine HS5.out.of_block ?_
              rw [Below.heap_setCell _ _ _ _ (by show sc ≠ w1.heap.size; omega), HG6.out.block sc (by simp; have := HS5.out.lt; omega) (fun e => by have := (HM.out.row.own.lt _ e.symm).1; omega)]
              exact Below.heap_alloc _ _ _ HS5.out.lt
            · have z5 := HT5.out.size
              have z6 := HG6.out.size
              have zo := HM.out.old.size
              simp at z6 zo
              refine ⟨HG6.out.os.trans (HT5.out.os.trans HM.out.old.os), HG6.out.tape.trans (HT5.out.tape.trans HM.out.old.tape), HG6.out.output.trans (HT5.out.output.trans HM.out.old.output), by simp [World.setCell]; omega, fun b hb hne => ?_⟩
              have hb' : b < w.heap.size + 1 := by simpa using hb
              rw [Below.heap_setCell _ _ _ _ (by show b ≠ w1.heap.size; omega), HG6.out.block b (by simp; omega) (fun e => by have := (HM.out.row.own.lt _ e.symm).1; omega), Below.heap_alloc _ _ _ (by omega), HT5.out.block b (by omega) hne]
              exact HM.out.old.block b hb hne
      · have hke : k = ls.length := by omega
        subst hke
        obtain ⟨pk, hra, hpk, hSk⟩ := HM.out.scan
        rw [List.drop_length] at hra
        have hra' : pj = pk := hra
        subst hra'
        have htw := HTb.out.touched HM.out.old hsc
        have HOld := hide ((Touched.alloc w sc zlev).trans HM.out.old)
        rcases HEn.out with ⟨hm, hthrow⟩ | ⟨hm, hcl, rfl⟩
        · have hkn : decide ((ls.length : Int) < (n : Int)) = true := by simp; omega
          have HI : Hid (Calls Tryd.prog 10 #[.pointer (some ⟨sc, 0, none⟩)] wr.drew fun e w' => Threw wr.drew sc 1 a e w') := hthrow wr.drew hSk (HTb.out.touched HM.out.old.drew' hsc)
          have hV := HM.out.var
          have q2 := hV.c2
          have q3 := hV.f 2
          clear hV hSk htw hthrow
          go_wp2_with fail
          go_region_law (first
            | (refine step_throw (f := 10) (sc := sc) (a0 := a) (args := #[.pointer (some ⟨sc, 0, none⟩)]) rfl ?_ ?_ ?_ ?_
               · simp [go_sem]
               · exact HI.out
               · intro fb w5 h5
                 exact ⟨rfl, h5.from HOld.out.drew'⟩
               intro k1 nm1 A3 n1 cap3 w5 HF
               have v2 : w5.cell? ⟨w1.heap.size, 2, none⟩ = some (.slice ao nn cc) := HF.out.elim
               have v3 : w5.frozen? ⟨w1.heap.size, 2, none⟩ = false := HF.out.elim
               have hlt5 : w1.heap.size < w5.heap.size := HF.out.elim)
            | (refine step_append_own rfl (.tmp 15) (.tmp 18) 27 rfl (w1.heap.size + 1) 29 i0 _ 3 48 Tryd.underlying27 hi hz0 hz1 hz2 rfl (by decide) (.slice ao nn cc) xs.length (flat xs) ?_ HF.out.elim ⟨w5.heap.size, 0, none⟩ 1 1 [.int .i64 k1, .string nm1, .slice A3 n1 cap3] ?_ rfl HF.out.elim HF.out.elim (by decide) HF.out.elim HF.out.elim HF.out.elim ?_
               · rfl
               · rfl
               intro v' w6 _ _ _
               obtain ⟨g, cap', rfl⟩ : ∃ (g cap' : Nat), v' = .slice (some ⟨g, 0, none⟩) (xs.length + 1) cap' := HF.out.elim
               have u2 : w6.cell? ⟨w1.heap.size, 2, none⟩ = some (.slice ao nn cc) := HF.out.elim
               have u3 : w6.frozen? ⟨w1.heap.size, 2, none⟩ = false := HF.out.elim))
          all_goals exact HF.out.elim
        · have hkn : decide ((ls.length : Int) < (n : Int)) = false := by simp; omega
          have hx := next_all (s := s) (p := pj) hs hpj
          have hkd : (ntok s pj).1 ≠ 2 := by
            by_cases he : runTo blankB s pj = s.size
            · rw [ntok_end he]; simp
            · rw [ntok_in he]
              exact scan_close (by have := runTo_le blankB s hpj; omega) hcl
          have K9 := hide (expect_bad sc s pj _ _ _ _ [2] (.slice (some ⟨wr.heap.size, 0, none⟩) 1 1) _ hx (hSk.alloc (.cells #[.int .i64 2] 54)) (htw.below ((Below.refl _ _).alloc (Nat.le_refl _) _) htw.lt) hsc (kinds1 2) (fun b n cap e => by injection e with e; injection e with e; injection e with e; have := hSk.lt; omega) (by simp) (by simpa using hkd))
          clear hx hkd hcl htw hSk
          go_wp2_with (go_at_call 17; refine K9.out.mono ?_)
          intro e w7 h7
          have H7 := hide (h7.from (HOld.out.trans (Touched.alloc wr sc (.cells #[.int .i64 2] 54))))
          obtain ⟨fb, rfl, -⟩ := h7
          go_wp2_with fail
          exact ⟨rfl, H7.out⟩

set_option maxRecDepth 100000 in
set_option maxHeartbeats 4000000 in
theorem brack_throw (sc a : Nat) (w : World) (K : Calls Tryd.prog 30 #[.pointer (some ⟨sc, 0, none⟩), .func (.func 31) #[] #[]] (w.alloc zlev) fun e w' => Threw (w.alloc zlev) sc 1 a e w') :
    Calls Tryd.prog 18 #[.pointer (some ⟨sc, 0, none⟩)] w fun e w' => Threw w sc 1 a e w' := by
  have K1 := hide K
  clear K
  go_enter Tryd.func18, Tryd.ntmps18
  go_wp2_with (go_at_call 30; refine K1.out.mono ?_)
  intro e w3 h3
  have H3 := hide (h3.from (Touched.alloc w sc zlev))
  obtain ⟨fb, rfl, -⟩ := h3
  go_wp2_with fail
  exact ⟨rfl, H3.out⟩

theorem brack_word (s : ByteArray) (hs : s.size ≤ 20000) (sc p1 : Nat) (hsc : 5 < sc) (hp1 : p1 ≤ s.size) (h1 : (tok s p1).t ≠ ⟨#[115]⟩) (h2 : (tok s p1).t ≠ ⟨#[109, 97, 120]⟩) (h3 : (tok s p1).t ≠ ⟨#[105, 109, 97, 120]⟩) (w : World) (h : ScAt w sc s p1) (ht : Tabs w) :
    Calls Tryd.prog 18 #[.pointer (some ⟨sc, 0, none⟩)] w fun e w' => Threw w sc 1 (runTo blankB s p1) e w' := by
  have ht0 := ht.below ((Below.refl _ _).alloc (Nat.le_refl _) zlev) ht.lt
  have hx := next_all (s := s) (p := p1) hs hp1
  refine brack_throw sc _ w ?_
  by_cases h3' : (ntok s p1).1 = 3
  · have he : runTo blankB s p1 ≠ s.size := fun he => by rw [ntok_end he] at h3'; simp at h3'
    have hk : runTo blankB s p1 < s.size := by have := runTo_le blankB s hp1; omega
    have h3n := h3'
    rw [ntok_in he] at h3n
    have hw := scan_word (good := good) hk h3n
    have hnt : ntext s p1 = (tok s p1).t := by unfold ntext; rw [if_neg he, ntok_in he]; exact hw.symm
    rw [hnt, h3'] at hx
    refine word_other sc s p1 _ _ _ _ hx (h.alloc zlev) ht0 hsc ?_ h1 h2 h3
    rw [hw]
    intro e
    have e2 := congrArg ByteArray.size e
    obtain ⟨x1, x2, _, _⟩ := scanAt_end (good := good) hk
    rw [ByteArray.size_extract] at e2
    have e0 : (⟨#[]⟩ : ByteArray).size = 0 := rfl
    rw [e0] at e2
    omega
  · exact word_none sc s p1 _ _ _ _ _ hx (h.alloc zlev) ht0 hsc h3'

/-- Level, where none stands: it throws, at the first token that can't stand there. -/
theorem slevel_fails (s : ByteArray) (hs : s.size ≤ 20000) (sc : Nat) (hsc : 5 < sc) {p a : Nat} (hf : Fails s p a) : ∀ (w : World), p ≤ s.size → ScAt w sc s p → Tabs w →
    Calls Tryd.prog 10 #[.pointer (some ⟨sc, 0, none⟩)] w fun e w' => Threw w sc 1 a e w' := by
  induction hf with
  | none h0 hn ho => intro w hp hS hT; exact lev_none sc s _ w hs hp hS hT hsc h0 hn ho
  | word h1 w1 w2 w3 => intro w hp hS hT; exact lev_open_bad sc s _ _ _ w hs hp h1 hS hT hsc fun W hS' hT' => brack_word s hs sc _ hsc h1.le w1 w2 w3 W hS' hT'
  | part h1 h2 h3 h4 h5 _ ih =>
    intro w hp hS hT
    have hpj := h4.le h2.le
    exact lev_open_bad sc s _ _ _ w hs hp h1 hS hT hsc fun W hS' hT' => brack_parts s hs _ _ h3 sc _ _ _ _ hsc h1.le h2 _ h4 hpj (Nat.le_of_lt h5) (.inl ⟨h5, fun W' hS2 hT2 => ih W' hpj hS2 hT2⟩) W hS' hT'
  | close h1 h2 h3 h4 h5 h6 =>
    intro w hp hS hT
    have hpj := h4.le h2.le
    exact lev_open_bad sc s _ _ _ w hs hp h1 hS hT hsc fun W hS' hT' => brack_parts s hs _ _ h3 sc _ _ _ _ hsc h1.le h2 _ h4 hpj (Nat.le_of_eq h5) (.inr ⟨h5, h6, rfl⟩) W hS' hT'

end Go.Proofs.YtmpepnckfghepaaDoor
