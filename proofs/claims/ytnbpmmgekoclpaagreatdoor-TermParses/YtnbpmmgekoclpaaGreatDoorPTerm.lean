/- The contracts of the scanner's termInBrackets and Term: where a term stands, it is read; where none does, what is thrown. -/
import Derived.Test.YtnbpmmgekoclpaaGreatDoorPBrack
namespace Go.Proofs.YtnbpmmgekoclpaaGreatDoor
open Go.RowKit

abbrev kinds2 : Obj := .cells #[.int .i64 1, .int .i64 5] 56

theorem kinds2_in (w : World) : InKinds ((w.alloc ztm).alloc kinds2) (.slice (some ⟨w.heap.size + 1, 0, none⟩) 2 2) [1, 5] := by
  refine ⟨by simp, w.heap.size + 1, 2, rfl, fun i hi => ?_⟩
  match i, hi with
  | 0, _ => simp [World.cell?_alloc_at]
  | 1, _ => simp [World.cell?_alloc_at]

/-- Term's first call. -/
theorem term_expect (sc : Nat) (s : ByteArray) (p kd k p' : Nat) (t : ByteArray) (w : World) (hn : Nexts s p kd k p' t) (h : ScAt w sc s p) (ht : Tabs w) (hsc : 6 < sc) (hk : kd = 1 ∨ kd = 5) :
    Calls Tryz.prog 16 #[.pointer (some ⟨sc, 0, none⟩), .slice (some ⟨w.heap.size + 1, 0, none⟩) 2 2] ((w.alloc ztm).alloc kinds2) fun e w' => e = .returned (.agg #[.int .i64 (kd : Nat), .int .i64 (k : Nat), .string t]) ∧ ScAt w' sc s p' ∧ Touched (w.alloc ztm) sc w' := by
  have hlt := h.lt
  have hb : Below w.heap.size w ((w.alloc ztm).alloc kinds2) := ((Below.refl _ _).alloc (Nat.le_refl _) _).alloc (by simp) _
  refine (expect_calls sc s p kd k p' t [1, 5] _ _ hn ((h.alloc _).alloc _) (ht.below hb ht.lt) hsc (kinds2_in w) (fun b n cap e => by injection e with e; injection e with e; injection e with e; omega) (by simp; exact hk)).mono ?_
  rintro e w' ⟨he, hS, hT⟩
  exact ⟨he, hS, (Touched.alloc _ _ _).trans hT⟩

theorem term_expect_bad (sc : Nat) (s : ByteArray) (p kd k p' : Nat) (t : ByteArray) (w : World) (hn : Nexts s p kd k p' t) (h : ScAt w sc s p) (ht : Tabs w) (hsc : 6 < sc) (h1 : kd ≠ 1) (h5 : kd ≠ 5) :
    Calls Tryz.prog 16 #[.pointer (some ⟨sc, 0, none⟩), .slice (some ⟨w.heap.size + 1, 0, none⟩) 2 2] ((w.alloc ztm).alloc kinds2) fun e w' => Threw w sc 1 k e w' := by
  have hlt := h.lt
  have hb : Below w.heap.size w ((w.alloc ztm).alloc kinds2) := ((Below.refl _ _).alloc (Nat.le_refl _) _).alloc (by simp) _
  exact (expect_bad sc s p kd k p' t [1, 5] _ _ hn ((h.alloc _).alloc _) (ht.below hb ht.lt) hsc (kinds2_in w) (fun b n cap e => by injection e with e; injection e with e; injection e with e; omega) (by simp) (by simp; exact ⟨h1, h5⟩)).mono fun e w' h => h.from ((Touched.alloc _ _ _).trans (Touched.alloc _ _ _))

set_option maxRecDepth 100000 in
set_option maxHeartbeats 4000000 in
/-- Term, where none begins. -/
theorem sterm_none (sc : Nat) (s : ByteArray) (p : Nat) (w : World) (hs : s.size ≤ 20000) (hp : p ≤ s.size) (hn : NoTm s p) (h : ScAt w sc s p) (ht : Tabs w) (hsc : 6 < sc) :
    Calls Tryz.prog 10 #[.pointer (some ⟨sc, 0, none⟩)] w fun e w' => Threw w sc 1 (runTo blankB s p) e w' := by
  have hk := noterm_kind hp hn
  have K1 := hide (term_expect_bad sc s p _ _ _ _ w (next_all hs hp) h ht hsc hk.1 hk.2)
  clear h ht hn hk
  go_enter Tryz.func10, Tryz.ntmps10
  go_wp2_with (go_at_call 16; refine K1.out.mono ?_)
  intro e w1 h1
  have H1 := hide h1
  obtain ⟨fb, rfl, -⟩ := h1
  go_wp2_with fail
  exact ⟨rfl, H1.out⟩

set_option maxRecDepth 100000 in
set_option maxHeartbeats 4000000 in
/-- Term, where a bracket opens. -/
theorem sterm_open (sc : Nat) (s : ByteArray) (d : Nat) (t0 : Tm) (p p1 p' : Nat) (fin : Option Nat) (w : World) (hs : s.size ≤ 20000) (hp : p ≤ s.size) (hr : SignAt s 40 p p1) (h : ScAt w sc s p) (ht : Tabs2 w) (hsc : 6 < sc)
    (hin : ∀ W, ScAt W sc s p1 → Tabs2 W → Calls Tryz.prog 17 #[.pointer (some ⟨sc, 0, none⟩)] W fun e w' => BrkEnd W sc s d t0 p' fin e w') :
    Calls Tryz.prog 10 #[.pointer (some ⟨sc, 0, none⟩)] w fun e w' => BrkEnd w sc s d t0 p' fin e w' := by
  have hlt := h.lt
  have K1 := hide (term_expect sc s p 1 _ p1 _ w (hr.nexts hs hp 1 (.inl ⟨rfl, rfl⟩)) h ht.a hsc (.inl rfl))
  have K2 := hide hin
  have HTb := hide ht
  clear h ht hr hin
  generalize s.extract (runTo blankB s p) p1 = t at *
  generalize runTo blankB s p = k at *
  go_enter Tryz.func10, Tryz.ntmps10
  go_wp2_with (go_at_call 16; refine K1.out.mono ?_)
  rintro e w1 ⟨rfl, hS1, hT1⟩
  have hT2 := ((Touched.alloc w sc ztm).trans hT1).trans (Touched.alloc _ sc (.cells #[.int .i64 (1 : Nat), .int .i64 (k : Nat), .string t] 58))
  have hT3 := hT1.trans (Touched.alloc _ sc (.cells #[.int .i64 (1 : Nat), .int .i64 (k : Nat), .string t] 58))
  have K3 := hide (K2.out _ (hS1.alloc (.cells #[.int .i64 (1 : Nat), .int .i64 (k : Nat), .string t] 58)) (HTb.out.touched hT2 hsc))
  have hz := hT1.size
  simp at hz
  have HT2 := hide hT2
  have HT3 := hide hT3
  clear hS1 hT1 hT2 hT3
  go_wp2_with (go_at_call 17; refine K3.out.mono ?_)
  intro e w2 h2
  cases fin with
  | none =>
    obtain ⟨k2, n2, nm, A, la, lc, A', ta, tc, rfl, hp2, hS2, hTT⟩ := h2.1 rfl
    obtain ⟨d0, d1, d2, d3, d4, d5, d6⟩ := tzcells hlt (HT3.out.trans hTT)
    have HFi := hide (sterm_stored hlt hS2 (HT2.out.trans hTT) (hp2.keep fun b _ hb => ⟨by simp at hb; omega, rfl⟩))
    clear hp2 hS2 hTT h2
    go_wp2_with fail
    refine bodyPost_ret (v := .agg #[.int .i64 k2, .int .i64 n2, .string nm, .slice A la lc, .slice A' ta tc]) (by simp [results, Tryz.results10, go_sem, d0, d1, d2, d3, d4]) rfl ?_
    exact BrkEnd.good HFi.out
  | some a =>
    have h3 := h2.2 a rfl
    have H3 := hide (h3.from HT2.out)
    obtain ⟨fb, rfl, -⟩ := h3
    clear h2
    go_wp2_with fail
    exact ⟨rfl, BrkEnd.bad H3.out⟩

set_option maxRecDepth 100000 in
set_option maxHeartbeats 4000000 in
/-- Term, where an index stands. -/
theorem sterm_index (sc : Nat) (s : ByteArray) (n p p' : Nat) (w : World) (hs : s.size ≤ 20000) (hp : p ≤ s.size) (hi : IdxAt s n p p') (h : ScAt w sc s p) (ht : Tabs w) (hsc : 6 < sc) :
    Calls Tryz.prog 10 #[.pointer (some ⟨sc, 0, none⟩)] w fun e w' => TermOf w sc s 1 (.node 0 n ⟨#[]⟩ [] []) p' e w' := by
  have hlt := h.lt
  have K1 := hide (term_expect sc s p 5 _ p' _ w (hi.nexts hs hp) h ht hsc (.inr rfl))
  have hle := hi.le
  obtain ⟨hk, hc, he, hg, hn⟩ := hi
  have hge := digitEnd_ge s (runTo blankB s p)
  rw [← he] at hge
  have hgd := (good_iff hk he).2 ((good_iff hk he).1.2 hg)
  have hsz : (s.extract (runTo blankB s p) p').size = p' - runTo blankB s p := by rw [ByteArray.size_extract]; omega
  have hx : (s.extract (runTo blankB s p) p').extract 1 (s.extract (runTo blankB s p) p').size = s.extract (runTo blankB s p + 1) p' := by
    rw [hsz]
    rw [ByteArray.ext_iff]
    apply Array.ext'
    apply List.ext_getElem
    · simp; omega
    · intro i h1 h2
      simp
  have hdg : Digs (s.extract (runTo blankB s p + 1) p') := run_digs (by omega) he.symm
  have KN := hide (fun W (hW : Tabs W) => number_calls (s.extract (runTo blankB s p + 1) p') 99999 W (by rw [ByteArray.size_extract]; omega) hdg hW)
  rw [hgd, ← hn, ← hx] at KN
  have hts : 1 ≤ (s.extract (runTo blankB s p) p').size := by rw [hsz]; omega
  have htm : (s.extract (runTo blankB s p) p').size ≤ 20000 := by rw [hsz]; omega
  have HTb := hide ht
  clear h ht hk hc he hg hn hge hgd hsz hx hdg
  generalize s.extract (runTo blankB s p) p' = t at *
  generalize runTo blankB s p = k at *
  go_enter Tryz.func10, Tryz.ntmps10
  go_wp2_with (go_at_call 16; refine K1.out.mono ?_)
  rintro e w1 ⟨rfl, hS1, hT1⟩
  have hT2 := ((Touched.alloc w sc ztm).trans hT1).trans (Touched.alloc _ sc (.cells #[.int .i64 (5 : Nat), .int .i64 (k : Nat), .string t] 58))
  have hT3 := hT1.trans (Touched.alloc _ sc (.cells #[.int .i64 (5 : Nat), .int .i64 (k : Nat), .string t] 58))
  have K3 := hide (KN.out _ (HTb.out.touched hT2 hsc))
  have HS2 := hide (hS1.alloc (.cells #[.int .i64 (5 : Nat), .int .i64 (k : Nat), .string t] 58))
  have HT2 := hide hT2
  have HT3 := hide hT3
  clear hS1 hT1 hT2 hT3
  go_wp2_with (go_at_call 18; refine K3.out.mono ?_)
  rintro e w2 ⟨rfl, hb2⟩
  have hTT := HT3.out.trans (Touched.of_below (m := sc) hb2)
  obtain ⟨d0, d1, d2, d3, d4, d5, d6⟩ := tzcells hlt hTT
  have HFi := hide (sterm_stored (d := 1) (t := .node 0 n ⟨#[]⟩ [] []) (k := 0) (n := (n : Nat)) (nm := ⟨#[]⟩) (A := none) (la := 0) (lc := 0) (A' := none) (ta := 0) (tc := 0) hlt (HS2.out.below hb2) (HT2.out.trans (Touched.of_below (m := sc) hb2)) ⟨none, 0, none, 0, rfl, fun i hi => absurd hi (by simp [Tm.ls]), fun i hi => absurd hi (by simp [Tm.ts])⟩)
  clear hb2 hTT
  go_wp2_with fail
  refine bodyPost_ret (v := .agg #[.int .i64 0, .int .i64 (n : Nat), .string ⟨#[]⟩, .slice none 0 0, .slice none 0 0]) (by simp [results, Tryz.results10, go_sem, d0, d1, d2, d3, d4]) rfl ?_
  exact HFi.out

set_option maxRecDepth 100000 in
set_option maxHeartbeats 4000000 in
/-- termInBrackets, where Word throws. -/
theorem tbrack_throw (sc a : Nat) (w : World) (K : Calls Tryz.prog 33 #[.pointer (some ⟨sc, 0, none⟩), .func (.func 34) #[] #[]] (w.alloc ztm) fun e w' => Threw (w.alloc ztm) sc 1 a e w') :
    Calls Tryz.prog 17 #[.pointer (some ⟨sc, 0, none⟩)] w fun e w' => Threw w sc 1 a e w' := by
  have K1 := hide K
  clear K
  go_enter Tryz.func17, Tryz.ntmps17
  go_wp2_with (go_at_call 33; refine K1.out.mono ?_)
  intro e w3 h3
  have H3 := hide (h3.from (Touched.alloc w sc ztm))
  obtain ⟨fb, rfl, -⟩ := h3
  go_wp2_with fail
  exact ⟨rfl, H3.out⟩

theorem tbrack_word (s : ByteArray) (hs : s.size ≤ 20000) (sc p1 : Nat) (hsc : 6 < sc) (hp1 : p1 ≤ s.size) (hno : NoTW s p1) (w : World) (h : ScAt w sc s p1) (ht : Tabs2 w) :
    Calls Tryz.prog 17 #[.pointer (some ⟨sc, 0, none⟩)] w fun e w' => Threw w sc 1 (runTo blankB s p1) e w' := by
  have ht0 := ht.below ((Below.refl _ _).alloc (Nat.le_refl _) ztm) ht.lt
  have hx := next_all (s := s) (p := p1) hs hp1
  refine tbrack_throw sc _ w ?_
  by_cases h3' : (ntok s p1).1 = 3
  · have he : runTo blankB s p1 ≠ s.size := fun he => by rw [ntok_end he] at h3'; simp at h3'
    have hk : runTo blankB s p1 < s.size := by have := runTo_le blankB s hp1; omega
    have h3n := h3'
    rw [ntok_in he] at h3n
    have hw := scan_word (good := good) hk h3n
    have hnt : ntext s p1 = (tok s p1).t := by unfold ntext; rw [if_neg he, ntok_in he]; exact hw.symm
    rw [hnt, h3'] at hx
    refine tword_other sc s p1 _ _ _ _ hx (h.alloc ztm) ht0 hsc ?_ hno
    rw [hw]
    intro e
    have e2 := congrArg ByteArray.size e
    obtain ⟨x1, x2, _, _⟩ := scanAt_end (good := good) hk
    rw [ByteArray.size_extract] at e2
    have e0 : (⟨#[]⟩ : ByteArray).size = 0 := rfl
    rw [e0] at e2
    omega
  · exact tword_none sc s p1 _ _ _ _ _ hx (h.alloc ztm) ht0 hsc h3'

/-- Term: where a term stands, it is read; where none does, the fault is thrown. -/
theorem sterm_both (s : ByteArray) (hs : s.size ≤ 20000) (sc : Nat) (hsc : 6 < sc) : ∀ (d : Nat),
    (∀ (t : Tm) (p p' : Nat) (W : World), RT s d t p p' → p ≤ s.size → ScAt W sc s p → Tabs2 W → Calls Tryz.prog 10 #[.pointer (some ⟨sc, 0, none⟩)] W fun e w' => TermOf W sc s d t p' e w') ∧
    (∀ (p a : Nat) (W : World), FT s d p a → p ≤ s.size → ScAt W sc s p → Tabs2 W → Calls Tryz.prog 10 #[.pointer (some ⟨sc, 0, none⟩)] W fun e w' => Threw W sc 1 a e w')
  | 0 => ⟨fun _ _ _ _ h => absurd h (by simp [RT]), fun _ _ _ h => absurd h (by simp [FT])⟩
  | d + 1 => by
    obtain ⟨ihg, ihb⟩ := sterm_both s hs sc hsc d
    refine ⟨fun t p p' W h hp hS hT => ?_, fun p a W h hp hS hT => ?_⟩
    · rcases h with ⟨h1, h2, h3, h4, h5⟩ | ⟨p1, p2, p3, p4, p5, q, h1, h2, h3, h4, h5, h6, h7, h8, h9⟩
      · have e : t = .node 0 t.n ⟨#[]⟩ [] [] := Tm.ext h1 rfl h2 h3 h4
        rw [e]
        exact (sterm_index sc s t.n p p' W hs hp h5 hS hT.a hsc).mono fun e w' ⟨k, n, nm, A, la, lc, A', ta, tc, he, hin, h1, h2⟩ => ⟨k, n, nm, A, la, lc, A', ta, tc, he, hin.deeper (by omega), h1, h2⟩
      · have e : t = .node t.kd 0 t.nm t.ls t.ts := Tm.ext rfl h4 rfl rfl rfl
        exact (sterm_open sc s (d + 1) t p p1 p' none W hs hp h1 hS hT hsc fun W' hS' hT' => tbrack_walk s hs sc p1 p2 t.kd d hsc h1.le q h2 h3 ihg ihb none t p' (.inr ⟨t.nm, p3, h5, .inr ⟨t.ls, p4, h6, t.ts, p5, h7, .inr (.inr ⟨h8, h9, rfl, e⟩)⟩⟩) W' hS' hT').mono fun e w' h => h.1 rfl
    · rcases h with ⟨hn, rfl⟩ | ⟨p1, h1, ⟨hno, rfl⟩ | ⟨q, kd, p2, h2, h3, hrest⟩⟩
      · exact sterm_none sc s p W hs hp hn hS hT.a hsc
      · exact (sterm_open sc s (d + 1) (.node 0 0 ⟨#[]⟩ [] []) p p1 0 (some _) W hs hp h1 hS hT hsc fun W' hS' hT' => (tbrack_word s hs sc p1 hsc h1.le hno W' hS' hT').mono fun e w' h => BrkEnd.bad h).mono fun e w' h => h.2 _ rfl
      · refine (sterm_open sc s (d + 1) (.node 0 0 ⟨#[]⟩ [] []) p p1 0 (some a) W hs hp h1 hS hT hsc fun W' hS' hT' => tbrack_walk s hs sc p1 p2 kd d hsc h1.le q h2 h3 ihg ihb (some a) (.node 0 0 ⟨#[]⟩ [] []) 0 ?_ W' hS' hT').mono fun e w' h => h.2 _ rfl
        rcases hrest with ⟨e, hnm, rfl⟩ | ⟨nm, p3, hN, ⟨ls, p4, hO, hFl⟩ | ⟨ls, p4, hL, ts, p5, hSq, ⟨hlt, hft⟩ | ⟨hlen, htk, rfl⟩⟩⟩
        · exact .inl ⟨e, hnm, rfl⟩
        · exact .inr ⟨nm, p3, hN, .inl ⟨a, ls, p4, rfl, hO, hFl⟩⟩
        · exact .inr ⟨nm, p3, hN, .inr ⟨ls, p4, hL, ts, p5, hSq, .inl ⟨a, rfl, hlt, hft⟩⟩⟩
        · exact .inr ⟨nm, p3, hN, .inr ⟨ls, p4, hL, ts, p5, hSq, .inr (.inl ⟨hlen, htk, rfl⟩)⟩⟩

end Go.Proofs.YtnbpmmgekoclpaaGreatDoor
