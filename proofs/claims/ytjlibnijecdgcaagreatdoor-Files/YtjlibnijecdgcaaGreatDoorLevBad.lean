/- What the scanner throws; the contract of misplaced. -/
import Derived.Test.YtjlibnijecdgcaaGreatDoorDcl
import Derived.Test.YtjlibnijecdgcaaGreatDoorTNum
import Derived.Test.YtjlibnijecdgcaaGreatDoorLev

namespace Go.Proofs.YtjlibnijecdgcaaGreatDoor
open Go.RowKit

/-- A fault was thrown: that code, that place; of what was there the scanner alone has turned. -/
def Threw (w : World) (sc code a : Nat) (e : Ending) (w' : World) : Prop :=
  ∃ fb : Nat, e = .panicked [{ v := .iface 84 (.pointer (some ⟨fb, 0, none⟩)), recovered := false }] ∧ w.heap.size ≤ fb ∧ w'.heap[fb]? = some (.cells #[.int .i64 (code : Nat), .int .i64 (a : Nat)] 33 (0, 0)) ∧ Touched w sc w'

theorem Threw.from {w w0 w' : World} {sc code a : Nat} {e : Ending} (h : Threw w sc code a e w') (ht : Touched w0 sc w) : Threw w0 sc code a e w' := by
  obtain ⟨fb, he, h1, h2, h3⟩ := h
  exact ⟨fb, he, Nat.le_trans ht.size h1, h2, ht.trans h3⟩

set_option maxHeartbeats 1000000 in
theorem throwAt_calls (code a sc : Nat) (w : World) : Calls Tryz.prog 43 #[.int .i64 (code : Nat), .int .i64 (a : Nat)] w fun e w' => Threw w sc code a e w' := by
  go_enter Tryz.func43, Tryz.ntmps43
  go_wp2_with fail
  exact ⟨rfl, w.heap.size, rfl, Nat.le_refl _, heap_alloc_new _ _, Touched.alloc _ _ _⟩

set_option maxHeartbeats 1000000 in
theorem throw_calls (code sc : Nat) (w : World) : Calls Tryz.prog 29 #[.int .i64 (code : Nat)] w fun e w' => Threw w sc code 0 e w' := by
  have K := hide (throwAt_calls code 0 sc w)
  go_enter Tryz.func29, Tryz.ntmps29
  go_wp2_with (go_at_call 43; refine K.out.mono ?_)
  intro e w1 h1
  obtain ⟨fb, rfl, h2⟩ := h1
  have H2 := hide h2
  clear h2
  go_wp2_with fail
  exact ⟨rfl, fb, rfl, H2.out⟩

set_option maxHeartbeats 1000000 in
theorem misplaced_calls (kd : Int) (k : Nat) (t : ByteArray) (sc : Nat) (w : World) :
    Calls Tryz.prog 46 #[.agg #[.int .i64 kd, .int .i64 (k : Nat), .string t]] w fun e w' => Threw w sc 1 k e w' := by
  have K := hide (throwAt_calls 1 k sc (w.alloc (.cells #[.int .i64 kd, .int .i64 (k : Nat), .string t] 73)))
  go_enter Tryz.func46, Tryz.ntmps46
  go_wp2_with (go_at_call 43; refine K.out.mono ?_)
  intro e w1 h1
  have h2 := h1.from (Touched.alloc w sc (.cells #[.int .i64 kd, .int .i64 (k : Nat), .string t] 73))
  obtain ⟨fb, rfl, h3⟩ := h2
  have H2 := hide h3
  clear h1 h3
  go_wp2_with fail
  exact ⟨rfl, fb, rfl, H2.out⟩

end Go.Proofs.YtjlibnijecdgcaaGreatDoor

/- The contracts of the scanner's Next and Expect, whatever stands there; what is thrown where a token can't stand. -/
namespace Go.Proofs.YtjlibnijecdgcaaGreatDoor
open Go.RowKit

set_option maxRecDepth 100000 in
set_option maxHeartbeats 4000000 in
theorem next_scan (sc : Nat) (s : ByteArray) (p kd p' : Nat) (w : World) (h : ScAt w sc s p) (hs : s.size ≤ 200000) (hp : p ≤ s.size) (ht : Tabs w) (hsc : 11 < sc) (hk : runTo blankB s p < s.size) (hT : scanAt good s (runTo blankB s p) = (kd, p')) (hp' : runTo blankB s p ≤ p') (hp2 : p' ≤ s.size) :
    Calls Tryz.prog 44 #[.pointer (some ⟨sc, 0, none⟩)] w fun e w' => e = .returned (.agg #[.int .i64 (kd : Nat), .int .i64 (runTo blankB s p : Nat), .string (s.extract (runTo blankB s p) p')]) ∧ ScAt w' sc s p' ∧ Touched w sc w' := by
  have hlt := h.lt
  have K1 := hide (skip_calls 73 blankB blank_tests sc s p _ (h.alloc ztok) hs hp (ht.below ((Below.refl _ _).alloc (Nat.le_refl _) _) ht.lt) hsc)
  have HT := hide ht
  have HTk : Hid (∀ W, ScAt W sc s (runTo blankB s p) → Tabs W → Calls Tryz.prog 74 #[.pointer (some ⟨sc, 0, none⟩)] W fun e w' => TakeOf W sc s kd p' e w') := fun W h1 h2 => by
    have := stake_all sc s _ W h1 hs hk h2 hsc
    rw [hT] at this
    exact this
  clear h ht hT
  generalize runTo blankB s p = k at *
  go_enter Tryz.func44, Tryz.ntmps44
  go_wp2_with (go_at_call 72; refine K1.out.mono ?_)
  rintro e w1 ⟨rfl, hS1, hT1⟩
  have c0 := hS1.c0
  have c1 := hS1.c1
  have l1 := hS1.lt
  have e1 : ((k : Int) == (s.size : Int)) = false := by simp; omega
  have HS1 := hide hS1
  have HT1 := hide hT1
  clear hS1 hT1
  go_wp2_with fail
  go_quiet (fail)
  have K2 := hide (HTk.out (w1.drewN nq) (HS1.out.below (below_drewN (Below.refl _ _) nq)) (((HT.out.below ((Below.refl _ _).alloc (Nat.le_refl _) ztok) HT.out.lt).touched HT1.out hsc).below (below_drewN (Below.refl _ _) nq) (by omega)))
  go_wp2_with (go_at_call 74; refine K2.out.mono ?_)
  rintro e w2 ⟨rfl, hS2, hT2⟩
  have c2 := hS2.c0
  have c3 := hS2.c1
  have l2 := hS2.lt
  have hTt := (HT1.out.later (below_drewN (Below.refl _ _) nq)).trans hT2
  obtain ⟨d0, d1, d2, d3, d4⟩ := tcells hlt hTt
  have HS2 := hide hS2
  have HT2 := hide hTt
  clear hS2 hT2 hTt c0 c1 l1
  go_wp2_with fail
  have hn1 : ¬ w.heap.size = sc := by omega
  have hn2 : ¬ sc = w.heap.size := by omega
  go_region_held3 (fun w' => w'.cell? ⟨sc, 0, none⟩ = some (.string s) ∧ w'.cell? ⟨sc, 1, none⟩ = some (.int .i64 (p' : Nat))) (go_keep) (fail)
  all_goals
    go_wp2_with fail
    refine bodyPost_ret (v := .agg #[.int .i64 (kd : Nat), .int .i64 (k : Nat), .string (s.extract k p')]) (by simp [results, Tryz.results44, go_sem, d0, d1, d2]) rfl ?_
    have hf := filled3 (Nat.le_refl w.heap.size) hn1 HS2.out ((Touched.alloc w sc ztok).trans HT2.out) (.int .i64 (kd : Nat)) (.int .i64 (k : Nat)) (.string (s.extract k p'))
    exact ⟨rfl, hf.1.of_block rfl, hf.2.drew'⟩


/-- The text of the scanner's next token. -/
def ntext (s : ByteArray) (p : Nat) : ByteArray := if runTo blankB s p = s.size then ⟨#[]⟩ else s.extract (ntok s p).2.1 (ntok s p).2.2

theorem ntok_in {s : ByteArray} {p : Nat} (h : runTo blankB s p ≠ s.size) : ntok s p = ((scanAt good s (runTo blankB s p)).1, runTo blankB s p, (scanAt good s (runTo blankB s p)).2) := by unfold ntok; rw [if_neg h]
theorem ntok_end {s : ByteArray} {p : Nat} (h : runTo blankB s p = s.size) : ntok s p = (0, s.size, s.size) := by unfold ntok; rw [if_pos h]

theorem ntok_le {s : ByteArray} {p : Nat} (hp : p ≤ s.size) : (ntok s p).2.2 ≤ s.size := by
  by_cases h : runTo blankB s p = s.size
  · rw [ntok_end h]; exact Nat.le_refl _
  · rw [ntok_in h]; exact (scanAt_end (by have := runTo_le blankB s hp; omega)).2.1

/-- Next, whatever stands there. -/
theorem next_all {s : ByteArray} {p : Nat} (hs : s.size ≤ 200000) (hp : p ≤ s.size) : Nexts s p (ntok s p).1 (runTo blankB s p) (ntok s p).2.2 (ntext s p) := by
  intro sc w hS hT hsc
  have hle := runTo_le blankB s hp
  by_cases h : runTo blankB s p = s.size
  · have := next_end sc s p w hS hs hp hT hsc h
    rw [ntok_end h, h]
    unfold ntext
    rw [if_pos h]
    exact this
  · have hk : runTo blankB s p < s.size := by omega
    obtain ⟨h1, h2, _, _⟩ := scanAt_end (good := good) hk
    have := next_scan sc s p _ _ w hS hs hp hT hsc hk rfl (Nat.le_of_lt h1) h2
    unfold ntext
    rw [if_neg h, ntok_in h]
    exact this

set_option maxHeartbeats 400000 in
theorem kindIndex_none (k : Nat) (ks : List Nat) (v : Value) (w : World) (hs : InKinds w v ks) (hk : k ∉ ks) :
    Calls Tryz.prog 75 #[v, .int .i64 (k : Nat)] w fun e w' => e = .returned (.int .i64 (-1)) ∧ w' = w := by
  obtain ⟨hm, b, cap, rfl, hc⟩ := hs
  have HC := hide hc
  have HK := hide hk
  clear hc hk
  go_enter Tryz.func75, Tryz.ntmps75
  go_wp2_with fail
  go_loop [8] (fun i => ∃ j : Nat, j ≤ ks.length ∧ i = .int .i64 j) (fun i => ks.length - (intOf i).toNat)
  case atStart => exact ⟨0, Nat.zero_le _, rfl⟩
  case round =>
    obtain ⟨j, hj, rfl⟩ := hrel
    by_cases hlt : j < ks.length
    · have hcell := HC.out j hlt
      have hne : ks[j] ≠ k := fun e => HK.out (e ▸ List.getElem_mem hlt)
      have e1 : ((k : Int) == ((ks[j] : Nat) : Int)) = false := by simp; omega
      clear hne
      go_wp2
      go_round
      case rel => exact ⟨j + 1, by omega, by go_num⟩
      case measure => simp [intOf]; omega
    · go_wp2
      go_ret
      exact ⟨rfl, rfl⟩

set_option maxHeartbeats 400000 in
theorem contains_none (k : Nat) (ks : List Nat) (v : Value) (w : World) (hs : InKinds w v ks) (hk : k ∉ ks) :
    Calls Tryz.prog 45 #[v, .int .i64 (k : Nat)] w fun e w' => e = .returned (.bool false) ∧ w' = w := by
  have HI := hide (kindIndex_none k ks v w hs hk)
  obtain ⟨hm, b, cap, rfl, -⟩ := hs
  clear hk
  go_enter Tryz.func45, Tryz.ntmps45
  go_wp2_with (go_at_call 75; refine HI.out.mono ?_)
  rintro e w' ⟨rfl, rfl⟩
  go_wp2_with fail
  go_ret
  exact ⟨rfl, rfl⟩

set_option maxRecDepth 100000 in
set_option maxHeartbeats 4000000 in
/-- Expect, where another token stands. -/
theorem expect_bad (sc : Nat) (s : ByteArray) (p kd k p' : Nat) (t : ByteArray) (ks : List Nat) (v : Value) (w : World) (hn : Nexts s p kd k p' t) (h : ScAt w sc s p) (ht : Tabs w) (hsc : 11 < sc) (hv : InKinds w v ks) (hne : ∀ b n cap, v = .slice (some ⟨b, 0, none⟩) n cap → b ≠ sc) (h0 : 0 < ks.length) (hk : kd ∉ ks) :
    Calls Tryz.prog 30 #[.pointer (some ⟨sc, 0, none⟩), v] w fun e w' => Threw w sc 1 k e w' := by
  have hlt := h.lt
  have K1 := hide (hn sc _ (h.alloc ztok) (ht.below ((Below.refl _ _).alloc (Nat.le_refl _) _) ht.lt) hsc)
  have HV := hide (hv.touched (Touched.alloc w sc ztok) hne h0)
  have HNe := hide hne
  have HK := hide hk
  obtain ⟨hm, b, cap, rfl, -⟩ := hv
  clear h ht hn hne hk
  go_enter Tryz.func30, Tryz.ntmps30
  go_wp2_with (go_at_call 44; refine K1.out.mono ?_)
  rintro e w1 ⟨rfl, hS1, hT1⟩
  have hT2 := hT1.trans (Touched.alloc w1 sc (.cells #[.int .i64 (kd : Nat), .int .i64 (k : Nat), .string t] 73))
  have K2 := hide (contains_none kd ks _ _ (HV.out.touched hT2 HNe.out h0) HK.out)
  have K3 := hide (fun W => misplaced_calls kd k t sc W)
  have HT2 := hide hT2
  clear hS1 hT1 hT2
  go_wp2_with (go_at_call 45; refine K2.out.mono ?_)
  rintro e w2 ⟨rfl, rfl⟩
  go_wp2_with (go_at_call 46; refine (K3.out _).mono ?_)
  intro e w3 h3
  obtain ⟨fb, rfl, h4⟩ := h3
  have h5 := Threw.from (w0 := w) (e := .panicked [{ v := .iface 84 (.pointer (some ⟨fb, 0, none⟩)), recovered := false }]) ⟨fb, rfl, h4⟩ ((Touched.alloc w sc ztok).trans HT2.out)
  have H5 := hide h5
  clear h4 h5
  go_wp2_with fail
  exact ⟨rfl, H5.out⟩

end Go.Proofs.YtjlibnijecdgcaaGreatDoor

/- The contracts of the scanner's levelKind and Word, where no word of levels stands. -/
namespace Go.Proofs.YtjlibnijecdgcaaGreatDoor
open Go.RowKit

theorem sx4 (w : World) : (Instr.index 157 shapesV (.int .i64 4)).run Tryz.prog w = .ok (.agg #[.string ⟨#[]⟩, .int .i64 0]) w := by kernel_rfl

theorem litSame (l : List UInt8) (t : ByteArray) : (l == t.toList) = decide (t = ⟨l.toArray⟩) := by rw [BEq.comm]; exact sameLit t l
theorem litSame_neg {l : List UInt8} {t : ByteArray} (h : t ≠ ⟨l.toArray⟩) : (l == t.toList) = false := by rw [litSame]; simp [h]

set_option maxRecDepth 100000 in
set_option maxHeartbeats 4000000 in
theorem levelKind_none (q : ByteArray) (w : World) (h0 : q ≠ ⟨#[]⟩) (h1 : q ≠ ⟨#[115]⟩) (h2 : q ≠ ⟨#[109, 97, 120]⟩) (h3 : q ≠ ⟨#[105, 109, 97, 120]⟩) (ht : Tabs w) : Calls Tryz.prog 123 #[.string q] w fun e w' => e = .returned (.int .i64 0) ∧ Below w.heap.size w w' := by
  obtain ⟨⟨t0, t1, t2, t3, t4⟩, -, ⟨n0, n1, n2, n3, n4⟩, -, -, -⟩ := ht
  have y0 := litSame_neg (l := []) h0
  have y1 := litSame_neg (l := [115]) h1
  have y2 := litSame_neg (l := [109, 97, 120]) h2
  have y3 := litSame_neg (l := [105, 109, 97, 120]) h3
  clear h0 h1 h2 h3
  go_enter Tryz.func123, Tryz.ntmps123
  go_wp2_with fail
  clear t0 t1 t2 t3 t4 n0 n1 n2 n3 n4
  go_loopg [6] 5 (fun g i wr => ∃ k : Nat, k + g = 5 ∧ i = .int .i64 k ∧ Below w.heap.size w wr)
  case atStart => exact ⟨0, by omega, rfl, Below.refl _ _⟩
  case round =>
    obtain ⟨k, hkg, rfl, hbel⟩ := hrel
    have HA : Hid (∀ o, Below w.heap.size w (wr.alloc o)) := fun o => hbel.alloc hbel.size _
    have HB := hide hbel
    clear hbel
    by_cases hk0 : k = 0
    · subst hk0
      have hix := sx0
      go_wp2_with fail
      go_roundg 4
      case measure => omega
      case rel => exact ⟨1, by omega, by go_num, HA.out _⟩
    by_cases hk1 : k = 1
    · subst hk1
      have hix := sx1
      go_wp2_with fail
      go_roundg 3
      case measure => omega
      case rel => exact ⟨2, by omega, by go_num, HA.out _⟩
    by_cases hk2 : k = 2
    · subst hk2
      have hix := sx2
      go_wp2_with fail
      go_roundg 2
      case measure => omega
      case rel => exact ⟨3, by omega, by go_num, HA.out _⟩
    by_cases hk3 : k = 3
    · subst hk3
      have hix := sx3
      go_wp2_with fail
      go_roundg 1
      case measure => omega
      case rel => exact ⟨4, by omega, by go_num, HA.out _⟩
    by_cases hk4 : k = 4
    · subst hk4
      have hix := sx4
      go_wp2_with fail
      go_roundg 0
      case measure => omega
      case rel => exact ⟨5, by omega, by go_num, HA.out _⟩
    have hk : k = 5 := by omega
    subst hk
    clear hk0 hk1 hk2 hk3 hk4
    go_wp2_with fail
    go_ret
    exact ⟨rfl, HB.out⟩

theorem kinds1 {w : World} (c : Nat) : InKinds (w.alloc (.cells #[.int .i64 (c : Nat)] 71)) (.slice (some ⟨w.heap.size, 0, none⟩) 1 1) [c] := ⟨by simp, w.heap.size, 1, rfl, fun i hi => by match i, hi with | 0, _ => simp⟩

set_option maxRecDepth 100000 in
set_option maxHeartbeats 4000000 in
/-- Word, where no name stands. -/
theorem word_none (sc : Nat) (s : ByteArray) (p k p' kd : Nat) (q : ByteArray) (w : World) (hn : Nexts s p kd k p' q) (h : ScAt w sc s p) (ht : Tabs w) (hsc : 11 < sc) (hk : kd ≠ 3) :
    Calls Tryz.prog 47 #[.pointer (some ⟨sc, 0, none⟩), .func (.func 123) #[] #[]] w fun e w' => Threw w sc 1 k e w' := by
  have hlt := h.lt
  have hT0 := ht.below ((Below.refl _ _).alloc (Nat.le_refl _) (.cells #[.int .i64 3] 71)) ht.lt
  have K1 := hide (expect_bad sc s p kd k p' q [3] (.slice (some ⟨w.heap.size, 0, none⟩) 1 1) _ hn (h.alloc (.cells #[.int .i64 3] 71)) hT0 hsc (kinds1 3) (fun b n cap e => by injection e with e; injection e with e; injection e with e; omega) (by simp) (by simpa using hk))
  clear h ht hn hT0 hk
  go_enter Tryz.func47, Tryz.ntmps47
  go_wp2_with (go_at_call 30; refine K1.out.mono ?_)
  intro e w1 h1
  have H1 := hide (h1.from (Touched.alloc w sc _))
  obtain ⟨fb, rfl, -⟩ := h1
  go_wp2_with fail
  exact ⟨rfl, H1.out⟩

set_option maxRecDepth 100000 in
set_option maxHeartbeats 4000000 in
/-- Word, where another name stands. -/
theorem word_other (sc : Nat) (s : ByteArray) (p k p' : Nat) (q : ByteArray) (w : World) (hn : Nexts s p 3 k p' q) (h : ScAt w sc s p) (ht : Tabs w) (hsc : 11 < sc) (h0 : q ≠ ⟨#[]⟩) (h1 : q ≠ ⟨#[115]⟩) (h2 : q ≠ ⟨#[109, 97, 120]⟩) (h3 : q ≠ ⟨#[105, 109, 97, 120]⟩) :
    Calls Tryz.prog 47 #[.pointer (some ⟨sc, 0, none⟩), .func (.func 123) #[] #[]] w fun e w' => Threw w sc 1 k e w' := by
  have hlt := h.lt
  have hT0 := ht.below ((Below.refl _ _).alloc (Nat.le_refl _) (.cells #[.int .i64 3] 71)) ht.lt
  have K1 := hide (expect_calls sc s p 3 k p' q [3] (.slice (some ⟨w.heap.size, 0, none⟩) 1 1) _ hn (h.alloc (.cells #[.int .i64 3] 71)) hT0 hsc ⟨by simp, w.heap.size, 1, rfl, fun i hi => by match i, hi with | 0, _ => simp⟩ (fun b n cap e => by injection e with e; injection e with e; injection e with e; omega) (by simp))
  have K2 : Hid (∀ W, Tabs W → Calls Tryz.prog 123 #[.string q] W fun e w' => e = .returned (.int .i64 0) ∧ Below W.heap.size W w') := fun W hW => levelKind_none q W h0 h1 h2 h3 hW
  have HT := hide hT0
  clear h ht hn hT0 h0 h1 h2 h3
  go_enter Tryz.func47, Tryz.ntmps47
  go_wp2_with (go_at_call 30; refine K1.out.mono ?_)
  rintro e w1 ⟨rfl, hS1, hT1⟩
  have hT2 := hT1.trans (Touched.alloc w1 sc (.cells #[.int .i64 (3 : Nat), .int .i64 (k : Nat), .string q] 73))
  have K3 := hide (K2.out _ (HT.out.touched hT2 hsc))
  have hz1 := hT1.size
  have HT2 := hide ((Touched.alloc w sc (.cells #[.int .i64 3] 71)).trans hT2)
  clear hS1 hT1 hT2
  go_wp2_with (go_at_call 123; refine K3.out.mono ?_)
  rintro e w2 ⟨rfl, hb⟩
  have d0 : w2.cell? ⟨w1.heap.size, 0, none⟩ = some (.int .i64 3) := by rw [hb.cell (by simp)]; simp
  have d1 : w2.cell? ⟨w1.heap.size, 1, none⟩ = some (.int .i64 (k : Nat)) := by rw [hb.cell (by simp)]; simp
  have d2 : w2.cell? ⟨w1.heap.size, 2, none⟩ = some (.string q) := by rw [hb.cell (by simp)]; simp
  have HT3 := hide (HT2.out.later hb)
  have K4 := hide (misplaced_calls 3 k q sc w2)
  clear hb
  go_wp2_with (go_at_call 46; refine K4.out.mono ?_)
  intro e w3 h3
  have H3 := hide (h3.from HT3.out)
  obtain ⟨fb, rfl, -⟩ := h3
  go_wp2_with fail
  exact ⟨rfl, H3.out⟩

end Go.Proofs.YtjlibnijecdgcaaGreatDoor

/- The contract of the scanner's Level where no level begins, and where what follows its bracket throws. -/
namespace Go.Proofs.YtjlibnijecdgcaaGreatDoor
open Go.RowKit

theorem kinds3_in (w : World) : InKinds ((w.alloc zlev).alloc kinds3) (.slice (some ⟨w.heap.size + 1, 0, none⟩) 3 3) [1, 3, 4] := by
  refine ⟨by simp, w.heap.size + 1, 3, rfl, fun i hi => ?_⟩
  match i, hi with
  | 0, _ => simp [World.cell?_alloc_at]
  | 1, _ => simp [World.cell?_alloc_at]
  | 2, _ => simp [World.cell?_alloc_at]

set_option maxRecDepth 100000 in
set_option maxHeartbeats 4000000 in
theorem lev_other (sc : Nat) (s : ByteArray) (p kd k p' : Nat) (t : ByteArray) (w : World) (hn : Nexts s p kd k p' t) (h : ScAt w sc s p) (ht : Tabs w) (hsc : 11 < sc) (h1 : kd ≠ 1) (h3 : kd ≠ 3) (h4 : kd ≠ 4) :
    Calls Tryz.prog 109 #[.pointer (some ⟨sc, 0, none⟩)] w fun e w' => Threw w sc 1 k e w' := by
  have hlt := h.lt
  have hb : Below w.heap.size w ((w.alloc zlev).alloc kinds3) := ((Below.refl _ _).alloc (Nat.le_refl _) _).alloc (by simp) _
  have K1 := hide (expect_bad sc s p kd k p' t [1, 3, 4] _ _ hn ((h.alloc _).alloc _) (ht.below hb ht.lt) hsc (kinds3_in w) (fun b n cap e => by injection e with e; injection e with e; injection e with e; omega) (by simp) (by simp; omega))
  clear h ht hn hb h1 h3 h4
  go_enter Tryz.func109, Tryz.ntmps109
  go_wp2_with (go_at_call 30; refine K1.out.mono ?_)
  intro e w1 h1
  have H1 := hide (h1.from ((Touched.alloc w sc zlev).trans (Touched.alloc _ sc kinds3)))
  obtain ⟨fb, rfl, -⟩ := h1
  go_wp2_with fail
  exact ⟨rfl, H1.out⟩

set_option maxRecDepth 100000 in
set_option maxHeartbeats 4000000 in
theorem lev_digits (sc : Nat) (s : ByteArray) (p k p' : Nat) (t : ByteArray) (w : World) (hn : Nexts s p 4 k p' t) (h : ScAt w sc s p) (ht : Tabs w) (hsc : 11 < sc) (h0 : t ≠ ⟨#[48]⟩) :
    Calls Tryz.prog 109 #[.pointer (some ⟨sc, 0, none⟩)] w fun e w' => Threw w sc 1 k e w' := by
  have hlt := h.lt
  have K1 := hide (lev_expect sc s p 4 k p' t w hn h ht hsc (.inr (.inr rfl)))
  have y1 := sameLit_neg (l := [48]) h0
  clear h ht hn h0
  go_enter Tryz.func109, Tryz.ntmps109
  go_wp2_with (go_at_call 30; refine K1.out.mono ?_)
  rintro e w1 ⟨rfl, hS1, hT1⟩
  have K2 := hide (fun W => misplaced_calls 4 k t sc W)
  have HT := hide (((Touched.alloc w sc zlev).trans hT1).trans (Touched.alloc w1 sc (.cells #[.int .i64 (4 : Nat), .int .i64 (k : Nat), .string t] 73)))
  clear hS1 hT1
  go_wp2_with (go_at_call 46; refine (K2.out _).mono ?_)
  intro e w3 h3
  have H3 := hide (h3.from HT.out)
  obtain ⟨fb, rfl, -⟩ := h3
  go_wp2_with fail
  exact ⟨rfl, H3.out⟩

/-- Level, where none begins. -/
theorem lev_none (sc : Nat) (s : ByteArray) (p : Nat) (w : World) (hs : s.size ≤ 200000) (hp : p ≤ s.size) (h : ScAt w sc s p) (ht : Tabs w) (hsc : 11 < sc) (h0 : (tok s p).t ≠ ⟨#[48]⟩) (hn : isNameB (tok s p).t = false) (ho : (tok s p).t ≠ ⟨#[40]⟩) :
    Calls Tryz.prog 109 #[.pointer (some ⟨sc, 0, none⟩)] w fun e w' => Threw w sc 1 (runTo blankB s p) e w' := by
  have hx := next_all (s := s) (p := p) hs hp
  by_cases he : runTo blankB s p = s.size
  · rw [ntok_end he] at hx
    exact lev_other sc s p _ _ _ _ w hx h ht hsc (by simp) (by simp) (by simp)
  · have hk : runTo blankB s p < s.size := by have := runTo_le blankB s hp; omega
    obtain ⟨x1, x3, x4⟩ := scan_none (good := good) hk h0 hn ho
    have ht4 : ntext s p = s.extract (runTo blankB s p) (scanAt good s (runTo blankB s p)).2 := by unfold ntext; rw [if_neg he, ntok_in he]
    rw [ht4, ntok_in he] at hx
    by_cases h4 : (scanAt good s (runTo blankB s p)).1 = 4
    · have := x4 h4
      simp only [h4] at hx
      exact lev_digits sc s p _ _ _ w hx h ht hsc this
    · exact lev_other sc s p _ _ _ _ w hx h ht hsc x1 x3 h4

set_option maxRecDepth 100000 in
set_option maxHeartbeats 4000000 in
theorem lev_open_bad (sc : Nat) (s : ByteArray) (p p1 a : Nat) (w : World) (hs : s.size ≤ 200000) (hp : p ≤ s.size) (hr : SignAt s 40 p p1) (h : ScAt w sc s p) (ht : Tabs w) (hsc : 11 < sc)
    (hin : ∀ W, ScAt W sc s p1 → Tabs W → Calls Tryz.prog 119 #[.pointer (some ⟨sc, 0, none⟩)] W fun e w' => Threw W sc 1 a e w') :
    Calls Tryz.prog 109 #[.pointer (some ⟨sc, 0, none⟩)] w fun e w' => Threw w sc 1 a e w' := by
  have hlt := h.lt
  have K1 := hide (lev_expect sc s p 1 _ p1 _ w (hr.nexts hs hp 1 (.inl ⟨rfl, rfl⟩)) h ht hsc (.inl rfl))
  have K2 := hide hin
  have HTb := hide ht
  clear h ht hr hin
  generalize s.extract (runTo blankB s p) p1 = t at *
  generalize runTo blankB s p = k at *
  go_enter Tryz.func109, Tryz.ntmps109
  go_wp2_with (go_at_call 30; refine K1.out.mono ?_)
  rintro e w1 ⟨rfl, hS1, hT1⟩
  have hT2 := ((Touched.alloc w sc zlev).trans hT1).trans (Touched.alloc _ sc (.cells #[.int .i64 (1 : Nat), .int .i64 (k : Nat), .string t] 73))
  have K3 := hide (K2.out _ (hS1.alloc (.cells #[.int .i64 (1 : Nat), .int .i64 (k : Nat), .string t] 73)) (HTb.out.touched hT2 hsc))
  have HT2 := hide hT2
  clear hS1 hT1 hT2
  go_wp2_with (go_at_call 119; refine K3.out.mono ?_)
  intro e w3 h3
  have H3 := hide (h3.from HT2.out)
  obtain ⟨fb, rfl, -⟩ := h3
  go_wp2_with fail
  exact ⟨rfl, H3.out⟩

end Go.Proofs.YtjlibnijecdgcaaGreatDoor
