/- The contracts of the scanner's Next and Expect, whatever stands there; what is thrown where a token can't stand. -/
import Derived.Test.YtmpepnckfghepaaDoorTakeAll
import Derived.Test.YtmpepnckfghepaaDoorThrow
namespace Go.Proofs.YtmpepnckfghepaaDoor
open Go.RowKit

set_option maxRecDepth 100000 in
set_option maxHeartbeats 4000000 in
theorem next_scan (sc : Nat) (s : ByteArray) (p kd p' : Nat) (w : World) (h : ScAt w sc s p) (hs : s.size ≤ 20000) (hp : p ≤ s.size) (ht : Tabs w) (hsc : 5 < sc) (hk : runTo blankB s p < s.size) (hT : scanAt good s (runTo blankB s p) = (kd, p')) (hp' : runTo blankB s p ≤ p') (hp2 : p' ≤ s.size) :
    Calls Tryd.prog 28 #[.pointer (some ⟨sc, 0, none⟩)] w fun e w' => e = .returned (.agg #[.int .i64 (kd : Nat), .int .i64 (runTo blankB s p : Nat), .string (s.extract (runTo blankB s p) p')]) ∧ ScAt w' sc s p' ∧ Touched w sc w' := by
  have hlt := h.lt
  have K1 := hide (skip_calls 38 blankB blank_tests sc s p _ (h.alloc ztok) hs hp (ht.below ((Below.refl _ _).alloc (Nat.le_refl _) _) ht.lt) hsc)
  have HT := hide ht
  have HTk : Hid (∀ W, ScAt W sc s (runTo blankB s p) → Tabs W → Calls Tryd.prog 39 #[.pointer (some ⟨sc, 0, none⟩)] W fun e w' => TakeOf W sc s kd p' e w') := fun W h1 h2 => by
    have := stake_all sc s _ W h1 hs hk h2 hsc
    rw [hT] at this
    exact this
  clear h ht hT
  generalize runTo blankB s p = k at *
  go_enter Tryd.func28, Tryd.ntmps28
  go_wp2_with (go_at_call 37; refine K1.out.mono ?_)
  rintro e w1 ⟨rfl, hS1, hT1⟩
  have c0 := hS1.c0
  have c1 := hS1.c1
  have l1 := hS1.lt
  have e1 : ((k : Int) == (s.size : Int)) = false := by simp; omega
  have HS1 := hide hS1
  have HT1 := hide hT1
  clear hS1 hT1
  go_wp2_with fail
  go_quiet (fail)
  have K2 := hide (HTk.out (w1.drewN nq) (HS1.out.below (below_drewN (Below.refl _ _) nq)) (((HT.out.below ((Below.refl _ _).alloc (Nat.le_refl _) ztok) HT.out.lt).touched HT1.out hsc).below (below_drewN (Below.refl _ _) nq) (by omega)))
  go_wp2_with (go_at_call 39; refine K2.out.mono ?_)
  rintro e w2 ⟨rfl, hS2, hT2⟩
  have c2 := hS2.c0
  have c3 := hS2.c1
  have l2 := hS2.lt
  have hTt := (HT1.out.later (below_drewN (Below.refl _ _) nq)).trans hT2
  obtain ⟨d0, d1, d2, d3, d4⟩ := tcells hlt hTt
  have HS2 := hide hS2
  have HT2 := hide hTt
  clear hS2 hT2 hTt c0 c1 l1
  go_wp2_with fail
  have hn1 : ¬ w.heap.size = sc := by omega
  have hn2 : ¬ sc = w.heap.size := by omega
  go_region_held3 (fun w' => w'.cell? ⟨sc, 0, none⟩ = some (.string s) ∧ w'.cell? ⟨sc, 1, none⟩ = some (.int .i64 (p' : Nat))) (go_keep) (fail)
  all_goals
    go_wp2_with fail
    refine bodyPost_ret (v := .agg #[.int .i64 (kd : Nat), .int .i64 (k : Nat), .string (s.extract k p')]) (by simp [results, Tryd.results28, go_sem, d0, d1, d2]) rfl ?_
    have hf := filled3 (Nat.le_refl w.heap.size) hn1 HS2.out ((Touched.alloc w sc ztok).trans HT2.out) (.int .i64 (kd : Nat)) (.int .i64 (k : Nat)) (.string (s.extract k p'))
    exact ⟨rfl, hf.1.of_block rfl, hf.2.drew'⟩


/-- The text of the scanner's next token. -/
def ntext (s : ByteArray) (p : Nat) : ByteArray := if runTo blankB s p = s.size then ⟨#[]⟩ else s.extract (ntok s p).2.1 (ntok s p).2.2

theorem ntok_in {s : ByteArray} {p : Nat} (h : runTo blankB s p ≠ s.size) : ntok s p = ((scanAt good s (runTo blankB s p)).1, runTo blankB s p, (scanAt good s (runTo blankB s p)).2) := by unfold ntok; rw [if_neg h]
theorem ntok_end {s : ByteArray} {p : Nat} (h : runTo blankB s p = s.size) : ntok s p = (0, s.size, s.size) := by unfold ntok; rw [if_pos h]

theorem ntok_le {s : ByteArray} {p : Nat} (hp : p ≤ s.size) : (ntok s p).2.2 ≤ s.size := by
  by_cases h : runTo blankB s p = s.size
  · rw [ntok_end h]; exact Nat.le_refl _
  · rw [ntok_in h]; exact (scanAt_end (by have := runTo_le blankB s hp; omega)).2.1

/-- Next, whatever stands there. -/
theorem next_all {s : ByteArray} {p : Nat} (hs : s.size ≤ 20000) (hp : p ≤ s.size) : Nexts s p (ntok s p).1 (runTo blankB s p) (ntok s p).2.2 (ntext s p) := by
  intro sc w hS hT hsc
  have hle := runTo_le blankB s hp
  by_cases h : runTo blankB s p = s.size
  · have := next_end sc s p w hS hs hp hT hsc h
    rw [ntok_end h, h]
    unfold ntext
    rw [if_pos h]
    exact this
  · have hk : runTo blankB s p < s.size := by omega
    obtain ⟨h1, h2, _, _⟩ := scanAt_end (good := good) hk
    have := next_scan sc s p _ _ w hS hs hp hT hsc hk rfl (Nat.le_of_lt h1) h2
    unfold ntext
    rw [if_neg h, ntok_in h]
    exact this

set_option maxHeartbeats 400000 in
theorem kindIndex_none (k : Nat) (ks : List Nat) (v : Value) (w : World) (hs : InKinds w v ks) (hk : k ∉ ks) :
    Calls Tryd.prog 40 #[v, .int .i64 (k : Nat)] w fun e w' => e = .returned (.int .i64 (-1)) ∧ w' = w := by
  obtain ⟨hm, b, cap, rfl, hc⟩ := hs
  have HC := hide hc
  have HK := hide hk
  clear hc hk
  go_enter Tryd.func40, Tryd.ntmps40
  go_wp2_with fail
  go_loop [8] (fun i => ∃ j : Nat, j ≤ ks.length ∧ i = .int .i64 j) (fun i => ks.length - (intOf i).toNat)
  case atStart => exact ⟨0, Nat.zero_le _, rfl⟩
  case round =>
    obtain ⟨j, hj, rfl⟩ := hrel
    by_cases hlt : j < ks.length
    · have hcell := HC.out j hlt
      have hne : ks[j] ≠ k := fun e => HK.out (e ▸ List.getElem_mem hlt)
      have e1 : ((k : Int) == ((ks[j] : Nat) : Int)) = false := by simp; omega
      clear hne
      go_wp2
      go_round
      case rel => exact ⟨j + 1, by omega, by go_num⟩
      case measure => simp [intOf]; omega
    · go_wp2
      go_ret
      exact ⟨rfl, rfl⟩

set_option maxHeartbeats 400000 in
theorem contains_none (k : Nat) (ks : List Nat) (v : Value) (w : World) (hs : InKinds w v ks) (hk : k ∉ ks) :
    Calls Tryd.prog 29 #[v, .int .i64 (k : Nat)] w fun e w' => e = .returned (.bool false) ∧ w' = w := by
  have HI := hide (kindIndex_none k ks v w hs hk)
  obtain ⟨hm, b, cap, rfl, -⟩ := hs
  clear hk
  go_enter Tryd.func29, Tryd.ntmps29
  go_wp2_with (go_at_call 40; refine HI.out.mono ?_)
  rintro e w' ⟨rfl, rfl⟩
  go_wp2_with fail
  go_ret
  exact ⟨rfl, rfl⟩

set_option maxRecDepth 100000 in
set_option maxHeartbeats 4000000 in
/-- Expect, where another token stands. -/
theorem expect_bad (sc : Nat) (s : ByteArray) (p kd k p' : Nat) (t : ByteArray) (ks : List Nat) (v : Value) (w : World) (hn : Nexts s p kd k p' t) (h : ScAt w sc s p) (ht : Tabs w) (hsc : 5 < sc) (hv : InKinds w v ks) (hne : ∀ b n cap, v = .slice (some ⟨b, 0, none⟩) n cap → b ≠ sc) (h0 : 0 < ks.length) (hk : kd ∉ ks) :
    Calls Tryd.prog 17 #[.pointer (some ⟨sc, 0, none⟩), v] w fun e w' => Threw w sc 1 k e w' := by
  have hlt := h.lt
  have K1 := hide (hn sc _ (h.alloc ztok) (ht.below ((Below.refl _ _).alloc (Nat.le_refl _) _) ht.lt) hsc)
  have HV := hide (hv.touched (Touched.alloc w sc ztok) hne h0)
  have HNe := hide hne
  have HK := hide hk
  obtain ⟨hm, b, cap, rfl, -⟩ := hv
  clear h ht hn hne hk
  go_enter Tryd.func17, Tryd.ntmps17
  go_wp2_with (go_at_call 28; refine K1.out.mono ?_)
  rintro e w1 ⟨rfl, hS1, hT1⟩
  have hT2 := hT1.trans (Touched.alloc w1 sc (.cells #[.int .i64 (kd : Nat), .int .i64 (k : Nat), .string t] 56))
  have K2 := hide (contains_none kd ks _ _ (HV.out.touched hT2 HNe.out h0) HK.out)
  have K3 := hide (fun W => misplaced_calls kd k t sc W)
  have HT2 := hide hT2
  clear hS1 hT1 hT2
  go_wp2_with (go_at_call 29; refine K2.out.mono ?_)
  rintro e w2 ⟨rfl, rfl⟩
  go_wp2_with (go_at_call 19; refine (K3.out _).mono ?_)
  intro e w3 h3
  obtain ⟨fb, rfl, h4⟩ := h3
  have h5 := Threw.from (w0 := w) (e := .panicked [{ v := .iface 62 (.pointer (some ⟨fb, 0, none⟩)), recovered := false }]) ⟨fb, rfl, h4⟩ ((Touched.alloc w sc ztok).trans HT2.out)
  have H5 := hide h5
  clear h4 h5
  go_wp2_with fail
  exact ⟨rfl, H5.out⟩

end Go.Proofs.YtmpepnckfghepaaDoor
