/- The contracts of the scanner's Next and Expect, where what is asked for stands there. -/
import Derived.Test.YtpdoegjddiaaoaaDoorTake
import Derived.Deep.RegionHeld3
namespace Go.Proofs.YtpdoegjddiaaoaaDoor
open Go.RowKit

abbrev ztok : Obj := .cells #[.int .i64 0, .int .i64 0, .string ⟨#[]⟩] 88

theorem tcells {w w' : World} {sc : Nat} (hsc : sc < w.heap.size) (ht : Touched (w.alloc ztok) sc w') : w'.cell? ⟨w.heap.size, 0, none⟩ = some (.int .i64 0) ∧ w'.cell? ⟨w.heap.size, 1, none⟩ = some (.int .i64 0) ∧ w'.cell? ⟨w.heap.size, 2, none⟩ = some (.string ⟨#[]⟩) ∧ (∀ i, w'.frozen? ⟨w.heap.size, i, none⟩ = false) ∧ w.heap.size < w'.heap.size := by
  have hb : w'.heap[w.heap.size]? = (w.alloc ztok).heap[w.heap.size]? := ht.block _ (by simp) (by simp; omega)
  have hz := ht.size
  simp at hz
  refine ⟨?_, ?_, ?_, fun i => ?_, by omega⟩
  · rw [World.cell?_of_block hb]; simp
  · rw [World.cell?_of_block hb]; simp
  · rw [World.cell?_of_block hb]; simp
  · rw [World.frozen?_of_block hb]; simp [World.frozen?_alloc_at]

theorem Touched.drew' {w w' : World} {m : Nat} (h : Touched w m w') : Touched w m w'.drew := ⟨h.os, h.tape, h.output, h.size, h.block⟩

/-- A new block of three cells is filled: the scanner stands as it stood. -/
theorem filled3 {w W : World} {sc p n : Nat} {s : ByteArray} (hn : w.heap.size ≤ n) (hne : n ≠ sc) (hS : ScAt W sc s p) (hT : Touched w sc W) (u0 u1 u2 : Value) :
    ScAt (((W.setCell ⟨n, 0, none⟩ u0).setCell ⟨n, 1, none⟩ u1).setCell ⟨n, 2, none⟩ u2) sc s p ∧ Touched w sc (((W.setCell ⟨n, 0, none⟩ u0).setCell ⟨n, 1, none⟩ u1).setCell ⟨n, 2, none⟩ u2) := by
  refine ⟨hS.of_block ?_, ?_⟩
  · rw [Below.heap_setCell _ _ _ _ (by show sc ≠ n; omega), Below.heap_setCell _ _ _ _ (by show sc ≠ n; omega), Below.heap_setCell _ _ _ _ (by show sc ≠ n; omega)]
  · exact ((hT.setNew (a := ⟨n, 0, none⟩) hn _).setNew (a := ⟨n, 1, none⟩) hn _).setNew (a := ⟨n, 2, none⟩) hn _

set_option maxRecDepth 100000 in
set_option maxHeartbeats 4000000 in
theorem next_tok (sc : Nat) (s : ByteArray) (p kd p' : Nat) (w : World) (h : ScAt w sc s p) (hs : s.size ≤ 20000) (hp : p ≤ s.size) (ht : Tabs w) (hsc : 1 < sc) (hk : runTo blankB s p < s.size) (hT : Taken s (runTo blankB s p) kd p') (hp' : runTo blankB s p ≤ p') (hp2 : p' ≤ s.size) :
    Calls Tryd.prog 54 #[.pointer (some ⟨sc, 0, none⟩)] w fun e w' => e = .returned (.agg #[.int .i64 (kd : Nat), .int .i64 (runTo blankB s p : Nat), .string (s.extract (runTo blankB s p) p')]) ∧ ScAt w' sc s p' ∧ Touched w sc w' := by
  have hlt := h.lt
  have K1 := hide (skip_calls 60 blankB blank_tests sc s p _ (h.alloc ztok) hs hp (ht.below ((Below.refl _ _).alloc (Nat.le_refl _) _) ht.lt) hsc)
  have HT := hide ht
  have HTk := hide hT
  clear h ht hT
  generalize runTo blankB s p = k at *
  go_enter Tryd.func54, Tryd.ntmps54
  go_wp2_with (go_at_call 59; refine K1.out.mono ?_)
  rintro e w1 ⟨rfl, hS1, hT1⟩
  have c0 := hS1.c0
  have c1 := hS1.c1
  have l1 := hS1.lt
  have e1 : ((k : Int) == (s.size : Int)) = false := by simp; omega
  have HS1 := hide hS1
  have HT1 := hide hT1
  clear hS1 hT1
  go_wp2_with fail
  go_quiet (fail)
  have K2 := hide (stake_calls sc s k kd p' (w1.drewN nq) (HS1.out.below (below_drewN (Below.refl _ _) nq)) hs hk (((HT.out.below ((Below.refl _ _).alloc (Nat.le_refl _) ztok) HT.out.lt).touched HT1.out hsc).below (below_drewN (Below.refl _ _) nq) (by omega)) hsc HTk.out)
  go_wp2_with (go_at_call 61; refine K2.out.mono ?_)
  rintro e w2 ⟨rfl, hS2, hT2⟩
  have c2 := hS2.c0
  have c3 := hS2.c1
  have l2 := hS2.lt
  have hTt := (HT1.out.later (below_drewN (Below.refl _ _) nq)).trans hT2
  obtain ⟨d0, d1, d2, d3, d4⟩ := tcells hlt hTt
  have HS2 := hide hS2
  have HT2 := hide hTt
  clear hS2 hT2 hTt c0 c1 l1
  go_wp2_with fail
  have hn1 : ¬ w.heap.size = sc := by omega
  have hn2 : ¬ sc = w.heap.size := by omega
  go_region_held3 (fun w' => w'.cell? ⟨sc, 0, none⟩ = some (.string s) ∧ w'.cell? ⟨sc, 1, none⟩ = some (.int .i64 (p' : Nat))) (go_keep) (fail)
  all_goals
    go_wp2_with fail
    refine bodyPost_ret (v := .agg #[.int .i64 (kd : Nat), .int .i64 (k : Nat), .string (s.extract k p')]) (by simp [results, Tryd.results54, go_sem, d0, d1, d2]) rfl ?_
    have hf := filled3 (Nat.le_refl w.heap.size) hn1 HS2.out ((Touched.alloc w sc ztok).trans HT2.out) (.int .i64 (kd : Nat)) (.int .i64 (k : Nat)) (.string (s.extract k p'))
    exact ⟨rfl, hf.1.of_block rfl, hf.2.drew'⟩

set_option maxRecDepth 100000 in
set_option maxHeartbeats 4000000 in
theorem next_end (sc : Nat) (s : ByteArray) (p : Nat) (w : World) (h : ScAt w sc s p) (hs : s.size ≤ 20000) (hp : p ≤ s.size) (ht : Tabs w) (hsc : 1 < sc) (hk : runTo blankB s p = s.size) :
    Calls Tryd.prog 54 #[.pointer (some ⟨sc, 0, none⟩)] w fun e w' => e = .returned (.agg #[.int .i64 (0 : Nat), .int .i64 (s.size : Nat), .string ⟨#[]⟩]) ∧ ScAt w' sc s s.size ∧ Touched w sc w' := by
  have hlt := h.lt
  have K1 := hide (skip_calls 60 blankB blank_tests sc s p _ (h.alloc ztok) hs hp (ht.below ((Below.refl _ _).alloc (Nat.le_refl _) _) ht.lt) hsc)
  rw [hk] at K1
  clear h ht hk
  go_enter Tryd.func54, Tryd.ntmps54
  go_wp2_with (go_at_call 59; refine K1.out.mono ?_)
  rintro e w1 ⟨rfl, hS1, hT1⟩
  have c0 := hS1.c0
  have c1 := hS1.c1
  have l1 := hS1.lt
  obtain ⟨d0, d1, d2, d3, d4⟩ := tcells hlt hT1
  have HS1 := hide hS1
  have HT1 := hide hT1
  clear hS1 hT1
  go_wp2_with fail
  go_quiet (fail)
  go_wp2_with fail
  refine bodyPost_ret (v := .agg #[.int .i64 (0 : Nat), .int .i64 (s.size : Nat), .string ⟨#[]⟩]) (by simp [results, Tryd.results54, go_sem, d0, d1, d2]) rfl ?_
  have hf := filled3 (Nat.le_refl w.heap.size) (by omega) (HS1.out.below (below_drewN (Below.refl _ _) nq)) (((Touched.alloc w sc ztok).trans HT1.out).later (below_drewN (Below.refl _ _) nq)) (.int .i64 0) (.int .i64 (s.size : Nat)) (.string ⟨#[]⟩)
  exact ⟨rfl, hf.1, hf.2⟩

/-- A list of kinds of tokens, read alone. -/
def InKinds (w : World) (v : Value) (ks : List Nat) : Prop := ks.length ≤ 100 ∧ ∃ (b cap : Nat), v = .slice (some ⟨b, 0, none⟩) ks.length cap ∧ ∀ i (hi : i < ks.length), w.cell? ⟨b, i, none⟩ = some (.int .i64 (ks[i] : Nat))

set_option maxHeartbeats 400000 in
theorem kindIndex_calls (k : Nat) (ks : List Nat) (v : Value) (w : World) (hs : InKinds w v ks) (hk : k ∈ ks) :
    Calls Tryd.prog 62 #[v, .int .i64 (k : Nat)] w fun e w' => ∃ r : Nat, e = .returned (.int .i64 (r : Nat)) ∧ w' = w := by
  obtain ⟨hm, b, cap, rfl, hc⟩ := hs
  have HC := hide hc
  have HK := hide hk
  clear hc hk
  go_enter Tryd.func62, Tryd.ntmps62
  go_wp2_with fail
  go_loop [8] (fun i => ∃ j : Nat, j ≤ ks.length ∧ i = .int .i64 j ∧ ∀ m (h : m < ks.length), m < j → ks[m] ≠ k) (fun i => ks.length - (intOf i).toNat)
  case atStart => exact ⟨0, Nat.zero_le _, rfl, fun j _ h => absurd h (by omega)⟩
  case round =>
    obtain ⟨j, hj, rfl, hno⟩ := hrel
    have HN : Hid (∀ m (h : m < ks.length), m < j → ks[m] ≠ k) := hno
    clear hno
    by_cases hlt : j < ks.length
    · have hcell := HC.out j hlt
      by_cases he : ks[j] = k
      · have e1 : ((k : Int) == ((ks[j] : Nat) : Int)) = true := by simp [he]
        clear he
        go_wp2
        go_ret
        exact ⟨⟨j, rfl⟩, rfl⟩
      · have e1 : ((k : Int) == ((ks[j] : Nat) : Int)) = false := by simp; omega
        have HE : Hid (ks[j] ≠ k) := he
        clear he
        go_wp2
        go_round
        case rel => exact ⟨j + 1, by omega, by go_num, fun m h hm => if e : m = j then by subst e; exact HE.out else HN.out m h (by omega)⟩
        case measure => simp [intOf]; omega
    · exfalso
      obtain ⟨m, hm', e⟩ := List.getElem_of_mem HK.out
      exact HN.out m hm' (by omega) e

set_option maxHeartbeats 400000 in
theorem contains_calls (k : Nat) (ks : List Nat) (v : Value) (w : World) (hs : InKinds w v ks) (hk : k ∈ ks) :
    Calls Tryd.prog 55 #[v, .int .i64 (k : Nat)] w fun e w' => e = .returned (.bool true) ∧ w' = w := by
  have HI := hide (kindIndex_calls k ks v w hs hk)
  obtain ⟨hm, b, cap, rfl, -⟩ := hs
  clear hk
  go_enter Tryd.func55, Tryd.ntmps55
  go_wp2_with (go_at_call 62; refine HI.out.mono ?_)
  rintro e w' ⟨r, rfl, rfl⟩
  go_wp2_with fail
  go_ret
  exact ⟨rfl, rfl⟩

/-- What Next answers, and where it leaves the scanner. -/
def Nexts (s : ByteArray) (p kd k p' : Nat) (t : ByteArray) : Prop := ∀ (sc : Nat) (w : World), ScAt w sc s p → Tabs w → 1 < sc → Calls Tryd.prog 54 #[.pointer (some ⟨sc, 0, none⟩)] w fun e w' => e = .returned (.agg #[.int .i64 (kd : Nat), .int .i64 (k : Nat), .string t]) ∧ ScAt w' sc s p' ∧ Touched w sc w'

theorem InKinds.touched {w w' : World} {v : Value} {ks : List Nat} {sc : Nat} (h : InKinds w v ks) (ht : Touched w sc w') (hv : ∀ b n cap, v = .slice (some ⟨b, 0, none⟩) n cap → b ≠ sc) (h0 : 0 < ks.length) : InKinds w' v ks := by
  obtain ⟨hm, b, cap, e, hc⟩ := h
  refine ⟨hm, b, cap, e, fun i hi => ?_⟩
  have hb := World.block_lt_of_cell? _ _ (hc 0 h0)
  rw [ht.cell (p := ⟨b, i, none⟩) hb (hv b _ _ e)]
  exact hc i hi

set_option maxRecDepth 100000 in
set_option maxHeartbeats 4000000 in
theorem expect_calls (sc : Nat) (s : ByteArray) (p kd k p' : Nat) (t : ByteArray) (ks : List Nat) (v : Value) (w : World) (hn : Nexts s p kd k p' t) (h : ScAt w sc s p) (ht : Tabs w) (hsc : 1 < sc) (hv : InKinds w v ks) (hne : ∀ b n cap, v = .slice (some ⟨b, 0, none⟩) n cap → b ≠ sc) (hk : kd ∈ ks) :
    Calls Tryd.prog 43 #[.pointer (some ⟨sc, 0, none⟩), v] w fun e w' => e = .returned (.agg #[.int .i64 (kd : Nat), .int .i64 (k : Nat), .string t]) ∧ ScAt w' sc s p' ∧ Touched w sc w' := by
  have hlt := h.lt
  have h0 : 0 < ks.length := List.length_pos_of_mem hk
  have K1 := hide (hn sc _ (h.alloc ztok) (ht.below ((Below.refl _ _).alloc (Nat.le_refl _) _) ht.lt) hsc)
  have HV := hide (hv.touched (Touched.alloc w sc ztok) hne h0)
  have HNe := hide hne
  have HK := hide hk
  obtain ⟨hm, b, cap, rfl, -⟩ := hv
  clear h ht hn hne hk
  go_enter Tryd.func43, Tryd.ntmps43
  go_wp2_with (go_at_call 54; refine K1.out.mono ?_)
  rintro e w1 ⟨rfl, hS1, hT1⟩
  obtain ⟨d0, d1, d2, d3, d4⟩ := tcells hlt hT1
  have hT2 := hT1.trans (Touched.alloc w1 sc (.cells #[.int .i64 (kd : Nat), .int .i64 (k : Nat), .string t] 88))
  have K2 := hide (contains_calls kd ks _ _ (HV.out.touched hT2 HNe.out h0) HK.out)
  have HS1 := hide hS1
  have HT1 := hide hT1
  clear hS1 hT1 hT2
  go_wp2_with (go_at_call 55; refine K2.out.mono ?_)
  rintro e w2 ⟨rfl, rfl⟩
  go_wp2_with fail
  refine bodyPost_ret (v := .agg #[.int .i64 (kd : Nat), .int .i64 (k : Nat), .string t]) (by simp [results, Tryd.results43, go_sem, d0, d1, d2, d4]) rfl ?_
  have hf := filled3 (Nat.le_refl w.heap.size) (by omega) HS1.out ((Touched.alloc w sc ztok).trans HT1.out) (.int .i64 (kd : Nat)) (.int .i64 (k : Nat)) (.string t)
  exact ⟨rfl, hf.1.alloc _, hf.2.trans (Touched.alloc _ _ _)⟩

end Go.Proofs.YtpdoegjddiaaoaaDoor
