/- The contract of the document's Worth: what a level is worth under the numbers of a list. -/
import Derived.Test.YtdmlflgeihgfcaaTools
namespace Go.Proofs.Ytdmlflgeihgfcaa
open Go.RowKit

set_option maxHeartbeats 400000 in
theorem rworth_param (p : ByteArray) (ps : List ByteArray) (ns : List Nat) (pv nv : Value) (B : Nat) (w : World) (hps : InStrs w B pv ps) (hns : InInts w B nv ns) (hlen : ps.length = ns.length) :
    Calls Try.prog 18 #[.agg #[.int .i64 4, .string p, .slice none 0 0], pv, nv] w fun e w' => e = .returned (.int .i64 (look ps ns p : Nat)) ∧ Below w.heap.size w w' := by
  obtain ⟨hm, A, cap, rfl, hc⟩ := hps
  obtain ⟨A2, cap2, rfl, hc2⟩ := hns
  have HC := hide hc
  have HC2 := hide hc2
  have HL := hide hlen
  clear hc hc2 hlen
  unfold maxLen at hm
  go_enter Try.func18, Try.ntmps18
  go_wp2_with fail
  go_loopg [7] (ps.length) (fun g i wr => ∃ k : Nat, k + g = ps.length ∧ i = .int .i64 k ∧ (∀ j (hj : j < ps.length), j < k → ps[j] ≠ p) ∧ Below (w.heap.size + 1) (w.alloc (.cells #[.int .i64 4, .string p, .slice none 0 0] 29)) wr)
  case atStart => exact ⟨0, by omega, rfl, fun j _ h => absurd h (by omega), Below.refl _ _⟩
  case round =>
    obtain ⟨k, hkg, rfl, hno, hbel⟩ := hrel
    have HN := hide hno
    have hz := hbel.size
    simp at hz
    have hb1 : wr.cell? ⟨w.heap.size, 1, none⟩ = some (.string p) := by rw [hbel.cell (by simp)]; simp
    have HB := hide hbel
    have hwr : Below w.heap.size w wr := ((Below.refl _ _).alloc (Nat.le_refl _) _).trans (hbel.mono (by omega))
    clear hno hbel
    by_cases hlt : k < ps.length
    · obtain ⟨b, o, rfl, hb, hcell⟩ := HC.out k hlt
      have hlt2 : k < ns.length := by rw [← HL.out]; exact hlt
      obtain ⟨b2, o2, rfl, hb2, hcell2⟩ := HC2.out k hlt2
      have d0 := cell_later hwr hcell
      have d1 := cell_later hwr hcell2
      have HW := hide hwr
      clear hwr hcell hcell2
      by_cases he : ps[k] = p
      · have HE := hide (look_at ps ns p k hlt hlt2 HN.out he)
        have hs := sameStr_pos he
        clear he
        go_wp2_with fail
        go_quiet (fail)
        go_wp2_with fail
        go_ret
        rw [HE.out]
        exact ⟨rfl, below_drewN HW.out _⟩
      · have hs := sameStr_neg he
        have HE := hide he
        clear he
        go_wp2_with fail
        go_quiet (fail)
        go_wp2_with fail
        go_roundg (ps.length - (k + 1))
        case measure => omega
        case rel => exact ⟨k + 1, by omega, by go_num, fun j h hj => if e : j = k then by subst e; exact HE.out else HN.out j h (by omega), below_drewN HB.out _⟩
    · have HE := hide (look_none ps ns p fun j h => HN.out j h (by omega))
      go_wp2_with fail
      go_ret
      rw [HE.out]
      exact ⟨rfl, hwr⟩


set_option maxHeartbeats 1000000 in
theorem rworth_calls (ps : List ByteArray) (ns : List Nat) (pv nv : Value) (B : Nat) (hlen : ps.length = ns.length) (hle : ∀ n ∈ ns, n ≤ 1000000) : ∀ (l : LvB) (v : Value) (w : World),
    l.nodes ≤ 1000000 → B ≤ w.heap.size → InLv w B l v → InStrs w B pv ps → InInts w B nv ns →
    Calls Try.prog 18 #[v, pv, nv] w fun e w' => e = .returned (.int .i64 (l.worth (look ps ns) : Nat)) ∧ Below w.heap.size w w' := by
  have WB := hide (worth_bd fun p => look_le ps ns p hle)
  have HL := hide hlen
  clear hlen hle
  intro l
  induction l with
  | zero =>
    intro v w _ _ hl _ _
    subst hl
    go_enter Try.func18, Try.ntmps18
    go_wp2_with fail
    go_ret
    exact ⟨rfl, (Below.refl _ _).alloc (Nat.le_refl _) _⟩
  | param p =>
    intro v w _ _ hl hps hns
    subst hl
    exact rworth_param p ps ns pv nv B w hps hns HL.out
  | succ a ih =>
    intro v w hn hBw hl hps hns
    obtain ⟨b, cap, x, rfl, hb, ⟨k', nm', A', n', cap', rfl, c0, c1, c2⟩, ha⟩ := hl
    simp only [Lv.nodes] at hn
    have hbs : b < w.heap.size := by omega
    simp only [Nat.zero_add] at c1 c2
    have ha' : a.worth (look ps ns) ≤ 2000000 := WB.out a (by omega)
    have HI : Hid (∀ w', Below w.heap.size w w' → _) := fun w' (hb' : Below w.heap.size w w') => ih _ w' (by omega) (Nat.le_trans hBw hb'.size) (ha.below (hb'.mono hBw)) (hps.below (hb'.mono hBw)) (hns.below (hb'.mono hBw))
    clear ih hps hns ha
    simp only [Lv.worth]
    go_enter Try.func18, Try.ntmps18
    go_wp2_with (go_at_call 18; refine (HI.out _ ?_).mono ?_)
    · exact ((Below.refl _ _).alloc (Nat.le_refl _) _)
    rintro e w' ⟨rfl, hbw⟩
    go_wp2_with fail
    go_ret
    exact ⟨rfl, ((Below.refl _ _).alloc (Nat.le_refl _) _).trans (hbw.mono (by simp))⟩
  | max a c iha ihc =>
    intro v w hn hBw hl hps hns
    obtain ⟨b, cap, x, y, rfl, hb, ⟨k', nm', A', n', cap', rfl, c0, c1, c2⟩, ⟨k2, nm2, A2, n2, cap2, rfl, c3, c4, c5⟩, ha, hc⟩ := hl
    simp only [Lv.nodes] at hn
    have hbs : b < w.heap.size := by omega
    simp only [Nat.zero_add] at c1 c2
    have ha' : a.worth (look ps ns) ≤ 2000000 := WB.out a (by omega)
    have hc' : c.worth (look ps ns) ≤ 2000000 := WB.out c (by omega)
    have HI : Hid (∀ w', Below w.heap.size w w' → _) := fun w' (hb' : Below w.heap.size w w') => iha _ w' (by omega) (Nat.le_trans hBw hb'.size) (ha.below (hb'.mono hBw)) (hps.below (hb'.mono hBw)) (hns.below (hb'.mono hBw))
    have HJ : Hid (∀ w', Below w.heap.size w w' → _) := fun w' (hb' : Below w.heap.size w w') => ihc _ w' (by omega) (Nat.le_trans hBw hb'.size) (hc.below (hb'.mono hBw)) (hps.below (hb'.mono hBw)) (hns.below (hb'.mono hBw))
    clear iha ihc hps hns ha hc
    simp only [Lv.worth]
    generalize a.worth (look ps ns) = wa at *
    generalize c.worth (look ps ns) = wc at *
    go_enter Try.func18, Try.ntmps18
    go_wp2_with (go_at_call 18; refine (HI.out _ ?_).mono ?_)
    · exact ((Below.refl _ _).alloc (Nat.le_refl _) _)
    rintro e w' ⟨rfl, hbw⟩
    have hz := hbw.size
    simp at hz
    have hw1 : Below w.heap.size w w' := ((Below.refl _ _).alloc (Nat.le_refl _) _).trans (hbw.mono (by simp))
    have g0 : w'.cell? ⟨w.heap.size, 0, none⟩ = some (.int .i64 2) := by rw [hbw.cell (by simp)]; simp
    have g2 : w'.cell? ⟨w.heap.size, 2, none⟩ = some (.slice (some ⟨b, 0, none⟩) 2 cap) := by rw [hbw.cell (by simp)]; simp
    simp only [Nat.reduceAdd] at c4 c5
    have d3 := cell_later hw1 c3
    have d4 := cell_later hw1 c4
    have d5 := cell_later hw1 c5
    have HW := hide hw1
    clear c0 c1 c2 c3 c4 c5 hw1 hbw
    go_wp2_with (go_at_call 18; refine (HJ.out _ HW.out).mono ?_)
    rintro e w'' ⟨rfl, hbw⟩
    have hz2 := hbw.size
    have g0' : w''.cell? ⟨w.heap.size, 0, none⟩ = some (.int .i64 2) := by rw [hbw.cell (by simp; omega)]; exact g0
    have HW2 := hide (HW.out.trans (hbw.mono (by omega)))
    clear hbw d3 d4 d5 g0 g2
    by_cases hlt : wa < wc
    all_goals
      go_wp2_with fail
      go_ret
      exact ⟨ret_int (by omega), HW2.out⟩
  | imax a c iha ihc =>
    intro v w hn hBw hl hps hns
    obtain ⟨b, cap, x, y, rfl, hb, ⟨k', nm', A', n', cap', rfl, c0, c1, c2⟩, ⟨k2, nm2, A2, n2, cap2, rfl, c3, c4, c5⟩, ha, hc⟩ := hl
    simp only [Lv.nodes] at hn
    have hbs : b < w.heap.size := by omega
    simp only [Nat.zero_add] at c1 c2
    have ha' : a.worth (look ps ns) ≤ 2000000 := WB.out a (by omega)
    have hc' : c.worth (look ps ns) ≤ 2000000 := WB.out c (by omega)
    have HI : Hid (∀ w', Below w.heap.size w w' → _) := fun w' (hb' : Below w.heap.size w w') => iha _ w' (by omega) (Nat.le_trans hBw hb'.size) (ha.below (hb'.mono hBw)) (hps.below (hb'.mono hBw)) (hns.below (hb'.mono hBw))
    have HJ : Hid (∀ w', Below w.heap.size w w' → _) := fun w' (hb' : Below w.heap.size w w') => ihc _ w' (by omega) (Nat.le_trans hBw hb'.size) (hc.below (hb'.mono hBw)) (hps.below (hb'.mono hBw)) (hns.below (hb'.mono hBw))
    clear iha ihc hps hns ha hc
    simp only [Lv.worth]
    generalize a.worth (look ps ns) = wa at *
    generalize c.worth (look ps ns) = wc at *
    go_enter Try.func18, Try.ntmps18
    go_wp2_with (go_at_call 18; refine (HI.out _ ?_).mono ?_)
    · exact ((Below.refl _ _).alloc (Nat.le_refl _) _)
    rintro e w' ⟨rfl, hbw⟩
    have hz := hbw.size
    simp at hz
    have hw1 : Below w.heap.size w w' := ((Below.refl _ _).alloc (Nat.le_refl _) _).trans (hbw.mono (by simp))
    have g0 : w'.cell? ⟨w.heap.size, 0, none⟩ = some (.int .i64 3) := by rw [hbw.cell (by simp)]; simp
    have g2 : w'.cell? ⟨w.heap.size, 2, none⟩ = some (.slice (some ⟨b, 0, none⟩) 2 cap) := by rw [hbw.cell (by simp)]; simp
    simp only [Nat.reduceAdd] at c4 c5
    have d3 := cell_later hw1 c3
    have d4 := cell_later hw1 c4
    have d5 := cell_later hw1 c5
    have HW := hide hw1
    clear c0 c1 c2 c3 c4 c5 hw1 hbw
    go_wp2_with (go_at_call 18; refine (HJ.out _ HW.out).mono ?_)
    rintro e w'' ⟨rfl, hbw⟩
    have hz2 := hbw.size
    have g0' : w''.cell? ⟨w.heap.size, 0, none⟩ = some (.int .i64 3) := by rw [hbw.cell (by simp; omega)]; exact g0
    have HW2 := hide (HW.out.trans (hbw.mono (by omega)))
    clear hbw d3 d4 d5 g0 g2
    by_cases h0 : wc = 0
    · have hq : ((wc : Int) == 0) = true := by simp [h0]
      have H0 := hide h0
      clear h0
      go_wp2_with fail
      go_ret
      exact ⟨rfl, HW2.out⟩
    · have hq : ((wc : Int) == 0) = false := by simp; omega
      by_cases hlt : wa < wc
      all_goals
        go_wp2_with fail
        go_ret
        exact ⟨ret_int (by first | omega | (rw [if_neg (by omega)]; omega)), HW2.out⟩


end Go.Proofs.Ytdmlflgeihgfcaa
