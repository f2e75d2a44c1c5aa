/- The contract of the document's Same. -/
import Derived.Test.YtdmlflgeihgfcaaRefLeq
import Derived.Test.YtdmlflgeihgfcaaLevelOrder
namespace Go.Proofs.Ytdmlflgeihgfcaa
open Go.RowKit

set_option maxHeartbeats 1000000 in
theorem rsame_calls (a b : LvB) (va vb : Value) (B : Nat) (w : World) (hBw : B ≤ w.heap.size) (ha : InLv w B a va) (hb : InLv w B b vb) (na : a.nodes ≤ 1000) (nb : b.nodes ≤ 1000) (hlen : (a.addP (b.addP [])).length ≤ 6) :
    Calls Try.prog 10 #[va, vb] w fun e w' => e = .returned (.bool (sameB a b)) ∧ Below w.heap.size w w' := by
  obtain ⟨A1, cap1, e1⟩ := ha.form
  obtain ⟨A2, cap2, e2⟩ := hb.form
  have h1 := addP_comm_len a b
  have HP := hide (fun W (hW : Box2 w (.int .i64 a.kind) (.string a.nm) (.slice A1 a.kids.length cap1) (.int .i64 b.kind) (.string b.nm) (.slice A2 b.kids.length cap2) W) => rleq_calls a b va vb B W (Nat.le_trans hBw hW.old.size) (ha.below (hW.old.mono hBw)) (hb.below (hW.old.mono hBw)) na nb (by omega))
  have HQ := hide (fun W (hW : Box2 w (.int .i64 a.kind) (.string a.nm) (.slice A1 a.kids.length cap1) (.int .i64 b.kind) (.string b.nm) (.slice A2 b.kids.length cap2) W) => rleq_calls b a vb va B W (Nat.le_trans hBw hW.old.size) (hb.below (hW.old.mono hBw)) (ha.below (hW.old.mono hBw)) nb na (by omega))
  have HS : Hid (sameB a b = (leB a b && leB b a)) := rfl
  subst e1
  subst e2
  clear ha hb
  go_enter Try.func10, Try.ntmps10
  go_wp2_with (go_at_call 9; refine (HP.out _ ?_).mono ?_)
  · exact Box2.start _ _ _ _ _ _ _
  rintro e w1 ⟨rfl, hb1⟩
  have hB1 := (Box2.start w (.int .i64 a.kind) (.string a.nm) (.slice A1 a.kids.length cap1) (.int .i64 b.kind) (.string b.nm) (.slice A2 b.kids.length cap2)).then (by simp) hb1
  obtain ⟨x0, x1, x2⟩ := hB1.cellsA
  obtain ⟨y0, y1, y2⟩ := hB1.cellsB
  have HB1 := hide hB1
  clear hb1 hB1
  go_wp2_with (go_at_call 9; refine (HQ.out _ HB1.out).mono ?_)
  rintro e w2 ⟨rfl, hb2⟩
  have HB2 := hide (HB1.out.old.trans (hb2.mono (by have := HB1.out.size; omega)))
  clear hb2 x0 x1 x2 y0 y1 y2
  cases hA : leB a b with
  | true =>
    go_wp2_with fail
    go_ret
    refine ⟨?_, HB2.out⟩
    rw [HS.out, hA]
    simp
  | false =>
    go_wp2_with fail
    go_ret
    refine ⟨?_, HB2.out⟩
    rw [HS.out, hA]
    rfl

end Go.Proofs.Ytdmlflgeihgfcaa
