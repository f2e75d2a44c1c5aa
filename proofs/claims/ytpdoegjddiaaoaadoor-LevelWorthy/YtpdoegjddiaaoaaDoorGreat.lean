/- The contracts of greatNumber and of the small closures of always, Leq and Same. -/
import Derived.Test.YtpdoegjddiaaoaaDoorWorth
import Derived.Test.YtpdoegjddiaaoaaDoorLater
import Derived.Test.YtpdoegjddiaaoaaDoorMaps
import Derived.Laws.EntriesVeiled
namespace Go.Proofs.YtpdoegjddiaaoaaDoor
open Go.RowKit

set_option maxHeartbeats 400000 in
theorem one_calls (p : ByteArray) (w : World) : Calls Tryd.prog 49 (#[.string p] ++ #[]) w fun e w' => e = .returned (.int .i64 ((1 : Nat) : Int)) ∧ w' = w := by
  show Calls Tryd.prog 49 #[.string p] w _
  go_enter Tryd.func49, Tryd.ntmps49
  go_wp2_with fail
  go_ret
  exact ⟨rfl, rfl⟩

theorem one_numbers (B : Nat) (w : World) : Numbers 49 #[] (fun _ => 1) B w := ⟨fun args w' => by simp [go_sem], fun p w' _ _ => one_calls p w'⟩

set_option maxHeartbeats 1000000 in
theorem great_calls (a b : LvB) (va vb : Value) (B : Nat) (w : World) (hBw : B ≤ w.heap.size) (ha : InLv w B a va) (hb : InLv w B b vb) (na : a.nodes ≤ 1000) (nb : b.nodes ≤ 1000)
    (ma : ∀ p, Lv.has p a → p.size ≤ 1000) (mb : ∀ p, Lv.has p b → p.size ≤ 1000) :
    Calls Tryd.prog 34 #[va, vb] w fun e w' => e = .returned (.int .i64 (a.worth (fun _ => 1) + b.worth (fun _ => 1) + 1 : Nat)) ∧ Below w.heap.size w w' := by
  obtain ⟨A1, cap1, e1⟩ := ha.form
  obtain ⟨A2, cap2, e2⟩ := hb.form
  have wa := worth_bd (σ := fun _ => 1) (fun _ => by omega) a (by omega)
  have wb := worth_bd (σ := fun _ => 1) (fun _ => by omega) b (by omega)
  have Ha : Hid (∀ W, Below w.heap.size w W → _) := fun W (hW : Below w.heap.size w W) => worth_calls 49 #[] (fun _ => 1) B (fun _ => by omega) a va W ma (by omega) (Nat.le_trans hBw hW.size) (ha.below (hW.mono hBw)) (one_numbers B W)
  have Hb : Hid (∀ W, Below w.heap.size w W → _) := fun W (hW : Below w.heap.size w W) => worth_calls 49 #[] (fun _ => 1) B (fun _ => by omega) b vb W mb (by omega) (Nat.le_trans hBw hW.size) (hb.below (hW.mono hBw)) (one_numbers B W)
  subst e1
  subst e2
  clear ha hb ma mb
  generalize a.worth (fun _ => 1) = xa at *
  generalize b.worth (fun _ => 1) = xb at *
  go_enter Tryd.func34, Tryd.ntmps34
  go_wp2_with fail
  have hst := Later.some (w.heap.size + 2) ((w.alloc (.cells #[.int .i64 a.kind, .string a.nm, .slice A1 a.kids.length cap1] 28)).alloc (.cells #[.int .i64 b.kind, .string b.nm, .slice A2 b.kids.length cap2] 28))
  generalize hW0 : ((w.alloc (.cells #[.int .i64 a.kind, .string a.nm, .slice A1 a.kids.length cap1] 28)).alloc (.cells #[.int .i64 b.kind, .string b.nm, .slice A2 b.kids.length cap2] 28)) = W0 at *
  have hsz : W0.heap.size = w.heap.size + 2 := by rw [← hW0]; simp
  have hold : Below w.heap.size w W0 := by rw [← hW0]; exact ((Below.refl _ _).alloc (Nat.le_refl _) _).alloc (by simp) _
  have q0 : ∀ x : Later (w.heap.size + 2) W0, x.W.cell? ⟨w.heap.size, 0, none⟩ = some (.int .i64 a.kind) := fun x => by rw [x.h.cell (by simp), ← hW0]; simp
  have q1 : ∀ x : Later (w.heap.size + 2) W0, x.W.cell? ⟨w.heap.size, 1, none⟩ = some (.string a.nm) := fun x => by rw [x.h.cell (by simp), ← hW0]; simp
  have q2 : ∀ x : Later (w.heap.size + 2) W0, x.W.cell? ⟨w.heap.size, 2, none⟩ = some (.slice A1 a.kids.length cap1) := fun x => by rw [x.h.cell (by simp), ← hW0]; simp
  have q3 : ∀ x : Later (w.heap.size + 2) W0, x.W.cell? ⟨w.heap.size + 1, 0, none⟩ = some (.int .i64 b.kind) := fun x => by rw [x.h.cell (by simp), ← hW0]; simp [World.cell?_alloc_at]
  have q4 : ∀ x : Later (w.heap.size + 2) W0, x.W.cell? ⟨w.heap.size + 1, 1, none⟩ = some (.string b.nm) := fun x => by rw [x.h.cell (by simp), ← hW0]; simp [World.cell?_alloc_at]
  have q5 : ∀ x : Later (w.heap.size + 2) W0, x.W.cell? ⟨w.heap.size + 1, 2, none⟩ = some (.slice A2 b.kids.length cap2) := fun x => by rw [x.h.cell (by simp), ← hW0]; simp [World.cell?_alloc_at]
  have HL := hide (fun W (hW : Below (w.heap.size + 2) W0 W) => Ha.out W (hold.trans (hW.mono (by omega))))
  have HL' := hide (fun W (hW : Below (w.heap.size + 2) W0 W) => Hb.out W (hold.trans (hW.mono (by omega))))
  have HS := hide hsz
  have HO := hide hold
  clear hW0 hsz hold
  refine wp_region_later (by kernel_rfl) (by kernel_rfl) (Below.refl (w.heap.size + 2) W0) ?_
  have hn2 : w.heap.size + 2 ≤ W0.heap.size := by rw [HS.out]; exact Nat.le_refl _
  quiet_step (fail)
  quiet_step (fail)
  quiet_step (exact Later.calls HL.out hn2 _)
  quiet_step (fail)
  quiet_step (fail)
  quiet_step (exact Later.calls HL'.out hn2 _)
  quiet_step (fail)
  quiet_step (fail)
  quiet_step (fail)
  refine wpQuiet_nil ?_
  intro _ hw'
  obtain ⟨x, rfl⟩ := hw'
  go_wp2_with fail
  go_ret
  refine ⟨ret_int ?_, HO.out.trans (x.h.mono (by omega))⟩
  rw [IntWalk.i64_in ((xa : Int) + xb) (by omega), IntWalk.i64_in _ (by omega)]
  omega

set_option maxHeartbeats 1000000 in
theorem number_calls (p : ByteArray) (c m n : Nat) (f : ByteArray → Nat) (S : ByteArray → Bool) (w : World) (hp : p.size ≤ 1000) (hc : w.cell? ⟨c, 0, none⟩ = some (.map (some m))) (hm : MapIs w m n f S) :
    Calls Tryd.prog 35 (#[.string p] ++ #[.pointer (some ⟨c, 0, none⟩)]) w fun e w' => e = .returned (.int .i64 (f p : Nat)) ∧ w' = w := by
  show Calls Tryd.prog 35 #[.string p, .pointer (some ⟨c, 0, none⟩)] w _
  have HM := hide hm
  clear hm
  have hpm : p.size ≤ maxLen := by unfold maxLen; omega
  go_enter Tryd.func35, Tryd.ntmps35
  go_wp2_with (at_lookup; refine wpList_look rfl _ _ rfl rfl HM.out p rfl hpm ?_)
  go_ret
  exact ⟨rfl, rfl⟩

theorem number_numbers (c m n B : Nat) (f : ByteArray → Nat) (S : ByteArray → Bool) (w : World) (hc : w.cell? ⟨c, 0, none⟩ = some (.map (some m))) (hm : MapIs w m n f S) (hcB : c < B) (hmB : m < B) : Numbers 35 #[.pointer (some ⟨c, 0, none⟩)] f B w :=
  ⟨fun args w' => by simp [go_sem], fun p w' hp hb => number_calls p c m n f S w' hp (by rw [hb.cell hcB]; exact hc) (hm.below hb hmB)⟩

set_option maxHeartbeats 1000000 in
theorem leq1_calls (x y : Nat) (w : World) : Calls Tryd.prog 20 #[.int .i64 (x : Nat), .int .i64 (y : Nat)] w fun e w' => e = .returned (.bool (decide (x ≤ y))) ∧ w' = w := by
  go_enter Tryd.func20, Tryd.ntmps20
  go_wp2_with fail
  go_ret
  exact ⟨ret_bool (by simp), rfl⟩

set_option maxHeartbeats 1000000 in
theorem same1_calls (x y : Nat) (w : World) : Calls Tryd.prog 21 #[.int .i64 (x : Nat), .int .i64 (y : Nat)] w fun e w' => e = .returned (.bool (decide (x = y))) ∧ w' = w := by
  go_enter Tryd.func21, Tryd.ntmps21
  go_wp2_with fail
  go_ret
  exact ⟨ret_bool (by rw [Bool.eq_iff_iff]; simp; omega), rfl⟩

end Go.Proofs.YtpdoegjddiaaoaaDoor
