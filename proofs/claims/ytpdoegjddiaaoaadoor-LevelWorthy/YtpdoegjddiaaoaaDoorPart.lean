/- The contracts of part, and of worth at a parameter. -/
import Derived.Test.YtpdoegjddiaaoaaDoorTools
namespace Go.Proofs.YtpdoegjddiaaoaaDoor
open Go.RowKit

set_option maxHeartbeats 400000 in
theorem part_calls (k k' : Int) (nm nm' : ByteArray) (b n cap i n' cap' : Nat) (A' : Option Addr) (w : World) (hb : b < w.heap.size) (hi : i < n)
   (h0 : w.cell? ⟨b, i * 3, none⟩ = some (.int .i64 k')) (h1 : w.cell? ⟨b, i * 3 + 1, none⟩ = some (.string nm')) (h2 : w.cell? ⟨b, i * 3 + 2, none⟩ = some (.slice A' n' cap')) :
    Calls Tryd.prog 31 #[.agg #[.int .i64 k, .string nm, .slice (some ⟨b, 0, none⟩) n cap], .int .i64 i] w fun e w' => e = .returned (.agg #[.int .i64 k', .string nm', .slice A' n' cap']) ∧ Below w.heap.size w w' := by
  go_enter Tryd.func31, Tryd.ntmps31
  go_wp2
  refine bodyPost_ret (v := .agg #[.int .i64 k', .string nm', .slice A' n' cap']) (by simp [results, Tryd.results31, go_sem]) rfl ⟨rfl, ?_⟩
  repeat' (first | exact Below.refl _ _ | refine Below.setCell ?_ ?_ _ | refine Below.alloc ?_ ?_ _)
  all_goals simp

/-- What a function of a level's parameters answers. -/
structure Numbers (F : FuncId) (C : Array Value) (σ : ByteArray → Nat) (B : Nat) (w : World) : Prop where
  enter : ∀ (args : Array Value) (w' : World), Sem.run Tryd.prog (callFunc F args) w' = .ok (.enter F args) w'
  calls : ∀ (p : ByteArray) (w' : World), p.size ≤ 1000 → Below B w w' → Calls Tryd.prog F (#[.string p] ++ C) w' fun e w'' => e = .returned (.int .i64 (σ p : Nat)) ∧ w'' = w'

theorem Numbers.later {F : FuncId} {C : Array Value} {σ : ByteArray → Nat} {B : Nat} {w w' : World} (h : Numbers F C σ B w) (hb : Below B w w') : Numbers F C σ B w' :=
  ⟨h.enter, fun p w'' hp hb' => h.calls p w'' hp (hb.trans hb')⟩

set_option maxHeartbeats 400000 in
theorem worth_param (F : FuncId) (C : Array Value) (σ : ByteArray → Nat) (p : ByteArray) (B : Nat) (w : World) (hBw : B ≤ w.heap.size) (hp : p.size ≤ 1000) (hn : Numbers F C σ B w) :
    Calls Tryd.prog 16 #[.agg #[.int .i64 4, .string p, .slice none 0 0], .func (.func F) #[] C] w fun e w' => e = .returned (.int .i64 (σ p : Nat)) ∧ Below w.heap.size w w' := by
  have HN := hide hn
  have he := hn.enter
  have HP := hide hp
  clear hn hp
  go_enter Tryd.func16, Tryd.ntmps16
  go_wp2_with fail
  refine (HN.out.calls p _ HP.out (((Below.refl _ _).alloc (Nat.le_refl _) _).mono hBw)).mono ?_
  rintro e w' ⟨rfl, rfl⟩
  go_wp2_with fail
  go_ret
  exact ⟨rfl, (Below.refl _ _).alloc (Nat.le_refl _) _⟩


end Go.Proofs.YtpdoegjddiaaoaaDoor
