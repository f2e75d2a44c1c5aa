/- The contract of gates, as a whole. -/
import Derived.Test.YtpdoegjddiaaoaaDoorGates
import Derived.Laws.EntriesVeiled
namespace Go.Proofs.YtpdoegjddiaaoaaDoor
open Go.RowKit Go.Maps

set_option maxHeartbeats 1000000 in
theorem gates_calls (l : LvB) (v : Value) (B : Nat) (w : World) (hBw : B ≤ w.heap.size) (hl : InLv w B l v) (hnm : ∀ p, Lv.has p l → p.size ≤ 1000) (hn : l.nodes ≤ 900000) :
    Calls Tryd.prog 33 #[v] w fun e w' => ∃ m S, e = .returned (.map (some m)) ∧ w.heap.size ≤ m ∧ MapIs w' m l.nodes (fun q => Lv.gcount q false l) S ∧ Below w.heap.size w w' := by
  obtain ⟨A, cap, e⟩ := hl.form
  have HL := hide hl
  subst e
  have HI : Hid (∀ W m cc ck, Below w.heap.size w W → w.heap.size ≤ m → W.cell? ⟨cc, 0, none⟩ = some (.map (some m)) → W.cell? ⟨ck, 0, none⟩ = some (.func (.func 48) #[] #[.pointer (some ⟨cc, 0, none⟩), .pointer (some ⟨ck, 0, none⟩)]) → cc ≠ m → ck ≠ m → MapIs W m 0 (fun _ => 0) (fun _ => false) → _) :=
    fun W m cc ck (hW : Below w.heap.size w W) (hm : w.heap.size ≤ m) h1 h2 h3 h4 h5 => gates_walk l.nodes l _ false _ _ m cc ck 0 B W (Nat.le_refl _) hnm (by omega) (fun _ => by omega) (hl.below (hW.mono hBw)) (by omega) h1 h2 h3 h4 h5
  clear hl hnm
  have hmm := @run_makeMap Tryd.prog
  go_enter Tryd.func33, Tryd.ntmps33
  go_wp2_with (go_at_call 48; refine (HI.out _ (w.heap.size + 1) (w.heap.size + 1 + 1) (w.heap.size + 1 + 1 + 1) ?_ ?_ ?_ ?_ ?_ ?_ ?_).mono ?_)
  · repeat' (first | exact Below.refl _ _ | refine Below.setCell ?_ ?_ _ | refine Below.alloc ?_ ?_ _)
    all_goals (simp; try omega)
  · omega
  · simp [World.cell?_alloc_at, World.cell?_alloc_past]
  · simp [World.cell?_alloc_at]
  · omega
  · omega
  · have := ((MapIs.made (w.alloc (.cells #[.int .i64 l.kind, .string l.nm, .slice A l.kids.length cap] 28))).alloc (.cells #[Value.map (some (w.heap.size + 1))] 71))
    simp at this
    exact this.alloc _
  rintro e w' ⟨rfl, ⟨S', hm⟩, ht⟩
  have hc : w'.cell? ⟨w.heap.size + 1 + 1, 0, none⟩ = some (.map (some (w.heap.size + 1))) := by
    rw [ht.cell (by simp) (by simp)]
    simp [World.cell?_alloc_at, World.cell?_alloc_past]
  have HM := hide hm
  have HB : Hid (Below w.heap.size w w') := by
    refine Below.trans (b := _) ?_ (ht.below (B := w.heap.size) (by simp; omega) (by omega))
    repeat' (first | exact Below.refl _ _ | refine Below.setCell ?_ ?_ _ | refine Below.alloc ?_ ?_ _)
    all_goals (simp; try omega)
  clear hm ht
  go_wp2_with fail
  go_ret
  exact ⟨w.heap.size + 1, S', rfl, by omega, (HM.out.mono (by omega)).congr (fun q => by simp) fun _ => rfl, HB.out⟩

end Go.Proofs.YtpdoegjddiaaoaaDoor
