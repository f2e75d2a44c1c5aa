/- Terms in boxes; what is small; the law's few own functions. -/
import Derived.Test.YteepmfhpjanbhaaGreatDoorPrintT
import Derived.Test.YteepmfhpjanbhaaGreatDoorSpine
import Derived.Test.YteepmfhpjanbhaaGreatDoorMuch
import Derived.Test.YteepmfhpjanbhaaGreatDoorPClosed
import Derived.Test.YteepmfhpjanbhaaGreatDoorHasB
import Derived.Test.YteepmfhpjanbhaaGreatDoorMoves
import Derived.Test.YteepmfhpjanbhaaGreatDoorTParse

namespace Go.Proofs.YteepmfhpjanbhaaGreatDoor
open Go.RowKit

/-- A term lies in a variable. -/
structure TB5 (W : World) (n d : Nat) (t : Tm) (x : T5) : Prop where
  lies : Lies5 W n 0 x
  inn : InTm W (fun _ => True) d t (.agg #[.int .i64 x.k, .int .i64 x.n, .string x.nm, .slice x.A x.la x.lc, .slice x.A' x.ta x.tc])
theorem TB5.lt {W : World} {n d : Nat} {t : Tm} {x : T5} (h : TB5 W n d t x) : n < W.heap.size := World.block_lt_of_cell? _ _ h.lies.c0
theorem TB5.later {W W' : World} {n d : Nat} {t : Tm} {x : T5} (h : TB5 W n d t x) (hb : Below W.heap.size W W') : TB5 W' n d t x :=
  ⟨⟨cell_later hb h.lies.c0, cell_later hb h.lies.c1, cell_later hb h.lies.c2, cell_later hb h.lies.c3, cell_later hb h.lies.c4⟩, h.inn.keep fun b hb' _ => ⟨trivial, hb.block b hb'⟩⟩
theorem TB5.new {W : World} {S : Nat → Prop} {d : Nat} {t : Tm} {k n : Int} {nm : ByteArray} {A : Option Addr} {la lc : Nat} {A' : Option Addr} {ta tc : Nat} (h : InTm W S d t (.agg #[.int .i64 k, .int .i64 n, .string nm, .slice A la lc, .slice A' ta tc])) :
    TB5 (W.alloc (.cells #[.int .i64 k, .int .i64 n, .string nm, .slice A la lc, .slice A' ta tc] 30)) W.heap.size d t ⟨k, n, nm, A, la, lc, A', ta, tc⟩ := by
  refine ⟨⟨?_, ?_, ?_, ?_, ?_⟩, h.keep fun b hb _ => ⟨trivial, Below.heap_alloc _ _ _ hb⟩⟩ <;> simp [World.cell?_alloc_at]
theorem TB5.alloc {W : World} {n d : Nat} {t : Tm} {x : T5} (h : TB5 W n d t x) (o : Obj) : TB5 (W.alloc o) n d t x := h.later ((Below.refl _ _).alloc (Nat.le_refl _) _)

theorem headT_wf : ∀ {d : Nat} {t : Tm}, WfT d t → WfT d (headT d t)
  | 0, _, h => absurd h (by simp [WfT])
  | d + 1, t, h => by
    by_cases hk : t.kd = 3
    · rw [(spine_step hk).1]
      have h2 : t.ts.length = 2 := by rw [h.2.2.2.2.2.2.2.1, hk]; rfl
      rw [Tm.ch_eq (by omega)]
      exact (headT_wf (h.2.2.2.2.2.2.2.2.2 0 (by omega))).mono (by omega)
    · rw [(spine_end hk).1]; exact h
theorem backT_wf : ∀ {d : Nat} {t : Tm}, WfT d t → ∀ x ∈ backT d t, WfT d x
  | 0, _, h, _, _ => absurd h (by simp [WfT])
  | d + 1, t, h, x, hx => by
    by_cases hk : t.kd = 3
    · have h2 : t.ts.length = 2 := by rw [h.2.2.2.2.2.2.2.1, hk]; rfl
      rw [(spine_step hk).2] at hx
      rcases List.mem_cons.1 hx with rfl | hx
      · rw [Tm.ch_eq (by omega)]; exact (h.2.2.2.2.2.2.2.2.2 1 (by omega)).mono (by omega)
      · rw [Tm.ch_eq (by omega)] at hx
        exact (backT_wf (h.2.2.2.2.2.2.2.2.2 0 (by omega)) x hx).mono (by omega)
    · rw [(spine_end hk).2] at hx; exact absurd hx (by simp)

theorem appT_small {d : Nat} {f a : Tm} (hf : SmallT d f) (ha : SmallT d a) : SmallT (d + 1) (appT f a) :=
  ⟨by show 3 ≤ 6; omega, by show 0 ≤ _; omega, by show 0 ≤ _; omega, by show 2 ≤ 3; omega, fun i hi => by
    match i, hi with
    | 0, _ => exact hf
    | 1, _ => exact ha
    | i + 2, hi => exact absurd hi (by show ¬ i + 2 < 2; omega)⟩
theorem applyT_small {d : Nat} : ∀ {xs : List Tm} {f : Tm} {e : Nat}, SmallT e f → d ≤ e → (∀ x ∈ xs, SmallT d x) → SmallT (e + xs.length) (applyT f xs)
  | [], _, _, hf, _, _ => hf
  | x :: xs, f, e, hf, hde, hx => by
    have := applyT_small (xs := xs) (f := appT f x) (e := e + 1) (appT_small hf ((hx x (by simp)).mono hde)) (by omega) fun y hy => hx y (by simp [hy])
    have e1 : e + (x :: xs).length = e + 1 + xs.length := by simp only [List.length_cons]; omega
    rw [e1]
    exact this

theorem lift_small {n f0 D : Nat} {t : Tm} (hn : n ≤ 1000) (hD : D ≤ 20000) (h : WfT D t) : SmallT (D + 1) (chT (liftF n f0) id D 0 t) :=
  chT_small (fun m b hm hb => tvar_small (by split <;> omega)) (by omega) h (by omega)
theorem lift_small' {n D : Nat} {t : Tm} (hn : n ≤ 1000000) (hD : D ≤ 20000) (h : WfT D t) : SmallT (D + 1) (chT (liftF n 0) id D 0 t) :=
  chT_small (fun m b hm hb => tvar_small (by split <;> omega)) (by omega) h (by omega)
theorem subst_small {D : Nat} {t u : Tm} (hD : D ≤ 20000) (h : WfT D t) (hu : WfT D u) : SmallT (D + (D + 1)) (chT (substF u D) id D 0 t) := by
  refine chT_small (fun m b hm hb => ?_) (by omega) h (by omega)
  unfold substF
  split
  · exact lift_small' hb hD hu
  · exact (tvar_small (by omega)).mono (by omega)
theorem levels_small {D : Nat} {t : Tm} {g : LvB → LvB} (hD : D ≤ 20000) (h : WfT D t) : SmallT (D + 1) (chT idF g D 0 t) :=
  chT_small (fun m b hm hb => tvar_small (by omega)) (by omega) h (by omega)

theorem tparse_calls (s : ByteArray) (wb wo wc : Nat) (w : World) (hm : s.size ≤ maxLen) (hw : WordsAt w wb wo wc) : Calls Tryz.prog 5 #[.string s] w fun e w' => TParsed w s e w' := by
  by_cases h : s.size ≤ 20000
  · exact tparse_short s wb wo wc w h hw
  · exact tparse_long s w (by omega) hm
theorem lparse_calls (s : ByteArray) (w : World) (hm : s.size ≤ maxLen) : Calls Tryz.prog 20 #[.string s] w fun e w' => Parsed w s e w' := by
  by_cases h : s.size ≤ 20000
  · exact parse_short s w h
  · exact parse_long s w (by omega) hm

end Go.Proofs.YteepmfhpjanbhaaGreatDoor
