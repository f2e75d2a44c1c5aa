/- The contract of Closed of package term. -/
import Derived.Test.YtafdlaaohglfdaaGreatDoorUnder
import Derived.Test.YtafdlaaohglfdaaGreatDoorKin
import Derived.Laws.EntriesVeiled
import Derived.Test.YtafdlaaohglfdaaGreatDoorPrintT
import Derived.Test.YtafdlaaohglfdaaGreatDoorSpine
import Derived.Test.YtafdlaaohglfdaaGreatDoorMuch
import Derived.Test.YtafdlaaohglfdaaGreatDoorRLevels
import Derived.Test.YtafdlaaohglfdaaGreatDoorTParse

namespace Go.Proofs.YtafdlaaohglfdaaGreatDoor
open Go.RowKit

set_option maxRecDepth 100000 in
set_option maxHeartbeats 4000000 in
theorem closedUnder_calls (n : Nat) (hn : n ≤ 1000000) : ∀ (d : Nat) (t : Tm) (v : Value) (b : Nat) (S : Nat → Prop) (w : World), WfT d t → b + d ≤ 1000000 → InTm w S d t v →
    Calls Tryz.prog 31 #[v, .int .i64 (n : Nat), .int .i64 (b : Nat)] w fun e w' => e = .returned (.bool (closedT d (n + b) t)) ∧ Below w.heap.size w w'
  | 0, _, _, _, _, _, h, _, _ => absurd h (by simp [WfT])
  | d + 1, t, v, b, S, w, hwf, hb, hin => by
    have ih := closedUnder_calls n hn d
    obtain ⟨A, c, A', c', rfl, -, ht⟩ := hin
    obtain ⟨a1, a2, a3, a4, a5, a6, a7, a8, a9, a10⟩ := hwf
    have h3 : t.ts.length ≤ 3 := by rw [a8]; exact tparts_le _
    have IH := hide ih
    have HT := hide ht
    have HW := hide a10
    clear ih ht a10 a3 a4 a5 a8 a9
    by_cases hk : t.kd = 0
    · have q0 : ((t.kd : Int) == 0) = true := by simp [hk]
      have hc : closedT (d + 1) (n + b) t = decide (t.n < n + b) := by simp [closedT, hk]
      rw [hc]
      clear hk hc
      by_cases h1 : t.n < b
      · have q1 : decide ((t.n : Int) < (b : Int)) = true := by simp; omega
        go_enter Tryz.func31, Tryz.ntmps31
        go_wp2_with fail
        go_ret
        exact ⟨ret_bool (by symm; simp; omega), (Below.refl _ _).alloc (Nat.le_refl _) _⟩
      · have q1 : decide ((t.n : Int) < (b : Int)) = false := by simp; omega
        go_enter Tryz.func31, Tryz.ntmps31
        go_wp2_with fail
        go_ret
        exact ⟨ret_bool (by rw [Bool.eq_iff_iff]; simp; omega), (Below.refl _ _).alloc (Nat.le_refl _) _⟩
    · have q0 : ((t.kd : Int) == 0) = false := by simp; omega
      have hc : closedT (d + 1) (n + b) t = allB (fun i => closedT d (n + b + t.bnd i) (t.ch i)) t.ts.length := by simp only [closedT, if_neg hk]
      rw [hc]
      clear hk hc
      go_enter Tryz.func31, Tryz.ntmps31
      go_wp2_with fail
      go_loopg [27] (t.ts.length) (fun gg i wr => ∃ (k : Nat), k + gg = t.ts.length ∧ i = .int .i64 k ∧ (∀ j, j < k → closedT d (n + b + t.bnd j) (t.ch j) = true) ∧ Box5 w (.int .i64 (t.kd : Nat)) (.int .i64 (t.n : Nat)) (.string t.nm) (.slice A t.ls.length c) (.slice A' t.ts.length c') wr)
      case atStart => exact ⟨0, by omega, rfl, fun j h => absurd h (by omega), Below.refl _ _⟩
      case round =>
        obtain ⟨k, hkg, rfl, hall, hbel⟩ := hrel
        obtain ⟨g0, g1, g2, g3, g4⟩ := Box5.cells hbel
        have hz := Box5.size hbel
        by_cases hlt : k < t.ts.length
        · obtain ⟨b1, x, rfl, hb1, h5, hinx⟩ := HT.out k hlt
          obtain ⟨kk, nn, nm', A3, n', cap', A5, n5, cap5, rfl, c0, c1, c2, c3, c4⟩ := h5
          have hbk := t.bnd_le k
          have hold := Box5.old hbel
          have d0 := cell_later hold c0
          have d1 := cell_later hold c1
          have d2 := cell_later hold c2
          have d3 := cell_later hold c3
          have d4 := cell_later hold c4
          have hbW : Below wr.heap.size wr (wr.alloc (.cells #[.int .i64 kk, .int .i64 nn, .string nm', .slice A3 n' cap', .slice A5 n5 cap5] 29)) := (Below.refl _ _).alloc (Nat.le_refl _) _
          have hW := Box5.then hbel hbW
          have IHk : Hid (∀ W, Below (wr.heap.size + 1) (wr.alloc (.cells #[.int .i64 kk, .int .i64 nn, .string nm', .slice A3 n' cap', .slice A5 n5 cap5] 29)) W → Calls Tryz.prog 31 #[.agg #[.int .i64 kk, .int .i64 nn, .string nm', .slice A3 n' cap', .slice A5 n5 cap5], .int .i64 (n : Nat), .int .i64 ((b : Int) + ((t.bnd k : Nat) : Int))] W fun e w' => e = .returned (.bool (closedT d (n + b + t.bnd k) (t.ch k))) ∧ Below W.heap.size W w') := fun W hW' => by
            have h8 := hold.trans ((hbW.trans (hW'.mono (by omega))).mono hold.size)
            have := IH.out t.ts[k] _ (b + t.bnd k) (fun _ => True) W (HW.out k hlt) (by omega) (hinx.keep fun b hb _ => ⟨trivial, h8.block b hb⟩)
            rw [Int.natCast_add] at this
            rw [Tm.ch_eq hlt, Nat.add_assoc]
            exact this
          have KB : Hid (∀ W, Below (wr.heap.size + 1) (wr.alloc (.cells #[.int .i64 kk, .int .i64 nn, .string nm', .slice A3 n' cap', .slice A5 n5 cap5] 29)) W → Calls Tryz.prog 49 #[.pointer (some ⟨w.heap.size, 0, none⟩), .int .i64 (k : Nat)] W fun e w' => e = .returned (.int .i64 (t.bnd k : Nat)) ∧ Below W.heap.size W w') := fun W hW' =>
            (binders_calls t k w.heap.size (some ⟨b1, 0, none⟩) c' W h3 a1 (Box5.cells (hW.trans (hW'.mono (by omega)))).1 (Box5.cells (hW.trans (hW'.mono (by omega)))).2.2.2.2).mono fun _ _ ⟨he, hw⟩ => ⟨he, by rw [hw]; exact Below.refl _ _⟩
          have HA := hide hall
          have HBel := hide hW
          have hsm : IntKind.i64.wrap ((b : Int) + ((t.bnd k : Nat) : Int)) = (b : Int) + ((t.bnd k : Nat) : Int) := by rw [IntKind.wrap_i64]; omega
          clear hall hbel hinx c0 c1 c2 c3 c4 hold hbW hW
          go_wp2_with fail
          generalize hWe : wr.alloc (.cells #[.int .i64 kk, .int .i64 nn, .string nm', .slice A3 n' cap', .slice A5 n5 cap5] 29) = W at *
          have hzW : W.heap.size = wr.heap.size + 1 := by rw [← hWe]; simp
          have p0 : ∀ x : Later (wr.heap.size + 1) W, x.W.cell? ⟨wr.heap.size, 0, none⟩ = some (.int .i64 kk) := fun x => by rw [x.h.cell (by simp), ← hWe]; simp
          have p1 : ∀ x : Later (wr.heap.size + 1) W, x.W.cell? ⟨wr.heap.size, 1, none⟩ = some (.int .i64 nn) := fun x => by rw [x.h.cell (by simp), ← hWe]; simp
          have p2 : ∀ x : Later (wr.heap.size + 1) W, x.W.cell? ⟨wr.heap.size, 2, none⟩ = some (.string nm') := fun x => by rw [x.h.cell (by simp), ← hWe]; simp
          have p3 : ∀ x : Later (wr.heap.size + 1) W, x.W.cell? ⟨wr.heap.size, 3, none⟩ = some (.slice A3 n' cap') := fun x => by rw [x.h.cell (by simp), ← hWe]; simp
          have p4 : ∀ x : Later (wr.heap.size + 1) W, x.W.cell? ⟨wr.heap.size, 4, none⟩ = some (.slice A5 n5 cap5) := fun x => by rw [x.h.cell (by simp), ← hWe]; simp
          clear hWe d0 d1 d2 d3 d4 g0 g1 g2 g3 g4
          refine wp_region_later (by kernel_rfl) (by kernel_rfl) (Below.refl (wr.heap.size + 1) W) ?_
          have hst := Later.some (wr.heap.size + 1) W
          have hn2 : wr.heap.size + 1 ≤ W.heap.size := by omega
          quiet_step (fail)
          quiet_step (fail)
          quiet_step (fail)
          quiet_step (fail)
          quiet_step (exact Later.calls KB.out hn2 _)
          quiet_step (fail)
          quiet_step (exact Later.calls IHk.out hn2 _)
          quiet_step (fail)
          refine wpQuiet_nil ?_
          intro _ hw'
          obtain ⟨x, rfl⟩ := hw'
          have HB5 := hide (HBel.out.trans (x.h.mono (by omega)))
          cases hr : closedT d (n + b + t.bnd k) (t.ch k) with
          | true =>
            have HR := hide hr
            clear hr
            go_wp2_with fail
            go_roundg (t.ts.length - (k + 1))
            case measure => omega
            case rel => exact ⟨k + 1, by omega, by go_num, fun j hj => if e : j = k then by subst e; exact HR.out else HA.out j (by omega), HB5.out⟩
          | false =>
            have HR := hide (allB_false (p := fun i => closedT d (n + b + t.bnd i) (t.ch i)) hlt hr)
            clear hr
            go_wp2_with fail
            go_ret
            exact ⟨ret_bool HR.out.symm, Box5.old HB5.out⟩
        · have HR := hide (allB_true (p := fun i => closedT d (n + b + t.bnd i) (t.ch i)) (n := t.ts.length) fun j hj => hall j (by omega))
          have HB5 := hide hbel
          clear hall hbel
          go_wp2_with fail
          go_ret
          exact ⟨ret_bool HR.out.symm, Box5.old HB5.out⟩

set_option maxRecDepth 100000 in
set_option maxHeartbeats 1000000 in
theorem closed_calls (n : Nat) (hn : n ≤ 1000000) (d : Nat) (t : Tm) (v : Value) (S : Nat → Prop) (w : World) (hwf : WfT d t) (hd : d ≤ 1000000) (hin : InTm w S d t v) :
    Calls Tryz.prog 14 #[v, .int .i64 (n : Nat)] w fun e w' => e = .returned (.bool (closedT d n t)) ∧ Below w.heap.size w w' := by
  obtain ⟨k, nn, nm, A, la, lc, A', ta, tc, rfl⟩ := hin.form
  have hold : Below w.heap.size w (w.alloc (.cells #[.int .i64 k, .int .i64 nn, .string nm, .slice A la lc, .slice A' ta tc] 29)) := (Below.refl _ _).alloc (Nat.le_refl _) _
  have HC := hide (closedUnder_calls n hn d t _ 0 (fun _ => True) _ hwf (by omega) (hin.keep fun b hb _ => ⟨trivial, hold.block b hb⟩))
  have HO := hide hold
  clear hin hold
  go_enter Tryz.func14, Tryz.ntmps14
  go_wp2_with (go_at_call 31; refine HC.out.mono ?_)
  rintro e w1 ⟨rfl, hb⟩
  have HB := hide (HO.out.trans (hb.mono HO.out.size))
  clear hb
  go_wp2_with fail
  go_ret
  exact ⟨rfl, HB.out⟩
end Go.Proofs.YtafdlaaohglfdaaGreatDoor

/- The contracts of Has: the document's and the program's. -/
namespace Go.Proofs.YtafdlaaohglfdaaGreatDoor
open Go.RowKit

def anyB (p : Nat → Bool) (n : Nat) : Bool := (List.range n).any p
theorem anyB_false {p : Nat → Bool} {n : Nat} (h : ∀ j, j < n → p j = false) : anyB p n = false := by
  unfold anyB; rw [List.any_eq_false]; intro x hx; rw [h x (List.mem_range.1 hx)]; simp
theorem anyB_true {p : Nat → Bool} {n k : Nat} (hk : k < n) (h : p k = true) : anyB p n = true := by
  unfold anyB; rw [List.any_eq_true]; exact ⟨k, List.mem_range.2 hk, h⟩

/-- Does a constant of that name stand in it? -/
def hasT (q : ByteArray) : Nat → Tm → Bool
  | 0, _ => false
  | d + 1, t => (decide (t.kd = 2) && decide (t.nm = q)) || anyB (fun i => hasT q d (t.ch i)) t.ts.length

/-- What a function tells of the terms of a list. -/
structure Asks (F : FuncId) (C : Array Value) (d : Nat) (ts : List Tm) (p : Nat → Bool) (D : Nat) (w : World) : Prop where
  enter : ∀ (args : Array Value) (w' : World), Sem.run Tryz.prog (callFunc F args) w' = .ok (.enter F args) w'
  calls : ∀ (i : Nat) (hi : i < ts.length) (v : Value) (w' : World), InTm w' (fun _ => True) d ts[i] v → D ≤ w'.heap.size → Below D w w' → Calls Tryz.prog F (#[v] ++ C) w' fun e w'' => e = .returned (.bool (p i)) ∧ Below w'.heap.size w' w''

end Go.Proofs.YtafdlaaohglfdaaGreatDoor

/- The contract of Has of package term. -/
namespace Go.Proofs.YtafdlaaohglfdaaGreatDoor
open Go.RowKit

end Go.Proofs.YtafdlaaohglfdaaGreatDoor

/- Terms in boxes; what is small; the law's few own functions. -/
namespace Go.Proofs.YtafdlaaohglfdaaGreatDoor
open Go.RowKit

/-- A term lies in a variable. -/
structure TB5 (W : World) (n d : Nat) (t : Tm) (x : T5) : Prop where
  lies : Lies5 W n 0 x
  inn : InTm W (fun _ => True) d t (.agg #[.int .i64 x.k, .int .i64 x.n, .string x.nm, .slice x.A x.la x.lc, .slice x.A' x.ta x.tc])
theorem TB5.lt {W : World} {n d : Nat} {t : Tm} {x : T5} (h : TB5 W n d t x) : n < W.heap.size := World.block_lt_of_cell? _ _ h.lies.c0
theorem TB5.later {W W' : World} {n d : Nat} {t : Tm} {x : T5} (h : TB5 W n d t x) (hb : Below W.heap.size W W') : TB5 W' n d t x :=
  ⟨⟨cell_later hb h.lies.c0, cell_later hb h.lies.c1, cell_later hb h.lies.c2, cell_later hb h.lies.c3, cell_later hb h.lies.c4⟩, h.inn.keep fun b hb' _ => ⟨trivial, hb.block b hb'⟩⟩
theorem TB5.new {W : World} {S : Nat → Prop} {d : Nat} {t : Tm} {k n : Int} {nm : ByteArray} {A : Option Addr} {la lc : Nat} {A' : Option Addr} {ta tc : Nat} (h : InTm W S d t (.agg #[.int .i64 k, .int .i64 n, .string nm, .slice A la lc, .slice A' ta tc])) :
    TB5 (W.alloc (.cells #[.int .i64 k, .int .i64 n, .string nm, .slice A la lc, .slice A' ta tc] 29)) W.heap.size d t ⟨k, n, nm, A, la, lc, A', ta, tc⟩ := by
  refine ⟨⟨?_, ?_, ?_, ?_, ?_⟩, h.keep fun b hb _ => ⟨trivial, Below.heap_alloc _ _ _ hb⟩⟩ <;> simp [World.cell?_alloc_at]
theorem TB5.alloc {W : World} {n d : Nat} {t : Tm} {x : T5} (h : TB5 W n d t x) (o : Obj) : TB5 (W.alloc o) n d t x := h.later ((Below.refl _ _).alloc (Nat.le_refl _) _)

theorem headT_wf : ∀ {d : Nat} {t : Tm}, WfT d t → WfT d (headT d t)
  | 0, _, h => absurd h (by simp [WfT])
  | d + 1, t, h => by
    by_cases hk : t.kd = 3
    · rw [(spine_step hk).1]
      have h2 : t.ts.length = 2 := by rw [h.2.2.2.2.2.2.2.1, hk]; rfl
      rw [Tm.ch_eq (by omega)]
      exact (headT_wf (h.2.2.2.2.2.2.2.2.2 0 (by omega))).mono (by omega)
    · rw [(spine_end hk).1]; exact h
theorem backT_wf : ∀ {d : Nat} {t : Tm}, WfT d t → ∀ x ∈ backT d t, WfT d x
  | 0, _, h, _, _ => absurd h (by simp [WfT])
  | d + 1, t, h, x, hx => by
    by_cases hk : t.kd = 3
    · have h2 : t.ts.length = 2 := by rw [h.2.2.2.2.2.2.2.1, hk]; rfl
      rw [(spine_step hk).2] at hx
      rcases List.mem_cons.1 hx with rfl | hx
      · rw [Tm.ch_eq (by omega)]; exact (h.2.2.2.2.2.2.2.2.2 1 (by omega)).mono (by omega)
      · rw [Tm.ch_eq (by omega)] at hx
        exact (backT_wf (h.2.2.2.2.2.2.2.2.2 0 (by omega)) x hx).mono (by omega)
    · rw [(spine_end hk).2] at hx; exact absurd hx (by simp)

theorem appT_small {d : Nat} {f a : Tm} (hf : SmallT d f) (ha : SmallT d a) : SmallT (d + 1) (appT f a) :=
  ⟨by show 3 ≤ 6; omega, by show 0 ≤ _; omega, by show 0 ≤ _; omega, by show 2 ≤ 3; omega, fun i hi => by
    match i, hi with
    | 0, _ => exact hf
    | 1, _ => exact ha
    | i + 2, hi => exact absurd hi (by show ¬ i + 2 < 2; omega)⟩
theorem applyT_small {d : Nat} : ∀ {xs : List Tm} {f : Tm} {e : Nat}, SmallT e f → d ≤ e → (∀ x ∈ xs, SmallT d x) → SmallT (e + xs.length) (applyT f xs)
  | [], _, _, hf, _, _ => hf
  | x :: xs, f, e, hf, hde, hx => by
    have := applyT_small (xs := xs) (f := appT f x) (e := e + 1) (appT_small hf ((hx x (by simp)).mono hde)) (by omega) fun y hy => hx y (by simp [hy])
    have e1 : e + (x :: xs).length = e + 1 + xs.length := by simp only [List.length_cons]; omega
    rw [e1]
    exact this

theorem lift_small {n f0 D : Nat} {t : Tm} (hn : n ≤ 1000) (hD : D ≤ 20000) (h : WfT D t) : SmallT (D + 1) (chT (liftF n f0) id D 0 t) :=
  chT_small (fun m b hm hb => tvar_small (by split <;> omega)) (by omega) h (by omega)
theorem lift_small' {n D : Nat} {t : Tm} (hn : n ≤ 1000000) (hD : D ≤ 20000) (h : WfT D t) : SmallT (D + 1) (chT (liftF n 0) id D 0 t) :=
  chT_small (fun m b hm hb => tvar_small (by split <;> omega)) (by omega) h (by omega)
theorem subst_small {D : Nat} {t u : Tm} (hD : D ≤ 20000) (h : WfT D t) (hu : WfT D u) : SmallT (D + (D + 1)) (chT (substF u D) id D 0 t) := by
  refine chT_small (fun m b hm hb => ?_) (by omega) h (by omega)
  unfold substF
  split
  · exact lift_small' hb hD hu
  · exact (tvar_small (by omega)).mono (by omega)
theorem levels_small {D : Nat} {t : Tm} {g : LvB → LvB} (hD : D ≤ 20000) (h : WfT D t) : SmallT (D + 1) (chT idF g D 0 t) :=
  chT_small (fun m b hm hb => tvar_small (by omega)) (by omega) h (by omega)

theorem tparse_calls (s : ByteArray) (wb wo wc : Nat) (w : World) (hm : s.size ≤ maxLen) (hw : WordsAt w wb wo wc) : Calls Tryz.prog 5 #[.string s] w fun e w' => TParsed w s e w' := by
  by_cases h : s.size ≤ 20000
  · exact tparse_short s wb wo wc w h hw
  · exact tparse_long s w (by omega) hm
end Go.Proofs.YtafdlaaohglfdaaGreatDoor
