/- The contract of slices.Reverse at terms. -/
import Derived.Test.YtafdlaaohglfdaaGreatDoorRSpine
import Derived.Shelf.RegionOpenPlain

namespace Go.Proofs.YtafdlaaohglfdaaGreatDoor
open Go.RowKit

/-- A term's five cells. -/
structure T5 where
  k : Int
  n : Int
  nm : ByteArray
  A : Option Addr
  la : Nat
  lc : Nat
  A' : Option Addr
  ta : Nat
  tc : Nat
def T5.v (x : T5) : Value := .agg #[.int .i64 x.k, .int .i64 x.n, .string x.nm, .slice x.A x.la x.lc, .slice x.A' x.ta x.tc]
/-- They lie there. -/
structure Lies5 (w : World) (g o : Nat) (x : T5) : Prop where
  c0 : w.cell? ⟨g, o, none⟩ = some (.int .i64 x.k)
  c1 : w.cell? ⟨g, o + 1, none⟩ = some (.int .i64 x.n)
  c2 : w.cell? ⟨g, o + 2, none⟩ = some (.string x.nm)
  c3 : w.cell? ⟨g, o + 3, none⟩ = some (.slice x.A x.la x.lc)
  c4 : w.cell? ⟨g, o + 4, none⟩ = some (.slice x.A' x.ta x.tc)

abbrev set5o (W : World) (g o : Nat) (x : T5) : World := ((((W.setCell ⟨g, o, none⟩ (.int .i64 x.k)).setCell ⟨g, o + 1, none⟩ (.int .i64 x.n)).setCell ⟨g, o + 2, none⟩ (.string x.nm)).setCell ⟨g, o + 3, none⟩ (.slice x.A x.la x.lc)).setCell ⟨g, o + 4, none⟩ (.slice x.A' x.ta x.tc)

theorem cell_apart (w : World) {g o o' : Nat} (v : Value) (h : o ≠ o') : (w.setCell ⟨g, o', none⟩ v).cell? ⟨g, o, none⟩ = w.cell? ⟨g, o, none⟩ := World.cell?_setCell_other _ _ _ _ (fun e => h (by injection e with _ e; omega))
theorem cell_here (w : World) {g o : Nat} {u : Value} (v : Value) (h : w.cell? ⟨g, o, none⟩ = some u) : (w.setCell ⟨g, o, none⟩ v).cell? ⟨g, o, none⟩ = some v := World.cell?_setCell_same' _ _ _ (by rw [h]; rfl)

theorem lies_same {w : World} {g o : Nat} {x y : T5} (h : Lies5 w g o y) : Lies5 (set5o w g o x) g o x := by
  obtain ⟨h0, h1, h2, h3, h4⟩ := h
  constructor
  · rw [cell_apart _ _ (by omega), cell_apart _ _ (by omega), cell_apart _ _ (by omega), cell_apart _ _ (by omega)]
    exact cell_here _ _ h0
  · rw [cell_apart _ _ (by omega), cell_apart _ _ (by omega), cell_apart _ _ (by omega)]
    exact cell_here _ _ (by rw [cell_apart _ _ (by omega)]; exact h1)
  · rw [cell_apart _ _ (by omega), cell_apart _ _ (by omega)]
    exact cell_here _ _ (by rw [cell_apart _ _ (by omega), cell_apart _ _ (by omega)]; exact h2)
  · rw [cell_apart _ _ (by omega)]
    exact cell_here _ _ (by rw [cell_apart _ _ (by omega), cell_apart _ _ (by omega), cell_apart _ _ (by omega)]; exact h3)
  · exact cell_here _ _ (by rw [cell_apart _ _ (by omega), cell_apart _ _ (by omega), cell_apart _ _ (by omega), cell_apart _ _ (by omega)]; exact h4)

theorem lies_other {w : World} {g o o' : Nat} {x y : T5} (ho : o' + 5 ≤ o ∨ o + 5 ≤ o') (h : Lies5 w g o' y) : Lies5 (set5o w g o x) g o' y := by
  obtain ⟨h0, h1, h2, h3, h4⟩ := h
  constructor
  · rw [cell_apart _ _ (by omega), cell_apart _ _ (by omega), cell_apart _ _ (by omega), cell_apart _ _ (by omega), cell_apart _ _ (by omega)]; exact h0
  · rw [cell_apart _ _ (by omega), cell_apart _ _ (by omega), cell_apart _ _ (by omega), cell_apart _ _ (by omega), cell_apart _ _ (by omega)]; exact h1
  · rw [cell_apart _ _ (by omega), cell_apart _ _ (by omega), cell_apart _ _ (by omega), cell_apart _ _ (by omega), cell_apart _ _ (by omega)]; exact h2
  · rw [cell_apart _ _ (by omega), cell_apart _ _ (by omega), cell_apart _ _ (by omega), cell_apart _ _ (by omega), cell_apart _ _ (by omega)]; exact h3
  · rw [cell_apart _ _ (by omega), cell_apart _ _ (by omega), cell_apart _ _ (by omega), cell_apart _ _ (by omega), cell_apart _ _ (by omega)]; exact h4

theorem frozen_set5o {w : World} {g o : Nat} {x : T5} (h : ∀ i, w.frozen? ⟨g, i, none⟩ = false) (i : Nat) : (set5o w g o x).frozen? ⟨g, i, none⟩ = false := by simp [h]
theorem touched_drew {w W : World} {g : Nat} (h : Touched w g W) : Touched w g W.drew := ⟨h.os, h.tape, h.output, h.size, h.block⟩
theorem touched_set5o (w : World) (g o : Nat) (x : T5) : Touched w g (set5o w g o x) :=
  ((((Touched.set w g (a := ⟨g, o, none⟩) rfl (.int .i64 x.k)).trans (Touched.set _ g (a := ⟨g, o + 1, none⟩) rfl (.int .i64 x.n))).trans (Touched.set _ g (a := ⟨g, o + 2, none⟩) rfl (.string x.nm))).trans (Touched.set _ g (a := ⟨g, o + 3, none⟩) rfl (.slice x.A x.la x.lc))).trans (Touched.set _ g (a := ⟨g, o + 4, none⟩) rfl (.slice x.A' x.ta x.tc))
theorem lies_drew {w : World} {g o : Nat} {x : T5} (h : Lies5 w g o x) : Lies5 w.drew g o x := ⟨h.c0, h.c1, h.c2, h.c3, h.c4⟩

/-- What stands at place m when i pairs were turned. -/
def turn (n i m : Nat) : Nat := if m < i ∨ n - 1 - m < i then n - 1 - m else m

theorem reverse_next {w wr : World} {g n i j : Nat} {f : Nat → T5} {X Y : T5} (hj : j + i + 1 = n) (hij : i < j) (hl : ∀ m, m < n → Lies5 wr g (m * 5) (f (turn n i m))) (hfr : ∀ o, wr.frozen? ⟨g, o, none⟩ = false) (ht : Touched w g wr) (hX : f i = X) (hY : f j = Y) :
    (∀ m, m < n → Lies5 (set5o (set5o wr g (i * 5) Y) g (j * 5) X).drew g (m * 5) (f (turn n (i + 1) m))) ∧ (∀ o, (set5o (set5o wr g (i * 5) Y) g (j * 5) X).drew.frozen? ⟨g, o, none⟩ = false) ∧ Touched w g (set5o (set5o wr g (i * 5) Y) g (j * 5) X).drew := by
  refine ⟨fun m hm => ?_, fun o => by rw [World.frozen?_drew]; exact frozen_set5o (w := set5o wr g (i * 5) Y) (o := j * 5) (x := X) (frozen_set5o (o := i * 5) (x := Y) hfr) o, ?_⟩
  · apply lies_drew
    by_cases hmi : m = i
    · subst hmi
      have e : turn n (m + 1) m = j := by unfold turn; split <;> omega
      rw [e, hY]
      exact lies_other (by omega) (lies_same (hl m hm))
    · by_cases hmj : m = j
      · subst hmj
        have e : turn n (i + 1) m = i := by unfold turn; split <;> omega
        rw [e, hX]
        exact lies_same (lies_other (by omega) (hl m hm))
      · have e : turn n (i + 1) m = turn n i m := by unfold turn; split <;> split <;> omega
        rw [e]
        exact lies_other (by omega) (lies_other (by omega) (hl m hm))
  · exact touched_drew (ht.trans ((touched_set5o wr g (i * 5) Y).trans (touched_set5o _ g (j * 5) X)))

set_option maxRecDepth 100000 in
set_option maxHeartbeats 4000000 in
theorem reverse_calls (g n cap : Nat) (f : Nat → T5) (w : World) (hn : n ≤ 1000000) (hc : ∀ i, i < n → Lies5 w g (i * 5) (f i)) (hf : ∀ o, w.frozen? ⟨g, o, none⟩ = false) :
    Calls Tryz.prog 29 #[.slice (some ⟨g, 0, none⟩) n cap] w fun e w' => e = .returned (.tuple #[]) ∧ (∀ i, i < n → Lies5 w' g (i * 5) (f (n - 1 - i))) ∧ Touched w g w' := by
  have HC := hide hc
  have hf0 := hf
  clear hc
  go_enter Tryz.func29, Tryz.ntmps29
  go_wp2_with fail
  go_loopg [2, 3] n (fun gg s2 s3 wr => ∃ (i : Nat), i ≤ n ∧ n ≤ gg + i ∧ s2 = .int .i64 i ∧ s3 = .int .i64 ((n : Int) - 1 - (i : Int)) ∧ (∀ m, m < n → Lies5 wr g (m * 5) (f (turn n i m))) ∧ (∀ o, wr.frozen? ⟨g, o, none⟩ = false) ∧ Touched w g wr)
  case atStart => exact ⟨0, by omega, by omega, rfl, by simp, fun m hm => by rw [show turn n 0 m = m by simp [turn]]; exact HC.out m hm, hf, Touched.refl _ _⟩
  case round =>
    obtain ⟨i, hi, hg, rfl, rfl, hl, hfr, ht⟩ := hrel
    by_cases hlt : (i : Int) < (n : Int) - 1 - (i : Int)
    · obtain ⟨j, hj⟩ : ∃ j, j + i + 1 = n := ⟨n - 1 - i, by omega⟩
      have hidx : (n : Int) - 1 - (i : Int) = (j : Int) := by omega
      rw [hidx] at hlt ⊢
      have hij : i < j := by omega
      obtain ⟨a0, a1, a2, a3, a4⟩ := hl i (by omega)
      obtain ⟨b0, b1, b2, b3, b4⟩ := hl j (by omega)
      rw [show turn n i i = i by unfold turn; split <;> omega] at a0 a1 a2 a3 a4
      rw [show turn n i j = j by unfold turn; split <;> omega] at b0 b1 b2 b3 b4
      generalize hX : f i = X at *
      generalize hY : f j = Y at *
      have HX := hide hX
      have HY := hide hY
      clear hX hY
      have HL := hide hl
      have HT := hide ht
      have mixed : Tryz.prog.follows Departure.mixedOrders = true := by kernel_rfl
      have hjn : j < n := by omega
      have hin : i < n := by omega
      clear hl ht hlt
      go_wp2_with fail
      go_region_o
      have HN := hide (reverse_next hj hij HL.out hfr HT.out HX.out HY.out)
      clear a0 a1 a2 a3 a4 b0 b1 b2 b3 b4 hfr
      go_wp2_with fail
      go_roundg (n - (i + 1))
      case measure => omega
      case rel => exact ⟨i + 1, by omega, by omega, by go_num, by congr 1; omega, HN.out.1, HN.out.2.1, HN.out.2.2⟩
    · have HL2 : Hid (∀ m, m < n → Lies5 wr g (m * 5) (f (n - 1 - m))) := fun m hm => by
        have h := hl m hm
        rw [show f (turn n i m) = f (n - 1 - m) by congr 1; unfold turn; split <;> omega] at h
        exact h
      clear hl hfr
      go_wp2_with fail
      go_end0
      exact ⟨rfl, HL2.out, ht⟩

set_option maxRecDepth 100000 in
theorem reverse_nil (cap : Nat) (w : World) : Calls Tryz.prog 29 #[.slice none 0 cap] w fun e w' => e = .returned (.tuple #[]) ∧ w' = w := by
  go_enter Tryz.func29, Tryz.ntmps29
  go_wp2_with fail
  go_loopg [2, 3] 0 (fun _ s2 s3 wr => s2 = .int .i64 0 ∧ s3 = .int .i64 (-1) ∧ wr = w)
  case atStart => exact ⟨rfl, rfl, rfl⟩
  case round =>
    obtain ⟨rfl, rfl, rfl⟩ := hrel
    go_wp2_with fail
    go_end0
    exact ⟨rfl, rfl⟩

end Go.Proofs.YtafdlaaohglfdaaGreatDoor
