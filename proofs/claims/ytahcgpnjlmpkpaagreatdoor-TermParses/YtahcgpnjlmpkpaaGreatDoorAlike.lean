/- The contract of the document's SameTerm, at one term that lies there twice. -/
import Derived.Test.YtahcgpnjlmpkpaaGreatDoorTm
import Derived.Test.YtahcgpnjlmpkpaaGreatDoorRefSameLv
import Derived.Deep.CutBlock
import Derived.Deep.DeepCutAuto
namespace Go.Proofs.YtahcgpnjlmpkpaaGreatDoor
open Go.RowKit

/-- A term's numbers are small. -/
def SmallT : Nat → Tm → Prop
  | 0, _ => False
  | d + 1, t => t.kd ≤ 6 ∧ t.n ≤ 99999 ∧ t.ls.length ≤ 20000 ∧ t.ts.length ≤ 3 ∧ ∀ i (hi : i < t.ts.length), SmallT d t.ts[i]

abbrev five (k n : Int) (nm : ByteArray) (v v' : Value) : Obj := .cells #[.int .i64 k, .int .i64 n, .string nm, v, v'] 30

/-- Behind two boxes nothing old has turned. -/
def Boxes5 (w : World) (o o' : Obj) (W : World) : Prop := Below (w.heap.size + 2) ((w.alloc o).alloc o') W
section
variable {w W : World} {o o' : Obj}
theorem Boxes5.old (h : Boxes5 w o o' W) : Below w.heap.size w W := (((Below.refl _ _).alloc (Nat.le_refl _) _).alloc (by simp) _).trans (Below.mono h (by omega))
theorem Boxes5.size (h : Boxes5 w o o' W) : w.heap.size + 2 ≤ W.heap.size := by have := Below.size h; simpa using this
theorem Boxes5.then {W' : World} (h : Boxes5 w o o' W) (h' : Below W.heap.size W W') : Boxes5 w o o' W' := Below.trans h (h'.mono h.size)
end
theorem Boxes5.cells {w W : World} {a0 a1 a2 a3 a4 b0 b1 b2 b3 b4 : Value} (h : Boxes5 w (.cells #[a0, a1, a2, a3, a4] 30) (.cells #[b0, b1, b2, b3, b4] 30) W) : W.cell? ⟨w.heap.size, 3, none⟩ = some a3 ∧ W.cell? ⟨w.heap.size, 4, none⟩ = some a4 ∧ W.cell? ⟨w.heap.size + 1, 3, none⟩ = some b3 ∧ W.cell? ⟨w.heap.size + 1, 4, none⟩ = some b4 := by
  refine ⟨?_, ?_, ?_, ?_⟩ <;> (rw [Below.cell h (by simp)]; simp [World.cell?_alloc_at])

set_option maxRecDepth 100000 in
set_option maxHeartbeats 4000000 in
theorem alike_calls (N : Nat) : ∀ (t : Tm) (va vb : Value) (d e : Nat) (S S' : Nat → Prop) (w : World), SmallT N t → InTm w S d t va → InTm w S' e t vb →
    Calls Tryz.prog 14 #[va, vb, .bool false] w fun e w' => e = .returned (.bool true) ∧ Below w.heap.size w w' := by
  induction N with
  | zero => intro t va vb d e S S' w h; exact absurd h (by simp [SmallT])
  | succ N ih =>
    intro t va vb d e S S' w hsm ha hb
    cases d with
    | zero => exact absurd ha (by simp [InTm])
    | succ d =>
    cases e with
    | zero => exact absurd hb (by simp [InTm])
    | succ e =>
    obtain ⟨A, c, A', c', rfl, hl, ht⟩ := ha
    obtain ⟨B, k, B', k', rfl, hl2, ht2⟩ := hb
    obtain ⟨s1, s2, s3, s4, s5⟩ := hsm
    have HS5 := hide s5
    have IH := hide ih
    have HL := hide hl
    have HL2 := hide hl2
    have HT := hide ht
    have HT2 := hide ht2
    have hsame := sameStr_pos (rfl : t.nm = t.nm)
    clear ih hl hl2 ht ht2 s5
    go_enter Tryz.func14, Tryz.ntmps14
    go_wp2_with fail
    go_loopg [7] (t.ls.length) (fun g i wr => ∃ k0 : Nat, k0 + g = t.ls.length ∧ i = .int .i64 k0 ∧ Boxes5 w (five t.kd t.n t.nm (.slice A t.ls.length c) (.slice A' t.ts.length c')) (five t.kd t.n t.nm (.slice B t.ls.length k) (.slice B' t.ts.length k')) wr)
    case atStart => exact ⟨0, by omega, rfl, Below.refl _ _⟩
    case round =>
      obtain ⟨k0, hkg, rfl, hwr⟩ := hrel
      have hz := hwr.size
      obtain ⟨g0, g1, g2, g3⟩ := hwr.cells
      by_cases hlt : k0 < t.ls.length
      · obtain ⟨b1, x, rfl, _, h3, hin1⟩ := HL.out k0 hlt
        obtain ⟨kk, nm', A3, n', cap', rfl, c0, c1, c2⟩ := h3
        obtain ⟨b2, y, rfl, _, h4, hin2⟩ := HL2.out k0 hlt
        obtain ⟨k2, nm2, A4, n2, cap2', rfl, c3, c4, c5⟩ := h4
        have ho := hwr.old
        have d0 := cell_later ho c0
        have d1 := cell_later ho c1
        have d2 := cell_later ho c2
        have d3 := cell_later ho c3
        have d4 := cell_later ho c4
        have d5 := cell_later ho c5
        have HI : Hid (∀ W, Below wr.heap.size wr W → Calls Tryz.prog 30 #[.agg #[.int .i64 kk, .string nm', .slice A3 n' cap'], .agg #[.int .i64 k2, .string nm2, .slice A4 n2 cap2']] W fun e w' => e = .returned (.bool true) ∧ Below W.heap.size W w') := fun W (hW : Below wr.heap.size wr W) => by
          have hb := ho.trans (hW.mono ho.size)
          have := rsameLv_calls (t.ls[k0]).nodes t.ls[k0] t.ls[k0] _ _ w.heap.size W (Nat.le_refl _) hb.size (hin1.inLv.below hb) (hin2.inLv.below hb)
          rw [eqB_true rfl] at this
          exact this
        have HW := hide hwr
        clear hwr c0 c1 c2 c3 c4 c5 hin1 hin2 ho
        go_wp2_with fail
        have q0 : ∀ x : Later wr.heap.size wr, x.W.cell? ⟨w.heap.size, 3, none⟩ = some _ := fun x => cell_later x.h g0
        have q1 : ∀ x : Later wr.heap.size wr, x.W.cell? ⟨w.heap.size + 1, 3, none⟩ = some _ := fun x => cell_later x.h g2
        have q2 : ∀ x : Later wr.heap.size wr, x.W.cell? ⟨b1, k0 * 3, none⟩ = some _ := fun x => cell_later x.h d0
        have q3 : ∀ x : Later wr.heap.size wr, x.W.cell? ⟨b1, k0 * 3 + 1, none⟩ = some _ := fun x => cell_later x.h d1
        have q4 : ∀ x : Later wr.heap.size wr, x.W.cell? ⟨b1, k0 * 3 + 2, none⟩ = some _ := fun x => cell_later x.h d2
        have q5 : ∀ x : Later wr.heap.size wr, x.W.cell? ⟨b2, k0 * 3, none⟩ = some _ := fun x => cell_later x.h d3
        have q6 : ∀ x : Later wr.heap.size wr, x.W.cell? ⟨b2, k0 * 3 + 1, none⟩ = some _ := fun x => cell_later x.h d4
        have q7 : ∀ x : Later wr.heap.size wr, x.W.cell? ⟨b2, k0 * 3 + 2, none⟩ = some _ := fun x => cell_later x.h d5
        refine wp_region_later (by kernel_rfl) (by kernel_rfl) (Below.refl wr.heap.size wr) ?_
        have hst := Later.some wr.heap.size wr
        iterate 10 quiet_step (fail)
        quiet_step (exact Later.calls HI.out (Nat.le_refl _) _)
        quiet_step (fail)
        refine wpQuiet_nil ?_
        intro _ hw'
        obtain ⟨x, rfl⟩ := hw'
        go_wp2_with fail
        go_roundg (t.ls.length - (k0 + 1))
        case measure => omega
        case rel => exact ⟨k0 + 1, by omega, by go_num, HW.out.then x.h⟩
      · have hk0 : k0 = t.ls.length := by omega
        subst hk0
        clear g0 g1 g2 g3
        have HW0 := hide hwr
        clear hwr
        obtain ⟨g0, g1, g2, g3⟩ := HW0.out.cells
        go_wp2_with fail
        go_loopg [9] (t.ts.length) (fun g i wq => ∃ k0 : Nat, k0 + g = t.ts.length ∧ i = .int .i64 k0 ∧ Boxes5 w (five t.kd t.n t.nm (.slice A t.ls.length c) (.slice A' t.ts.length c')) (five t.kd t.n t.nm (.slice B t.ls.length k) (.slice B' t.ts.length k')) wq)
        case atStart => exact ⟨0, by omega, rfl, HW0.out⟩
        case round =>
          clear g0 g1 g2 g3
          obtain ⟨k0, hkg2, rfl, hwr⟩ := hrel
          have hz := hwr.size
          obtain ⟨g0, g1, g2, g3⟩ := hwr.cells
          by_cases hlt : k0 < t.ts.length
          · obtain ⟨b1, x, rfl, _, h3, hin1⟩ := HT.out k0 hlt
            obtain ⟨kk, nn, nm', A3, n', cap', A5, n5, cap5, rfl, c0, c1, c2, c3, c4⟩ := h3
            obtain ⟨b2, y, rfl, _, h4, hin2⟩ := HT2.out k0 hlt
            obtain ⟨k2, nn2, nm2, A4, n2, cap2', A6, n6, cap6, rfl, c5, c6, c7, c8, c9⟩ := h4
            have ho := hwr.old
            have d0 := cell_later ho c0
            have d1 := cell_later ho c1
            have d2 := cell_later ho c2
            have d3 := cell_later ho c3
            have d4 := cell_later ho c4
            have d5 := cell_later ho c5
            have d6 := cell_later ho c6
            have d7 := cell_later ho c7
            have d8 := cell_later ho c8
            have d9 := cell_later ho c9
            have HI : Hid (∀ W, Below wr.heap.size wr W → Calls Tryz.prog 14 #[.agg #[.int .i64 kk, .int .i64 nn, .string nm', .slice A3 n' cap', .slice A5 n5 cap5], .agg #[.int .i64 k2, .int .i64 nn2, .string nm2, .slice A4 n2 cap2', .slice A6 n6 cap6], .bool false] W fun e w' => e = .returned (.bool true) ∧ Below W.heap.size W w') := fun W (hW : Below wr.heap.size wr W) => by
              have hb := ho.trans (hW.mono ho.size)
              exact IH.out t.ts[k0] _ _ d e (fun _ => True) (fun _ => True) W (HS5.out k0 hlt) (hin1.keep fun b hb' _ => ⟨trivial, hb.block b hb'⟩) (hin2.keep fun b hb' _ => ⟨trivial, hb.block b hb'⟩)
            have HW := hide hwr
            clear hwr c0 c1 c2 c3 c4 c5 c6 c7 c8 c9 hin1 hin2 ho
            go_wp2_with fail
            have q0 : ∀ x : Later wr.heap.size wr, x.W.cell? ⟨w.heap.size, 4, none⟩ = some _ := fun x => cell_later x.h g1
            have q1 : ∀ x : Later wr.heap.size wr, x.W.cell? ⟨w.heap.size + 1, 4, none⟩ = some _ := fun x => cell_later x.h g3
            have p0 : ∀ x : Later wr.heap.size wr, x.W.cell? ⟨b1, k0 * 5, none⟩ = some _ := fun x => cell_later x.h d0
            have p1 : ∀ x : Later wr.heap.size wr, x.W.cell? ⟨b1, k0 * 5 + 1, none⟩ = some _ := fun x => cell_later x.h d1
            have p2 : ∀ x : Later wr.heap.size wr, x.W.cell? ⟨b1, k0 * 5 + 2, none⟩ = some _ := fun x => cell_later x.h d2
            have p3 : ∀ x : Later wr.heap.size wr, x.W.cell? ⟨b1, k0 * 5 + 3, none⟩ = some _ := fun x => cell_later x.h d3
            have p4 : ∀ x : Later wr.heap.size wr, x.W.cell? ⟨b1, k0 * 5 + 4, none⟩ = some _ := fun x => cell_later x.h d4
            have p5 : ∀ x : Later wr.heap.size wr, x.W.cell? ⟨b2, k0 * 5, none⟩ = some _ := fun x => cell_later x.h d5
            have p6 : ∀ x : Later wr.heap.size wr, x.W.cell? ⟨b2, k0 * 5 + 1, none⟩ = some _ := fun x => cell_later x.h d6
            have p7 : ∀ x : Later wr.heap.size wr, x.W.cell? ⟨b2, k0 * 5 + 2, none⟩ = some _ := fun x => cell_later x.h d7
            have p8 : ∀ x : Later wr.heap.size wr, x.W.cell? ⟨b2, k0 * 5 + 3, none⟩ = some _ := fun x => cell_later x.h d8
            have p9 : ∀ x : Later wr.heap.size wr, x.W.cell? ⟨b2, k0 * 5 + 4, none⟩ = some _ := fun x => cell_later x.h d9
            refine wp_region_later (by kernel_rfl) (by kernel_rfl) (Below.refl wr.heap.size wr) ?_
            have hst := Later.some wr.heap.size wr
            iterate 11 quiet_step (fail)
            quiet_step (exact Later.calls HI.out (Nat.le_refl _) _)
            quiet_step (fail)
            refine wpQuiet_nil ?_
            intro _ hw'
            obtain ⟨x, rfl⟩ := hw'
            go_wp2_with fail
            go_roundg (t.ts.length - (k0 + 1))
            case measure => omega
            case rel => exact ⟨k0 + 1, by omega, by go_num, HW.out.then x.h⟩
          · have HW := hide hwr
            clear hwr
            go_wp2_with fail
            go_ret
            exact ⟨rfl, HW.out.old⟩

set_option maxHeartbeats 1000000 in
theorem sameTerm_calls (N : Nat) (t : Tm) (k n : Int) (nm : ByteArray) (A : Option Addr) (m c : Nat) (A' : Option Addr) (m' c' : Nat) (k2 n2 : Int) (nm2 : ByteArray) (B : Option Addr) (l o : Nat) (B' : Option Addr) (l' o' : Nat) (d e : Nat) (S S' : Nat → Prop) (w : World) (hs : SmallT N t)
    (ha : InTm w S d t (.agg #[.int .i64 k, .int .i64 n, .string nm, .slice A m c, .slice A' m' c'])) (hb : InTm w S' e t (.agg #[.int .i64 k2, .int .i64 n2, .string nm2, .slice B l o, .slice B' l' o'])) :
    Calls Tryz.prog 8 #[.agg #[.int .i64 k, .int .i64 n, .string nm, .slice A m c, .slice A' m' c'], .agg #[.int .i64 k2, .int .i64 n2, .string nm2, .slice B l o, .slice B' l' o']] w fun e w' => e = .returned (.bool true) ∧ Below w.heap.size w w' := by
  have hold : Below w.heap.size w ((w.alloc (five k n nm (.slice A m c) (.slice A' m' c'))).alloc (five k2 n2 nm2 (.slice B l o) (.slice B' l' o'))) := ((Below.refl _ _).alloc (Nat.le_refl _) _).alloc (by simp) _
  have K := hide (alike_calls N t _ _ d e (fun _ => True) (fun _ => True) _ hs (ha.keep fun b hb' _ => ⟨trivial, hold.block b hb'⟩) (hb.keep fun b hb' _ => ⟨trivial, hold.block b hb'⟩))
  have HO := hide hold
  clear ha hb hold hs
  go_enter Tryz.func8, Tryz.ntmps8
  go_wp2_with (go_at_call 14; refine K.out.mono ?_)
  rintro e w1 ⟨rfl, hb1⟩
  have HB := hide (HO.out.trans (hb1.mono HO.out.size))
  clear hb1
  go_wp2_with fail
  go_ret
  exact ⟨rfl, HB.out⟩

end Go.Proofs.YtahcgpnjlmpkpaaGreatDoor
