/- The document's printing and comparing: what text RefSameLv says of it. -/
import Derived.Test.YtjlibnijecdgcaaGreatDoorGRow
import Derived.Test.YtjlibnijecdgcaaGreatDoorTParseDoc
import Derived.Test.YtjlibnijecdgcaaGreatDoorLevelSuccDoc
import Derived.Test.YtjlibnijecdgcaaGreatDoorLevelWordDoc
import Derived.Test.YtjlibnijecdgcaaGreatDoorTokenDoc
import Derived.Test.YtjlibnijecdgcaaGreatDoorTm
import Derived.Deep.CutBlock
import Derived.Deep.DeepCutAuto

/- The contract of the document's SameLevel: two levels are the same as they are written. -/
namespace Go.Proofs.YtjlibnijecdgcaaGreatDoor
open Go.RowKit

section
variable {w W : World} {c0 c1 c2 d0 d1 d2 : Value}
end

set_option maxHeartbeats 2000000 in
theorem rsameLv_calls (N : Nat) : ∀ (a b : LvB) (va vb : Value) (B : Nat) (w : World), a.nodes ≤ N → B ≤ w.heap.size → InLv w B a va → InLv w B b vb →
    Calls Tryz.prog 70 #[va, vb] w fun e w' => e = .returned (.bool (eqB a b)) ∧ Below w.heap.size w w' := by
  induction N with
  | zero => intro a b va vb B w h; cases a <;> simp [Lv.nodes] at h
  | succ N ih =>
    intro a b va vb B w hN hBw ha hb
    obtain ⟨A1, cap1, rfl, hk1⟩ := ha.shape
    obtain ⟨A2, cap2, rfl, hk2⟩ := hb.shape
    have HK1 := hide hk1
    have HK2 := hide hk2
    have IH := hide ih
    have ha2 := a.kids_le
    have hb2 := b.kids_le
    clear ih ha hb hk1 hk2
    have hk4 := a.kind_le
    have hk5 := b.kind_le
    by_cases h1 : a.kind = b.kind
    · have hq : ((a.kind : Int) != (b.kind : Int)) = false := by simp [h1]
      by_cases h2 : a.nm = b.nm
      · have hs := sameStr_pos h2
        by_cases hlen : a.kids.length = b.kids.length
        · have hq2 : ((a.kids.length : Int) != (b.kids.length : Int)) = false := by simp [hlen]
          have HLen := hide hlen
          have HE : Hid (eqB a b = kidsB a b) := by simp [Hid, eqB_parts, h1, h2]
          clear h1 h2 hlen
          go_enter Tryz.func70, Tryz.ntmps70
          go_wp2_with fail
          go_loopg [5] (a.kids.length) (fun g i wr => ∃ k : Nat, k + g = a.kids.length ∧ i = .int .i64 k ∧ (∀ j (h1 : j < a.kids.length) (h2 : j < b.kids.length), j < k → a.kids[j] = b.kids[j]) ∧ Boxes w (.int .i64 a.kind) (.string a.nm) (.slice A1 a.kids.length cap1) (.int .i64 b.kind) (.string b.nm) (.slice A2 b.kids.length cap2) wr)
          case atStart => exact ⟨0, by omega, rfl, fun j _ _ h => absurd h (by omega), Below.refl _ _⟩
          case round =>
            obtain ⟨k, hkg, rfl, hno, hwr⟩ := hrel
            have HN := hide hno
            have hz := hwr.size
            clear hno
            obtain ⟨g0, g1, g2, g3, g4, g5⟩ := hwr.cells
            by_cases hlt : k < a.kids.length
            · have hlt2 : k < b.kids.length := by rw [← HLen.out]; exact hlt
              obtain ⟨b1, x, rfl, hb1, h3, hin1⟩ := HK1.out k hlt
              obtain ⟨k', nm', A', n', cap', rfl, c0, c1, c2⟩ := h3
              obtain ⟨b2, y, rfl, hb2', h4, hin2⟩ := HK2.out k hlt2
              obtain ⟨k2, nm2, A2', n2, cap2', rfl, c3, c4, c5⟩ := h4
              have ho := hwr.old
              have d0 := cell_later ho c0
              have d1 := cell_later ho c1
              have d2 := cell_later ho c2
              have d3 := cell_later ho c3
              have d4 := cell_later ho c4
              have d5 := cell_later ho c5
              have hnk := Lv.kid_nodes hlt
              have HI : Hid (∀ W, Below wr.heap.size wr W → _) := fun W (hW : Below wr.heap.size wr W) => IH.out a.kids[k] b.kids[k] _ _ B W (by omega) (Nat.le_trans (Nat.le_trans hBw ho.size) hW.size) ((hin1.below (ho.mono hBw)).below (hW.mono (Nat.le_trans hBw ho.size))) ((hin2.below (ho.mono hBw)).below (hW.mono (Nat.le_trans hBw ho.size)))
              have HW := hide hwr
              clear hwr c0 c1 c2 c3 c4 c5 hin1 hin2 ho
              by_cases he : a.kids[k] = b.kids[k]
              · rw [eqB_true he] at HI
                have HE2 := hide he
                clear he
                go_wp2_with fail
                have q0 : ∀ x : Later wr.heap.size wr, x.W.cell? ⟨w.heap.size, 2, none⟩ = some _ := fun x => cell_later x.h g2
                have q1 : ∀ x : Later wr.heap.size wr, x.W.cell? ⟨w.heap.size + 1, 2, none⟩ = some _ := fun x => cell_later x.h g5
                have q2 : ∀ x : Later wr.heap.size wr, x.W.cell? ⟨b1, k * 3, none⟩ = some _ := fun x => cell_later x.h d0
                have q3 : ∀ x : Later wr.heap.size wr, x.W.cell? ⟨b1, k * 3 + 1, none⟩ = some _ := fun x => cell_later x.h d1
                have q4 : ∀ x : Later wr.heap.size wr, x.W.cell? ⟨b1, k * 3 + 2, none⟩ = some _ := fun x => cell_later x.h d2
                have q5 : ∀ x : Later wr.heap.size wr, x.W.cell? ⟨b2, k * 3, none⟩ = some _ := fun x => cell_later x.h d3
                have q6 : ∀ x : Later wr.heap.size wr, x.W.cell? ⟨b2, k * 3 + 1, none⟩ = some _ := fun x => cell_later x.h d4
                have q7 : ∀ x : Later wr.heap.size wr, x.W.cell? ⟨b2, k * 3 + 2, none⟩ = some _ := fun x => cell_later x.h d5
                refine wp_region_later (by kernel_rfl) (by kernel_rfl) (Below.refl wr.heap.size wr) ?_
                have hst := Later.some wr.heap.size wr
                iterate 10 quiet_step (fail)
                quiet_step (exact Later.calls HI.out (Nat.le_refl _) _)
                quiet_step (fail)
                refine wpQuiet_nil ?_
                intro _ hw'
                obtain ⟨x, rfl⟩ := hw'
                go_wp2_with fail
                go_roundg (a.kids.length - (k + 1))
                case measure => omega
                case rel => exact ⟨k + 1, by omega, by go_num, fun j h1 h2 hj => if e : j = k then by subst e; exact HE2.out else HN.out j h1 h2 (by omega), HW.out.then x.h⟩
              · rw [eqB_false he] at HI
                have HE2 := hide (kidsB_false hlt hlt2 he)
                clear he
                go_wp2_with fail
                have q0 : ∀ x : Later wr.heap.size wr, x.W.cell? ⟨w.heap.size, 2, none⟩ = some _ := fun x => cell_later x.h g2
                have q1 : ∀ x : Later wr.heap.size wr, x.W.cell? ⟨w.heap.size + 1, 2, none⟩ = some _ := fun x => cell_later x.h g5
                have q2 : ∀ x : Later wr.heap.size wr, x.W.cell? ⟨b1, k * 3, none⟩ = some _ := fun x => cell_later x.h d0
                have q3 : ∀ x : Later wr.heap.size wr, x.W.cell? ⟨b1, k * 3 + 1, none⟩ = some _ := fun x => cell_later x.h d1
                have q4 : ∀ x : Later wr.heap.size wr, x.W.cell? ⟨b1, k * 3 + 2, none⟩ = some _ := fun x => cell_later x.h d2
                have q5 : ∀ x : Later wr.heap.size wr, x.W.cell? ⟨b2, k * 3, none⟩ = some _ := fun x => cell_later x.h d3
                have q6 : ∀ x : Later wr.heap.size wr, x.W.cell? ⟨b2, k * 3 + 1, none⟩ = some _ := fun x => cell_later x.h d4
                have q7 : ∀ x : Later wr.heap.size wr, x.W.cell? ⟨b2, k * 3 + 2, none⟩ = some _ := fun x => cell_later x.h d5
                refine wp_region_later (by kernel_rfl) (by kernel_rfl) (Below.refl wr.heap.size wr) ?_
                have hst := Later.some wr.heap.size wr
                iterate 10 quiet_step (fail)
                quiet_step (exact Later.calls HI.out (Nat.le_refl _) _)
                quiet_step (fail)
                refine wpQuiet_nil ?_
                intro _ hw'
                obtain ⟨x, rfl⟩ := hw'
                go_wp2_with fail
                go_ret
                rw [HE.out, HE2.out]
                exact ⟨rfl, (HW.out.then x.h).old⟩
            · have HE2 := hide (kidsB_true HLen.out fun j h1 h2 => HN.out j h1 h2 (by omega))
              go_wp2_with fail
              go_ret
              rw [HE.out, HE2.out]
              exact ⟨rfl, hwr.old⟩
        · have hq2 : ((a.kids.length : Int) != (b.kids.length : Int)) = true := by simp; omega
          have HE : Hid (eqB a b = false) := by rw [Hid, eqB_parts, kidsB_len hlen]; simp
          clear h1 h2 hlen
          go_enter Tryz.func70, Tryz.ntmps70
          go_wp2_with fail
          go_ret
          rw [HE.out]
          exact ⟨rfl, ((Below.refl _ _).alloc (Nat.le_refl _) _).alloc (by simp) _⟩
      · have hs := sameStr_neg h2
        have HE : Hid (eqB a b = false) := by simp [Hid, eqB_parts, h2]
        clear h1 h2
        go_enter Tryz.func70, Tryz.ntmps70
        go_wp2_with fail
        go_ret
        rw [HE.out]
        exact ⟨rfl, ((Below.refl _ _).alloc (Nat.le_refl _) _).alloc (by simp) _⟩
    · have hq : ((a.kind : Int) != (b.kind : Int)) = true := by simp; omega
      have HE : Hid (eqB a b = false) := by simp [Hid, eqB_parts, h1]
      clear h1
      go_enter Tryz.func70, Tryz.ntmps70
      go_wp2_with fail
      go_ret
      rw [HE.out]
      exact ⟨rfl, ((Below.refl _ _).alloc (Nat.le_refl _) _).alloc (by simp) _⟩

end Go.Proofs.YtjlibnijecdgcaaGreatDoor

/- The document's printing and comparing: what text Alike says of it. -/
/- The contract of the document's SameTerm, at one term that lies there twice. -/
namespace Go.Proofs.YtjlibnijecdgcaaGreatDoor
open Go.RowKit

section
variable {w W : World} {o o' : Obj}
end
set_option maxRecDepth 100000 in
set_option maxHeartbeats 4000000 in
theorem alike_calls (N : Nat) : ∀ (t : Tm) (va vb : Value) (d e : Nat) (S S' : Nat → Prop) (w : World), SmallT N t → InTm w S d t va → InTm w S' e t vb →
    Calls Tryz.prog 40 #[va, vb, .bool false] w fun e w' => e = .returned (.bool true) ∧ Below w.heap.size w w' := by
  induction N with
  | zero => intro t va vb d e S S' w h; exact absurd h (by simp [SmallT])
  | succ N ih =>
    intro t va vb d e S S' w hsm ha hb
    cases d with
    | zero => exact absurd ha (by simp [InTm])
    | succ d =>
    cases e with
    | zero => exact absurd hb (by simp [InTm])
    | succ e =>
    obtain ⟨A, c, A', c', rfl, hl, ht⟩ := ha
    obtain ⟨B, k, B', k', rfl, hl2, ht2⟩ := hb
    obtain ⟨s1, s2, s3, s4, s5⟩ := hsm
    have HS5 := hide s5
    have IH := hide ih
    have HL := hide hl
    have HL2 := hide hl2
    have HT := hide ht
    have HT2 := hide ht2
    have hsame := sameStr_pos (rfl : t.nm = t.nm)
    clear ih hl hl2 ht ht2 s5
    go_enter Tryz.func40, Tryz.ntmps40
    go_wp2_with fail
    go_loopg [7] (t.ls.length) (fun g i wr => ∃ k0 : Nat, k0 + g = t.ls.length ∧ i = .int .i64 k0 ∧ Boxes5 w (five t.kd t.n t.nm (.slice A t.ls.length c) (.slice A' t.ts.length c')) (five t.kd t.n t.nm (.slice B t.ls.length k) (.slice B' t.ts.length k')) wr)
    case atStart => exact ⟨0, by omega, rfl, Below.refl _ _⟩
    case round =>
      obtain ⟨k0, hkg, rfl, hwr⟩ := hrel
      have hz := hwr.size
      obtain ⟨g0, g1, g2, g3⟩ := hwr.cells
      by_cases hlt : k0 < t.ls.length
      · obtain ⟨b1, x, rfl, _, h3, hin1⟩ := HL.out k0 hlt
        obtain ⟨kk, nm', A3, n', cap', rfl, c0, c1, c2⟩ := h3
        obtain ⟨b2, y, rfl, _, h4, hin2⟩ := HL2.out k0 hlt
        obtain ⟨k2, nm2, A4, n2, cap2', rfl, c3, c4, c5⟩ := h4
        have ho := hwr.old
        have d0 := cell_later ho c0
        have d1 := cell_later ho c1
        have d2 := cell_later ho c2
        have d3 := cell_later ho c3
        have d4 := cell_later ho c4
        have d5 := cell_later ho c5
        have HI : Hid (∀ W, Below wr.heap.size wr W → Calls Tryz.prog 70 #[.agg #[.int .i64 kk, .string nm', .slice A3 n' cap'], .agg #[.int .i64 k2, .string nm2, .slice A4 n2 cap2']] W fun e w' => e = .returned (.bool true) ∧ Below W.heap.size W w') := fun W (hW : Below wr.heap.size wr W) => by
          have hb := ho.trans (hW.mono ho.size)
          have := rsameLv_calls (t.ls[k0]).nodes t.ls[k0] t.ls[k0] _ _ w.heap.size W (Nat.le_refl _) hb.size (hin1.inLv.below hb) (hin2.inLv.below hb)
          rw [eqB_true rfl] at this
          exact this
        have HW := hide hwr
        clear hwr c0 c1 c2 c3 c4 c5 hin1 hin2 ho
        go_wp2_with fail
        have q0 : ∀ x : Later wr.heap.size wr, x.W.cell? ⟨w.heap.size, 3, none⟩ = some _ := fun x => cell_later x.h g0
        have q1 : ∀ x : Later wr.heap.size wr, x.W.cell? ⟨w.heap.size + 1, 3, none⟩ = some _ := fun x => cell_later x.h g2
        have q2 : ∀ x : Later wr.heap.size wr, x.W.cell? ⟨b1, k0 * 3, none⟩ = some _ := fun x => cell_later x.h d0
        have q3 : ∀ x : Later wr.heap.size wr, x.W.cell? ⟨b1, k0 * 3 + 1, none⟩ = some _ := fun x => cell_later x.h d1
        have q4 : ∀ x : Later wr.heap.size wr, x.W.cell? ⟨b1, k0 * 3 + 2, none⟩ = some _ := fun x => cell_later x.h d2
        have q5 : ∀ x : Later wr.heap.size wr, x.W.cell? ⟨b2, k0 * 3, none⟩ = some _ := fun x => cell_later x.h d3
        have q6 : ∀ x : Later wr.heap.size wr, x.W.cell? ⟨b2, k0 * 3 + 1, none⟩ = some _ := fun x => cell_later x.h d4
        have q7 : ∀ x : Later wr.heap.size wr, x.W.cell? ⟨b2, k0 * 3 + 2, none⟩ = some _ := fun x => cell_later x.h d5
        refine wp_region_later (by kernel_rfl) (by kernel_rfl) (Below.refl wr.heap.size wr) ?_
        have hst := Later.some wr.heap.size wr
        iterate 10 quiet_step (fail)
        quiet_step (exact Later.calls HI.out (Nat.le_refl _) _)
        quiet_step (fail)
        refine wpQuiet_nil ?_
        intro _ hw'
        obtain ⟨x, rfl⟩ := hw'
        go_wp2_with fail
        go_roundg (t.ls.length - (k0 + 1))
        case measure => omega
        case rel => exact ⟨k0 + 1, by omega, by go_num, HW.out.then x.h⟩
      · have hk0 : k0 = t.ls.length := by omega
        subst hk0
        clear g0 g1 g2 g3
        have HW0 := hide hwr
        clear hwr
        obtain ⟨g0, g1, g2, g3⟩ := HW0.out.cells
        go_wp2_with fail
        go_loopg [9] (t.ts.length) (fun g i wq => ∃ k0 : Nat, k0 + g = t.ts.length ∧ i = .int .i64 k0 ∧ Boxes5 w (five t.kd t.n t.nm (.slice A t.ls.length c) (.slice A' t.ts.length c')) (five t.kd t.n t.nm (.slice B t.ls.length k) (.slice B' t.ts.length k')) wq)
        case atStart => exact ⟨0, by omega, rfl, HW0.out⟩
        case round =>
          clear g0 g1 g2 g3
          obtain ⟨k0, hkg2, rfl, hwr⟩ := hrel
          have hz := hwr.size
          obtain ⟨g0, g1, g2, g3⟩ := hwr.cells
          by_cases hlt : k0 < t.ts.length
          · obtain ⟨b1, x, rfl, _, h3, hin1⟩ := HT.out k0 hlt
            obtain ⟨kk, nn, nm', A3, n', cap', A5, n5, cap5, rfl, c0, c1, c2, c3, c4⟩ := h3
            obtain ⟨b2, y, rfl, _, h4, hin2⟩ := HT2.out k0 hlt
            obtain ⟨k2, nn2, nm2, A4, n2, cap2', A6, n6, cap6, rfl, c5, c6, c7, c8, c9⟩ := h4
            have ho := hwr.old
            have d0 := cell_later ho c0
            have d1 := cell_later ho c1
            have d2 := cell_later ho c2
            have d3 := cell_later ho c3
            have d4 := cell_later ho c4
            have d5 := cell_later ho c5
            have d6 := cell_later ho c6
            have d7 := cell_later ho c7
            have d8 := cell_later ho c8
            have d9 := cell_later ho c9
            have HI : Hid (∀ W, Below wr.heap.size wr W → Calls Tryz.prog 40 #[.agg #[.int .i64 kk, .int .i64 nn, .string nm', .slice A3 n' cap', .slice A5 n5 cap5], .agg #[.int .i64 k2, .int .i64 nn2, .string nm2, .slice A4 n2 cap2', .slice A6 n6 cap6], .bool false] W fun e w' => e = .returned (.bool true) ∧ Below W.heap.size W w') := fun W (hW : Below wr.heap.size wr W) => by
              have hb := ho.trans (hW.mono ho.size)
              exact IH.out t.ts[k0] _ _ d e (fun _ => True) (fun _ => True) W (HS5.out k0 hlt) (hin1.keep fun b hb' _ => ⟨trivial, hb.block b hb'⟩) (hin2.keep fun b hb' _ => ⟨trivial, hb.block b hb'⟩)
            have HW := hide hwr
            clear hwr c0 c1 c2 c3 c4 c5 c6 c7 c8 c9 hin1 hin2 ho
            go_wp2_with fail
            have q0 : ∀ x : Later wr.heap.size wr, x.W.cell? ⟨w.heap.size, 4, none⟩ = some _ := fun x => cell_later x.h g1
            have q1 : ∀ x : Later wr.heap.size wr, x.W.cell? ⟨w.heap.size + 1, 4, none⟩ = some _ := fun x => cell_later x.h g3
            have p0 : ∀ x : Later wr.heap.size wr, x.W.cell? ⟨b1, k0 * 5, none⟩ = some _ := fun x => cell_later x.h d0
            have p1 : ∀ x : Later wr.heap.size wr, x.W.cell? ⟨b1, k0 * 5 + 1, none⟩ = some _ := fun x => cell_later x.h d1
            have p2 : ∀ x : Later wr.heap.size wr, x.W.cell? ⟨b1, k0 * 5 + 2, none⟩ = some _ := fun x => cell_later x.h d2
            have p3 : ∀ x : Later wr.heap.size wr, x.W.cell? ⟨b1, k0 * 5 + 3, none⟩ = some _ := fun x => cell_later x.h d3
            have p4 : ∀ x : Later wr.heap.size wr, x.W.cell? ⟨b1, k0 * 5 + 4, none⟩ = some _ := fun x => cell_later x.h d4
            have p5 : ∀ x : Later wr.heap.size wr, x.W.cell? ⟨b2, k0 * 5, none⟩ = some _ := fun x => cell_later x.h d5
            have p6 : ∀ x : Later wr.heap.size wr, x.W.cell? ⟨b2, k0 * 5 + 1, none⟩ = some _ := fun x => cell_later x.h d6
            have p7 : ∀ x : Later wr.heap.size wr, x.W.cell? ⟨b2, k0 * 5 + 2, none⟩ = some _ := fun x => cell_later x.h d7
            have p8 : ∀ x : Later wr.heap.size wr, x.W.cell? ⟨b2, k0 * 5 + 3, none⟩ = some _ := fun x => cell_later x.h d8
            have p9 : ∀ x : Later wr.heap.size wr, x.W.cell? ⟨b2, k0 * 5 + 4, none⟩ = some _ := fun x => cell_later x.h d9
            refine wp_region_later (by kernel_rfl) (by kernel_rfl) (Below.refl wr.heap.size wr) ?_
            have hst := Later.some wr.heap.size wr
            iterate 11 quiet_step (fail)
            quiet_step (exact Later.calls HI.out (Nat.le_refl _) _)
            quiet_step (fail)
            refine wpQuiet_nil ?_
            intro _ hw'
            obtain ⟨x, rfl⟩ := hw'
            go_wp2_with fail
            go_roundg (t.ts.length - (k0 + 1))
            case measure => omega
            case rel => exact ⟨k0 + 1, by omega, by go_num, HW.out.then x.h⟩
          · have HW := hide hwr
            clear hwr
            go_wp2_with fail
            go_ret
            exact ⟨rfl, HW.out.old⟩

set_option maxHeartbeats 1000000 in
theorem sameTerm_calls (N : Nat) (t : Tm) (k n : Int) (nm : ByteArray) (A : Option Addr) (m c : Nat) (A' : Option Addr) (m' c' : Nat) (k2 n2 : Int) (nm2 : ByteArray) (B : Option Addr) (l o : Nat) (B' : Option Addr) (l' o' : Nat) (d e : Nat) (S S' : Nat → Prop) (w : World) (hs : SmallT N t)
    (ha : InTm w S d t (.agg #[.int .i64 k, .int .i64 n, .string nm, .slice A m c, .slice A' m' c'])) (hb : InTm w S' e t (.agg #[.int .i64 k2, .int .i64 n2, .string nm2, .slice B l o, .slice B' l' o'])) :
    Calls Tryz.prog 24 #[.agg #[.int .i64 k, .int .i64 n, .string nm, .slice A m c, .slice A' m' c'], .agg #[.int .i64 k2, .int .i64 n2, .string nm2, .slice B l o, .slice B' l' o']] w fun e w' => e = .returned (.bool true) ∧ Below w.heap.size w w' := by
  have hold : Below w.heap.size w ((w.alloc (five k n nm (.slice A m c) (.slice A' m' c'))).alloc (five k2 n2 nm2 (.slice B l o) (.slice B' l' o'))) := ((Below.refl _ _).alloc (Nat.le_refl _) _).alloc (by simp) _
  have K := hide (alike_calls N t _ _ d e (fun _ => True) (fun _ => True) _ hs (ha.keep fun b hb' _ => ⟨trivial, hold.block b hb'⟩) (hb.keep fun b hb' _ => ⟨trivial, hold.block b hb'⟩))
  have HO := hide hold
  clear ha hb hold hs
  go_enter Tryz.func24, Tryz.ntmps24
  go_wp2_with (go_at_call 40; refine K.out.mono ?_)
  rintro e w1 ⟨rfl, hb1⟩
  have HB := hide (HO.out.trans (hb1.mono HO.out.size))
  clear hb1
  go_wp2_with fail
  go_ret
  exact ⟨rfl, HB.out⟩

end Go.Proofs.YtjlibnijecdgcaaGreatDoor
