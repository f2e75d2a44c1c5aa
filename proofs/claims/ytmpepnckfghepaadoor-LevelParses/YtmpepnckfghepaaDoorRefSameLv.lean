/- The contract of the document's SameLevel: two levels are the same as they are written. -/
import Derived.Test.YtmpepnckfghepaaDoorEq
import Derived.Test.YtmpepnckfghepaaDoorLater
namespace Go.Proofs.YtmpepnckfghepaaDoor
open Go.RowKit

/-- Behind two boxes of three cells nothing old has turned. -/
def Boxes (w : World) (c0 c1 c2 d0 d1 d2 : Value) (W : World) : Prop := Below (w.heap.size + 2) ((w.alloc (.cells #[c0, c1, c2] 29)).alloc (.cells #[d0, d1, d2] 29)) W
section
variable {w W : World} {c0 c1 c2 d0 d1 d2 : Value}
theorem Boxes.old (h : Boxes w c0 c1 c2 d0 d1 d2 W) : Below w.heap.size w W := (((Below.refl _ _).alloc (Nat.le_refl _) _).alloc (by simp) _).trans (Below.mono h (by omega))
theorem Boxes.size (h : Boxes w c0 c1 c2 d0 d1 d2 W) : w.heap.size + 2 ≤ W.heap.size := by have := Below.size h; simpa using this
theorem Boxes.then {W' : World} (h : Boxes w c0 c1 c2 d0 d1 d2 W) (h' : Below W.heap.size W W') : Boxes w c0 c1 c2 d0 d1 d2 W' := Below.trans h (h'.mono h.size)
theorem Boxes.cells (h : Boxes w c0 c1 c2 d0 d1 d2 W) : W.cell? ⟨w.heap.size, 0, none⟩ = some c0 ∧ W.cell? ⟨w.heap.size, 1, none⟩ = some c1 ∧ W.cell? ⟨w.heap.size, 2, none⟩ = some c2 ∧ W.cell? ⟨w.heap.size + 1, 0, none⟩ = some d0 ∧ W.cell? ⟨w.heap.size + 1, 1, none⟩ = some d1 ∧ W.cell? ⟨w.heap.size + 1, 2, none⟩ = some d2 := by
  refine ⟨?_, ?_, ?_, ?_, ?_, ?_⟩ <;> (rw [Below.cell h (by simp)]; simp [World.cell?_alloc_at])
end

set_option maxHeartbeats 2000000 in
theorem rsameLv_calls (N : Nat) : ∀ (a b : LvB) (va vb : Value) (B : Nat) (w : World), a.nodes ≤ N → B ≤ w.heap.size → InLv w B a va → InLv w B b vb →
    Calls Tryd.prog 8 #[va, vb] w fun e w' => e = .returned (.bool (eqB a b)) ∧ Below w.heap.size w w' := by
  induction N with
  | zero => intro a b va vb B w h; cases a <;> simp [Lv.nodes] at h
  | succ N ih =>
    intro a b va vb B w hN hBw ha hb
    obtain ⟨A1, cap1, rfl, hk1⟩ := ha.shape
    obtain ⟨A2, cap2, rfl, hk2⟩ := hb.shape
    have HK1 := hide hk1
    have HK2 := hide hk2
    have IH := hide ih
    have ha2 := a.kids_le
    have hb2 := b.kids_le
    clear ih ha hb hk1 hk2
    have hk4 := a.kind_le
    have hk5 := b.kind_le
    by_cases h1 : a.kind = b.kind
    · have hq : ((a.kind : Int) != (b.kind : Int)) = false := by simp [h1]
      by_cases h2 : a.nm = b.nm
      · have hs := sameStr_pos h2
        by_cases hlen : a.kids.length = b.kids.length
        · have hq2 : ((a.kids.length : Int) != (b.kids.length : Int)) = false := by simp [hlen]
          have HLen := hide hlen
          have HE : Hid (eqB a b = kidsB a b) := by simp [Hid, eqB_parts, h1, h2]
          clear h1 h2 hlen
          go_enter Tryd.func8, Tryd.ntmps8
          go_wp2_with fail
          go_loopg [5] (a.kids.length) (fun g i wr => ∃ k : Nat, k + g = a.kids.length ∧ i = .int .i64 k ∧ (∀ j (h1 : j < a.kids.length) (h2 : j < b.kids.length), j < k → a.kids[j] = b.kids[j]) ∧ Boxes w (.int .i64 a.kind) (.string a.nm) (.slice A1 a.kids.length cap1) (.int .i64 b.kind) (.string b.nm) (.slice A2 b.kids.length cap2) wr)
          case atStart => exact ⟨0, by omega, rfl, fun j _ _ h => absurd h (by omega), Below.refl _ _⟩
          case round =>
            obtain ⟨k, hkg, rfl, hno, hwr⟩ := hrel
            have HN := hide hno
            have hz := hwr.size
            clear hno
            obtain ⟨g0, g1, g2, g3, g4, g5⟩ := hwr.cells
            by_cases hlt : k < a.kids.length
            · have hlt2 : k < b.kids.length := by rw [← HLen.out]; exact hlt
              obtain ⟨b1, x, rfl, hb1, h3, hin1⟩ := HK1.out k hlt
              obtain ⟨k', nm', A', n', cap', rfl, c0, c1, c2⟩ := h3
              obtain ⟨b2, y, rfl, hb2', h4, hin2⟩ := HK2.out k hlt2
              obtain ⟨k2, nm2, A2', n2, cap2', rfl, c3, c4, c5⟩ := h4
              have ho := hwr.old
              have d0 := cell_later ho c0
              have d1 := cell_later ho c1
              have d2 := cell_later ho c2
              have d3 := cell_later ho c3
              have d4 := cell_later ho c4
              have d5 := cell_later ho c5
              have hnk := Lv.kid_nodes hlt
              have HI : Hid (∀ W, Below wr.heap.size wr W → _) := fun W (hW : Below wr.heap.size wr W) => IH.out a.kids[k] b.kids[k] _ _ B W (by omega) (Nat.le_trans (Nat.le_trans hBw ho.size) hW.size) ((hin1.below (ho.mono hBw)).below (hW.mono (Nat.le_trans hBw ho.size))) ((hin2.below (ho.mono hBw)).below (hW.mono (Nat.le_trans hBw ho.size)))
              have HW := hide hwr
              clear hwr c0 c1 c2 c3 c4 c5 hin1 hin2 ho
              by_cases he : a.kids[k] = b.kids[k]
              · rw [eqB_true he] at HI
                have HE2 := hide he
                clear he
                go_wp2_with fail
                have q0 : ∀ x : Later wr.heap.size wr, x.W.cell? ⟨w.heap.size, 2, none⟩ = some _ := fun x => cell_later x.h g2
                have q1 : ∀ x : Later wr.heap.size wr, x.W.cell? ⟨w.heap.size + 1, 2, none⟩ = some _ := fun x => cell_later x.h g5
                have q2 : ∀ x : Later wr.heap.size wr, x.W.cell? ⟨b1, k * 3, none⟩ = some _ := fun x => cell_later x.h d0
                have q3 : ∀ x : Later wr.heap.size wr, x.W.cell? ⟨b1, k * 3 + 1, none⟩ = some _ := fun x => cell_later x.h d1
                have q4 : ∀ x : Later wr.heap.size wr, x.W.cell? ⟨b1, k * 3 + 2, none⟩ = some _ := fun x => cell_later x.h d2
                have q5 : ∀ x : Later wr.heap.size wr, x.W.cell? ⟨b2, k * 3, none⟩ = some _ := fun x => cell_later x.h d3
                have q6 : ∀ x : Later wr.heap.size wr, x.W.cell? ⟨b2, k * 3 + 1, none⟩ = some _ := fun x => cell_later x.h d4
                have q7 : ∀ x : Later wr.heap.size wr, x.W.cell? ⟨b2, k * 3 + 2, none⟩ = some _ := fun x => cell_later x.h d5
                refine wp_region_later (by kernel_rfl) (by kernel_rfl) (Below.refl wr.heap.size wr) ?_
                have hst := Later.some wr.heap.size wr
                iterate 10 quiet_step (fail)
                quiet_step (exact Later.calls HI.out (Nat.le_refl _) _)
                quiet_step (fail)
                refine wpQuiet_nil ?_
                intro _ hw'
                obtain ⟨x, rfl⟩ := hw'
                go_wp2_with fail
                go_roundg (a.kids.length - (k + 1))
                case measure => omega
                case rel => exact ⟨k + 1, by omega, by go_num, fun j h1 h2 hj => if e : j = k then by subst e; exact HE2.out else HN.out j h1 h2 (by omega), HW.out.then x.h⟩
              · rw [eqB_false he] at HI
                have HE2 := hide (kidsB_false hlt hlt2 he)
                clear he
                go_wp2_with fail
                have q0 : ∀ x : Later wr.heap.size wr, x.W.cell? ⟨w.heap.size, 2, none⟩ = some _ := fun x => cell_later x.h g2
                have q1 : ∀ x : Later wr.heap.size wr, x.W.cell? ⟨w.heap.size + 1, 2, none⟩ = some _ := fun x => cell_later x.h g5
                have q2 : ∀ x : Later wr.heap.size wr, x.W.cell? ⟨b1, k * 3, none⟩ = some _ := fun x => cell_later x.h d0
                have q3 : ∀ x : Later wr.heap.size wr, x.W.cell? ⟨b1, k * 3 + 1, none⟩ = some _ := fun x => cell_later x.h d1
                have q4 : ∀ x : Later wr.heap.size wr, x.W.cell? ⟨b1, k * 3 + 2, none⟩ = some _ := fun x => cell_later x.h d2
                have q5 : ∀ x : Later wr.heap.size wr, x.W.cell? ⟨b2, k * 3, none⟩ = some _ := fun x => cell_later x.h d3
                have q6 : ∀ x : Later wr.heap.size wr, x.W.cell? ⟨b2, k * 3 + 1, none⟩ = some _ := fun x => cell_later x.h d4
                have q7 : ∀ x : Later wr.heap.size wr, x.W.cell? ⟨b2, k * 3 + 2, none⟩ = some _ := fun x => cell_later x.h d5
                refine wp_region_later (by kernel_rfl) (by kernel_rfl) (Below.refl wr.heap.size wr) ?_
                have hst := Later.some wr.heap.size wr
                iterate 10 quiet_step (fail)
                quiet_step (exact Later.calls HI.out (Nat.le_refl _) _)
                quiet_step (fail)
                refine wpQuiet_nil ?_
                intro _ hw'
                obtain ⟨x, rfl⟩ := hw'
                go_wp2_with fail
                go_ret
                rw [HE.out, HE2.out]
                exact ⟨rfl, (HW.out.then x.h).old⟩
            · have HE2 := hide (kidsB_true HLen.out fun j h1 h2 => HN.out j h1 h2 (by omega))
              go_wp2_with fail
              go_ret
              rw [HE.out, HE2.out]
              exact ⟨rfl, hwr.old⟩
        · have hq2 : ((a.kids.length : Int) != (b.kids.length : Int)) = true := by simp; omega
          have HE : Hid (eqB a b = false) := by rw [Hid, eqB_parts, kidsB_len hlen]; simp
          clear h1 h2 hlen
          go_enter Tryd.func8, Tryd.ntmps8
          go_wp2_with fail
          go_ret
          rw [HE.out]
          exact ⟨rfl, ((Below.refl _ _).alloc (Nat.le_refl _) _).alloc (by simp) _⟩
      · have hs := sameStr_neg h2
        have HE : Hid (eqB a b = false) := by simp [Hid, eqB_parts, h2]
        clear h1 h2
        go_enter Tryd.func8, Tryd.ntmps8
        go_wp2_with fail
        go_ret
        rw [HE.out]
        exact ⟨rfl, ((Below.refl _ _).alloc (Nat.le_refl _) _).alloc (by simp) _⟩
    · have hq : ((a.kind : Int) != (b.kind : Int)) = true := by simp; omega
      have HE : Hid (eqB a b = false) := by simp [Hid, eqB_parts, h1]
      clear h1
      go_enter Tryd.func8, Tryd.ntmps8
      go_wp2_with fail
      go_ret
      rw [HE.out]
      exact ⟨rfl, ((Below.refl _ _).alloc (Nat.le_refl _) _).alloc (by simp) _⟩

end Go.Proofs.YtmpepnckfghepaaDoor
