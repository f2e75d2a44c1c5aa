/- The contract of the statement's closed facts: they hold. -/
import Derived.Test.YtfdfeoojapcnmaaDoorLevelOrder
import Derived.Test.YtfdfeoojapcnmaaDoorIndex
import Derived.Test.YtfdfeoojapcnmaaDoorPrint
namespace Go.Proofs.YtfdfeoojapcnmaaDoor
open Go.RowKit

abbrev lu : LvB := .param ⟨#[117]⟩
abbrev l1 : LvB := .succ .zero
abbrev lm : LvB := .max lu l1
abbrev li : LvB := .imax l1 lu

theorem leB_of {a b : LvB} (h : Leq a b) : leB a b = true := leB_true h

theorem f_um : leB lu lm = true := leB_true fun τ => by simp [Lv.worth]; omega
theorem f_mu : leB lm lu = false := leB_false fun h => by have := h (fun _ => 0); simp [Lv.worth] at this
theorem f_im : leB li lm = true := leB_true fun τ => by simp [Lv.worth]; split <;> omega
theorem f_iu : sameB li lu = true := by
  unfold sameB
  rw [leB_true (a := li) (b := lu) fun τ => by simp [Lv.worth]; split <;> omega, leB_true (a := lu) (b := li) fun τ => by simp [Lv.worth]; split <;> omega]
  rfl

/-- The blocks that the facts lay. -/
abbrev seven (w : World) : World :=
  ((((((w.alloc (.cells #[.int .i64 4, .string ⟨#[117]⟩, .slice none 0 0] 28)).alloc (.cells #[.int .i64 0, .string ⟨#[]⟩, .slice none 0 0] 28)).alloc (.cells #[.int .i64 1, .string ⟨#[]⟩, .slice (some ⟨w.heap.size + 1, 0, none⟩) 1 1] 28)).alloc
    (.cells #[.int .i64 4, .string ⟨#[117]⟩, .slice none 0 0, .int .i64 1, .string ⟨#[]⟩, .slice (some ⟨w.heap.size + 1, 0, none⟩) 1 1] 28)).alloc (.cells #[.int .i64 2, .string ⟨#[]⟩, .slice (some ⟨w.heap.size + 1 + 1 + 1, 0, none⟩) 2 2] 28)).alloc
    (.cells #[.int .i64 1, .string ⟨#[]⟩, .slice (some ⟨w.heap.size + 1, 0, none⟩) 1 1, .int .i64 4, .string ⟨#[117]⟩, .slice none 0 0] 28)).alloc (.cells #[.int .i64 3, .string ⟨#[]⟩, .slice (some ⟨w.heap.size + 1 + 1 + 1 + 1 + 1, 0, none⟩) 2 2] 28)

theorem seven_old (w : World) : Below w.heap.size w (seven w) := by
  repeat' (first | exact Below.refl _ _ | refine Below.alloc ?_ ?_ _)
  all_goals (simp; try omega)
theorem seven_size (w : World) : (seven w).heap.size = w.heap.size + 7 := by simp

theorem at_new {W : World} {c : Array Value} {t n i : Nat} {v : Value} (hn : n = W.heap.size) (h : c[i]? = some v) : (W.alloc (.cells c t)).cell? ⟨n, i, none⟩ = some v := by
  subst hn; simpa using h
theorem at_old {W : World} {o : Obj} {n i : Nat} {v : Value} (hn : n < W.heap.size) (h : W.cell? ⟨n, i, none⟩ = some v) : (W.alloc o).cell? ⟨n, i, none⟩ = some v := by
  rw [World.cell?_alloc_lt _ _ _ hn]; exact h
theorem v_u (w : World) : InLv (seven w) (seven w).heap.size lu (.agg #[.int .i64 4, .string ⟨#[117]⟩, .slice none 0 0]) := rfl
theorem v_1 (w : World) : InLv (seven w) (seven w).heap.size l1 (.agg #[.int .i64 1, .string ⟨#[]⟩, .slice (some ⟨w.heap.size + 1, 0, none⟩) 1 1]) := by
  refine ⟨w.heap.size + 1, 1, _, rfl, by rw [seven_size]; omega, ⟨0, ⟨#[]⟩, none, 0, 0, rfl, ?_, ?_, ?_⟩, rfl⟩ <;> (repeat (first | (refine at_new ?_ ?_; (focus (simp; done)); rfl) | (refine at_old ?_ ?_; focus (simp <;> omega))))
theorem v_m (w : World) : InLv (seven w) (seven w).heap.size lm (.agg #[.int .i64 2, .string ⟨#[]⟩, .slice (some ⟨w.heap.size + 1 + 1 + 1, 0, none⟩) 2 2]) := by
  refine ⟨w.heap.size + 1 + 1 + 1, 2, _, _, rfl, by rw [seven_size]; omega, ⟨4, ⟨#[117]⟩, none, 0, 0, rfl, ?_, ?_, ?_⟩, ⟨1, ⟨#[]⟩, some ⟨w.heap.size + 1, 0, none⟩, 1, 1, rfl, ?_, ?_, ?_⟩, v_u w, v_1 w⟩ <;> (repeat (first | (refine at_new ?_ ?_; (focus (simp; done)); rfl) | (refine at_old ?_ ?_; focus (simp <;> omega))))
theorem v_i (w : World) : InLv (seven w) (seven w).heap.size li (.agg #[.int .i64 3, .string ⟨#[]⟩, .slice (some ⟨w.heap.size + 1 + 1 + 1 + 1 + 1, 0, none⟩) 2 2]) := by
  refine ⟨w.heap.size + 1 + 1 + 1 + 1 + 1, 2, _, _, rfl, by rw [seven_size]; omega, ⟨1, ⟨#[]⟩, some ⟨w.heap.size + 1, 0, none⟩, 1, 1, rfl, ?_, ?_, ?_⟩, ⟨4, ⟨#[117]⟩, none, 0, 0, rfl, ?_, ?_, ?_⟩, v_1 w, v_u w⟩ <;> (repeat (first | (refine at_new ?_ ?_; (focus (simp; done)); rfl) | (refine at_old ?_ ?_; focus (simp <;> omega))))

/-- The cells that the facts' walk reads, in a world behind the seven blocks. -/
def FCells (w W : World) : Prop :=
  (W.cell? ⟨w.heap.size, 0, none⟩ = some (.int .i64 4) ∧ W.cell? ⟨w.heap.size, 1, none⟩ = some (.string ⟨#[117]⟩) ∧ W.cell? ⟨w.heap.size, 2, none⟩ = some (.slice none 0 0)) ∧
  (W.cell? ⟨w.heap.size + 1 + 1 + 1 + 1, 0, none⟩ = some (.int .i64 2) ∧ W.cell? ⟨w.heap.size + 1 + 1 + 1 + 1, 1, none⟩ = some (.string ⟨#[]⟩) ∧ W.cell? ⟨w.heap.size + 1 + 1 + 1 + 1, 2, none⟩ = some (.slice (some ⟨w.heap.size + 1 + 1 + 1, 0, none⟩) 2 2)) ∧
  (W.cell? ⟨w.heap.size + 1 + 1 + 1 + 1 + 1 + 1, 0, none⟩ = some (.int .i64 3) ∧ W.cell? ⟨w.heap.size + 1 + 1 + 1 + 1 + 1 + 1, 1, none⟩ = some (.string ⟨#[]⟩) ∧ W.cell? ⟨w.heap.size + 1 + 1 + 1 + 1 + 1 + 1, 2, none⟩ = some (.slice (some ⟨w.heap.size + 1 + 1 + 1 + 1 + 1, 0, none⟩) 2 2)) ∧ w.heap.size + 7 ≤ W.heap.size

theorem fcells {w W : World} (h : Below (seven w).heap.size (seven w) W) : FCells w W := by
  have hz := h.size
  rw [seven_size] at h hz
  refine ⟨⟨?_, ?_, ?_⟩, ⟨?_, ?_, ?_⟩, ⟨?_, ?_, ?_⟩, hz⟩ <;> ((refine (h.cell ?_).trans ?_); (focus (show (_ : Nat) < _; dsimp only; omega)); (repeat (first | (refine at_new ?_ ?_; (focus (simp; done)); rfl) | (refine at_old ?_ ?_; focus (simp <;> omega)))))

/-- Where the facts' walk stands. -/
def FAt (w W : World) : Prop := Hid (Below (seven w).heap.size (seven w) W) ∧ FCells w W
theorem FAt.of {w W : World} (h : Below (seven w).heap.size (seven w) W) : FAt w W := ⟨h, fcells h⟩

theorem nm_u : ∀ p, Lv.has p lu → p.size ≤ 1000 := fun p hp => by cases hp; decide
theorem nm_m : ∀ p, Lv.has p lm → p.size ≤ 1000 := fun p hp => by rcases hp with hp | hp; exact nm_u p hp; cases hp
theorem nm_i : ∀ p, Lv.has p li → p.size ≤ 1000 := fun p hp => by rcases hp with hp | hp; cases hp; exact nm_u p hp

theorem k_leq {w : World} {a b : LvB} {va vb : Value} {r : Bool} (hr : leB a b = r) (ha : InLv (seven w) (seven w).heap.size a va) (hb : InLv (seven w) (seven w).heap.size b vb) (na : a.nodes ≤ 1000) (nb : b.nodes ≤ 1000) (ma : ∀ p, Lv.has p a → p.size ≤ 1000) (mb : ∀ p, Lv.has p b → p.size ≤ 1000) (hl : (a.addP (b.addP [])).length ≤ 6) (W : World) (hW : Below (seven w).heap.size (seven w) W) :
    Calls Tryd.prog 9 #[va, vb] W fun e w' => e = .returned (.bool r) ∧ FAt w w' := by
  subst hr
  exact (leq_calls a b va vb _ W hW.size (ha.below hW) (hb.below hW) na nb ma mb hl).mono fun _ _ ⟨he, hb⟩ => ⟨he, FAt.of (hW.trans (hb.mono hW.size))⟩
theorem k_same {w : World} {a b : LvB} {va vb : Value} {r : Bool} (hr : sameB a b = r) (ha : InLv (seven w) (seven w).heap.size a va) (hb : InLv (seven w) (seven w).heap.size b vb) (na : a.nodes ≤ 1000) (nb : b.nodes ≤ 1000) (ma : ∀ p, Lv.has p a → p.size ≤ 1000) (mb : ∀ p, Lv.has p b → p.size ≤ 1000) (hl : (a.addP (b.addP [])).length ≤ 6) (W : World) (hW : Below (seven w).heap.size (seven w) W) :
    Calls Tryd.prog 10 #[va, vb] W fun e w' => e = .returned (.bool r) ∧ FAt w w' := by
  subst hr
  exact (same_calls a b va vb _ W hW.size (ha.below hW) (hb.below hW) na nb ma mb hl).mono fun _ _ ⟨he, hb⟩ => ⟨he, FAt.of (hW.trans (hb.mono hW.size))⟩

theorem strs1 {W : World} {b : Nat} {q : ByteArray} (h0 : W.cell? ⟨b, 0, none⟩ = some (.string q)) : InStrs W W.heap.size (.slice (some ⟨b, 0, none⟩) 1 1) [q] := by
  have hb := World.block_lt_of_cell? _ _ h0
  exact ⟨by simp [maxLen], _, _, rfl, fun i hi => ⟨_, _, rfl, hb, by match i, hi with | 0, _ => exact h0⟩⟩
theorem ints1 {W : World} {b m : Nat} (h0 : W.cell? ⟨b, 0, none⟩ = some (.int .i64 (m : Nat))) : InInts W W.heap.size (.slice (some ⟨b, 0, none⟩) 1 1) [m] := by
  have hb := World.block_lt_of_cell? _ _ h0
  exact ⟨_, _, rfl, fun i hi => ⟨_, _, rfl, hb, by match i, hi with | 0, _ => exact h0⟩⟩

theorem text_m : (⟨lm.text.toArray⟩ : ByteArray) = ⟨#[40, 109, 97, 120, 32, 117, 32, 40, 115, 32, 48, 41, 41]⟩ := by decide

set_option maxRecDepth 100000 in
set_option maxHeartbeats 4000000 in
theorem facts_calls (w : World) (ht : Table w) : Calls Tryd.prog 4 #[] w fun e w' => e = .returned (.bool true) ∧ Below w.heap.size w w' := by
  have h0 : 0 < w.heap.size := World.block_lt_of_cell? _ _ ht.t0
  have A1 := hide (k_leq (w := w) f_um (v_u w) (v_m w) (by decide) (by decide) nm_u nm_m (by decide))
  have A2 := hide (k_leq (w := w) f_mu (v_m w) (v_u w) (by decide) (by decide) nm_m nm_u (by decide))
  have A3 := hide (k_same (w := w) f_iu (v_i w) (v_u w) (by decide) (by decide) nm_i nm_u (by decide))
  have A4 := hide (k_leq (w := w) f_im (v_i w) (v_m w) (by decide) (by decide) nm_i nm_m (by decide))
  have A5 : Hid (∀ W, Below (seven w).heap.size (seven w) W → Calls Tryd.prog 11 #[.agg #[.int .i64 2, .string ⟨#[]⟩, .slice (some ⟨w.heap.size + 1 + 1 + 1, 0, none⟩) 2 2]] W fun e w' => e = .returned (.string ⟨#[40, 109, 97, 120, 32, 117, 32, 40, 115, 32, 48, 41, 41]⟩) ∧ FAt w w') := fun W hW => by
    rw [← text_m]
    exact (print_calls lm _ _ W (by decide) nm_m hW.size ((v_m w).below hW) (ht.below ((seven_old w).trans (hW.mono (seven_old w).size)) h0) (by have := (seven_old w).size; have := hW.size; omega)).mono fun _ _ ⟨he, hb⟩ => ⟨he, FAt.of (hW.trans (hb.mono hW.size))⟩
  have A6 : Hid (∀ W, Below (seven w).heap.size (seven w) W → Calls Tryd.prog 8 #[.agg #[.int .i64 2, .string ⟨#[]⟩, .slice (some ⟨w.heap.size + 1 + 1 + 1, 0, none⟩) 2 2], .slice (some ⟨W.heap.size, 0, none⟩) 1 1, .slice (some ⟨W.heap.size + 1, 0, none⟩) 1 1] ((W.alloc (.cells #[.string ⟨#[117]⟩] 9)).alloc (.cells #[.int .i64 4] 3)) fun e w' => e = .returned (.int .i64 4) ∧ FAt w w') := fun W hW => by
    have hb : Below W.heap.size W ((W.alloc (.cells #[.string ⟨#[117]⟩] 9)).alloc (.cells #[.int .i64 4] 3)) := ((Below.refl _ _).alloc (Nat.le_refl _) _).alloc (by simp) _
    have hW2 := hW.trans (hb.mono hW.size)
    refine (lworth_calls [⟨#[117]⟩] [4] _ _ _ rfl (by simp) lm _ _ nm_m (by decide) (Nat.le_refl _) (((v_m w).below hW2).mono hW2.size) (strs1 (by simp)) (ints1 (by simp [World.cell?_alloc_at]))).mono fun _ _ ⟨he, hb2⟩ => ⟨he, FAt.of (hW2.trans (hb2.mono hW2.size))⟩
  have HO := hide (seven_old w)
  have HS := hide (seven_size w)
  clear ht
  go_enter Tryd.func4, Tryd.ntmps4
  go_wp2_with (go_at_call 9; refine (A1.out _ (Below.refl _ _)).mono ?_)
  rintro e w1 ⟨rfl, HB, ⟨u0, u1, u2⟩, ⟨m0, m1, m2⟩, ⟨i0, i1, i2⟩, hz⟩
  go_wp2_with (go_at_call 9; refine (A2.out _ HB.out).mono ?_)
  clear u0 u1 u2 m0 m1 m2 i0 i1 i2 hz
  rintro e w2 ⟨rfl, HB2, ⟨u0, u1, u2⟩, ⟨m0, m1, m2⟩, ⟨i0, i1, i2⟩, hz⟩
  go_wp2_with (go_at_call 10; refine (A3.out _ HB2.out).mono ?_)
  clear u0 u1 u2 m0 m1 m2 i0 i1 i2 hz
  rintro e w3 ⟨rfl, HB3, ⟨u0, u1, u2⟩, ⟨m0, m1, m2⟩, ⟨i0, i1, i2⟩, hz⟩
  go_wp2_with (go_at_call 9; refine (A4.out _ HB3.out).mono ?_)
  clear u0 u1 u2 m0 m1 m2 i0 i1 i2 hz
  rintro e w4 ⟨rfl, HB4, ⟨u0, u1, u2⟩, ⟨m0, m1, m2⟩, ⟨i0, i1, i2⟩, hz⟩
  go_wp2_with (go_at_call 11; refine (A5.out _ HB4.out).mono ?_)
  clear u0 u1 u2 m0 m1 m2 i0 i1 i2 hz
  rintro e w5 ⟨rfl, HB5, ⟨u0, u1, u2⟩, ⟨m0, m1, m2⟩, ⟨i0, i1, i2⟩, hz⟩
  go_wp2_with (go_at_call 8; refine (A6.out _ HB5.out).mono ?_)
  clear u0 u1 u2 m0 m1 m2 i0 i1 i2 hz
  rintro e w6 ⟨rfl, HB6, -⟩
  go_wp2_with fail
  go_ret
  exact ⟨rfl, HO.out.trans (HB6.out.mono (by rw [HS.out]; omega))⟩

end Go.Proofs.YtfdfeoojapcnmaaDoor
