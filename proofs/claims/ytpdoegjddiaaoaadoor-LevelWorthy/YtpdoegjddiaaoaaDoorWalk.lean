/- The walk through LevelWorthy: the closed facts hold, and no step of a script says otherwise. -/
import Derived.Test.YtpdoegjddiaaoaaDoorLevelOrder
import Derived.Test.YtpdoegjddiaaoaaDoorIndex
import Derived.Test.YtpdoegjddiaaoaaDoorPrint
import Derived.Test.YtpdoegjddiaaoaaDoorRead
import Derived.Test.YtpdoegjddiaaoaaDoorParse
import Derived.Test.YtpdoegjddiaaoaaDoorParams
import Derived.Deep.DeepCutAuto
import Derived.Deep.RegionHeld3
namespace Go.Proofs.YtpdoegjddiaaoaaDoor
open Go.RowKit

abbrev lu : LvB := .param ⟨#[117]⟩
abbrev l1 : LvB := .succ .zero
abbrev lm : LvB := .max lu l1
abbrev li : LvB := .imax l1 lu

theorem leB_of {a b : LvB} (h : Leq a b) : leB a b = true := leB_true h

theorem f_um : leB lu lm = true := leB_true fun τ => by simp [Lv.worth]; omega
theorem f_mu : leB lm lu = false := leB_false fun h => by have := h (fun _ => 0); simp [Lv.worth] at this
theorem f_im : leB li lm = true := leB_true fun τ => by simp [Lv.worth]; split <;> omega
theorem f_iu : sameB li lu = true := by
  unfold sameB
  rw [leB_true (a := li) (b := lu) fun τ => by simp [Lv.worth]; split <;> omega, leB_true (a := lu) (b := li) fun τ => by simp [Lv.worth]; split <;> omega]
  rfl

/-- The blocks that the facts lay. -/
abbrev seven (w : World) : World :=
  ((((((w.alloc (.cells #[.int .i64 4, .string ⟨#[117]⟩, .slice none 0 0] 28)).alloc (.cells #[.int .i64 0, .string ⟨#[]⟩, .slice none 0 0] 28)).alloc (.cells #[.int .i64 1, .string ⟨#[]⟩, .slice (some ⟨w.heap.size + 1, 0, none⟩) 1 1] 28)).alloc
    (.cells #[.int .i64 4, .string ⟨#[117]⟩, .slice none 0 0, .int .i64 1, .string ⟨#[]⟩, .slice (some ⟨w.heap.size + 1, 0, none⟩) 1 1] 28)).alloc (.cells #[.int .i64 2, .string ⟨#[]⟩, .slice (some ⟨w.heap.size + 1 + 1 + 1, 0, none⟩) 2 2] 28)).alloc
    (.cells #[.int .i64 1, .string ⟨#[]⟩, .slice (some ⟨w.heap.size + 1, 0, none⟩) 1 1, .int .i64 4, .string ⟨#[117]⟩, .slice none 0 0] 28)).alloc (.cells #[.int .i64 3, .string ⟨#[]⟩, .slice (some ⟨w.heap.size + 1 + 1 + 1 + 1 + 1, 0, none⟩) 2 2] 28)

theorem seven_old (w : World) : Below w.heap.size w (seven w) := by
  repeat' (first | exact Below.refl _ _ | refine Below.alloc ?_ ?_ _)
  all_goals (simp; try omega)
theorem seven_size (w : World) : (seven w).heap.size = w.heap.size + 7 := by simp

theorem at_new {W : World} {c : Array Value} {t n i : Nat} {v : Value} (hn : n = W.heap.size) (h : c[i]? = some v) : (W.alloc (.cells c t)).cell? ⟨n, i, none⟩ = some v := by
  subst hn; simpa using h
theorem at_old {W : World} {o : Obj} {n i : Nat} {v : Value} (hn : n < W.heap.size) (h : W.cell? ⟨n, i, none⟩ = some v) : (W.alloc o).cell? ⟨n, i, none⟩ = some v := by
  rw [World.cell?_alloc_lt _ _ _ hn]; exact h
theorem v_u (w : World) : InLv (seven w) (seven w).heap.size lu (.agg #[.int .i64 4, .string ⟨#[117]⟩, .slice none 0 0]) := rfl
theorem v_1 (w : World) : InLv (seven w) (seven w).heap.size l1 (.agg #[.int .i64 1, .string ⟨#[]⟩, .slice (some ⟨w.heap.size + 1, 0, none⟩) 1 1]) := by
  refine ⟨w.heap.size + 1, 1, _, rfl, by rw [seven_size]; omega, ⟨0, ⟨#[]⟩, none, 0, 0, rfl, ?_, ?_, ?_⟩, rfl⟩ <;> (repeat (first | (refine at_new ?_ ?_; (focus (simp; done)); rfl) | (refine at_old ?_ ?_; focus (simp <;> omega))))
theorem v_m (w : World) : InLv (seven w) (seven w).heap.size lm (.agg #[.int .i64 2, .string ⟨#[]⟩, .slice (some ⟨w.heap.size + 1 + 1 + 1, 0, none⟩) 2 2]) := by
  refine ⟨w.heap.size + 1 + 1 + 1, 2, _, _, rfl, by rw [seven_size]; omega, ⟨4, ⟨#[117]⟩, none, 0, 0, rfl, ?_, ?_, ?_⟩, ⟨1, ⟨#[]⟩, some ⟨w.heap.size + 1, 0, none⟩, 1, 1, rfl, ?_, ?_, ?_⟩, v_u w, v_1 w⟩ <;> (repeat (first | (refine at_new ?_ ?_; (focus (simp; done)); rfl) | (refine at_old ?_ ?_; focus (simp <;> omega))))
theorem v_i (w : World) : InLv (seven w) (seven w).heap.size li (.agg #[.int .i64 3, .string ⟨#[]⟩, .slice (some ⟨w.heap.size + 1 + 1 + 1 + 1 + 1, 0, none⟩) 2 2]) := by
  refine ⟨w.heap.size + 1 + 1 + 1 + 1 + 1, 2, _, _, rfl, by rw [seven_size]; omega, ⟨1, ⟨#[]⟩, some ⟨w.heap.size + 1, 0, none⟩, 1, 1, rfl, ?_, ?_, ?_⟩, ⟨4, ⟨#[117]⟩, none, 0, 0, rfl, ?_, ?_, ?_⟩, v_1 w, v_u w⟩ <;> (repeat (first | (refine at_new ?_ ?_; (focus (simp; done)); rfl) | (refine at_old ?_ ?_; focus (simp <;> omega))))

/-- The cells that the facts' walk reads, in a world behind the seven blocks. -/
def FCells (w W : World) : Prop :=
  (W.cell? ⟨w.heap.size, 0, none⟩ = some (.int .i64 4) ∧ W.cell? ⟨w.heap.size, 1, none⟩ = some (.string ⟨#[117]⟩) ∧ W.cell? ⟨w.heap.size, 2, none⟩ = some (.slice none 0 0)) ∧
  (W.cell? ⟨w.heap.size + 1 + 1 + 1 + 1, 0, none⟩ = some (.int .i64 2) ∧ W.cell? ⟨w.heap.size + 1 + 1 + 1 + 1, 1, none⟩ = some (.string ⟨#[]⟩) ∧ W.cell? ⟨w.heap.size + 1 + 1 + 1 + 1, 2, none⟩ = some (.slice (some ⟨w.heap.size + 1 + 1 + 1, 0, none⟩) 2 2)) ∧
  (W.cell? ⟨w.heap.size + 1 + 1 + 1 + 1 + 1 + 1, 0, none⟩ = some (.int .i64 3) ∧ W.cell? ⟨w.heap.size + 1 + 1 + 1 + 1 + 1 + 1, 1, none⟩ = some (.string ⟨#[]⟩) ∧ W.cell? ⟨w.heap.size + 1 + 1 + 1 + 1 + 1 + 1, 2, none⟩ = some (.slice (some ⟨w.heap.size + 1 + 1 + 1 + 1 + 1, 0, none⟩) 2 2)) ∧ w.heap.size + 7 ≤ W.heap.size

theorem fcells {w W : World} (h : Below (seven w).heap.size (seven w) W) : FCells w W := by
  have hz := h.size
  rw [seven_size] at h hz
  refine ⟨⟨?_, ?_, ?_⟩, ⟨?_, ?_, ?_⟩, ⟨?_, ?_, ?_⟩, hz⟩ <;> ((refine (h.cell ?_).trans ?_); (focus (show (_ : Nat) < _; dsimp only; omega)); (repeat (first | (refine at_new ?_ ?_; (focus (simp; done)); rfl) | (refine at_old ?_ ?_; focus (simp <;> omega)))))

/-- Where the facts' walk stands. -/
def FAt (w W : World) : Prop := Hid (Below (seven w).heap.size (seven w) W) ∧ FCells w W
theorem FAt.of {w W : World} (h : Below (seven w).heap.size (seven w) W) : FAt w W := ⟨h, fcells h⟩

theorem nm_u : ∀ p, Lv.has p lu → p.size ≤ 1000 := fun p hp => by cases hp; decide
theorem nm_m : ∀ p, Lv.has p lm → p.size ≤ 1000 := fun p hp => by rcases hp with hp | hp; exact nm_u p hp; cases hp
theorem nm_i : ∀ p, Lv.has p li → p.size ≤ 1000 := fun p hp => by rcases hp with hp | hp; cases hp; exact nm_u p hp

theorem k_leq {w : World} {a b : LvB} {va vb : Value} {r : Bool} (hr : leB a b = r) (ha : InLv (seven w) (seven w).heap.size a va) (hb : InLv (seven w) (seven w).heap.size b vb) (na : a.nodes ≤ 1000) (nb : b.nodes ≤ 1000) (ma : ∀ p, Lv.has p a → p.size ≤ 1000) (mb : ∀ p, Lv.has p b → p.size ≤ 1000) (hl : (a.addP (b.addP [])).length ≤ 6) (W : World) (hW : Below (seven w).heap.size (seven w) W) :
    Calls Tryd.prog 9 #[va, vb] W fun e w' => e = .returned (.bool r) ∧ FAt w w' := by
  subst hr
  exact (leq_calls a b va vb _ W hW.size (ha.below hW) (hb.below hW) na nb ma mb hl).mono fun _ _ ⟨he, hb⟩ => ⟨he, FAt.of (hW.trans (hb.mono hW.size))⟩
theorem k_same {w : World} {a b : LvB} {va vb : Value} {r : Bool} (hr : sameB a b = r) (ha : InLv (seven w) (seven w).heap.size a va) (hb : InLv (seven w) (seven w).heap.size b vb) (na : a.nodes ≤ 1000) (nb : b.nodes ≤ 1000) (ma : ∀ p, Lv.has p a → p.size ≤ 1000) (mb : ∀ p, Lv.has p b → p.size ≤ 1000) (hl : (a.addP (b.addP [])).length ≤ 6) (W : World) (hW : Below (seven w).heap.size (seven w) W) :
    Calls Tryd.prog 10 #[va, vb] W fun e w' => e = .returned (.bool r) ∧ FAt w w' := by
  subst hr
  exact (same_calls a b va vb _ W hW.size (ha.below hW) (hb.below hW) na nb ma mb hl).mono fun _ _ ⟨he, hb⟩ => ⟨he, FAt.of (hW.trans (hb.mono hW.size))⟩

theorem strs1 {W : World} {b : Nat} {q : ByteArray} (h0 : W.cell? ⟨b, 0, none⟩ = some (.string q)) : InStrs W W.heap.size (.slice (some ⟨b, 0, none⟩) 1 1) [q] := by
  have hb := World.block_lt_of_cell? _ _ h0
  exact ⟨by simp [maxLen], _, _, rfl, fun i hi => ⟨_, _, rfl, hb, by match i, hi with | 0, _ => exact h0⟩⟩
theorem ints1 {W : World} {b m : Nat} (h0 : W.cell? ⟨b, 0, none⟩ = some (.int .i64 (m : Nat))) : InInts W W.heap.size (.slice (some ⟨b, 0, none⟩) 1 1) [m] := by
  have hb := World.block_lt_of_cell? _ _ h0
  exact ⟨_, _, rfl, fun i hi => ⟨_, _, rfl, hb, by match i, hi with | 0, _ => exact h0⟩⟩

theorem text_m : (⟨lm.text.toArray⟩ : ByteArray) = ⟨#[40, 109, 97, 120, 32, 117, 32, 40, 115, 32, 48, 41, 41]⟩ := by decide

set_option maxRecDepth 100000 in
set_option maxHeartbeats 4000000 in
theorem facts_calls (w : World) (ht : Table w) : Calls Tryd.prog 4 #[] w fun e w' => e = .returned (.bool true) ∧ Below w.heap.size w w' := by
  have h0 : 0 < w.heap.size := World.block_lt_of_cell? _ _ ht.t0
  have A1 := hide (k_leq (w := w) f_um (v_u w) (v_m w) (by decide) (by decide) nm_u nm_m (by decide))
  have A2 := hide (k_leq (w := w) f_mu (v_m w) (v_u w) (by decide) (by decide) nm_m nm_u (by decide))
  have A3 := hide (k_same (w := w) f_iu (v_i w) (v_u w) (by decide) (by decide) nm_i nm_u (by decide))
  have A4 := hide (k_leq (w := w) f_im (v_i w) (v_m w) (by decide) (by decide) nm_i nm_m (by decide))
  have A5 : Hid (∀ W, Below (seven w).heap.size (seven w) W → Calls Tryd.prog 11 #[.agg #[.int .i64 2, .string ⟨#[]⟩, .slice (some ⟨w.heap.size + 1 + 1 + 1, 0, none⟩) 2 2]] W fun e w' => e = .returned (.string ⟨#[40, 109, 97, 120, 32, 117, 32, 40, 115, 32, 48, 41, 41]⟩) ∧ FAt w w') := fun W hW => by
    rw [← text_m]
    exact (print_calls lm _ _ W (by decide) nm_m hW.size ((v_m w).below hW) (ht.below ((seven_old w).trans (hW.mono (seven_old w).size)) h0) (by have := (seven_old w).size; have := hW.size; omega)).mono fun _ _ ⟨he, hb⟩ => ⟨he, FAt.of (hW.trans (hb.mono hW.size))⟩
  have A6 : Hid (∀ W, Below (seven w).heap.size (seven w) W → Calls Tryd.prog 8 #[.agg #[.int .i64 2, .string ⟨#[]⟩, .slice (some ⟨w.heap.size + 1 + 1 + 1, 0, none⟩) 2 2], .slice (some ⟨W.heap.size, 0, none⟩) 1 1, .slice (some ⟨W.heap.size + 1, 0, none⟩) 1 1] ((W.alloc (.cells #[.string ⟨#[117]⟩] 9)).alloc (.cells #[.int .i64 4] 3)) fun e w' => e = .returned (.int .i64 4) ∧ FAt w w') := fun W hW => by
    have hb : Below W.heap.size W ((W.alloc (.cells #[.string ⟨#[117]⟩] 9)).alloc (.cells #[.int .i64 4] 3)) := ((Below.refl _ _).alloc (Nat.le_refl _) _).alloc (by simp) _
    have hW2 := hW.trans (hb.mono hW.size)
    refine (lworth_calls [⟨#[117]⟩] [4] _ _ _ rfl (by simp) lm _ _ nm_m (by decide) (Nat.le_refl _) (((v_m w).below hW2).mono hW2.size) (strs1 (by simp)) (ints1 (by simp [World.cell?_alloc_at]))).mono fun _ _ ⟨he, hb2⟩ => ⟨he, FAt.of (hW2.trans (hb2.mono hW2.size))⟩
  have HO := hide (seven_old w)
  have HS := hide (seven_size w)
  clear ht
  go_enter Tryd.func4, Tryd.ntmps4
  go_wp2_with (go_at_call 9; refine (A1.out _ (Below.refl _ _)).mono ?_)
  rintro e w1 ⟨rfl, HB, ⟨u0, u1, u2⟩, ⟨m0, m1, m2⟩, ⟨i0, i1, i2⟩, hz⟩
  go_wp2_with (go_at_call 9; refine (A2.out _ HB.out).mono ?_)
  clear u0 u1 u2 m0 m1 m2 i0 i1 i2 hz
  rintro e w2 ⟨rfl, HB2, ⟨u0, u1, u2⟩, ⟨m0, m1, m2⟩, ⟨i0, i1, i2⟩, hz⟩
  go_wp2_with (go_at_call 10; refine (A3.out _ HB2.out).mono ?_)
  clear u0 u1 u2 m0 m1 m2 i0 i1 i2 hz
  rintro e w3 ⟨rfl, HB3, ⟨u0, u1, u2⟩, ⟨m0, m1, m2⟩, ⟨i0, i1, i2⟩, hz⟩
  go_wp2_with (go_at_call 9; refine (A4.out _ HB3.out).mono ?_)
  clear u0 u1 u2 m0 m1 m2 i0 i1 i2 hz
  rintro e w4 ⟨rfl, HB4, ⟨u0, u1, u2⟩, ⟨m0, m1, m2⟩, ⟨i0, i1, i2⟩, hz⟩
  go_wp2_with (go_at_call 11; refine (A5.out _ HB4.out).mono ?_)
  clear u0 u1 u2 m0 m1 m2 i0 i1 i2 hz
  rintro e w5 ⟨rfl, HB5, ⟨u0, u1, u2⟩, ⟨m0, m1, m2⟩, ⟨i0, i1, i2⟩, hz⟩
  go_wp2_with (go_at_call 8; refine (A6.out _ HB5.out).mono ?_)
  clear u0 u1 u2 m0 m1 m2 i0 i1 i2 hz
  rintro e w6 ⟨rfl, HB6, -⟩
  go_wp2_with fail
  go_ret
  exact ⟨rfl, HO.out.trans (HB6.out.mono (by rw [HS.out]; omega))⟩



theorem parse_calls (s : ByteArray) (w : World) (hm : s.size ≤ maxLen) : Calls Tryd.prog 5 #[.string s] w fun e w' => Parsed w s e w' := by
  by_cases h : s.size ≤ 20000
  · exact parse_short s w h
  · exact parse_long s w (by omega) hm

/-- The cells that the step's walk reads, in a world. -/
def Cells (bo ba bb : Nat) (x y k1 k2 : Int) (nm1 nm2 : ByteArray) (A1 A2 : Option Addr) (n1 cap1 n2 cap2 : Nat) (W : World) : Prop :=
  (W.cell? ⟨bo, 4, none⟩ = some (.int .i64 x) ∧ W.cell? ⟨bo, 5, none⟩ = some (.int .i64 y)) ∧
  (W.cell? ⟨ba, 0, none⟩ = some (.int .i64 k1) ∧ W.cell? ⟨ba, 1, none⟩ = some (.string nm1) ∧ W.cell? ⟨ba, 2, none⟩ = some (.slice A1 n1 cap1)) ∧
  (W.cell? ⟨bb, 0, none⟩ = some (.int .i64 k2) ∧ W.cell? ⟨bb, 1, none⟩ = some (.string nm2) ∧ W.cell? ⟨bb, 2, none⟩ = some (.slice A2 n2 cap2)) ∧ bo < W.heap.size ∧ ba < W.heap.size ∧ bb < W.heap.size

theorem Cells.later {bo ba bb : Nat} {x y k1 k2 : Int} {nm1 nm2 : ByteArray} {A1 A2 : Option Addr} {n1 cap1 n2 cap2 : Nat} {V W : World} (h : Cells bo ba bb x y k1 k2 nm1 nm2 A1 A2 n1 cap1 n2 cap2 V) (hb : Below V.heap.size V W) : Cells bo ba bb x y k1 k2 nm1 nm2 A1 A2 n1 cap1 n2 cap2 W := by
  obtain ⟨⟨h3, h4⟩, ⟨h5, h6, h7⟩, ⟨h8, h9, h10⟩, h11, h12, h13⟩ := h
  have := hb.size
  exact ⟨⟨cell_later hb h3, cell_later hb h4⟩, ⟨cell_later hb h5, cell_later hb h6, cell_later hb h7⟩, ⟨cell_later hb h8, cell_later hb h9, cell_later hb h10⟩, by omega, by omega, by omega⟩

/-- Where the walk stands: behind the base world, with its cells. -/
def At (V : World) (C : World → Prop) (W : World) : Prop := Hid (Below V.heap.size V W) ∧ C W
theorem At.of {V W : World} {C : World → Prop} (hC : ∀ W, Below V.heap.size V W → C W) (h : Below V.heap.size V W) : At V C W := ⟨h, hC W h⟩

theorem Nm.small {q : ByteArray} (h : Nm q) : q.size ≤ 1000 := by have := h.2.1; omega

theorem addP_self_len (a b : LvB) : (a.addP (a.addP [])).length ≤ (a.addP (b.addP [])).length :=
  nodup_length _ _ (Lv.addP_nodup _ _ (Lv.addP_nodup _ _ List.nodup_nil)) fun p hp => by
    rcases Lv.addP_mem _ _ _ hp with h | h
    · rcases Lv.addP_mem _ _ _ h with h | h
      · cases h
      · exact Lv.addP_has _ _ _ h
    · exact Lv.addP_has _ _ _ h

theorem sameB_self (a : LvB) : sameB a a = true := by
  unfold sameB
  rw [leB_true fun τ => Nat.le_refl _]
  rfl

/-- The names under which the statement asks what a level is worth. -/
abbrev uvw : List ByteArray := [⟨#[117]⟩, ⟨#[118]⟩, ⟨#[119]⟩]

theorem strs3 {W : World} {b : Nat} (h0 : W.cell? ⟨b, 0, none⟩ = some (.string ⟨#[117]⟩)) (h1 : W.cell? ⟨b, 1, none⟩ = some (.string ⟨#[118]⟩)) (h2 : W.cell? ⟨b, 2, none⟩ = some (.string ⟨#[119]⟩)) : InStrs W W.heap.size (.slice (some ⟨b, 0, none⟩) 3 3) uvw := by
  have hb := World.block_lt_of_cell? _ _ h0
  refine ⟨by simp [uvw, maxLen], _, _, rfl, fun i hi => ⟨_, _, rfl, hb, ?_⟩⟩
  match i, hi with
  | 0, _ => exact h0
  | 1, _ => exact h1
  | 2, _ => exact h2
theorem ints3 {W : World} {b m n o : Nat} (h0 : W.cell? ⟨b, 0, none⟩ = some (.int .i64 (m : Nat))) (h1 : W.cell? ⟨b, 1, none⟩ = some (.int .i64 (n : Nat))) (h2 : W.cell? ⟨b, 2, none⟩ = some (.int .i64 (o : Nat))) : InInts W W.heap.size (.slice (some ⟨b, 0, none⟩) 3 3) [m, n, o] := by
  have hb := World.block_lt_of_cell? _ _ h0
  refine ⟨_, _, rfl, fun i hi => ⟨_, _, rfl, hb, ?_⟩⟩
  match i, hi with
  | 0, _ => exact h0
  | 1, _ => exact h1
  | 2, _ => exact h2

section
variable {V : World} {C : World → Prop} {la lb : LvB} {va vb : Value}

theorem s_leq (hC : ∀ W, Below V.heap.size V W → C W) (ia : InLv V V.heap.size la va) (ib : InLv V V.heap.size lb vb) (na : la.nodes ≤ 300) (nb : lb.nodes ≤ 300) (ma : ∀ p, Lv.has p la → Nm p) (mb : ∀ p, Lv.has p lb → Nm p) (hl : (la.addP (lb.addP [])).length ≤ 6) (W : World) (hW : Below V.heap.size V W) :
    Calls Tryd.prog 9 #[va, vb] W fun e w' => e = .returned (.bool (leB la lb)) ∧ At V C w' :=
  (leq_calls la lb va vb V.heap.size W hW.size (ia.below hW) (ib.below hW) (by omega) (by omega) (fun p h => (ma p h).small) (fun p h => (mb p h).small) hl).mono fun _ _ ⟨he, hb⟩ => ⟨he, At.of hC (hW.trans (hb.mono hW.size))⟩

theorem s_same (hC : ∀ W, Below V.heap.size V W → C W) (ia : InLv V V.heap.size la va) (ib : InLv V V.heap.size lb vb) (na : la.nodes ≤ 300) (nb : lb.nodes ≤ 300) (ma : ∀ p, Lv.has p la → Nm p) (mb : ∀ p, Lv.has p lb → Nm p) (hl : (la.addP (lb.addP [])).length ≤ 6) (W : World) (hW : Below V.heap.size V W) :
    Calls Tryd.prog 10 #[va, vb] W fun e w' => e = .returned (.bool (leB la lb && leB lb la)) ∧ At V C w' :=
  (same_calls la lb va vb V.heap.size W hW.size (ia.below hW) (ib.below hW) (by omega) (by omega) (fun p h => (ma p h).small) (fun p h => (mb p h).small) hl).mono fun _ _ ⟨he, hb⟩ => ⟨he, At.of hC (hW.trans (hb.mono hW.size))⟩

theorem s_again (hC : ∀ W, Below V.heap.size V W → C W) (na : la.nodes ≤ 300) (ma : ∀ p, Lv.has p la → Nm p) (hl : (la.addP (lb.addP [])).length ≤ 6) (W : World) (u v : Value) (iu : Hid (InLv W W.heap.size la u)) (iv : Hid (InLv W W.heap.size la v)) (hW : Below V.heap.size V W) :
    Calls Tryd.prog 10 #[u, v] W fun e w' => e = .returned (.bool true) ∧ At V C w' := by
  have h := same_calls la la u v W.heap.size W (Nat.le_refl _) iu.out iv.out (by omega) (by omega) (fun p h => (ma p h).small) (fun p h => (ma p h).small) (by have := addP_self_len la lb; omega)
  rw [sameB_self] at h
  exact h.mono fun _ _ ⟨he, hb⟩ => ⟨he, At.of hC (hW.trans (hb.mono hW.size))⟩

theorem s_worth (hC : ∀ W, Below V.heap.size V W → C W) (ia : InLv V V.heap.size la va) (na : la.nodes ≤ 300) (ma : ∀ p, Lv.has p la → Nm p) (nv iv : Value) (m n o : Nat) (hm : m ≤ 1000000) (hn : n ≤ 1000000) (ho : o ≤ 1000000) (hs : InStrs V V.heap.size nv uvw) (hi : InInts V V.heap.size iv [m, n, o]) (W : World) (hW : Below V.heap.size V W) :
    Calls Tryd.prog 8 #[va, nv, iv] W fun e w' => e = .returned (.int .i64 (la.worth (look uvw [m, n, o]) : Nat)) ∧ At V C w' :=
  (lworth_calls uvw [m, n, o] nv iv V.heap.size rfl (by simp; omega) la va W (fun p h => (ma p h).small) (by omega) hW.size (ia.below hW) (hs.below hW) (hi.below hW)).mono fun _ _ ⟨he, hb⟩ => ⟨he, At.of hC (hW.trans (hb.mono hW.size))⟩

theorem s_print (hC : ∀ W, Below V.heap.size V W → C W) (ia : InLv V V.heap.size la va) (na : la.nodes ≤ 300) (ma : ∀ p, Lv.has p la → Nm p) (ht : Tabs V) (W : World) (hW : Below V.heap.size V W) :
    Calls Tryd.prog 11 #[va] W fun e w' => e = .returned (.string ⟨la.text.toArray⟩) ∧ At V C w' :=
  (print_calls la va V.heap.size W (by omega) (fun p h => (ma p h).small) hW.size (ia.below hW) (ht.below hW ht.lt).t (by have := ht.lt; have := hW.size; omega)).mono fun _ _ ⟨he, hb⟩ => ⟨he, At.of hC (hW.trans (hb.mono hW.size))⟩

theorem s_back (hC : ∀ W, Below V.heap.size V W → C W) (na : la.nodes ≤ 300) (ma : ∀ p, Lv.has p la → Nm p) (ht : Tabs V) (W : World) (hW : Below V.heap.size V W) :
    Calls Tryd.prog 12 #[.string ⟨la.text.toArray⟩] W fun e w' => ∃ (k : Int) (nm : ByteArray) (A : Option Addr) (n cap : Nat), e = .returned (.tuple #[.agg #[.int .i64 k, .string nm, .slice A n cap], .nilIface]) ∧ Hid (InLv w' w'.heap.size la (.agg #[.int .i64 k, .string nm, .slice A n cap])) ∧ At V C w' :=
  (parse_back la W (by omega) ma (ht.below hW ht.lt)).mono fun _ _ ⟨k, nm, A, n, cap, he, hi, hb⟩ => ⟨k, nm, A, n, cap, he, hi, At.of hC (hW.trans (hb.mono hW.size))⟩

/-- What the statement's own Params gives: how many names there are. -/
theorem s_names1 (hC : ∀ W, Below V.heap.size V W → C W) (ib : InLv V V.heap.size lb vb) (nb : lb.nodes ≤ 300) (W : World) (hW : Below V.heap.size V W) :
    Calls Tryd.prog 6 #[vb, .slice none 0 0] W fun e w' => ∃ v', e = .returned v' ∧ Hid (w'.ownsRow V.heap.size 9 1 v' (lb.addP []).length ((lb.addP []).map .string)) ∧ At V C w' := by
  refine (rparams_calls lb.nodes lb _ (.slice none 0 0) [] V.heap.size V.heap.size W (Nat.le_refl _) (Nat.le_refl _) hW.size (ib.below hW) (World.ownsRow_nil _ _ _ _) (by simp; omega)).mono ?_
  rintro e w' ⟨v', rfl, ho, hg⟩
  have hb := hW.trans (hg.below hW.size (fun k hk => by simp [Value.ownBlock] at hk))
  exact ⟨v', rfl, ho, At.of hC hb⟩
theorem s_names2 (hC : ∀ W, Below V.heap.size V W → C W) (ia : InLv V V.heap.size la va) (na : la.nodes ≤ 300) (nb : lb.nodes ≤ 300) (W : World) (v1 : Value) (hO : Hid (W.ownsRow V.heap.size 9 1 v1 (lb.addP []).length ((lb.addP []).map .string))) (hW : Below V.heap.size V W) :
    Calls Tryd.prog 6 #[va, v1] W fun e w' => ∃ A9 cap9, e = .returned (.slice A9 (la.addP (lb.addP [])).length cap9) ∧ At V C w' := by
  have hla := Lv.addP_len lb []
  simp at hla
  refine (rparams_calls la.nodes la _ v1 _ V.heap.size V.heap.size W (Nat.le_refl _) (Nat.le_refl _) hW.size (ia.below hW) hO.out (by omega)).mono ?_
  rintro e w' ⟨v', rfl, ho, hg⟩
  have hb := hW.trans (hg.below hW.size (fun k hk => (hO.out.lt k hk).1))
  obtain ⟨A9, cap9, rfl⟩ := shape_of_owns' ho
  exact ⟨A9, cap9, rfl, At.of hC hb⟩
end



/-- A number that an int holds. -/
abbrev Fits (x : Int) : Prop := -9223372036854775808 ≤ x ∧ x ≤ 9223372036854775807

/-- A script as it came in: each step's six cells. -/
def IsOps (w : World) (a : Option Addr) (len : Nat) : Prop := len ≤ maxLen ∧ ∀ i, i < len → ∃ (b off : Nat) (kd x y : Int) (S T U : ByteArray), a = some ⟨b, off, none⟩ ∧ S.size ≤ maxLen ∧ T.size ≤ maxLen ∧ Fits x ∧ Fits y ∧
  w.cell? ⟨b, off + i * 6, none⟩ = some (.int .i64 kd) ∧ w.cell? ⟨b, off + i * 6 + 1, none⟩ = some (.string S) ∧ w.cell? ⟨b, off + i * 6 + 2, none⟩ = some (.string T) ∧ w.cell? ⟨b, off + i * 6 + 3, none⟩ = some (.string U) ∧
  w.cell? ⟨b, off + i * 6 + 4, none⟩ = some (.int .i64 x) ∧ w.cell? ⟨b, off + i * 6 + 5, none⟩ = some (.int .i64 y)

theorem hid_true {P : Prop} : Hid (true = false → P) := fun h => by cases h
theorem hid_comp {A B C : Prop} (f : Hid (B → C)) (g : Hid (A → B)) : Hid (A → C) := fun h => f (g h)
theorem ints_out {W3 w6 W : World} {nv : Value} {ib m n o : Nat} (hbn : Below w6.heap.size w6 W) (HN : Hid (InStrs w6 w6.heap.size nv uvw)) (HB6 : Hid (Below W3.heap.size W3 w6)) (i0 : W.cell? ⟨ib, 0, none⟩ = some (.int .i64 (m : Nat))) (i1 : W.cell? ⟨ib, 1, none⟩ = some (.int .i64 (n : Nat))) (i2 : W.cell? ⟨ib, 2, none⟩ = some (.int .i64 (o : Nat))) :
    ∃ ib' : Nat, Value.slice (some ⟨ib, 0, none⟩) 3 3 = .slice (some ⟨ib', 0, none⟩) 3 3 ∧ Hid (InInts W W.heap.size (.slice (some ⟨ib', 0, none⟩) 3 3) [m, n, o]) ∧ Hid (InStrs W W.heap.size nv uvw) ∧ Hid (Below W3.heap.size W3 W) :=
  ⟨ib, rfl, ints3 i0 i1 i2, (HN.out.below hbn).mono hbn.size, HB6.out.trans (hbn.mono HB6.out.size)⟩

theorem fits_sum (x y : Int) : Fits (IntKind.i64.wrap (x + y)) := by rw [IntKind.wrap_i64]; unfold Fits; omega

set_option maxHeartbeats 8000000 in
set_option maxRecDepth 100000 in
theorem worthy_walk (a : Option Addr) (len cap : Nat) (w0 : World) (h : IsOps w0 a len) (ht : Tabs w0) :
    Calls Tryd.prog 3 #[.slice a len cap] w0 fun e w' => e = .returned (.bool true) ∧ Below w0.heap.size w0 w' := by
  obtain ⟨hm, hc⟩ := h
  have h00 : 1 < w0.heap.size := ht.lt
  have HF := hide (facts_calls w0 ht.t)
  have HTb := hide ht
  clear ht
  unfold maxLen at hm
  have HC0 := hide hc
  clear hc
  go_enter Tryd.func3, Tryd.ntmps3
  go_wp2_with (go_at_call 4; refine HF.out.mono ?_; rintro e wf ⟨rfl, hbf⟩)
  have HBF := hide hbf
  clear hbf HF
  go_loopg [4] (len) (fun g i wr => ∃ k : Nat, k + g = len ∧ i = .int .i64 k ∧ Below w0.heap.size w0 wr)
  case atStart => exact ⟨0, by omega, rfl, HBF.out⟩
  case round =>
    obtain ⟨k, hkg, rfl, hbel⟩ := hrel
    rename World => w
    have HB := hide hbel
    clear hbel
    by_cases hlt : k < len
    · by_cases hmax : (k : Int) < 1152921504606846976
      · obtain ⟨b, off, kd, x, y, S, T, U, rfl, hS, hT, hx, hy, c0, c1, c2, c3, c4, c5⟩ := HC0.out k hlt
        have d0 := cell_later HB.out c0
        have d1 := cell_later HB.out c1
        have d2 := cell_later HB.out c2
        have d3 := cell_later HB.out c3
        have d4 := cell_later HB.out c4
        have d5 := cell_later HB.out c5
        have HS := hide (fun W => parse_calls S W hS)
        have HT := hide (fun W => parse_calls T W hT)
        have HX := hide hx
        have HY := hide hy
        have HZ := hide (fits_sum x y)
        have hzw := HB.out.size
        clear c0 c1 c2 c3 c4 c5 hx hy
        unfold maxLen at hS hT
        go_wp2_with (go_at_call 5; refine (HS.out _).mono ?_)
        rintro e w1 ⟨k1, nm1, A1, n1, cap1, c1, a1, rfl, hb1, hp1⟩
        have hz1 := hb1.size
        simp at hz1
        have HB1 : Hid (Below (w.heap.size + 1) (w.alloc (.cells #[.int .i64 kd, .string S, .string T, .string U, .int .i64 x, .int .i64 y] 25)) w1) := by simpa [Hid] using hb1
        have o2 : w1.cell? ⟨w.heap.size, 2, none⟩ = some (.string T) := by rw [HB1.out.cell (by simp)]; simp
        have l0 : w.heap.size < w1.heap.size := by omega
        have HP1 := hide hp1
        clear hb1 hp1 d0 d1 d2 d3 d4 d5
        go_wp2_with (go_at_call 5; refine (HT.out _).mono ?_)
        rintro e w2 ⟨k2, nm2, A2, n2, cap2, c2, a2, rfl, hb2, hp2⟩
        have hz2 := hb2.size
        simp at hz2
        have HB2 : Hid (Below (w1.heap.size + 2) ((w1.alloc (.cells #[.int .i64 k1, .string nm1, .slice A1 n1 cap1] 28)).alloc (.cells #[.int .i64 (c1 : Nat), .int .i64 (a1 : Nat)] 30)) w2) := by simpa [Hid] using hb2
        have HP2 := hide hp2
        clear hb2 hp2 o2
        go_upto_region 8 with fail
        have hold2 : Below w2.heap.size w2 ((w2.alloc (.cells #[.int .i64 k2, .string nm2, .slice A2 n2 cap2] 28)).alloc (.cells #[.int .i64 (c2 : Nat), .int .i64 (a2 : Nat)] 30)) := ((Below.refl _ _).alloc (Nat.le_refl _) _).alloc (by simp) _
        have b0 : ((w2.alloc (.cells #[.int .i64 k2, .string nm2, .slice A2 n2 cap2] 28)).alloc (.cells #[.int .i64 (c2 : Nat), .int .i64 (a2 : Nat)] 30)).cell? ⟨w2.heap.size, 0, none⟩ = some (.int .i64 k2) := by simp
        have b1 : ((w2.alloc (.cells #[.int .i64 k2, .string nm2, .slice A2 n2 cap2] 28)).alloc (.cells #[.int .i64 (c2 : Nat), .int .i64 (a2 : Nat)] 30)).cell? ⟨w2.heap.size, 1, none⟩ = some (.string nm2) := by simp
        have b2 : ((w2.alloc (.cells #[.int .i64 k2, .string nm2, .slice A2 n2 cap2] 28)).alloc (.cells #[.int .i64 (c2 : Nat), .int .i64 (a2 : Nat)] 30)).cell? ⟨w2.heap.size, 2, none⟩ = some (.slice A2 n2 cap2) := by simp
        have g0 : ((w2.alloc (.cells #[.int .i64 k2, .string nm2, .slice A2 n2 cap2] 28)).alloc (.cells #[.int .i64 (c2 : Nat), .int .i64 (a2 : Nat)] 30)).cell? ⟨w2.heap.size + 1, 0, none⟩ = some (.int .i64 (c2 : Nat)) := by simp [World.cell?_alloc_at]
        have hz3 : ((w2.alloc (.cells #[.int .i64 k2, .string nm2, .slice A2 n2 cap2] 28)).alloc (.cells #[.int .i64 (c2 : Nat), .int .i64 (a2 : Nat)] 30)).heap.size = w2.heap.size + 2 := by simp
        generalize (w2.alloc (.cells #[.int .i64 k2, .string nm2, .slice A2 n2 cap2] 28)).alloc (.cells #[.int .i64 (c2 : Nat), .int .i64 (a2 : Nat)] 30) = W3 at *
        have hold1 : Below (w1.heap.size + 2) ((w1.alloc (.cells #[.int .i64 k1, .string nm1, .slice A1 n1 cap1] 28)).alloc (.cells #[.int .i64 (c1 : Nat), .int .i64 (a1 : Nat)] 30)) W3 := HB2.out.trans (hold2.mono (by omega))
        have p0 : W3.cell? ⟨w1.heap.size, 0, none⟩ = some (.int .i64 k1) := by rw [hold1.cell (by simp)]; simp
        have p1 : W3.cell? ⟨w1.heap.size, 1, none⟩ = some (.string nm1) := by rw [hold1.cell (by simp)]; simp
        have p2 : W3.cell? ⟨w1.heap.size, 2, none⟩ = some (.slice A1 n1 cap1) := by rw [hold1.cell (by simp)]; simp
        have f0 : W3.cell? ⟨w1.heap.size + 1, 0, none⟩ = some (.int .i64 (c1 : Nat)) := by rw [hold1.cell (by simp)]; simp [World.cell?_alloc_at]
        have hold1' : Below w1.heap.size w1 W3 := (((Below.refl _ _).alloc (Nat.le_refl _) _).alloc (by simp) _).trans (hold1.mono (by omega))
        have hold0 : Below (w.heap.size + 1) (w.alloc (.cells #[.int .i64 kd, .string S, .string T, .string U, .int .i64 x, .int .i64 y] 25)) W3 := HB1.out.trans (hold1'.mono (by omega))
        have o1 : W3.cell? ⟨w.heap.size, 1, none⟩ = some (.string S) := by rw [hold0.cell (by simp)]; simp
        have o2 : W3.cell? ⟨w.heap.size, 2, none⟩ = some (.string T) := by rw [hold0.cell (by simp)]; simp
        have o4 : W3.cell? ⟨w.heap.size, 4, none⟩ = some (.int .i64 x) := by rw [hold0.cell (by simp)]; simp
        have o5 : W3.cell? ⟨w.heap.size, 5, none⟩ = some (.int .i64 y) := by rw [hold0.cell (by simp)]; simp
        have HW : Hid (Below w0.heap.size w0 W3) := HB.out.trans ((((Below.refl _ _).alloc (Nat.le_refl _) _).trans (hold0.mono (by omega))).mono hzw)
        have HL1 : Hid (c1 = 0 → S.size ≤ 20000 ∧ ∃ l : LvB, InLv W3 W3.heap.size l (.agg #[.int .i64 k1, .string nm1, .slice A1 n1 cap1]) ∧ l.nodes ≤ S.size ∧ ∀ q, Lv.has q l → Nm q) := fun h => by
          obtain ⟨hz, l, h1, h2, h3⟩ := HP1.out h
          exact ⟨hz, l, (h1.below hold1').mono (by omega), h2, h3⟩
        have HL2 : Hid (c2 = 0 → T.size ≤ 20000 ∧ ∃ l : LvB, InLv W3 W3.heap.size l (.agg #[.int .i64 k2, .string nm2, .slice A2 n2 cap2]) ∧ l.nodes ≤ T.size ∧ ∀ q, Lv.has q l → Nm q) := fun h => by
          obtain ⟨hz, l, h1, h2, h3⟩ := HP2.out h
          exact ⟨hz, l, (h1.below hold2).mono (by omega), h2, h3⟩
        have hC : ∀ W, Below W3.heap.size W3 W → Cells w.heap.size w1.heap.size w2.heap.size x y k1 k2 nm1 nm2 A1 A2 n1 cap1 n2 cap2 W := fun W hW => Cells.later ⟨⟨o4, o5⟩, ⟨p0, p1, p2⟩, ⟨b0, b1, b2⟩, by omega, by omega, by omega⟩ hW
        have HC := hide hC
        clear hC hold0 hold1 hold1' hold2 HB1 HB2 HP1 HP2 HS HT HB HBF
        go_cut [78] (fun v wx => ∃ bv : Bool, v = .bool bv ∧ Hid (bv = false → ∃ la lb : LvB, InLv W3 W3.heap.size la (.agg #[.int .i64 k1, .string nm1, .slice A1 n1 cap1]) ∧ InLv W3 W3.heap.size lb (.agg #[.int .i64 k2, .string nm2, .slice A2 n2 cap2]) ∧ la.nodes ≤ 300 ∧ lb.nodes ≤ 300 ∧ (∀ q, Lv.has q la → Nm q) ∧ (∀ q, Lv.has q lb → Nm q) ∧ (la.addP (lb.addP [])).length ≤ 6) ∧ At W3 (Cells w.heap.size w1.heap.size w2.heap.size x y k1 k2 nm1 nm2 A1 A2 n1 cap1 n2 cap2) wx)
        case first =>
          by_cases hc1 : c1 = 0
          · have e1 : ((c1 : Int) != 0) = false := by simp [hc1]
            by_cases hc2 : c2 = 0
            · have e2 : ((c2 : Int) != 0) = false := by simp [hc2]
              by_cases hS3 : 300 < S.size
              · have eS : decide ((300 : Int) < (S.size : Int)) = true := by simp; omega
                have H1 := hide hc1
                have H2 := hide hc2
                clear hc1 hc2 HL1 HL2
                go_quiet (fail)
                go_wp2_with fail
                go_meet
                case rel => exact ⟨true, rfl, hid_true, At.of HC.out (below_drewN (Below.refl _ _) _)⟩
              · have eS : decide ((300 : Int) < (S.size : Int)) = false := by simp; omega
                by_cases hT3 : 300 < T.size
                · have eT : decide ((300 : Int) < (T.size : Int)) = true := by simp; omega
                  have H1 := hide hc1
                  have H2 := hide hc2
                  clear hc1 hc2 HL1 HL2
                  go_quiet (fail)
                  go_wp2_with fail
                  go_meet
                  case rel => exact ⟨true, rfl, hid_true, At.of HC.out (below_drewN (Below.refl _ _) _)⟩
                · have eT : decide ((300 : Int) < (T.size : Int)) = false := by simp; omega
                  obtain ⟨zS, la, ia, na, ma⟩ := HL1.out hc1
                  obtain ⟨zT, lb, ib, nb, mb⟩ := HL2.out hc2
                  have HPb := hide (s_names1 HC.out ib (by omega))
                  have HPa := hide (s_names2 (lb := lb) HC.out ia (by omega) (by omega))
                  have HE : Hid ((la.addP (lb.addP [])).length ≤ 6 → ∃ la lb : LvB, InLv W3 W3.heap.size la (.agg #[.int .i64 k1, .string nm1, .slice A1 n1 cap1]) ∧ InLv W3 W3.heap.size lb (.agg #[.int .i64 k2, .string nm2, .slice A2 n2 cap2]) ∧ la.nodes ≤ 300 ∧ lb.nodes ≤ 300 ∧ (∀ q, Lv.has q la → Nm q) ∧ (∀ q, Lv.has q lb → Nm q) ∧ (la.addP (lb.addP [])).length ≤ 6) := fun h => ⟨la, lb, ia, ib, by omega, by omega, ma, mb, h⟩
                  obtain ⟨bv, hbv⟩ : ∃ bv : Bool, decide ((6 : Int) < ((la.addP (lb.addP [])).length : Int)) = bv := ⟨_, rfl⟩
                  have HE6 : Hid (bv = false → (la.addP (lb.addP [])).length ≤ 6) := fun h => by rw [h] at hbv; simp at hbv; omega
                  have H1 := hide hc1
                  have H2 := hide hc2
                  have HB := hide (Below.refl W3.heap.size W3).drew
                  clear hc1 hc2 HL1 HL2 ia ib ma mb
                  generalize (la.addP (lb.addP [])).length = L at *
                  first | (go_region_with (first
                      | (go_at_call_of 6 (Value.slice none 0 0); refine (HPb.out _ ?_).mono ?_; exact HB.out; rintro e w4 ⟨v1, rfl, HO, HB, -, ⟨r0, r1, r2⟩, ⟨r3, r4, r5⟩, -⟩)
                      | (go_at_call 6; refine (HPa.out _ _ HO ?_).mono ?_; exact HB.out; rintro e w5 ⟨A9, cap9, rfl, HB5, HC5⟩))) | fail
                  all_goals
                    go_wp2_with fail
                    go_meet
                    case rel => exact ⟨bv, rfl, hid_comp HE HE6, At.of HC.out HB5.out⟩
            · have e2 : ((c2 : Int) != 0) = true := by simp; omega
              have H1 := hide hc1
              clear hc1 hc2 HL1 HL2
              go_quiet (fail)
              go_wp2_with fail
              go_meet
              case rel => exact ⟨true, rfl, hid_true, At.of HC.out (below_drewN (Below.refl _ _) _)⟩
          · have e1 : ((c1 : Int) != 0) = true := by simp; omega
            clear hc1 HL1 HL2
            go_quiet (fail)
            go_wp2_with fail
            go_meet
            case rel => exact ⟨true, rfl, hid_true, At.of HC.out (below_drewN (Below.refl _ _) _)⟩
        case rest =>
          clear o1 o2 o4 o5 p0 p1 p2 b0 b1 b2 f0 g0 HL1 HL2
          obtain ⟨bv, rfl, HE, HB5, ⟨o4, o5⟩, ⟨p0, p1, p2⟩, ⟨b0, b1, b2⟩, l0, l1, l2⟩ := hcut
          rename World => w5
          cases bv with
          | true =>
            go_wp2_with fail
            go_roundg (len - (k + 1))
            case measure => omega
            case rel => exact ⟨k + 1, by omega, by go_num, HW.out.trans (HB5.out.mono HW.out.size)⟩
          | false =>
            obtain ⟨la, lb, ia, ib, na, nb, ma, mb, hl⟩ := HE.out rfl
            have HIa := hide ia
            have HIb := hide ib
            have HMA := hide ma
            have HMB := hide mb
            have HL := hide hl
            clear ia ib ma mb hl HE
            go_upto_region 10 with fail
            have s0 : (w5.alloc (.cells #[.string ⟨#[117]⟩, .string ⟨#[118]⟩, .string ⟨#[119]⟩] 9)).cell? ⟨w5.heap.size, 0, none⟩ = some (.string ⟨#[117]⟩) := by simp
            have s1 : (w5.alloc (.cells #[.string ⟨#[117]⟩, .string ⟨#[118]⟩, .string ⟨#[119]⟩] 9)).cell? ⟨w5.heap.size, 1, none⟩ = some (.string ⟨#[118]⟩) := by simp
            have s2 : (w5.alloc (.cells #[.string ⟨#[117]⟩, .string ⟨#[118]⟩, .string ⟨#[119]⟩] 9)).cell? ⟨w5.heap.size, 2, none⟩ = some (.string ⟨#[119]⟩) := by simp
            have HB6 : Hid (Below W3.heap.size W3 (w5.alloc (.cells #[.string ⟨#[117]⟩, .string ⟨#[118]⟩, .string ⟨#[119]⟩] 9))) := HB5.out.alloc HB5.out.size _
            clear o4 o5 p0 p1 p2 b0 b1 b2 l0 l1 l2
            generalize w5.alloc (.cells #[.string ⟨#[117]⟩, .string ⟨#[118]⟩, .string ⟨#[119]⟩] 9) = w6 at *
            obtain ⟨⟨o4, o5⟩, ⟨p0, p1, p2⟩, ⟨b0, b1, b2⟩, l0, l1, l2⟩ := HC.out _ HB6.out
            have HN6 : Hid (InStrs w6 w6.heap.size (.slice (some ⟨w5.heap.size, 0, none⟩) 3 3) uvw) := strs3 s0 s1 s2
            have K7 : Hid (∀ z W, Fits z → Calls Tryd.prog 7 #[.int .i64 z] W fun e w' => e = .returned (.int .i64 (limN z : Nat)) ∧ w' = W) := fun z W h => limit_calls z W h.1 h.2
            clear s0 s1 s2
            go_cut [11] (fun v wx => ∃ ib : Nat, v = .slice (some ⟨ib, 0, none⟩) 3 3 ∧ Hid (InInts wx wx.heap.size (.slice (some ⟨ib, 0, none⟩) 3 3) [limN x, limN y, limN (IntKind.i64.wrap (x + y))]) ∧ Hid (InStrs wx wx.heap.size (.slice (some ⟨w5.heap.size, 0, none⟩) 3 3) uvw) ∧ Hid (Below W3.heap.size W3 wx))
            case first =>
              clear p0 p1 p2 b0 b1 b2 l1 l2 HIa HIb HMA HMB HL HC HW HTb HC0
              go_region_held3 (fun w' => w'.cell? ⟨w.heap.size, 4, none⟩ = some (.int .i64 x) ∧ w'.cell? ⟨w.heap.size, 5, none⟩ = some (.int .i64 y)) (go_keep)
                (first | (go_at_call 7; refine (K7.out _ _ ?_).mono ?_; (first | exact HX.out | exact HY.out | exact HZ.out); rintro e w' ⟨rfl, rfl⟩))
              all_goals
                go_wp2_with fail
                go_meet
                case rel =>
                  refine ints_out ?_ HN6 HB6 ?_ ?_ ?_
                  · repeat' (first | exact Below.refl _ _ | refine Below.drew ?_ | refine Below.alloc ?_ (by first | exact Nat.le_refl _ | (simp; done)) _)
                  all_goals simp [World.cell?_alloc_at]
            case rest =>
              clear o4 o5 p0 p1 p2 b0 b1 b2 l0 l1 l2
              obtain ⟨ib, rfl, HI7, HN7, HB7⟩ := hcut
              rename World => w7
              obtain ⟨⟨o4, o5⟩, ⟨p0, p1, p2⟩, ⟨b0, b1, b2⟩, l0, l1, l2⟩ := HC.out _ HB7.out
              have hC7 : ∀ W, Below w7.heap.size w7 W → Cells w.heap.size w1.heap.size w2.heap.size x y k1 k2 nm1 nm2 A1 A2 n1 cap1 n2 cap2 W := fun W hW => HC.out W (HB7.out.trans (hW.mono HB7.out.size))
              have ia7 := (HIa.out.below HB7.out).mono HB7.out.size
              have ib7 := (HIb.out.below HB7.out).mono HB7.out.size
              have HW7 := hide (HW.out.trans (HB7.out.mono HW.out.size))
              have tw := HTb.out.below HW7.out h00
              have K8a := hide (s_worth hC7 ia7 na HMA.out _ _ _ _ _ (limN_le x) (limN_le y) (limN_le (IntKind.i64.wrap (x + y))) HN7.out HI7.out)
              have K8b := hide (s_worth hC7 ib7 nb HMB.out _ _ _ _ _ (limN_le x) (limN_le y) (limN_le (IntKind.i64.wrap (x + y))) HN7.out HI7.out)
              have K9a := hide (s_leq hC7 ia7 ib7 na nb HMA.out HMB.out HL.out)
              have K9b := hide (s_leq hC7 ib7 ia7 nb na HMB.out HMA.out (Nat.le_trans (addP_comm_len la lb) HL.out))
              have K10 := hide (s_same hC7 ia7 ib7 na nb HMA.out HMB.out HL.out)
              have K10b := hide (s_again (lb := lb) hC7 na HMA.out HL.out)
              have K11 := hide (s_print hC7 ia7 na HMA.out tw)
              have K12 := hide (s_back hC7 na HMA.out tw)
              have HLE1 : Hid (leB la lb = true → la.worth (look uvw [limN x, limN y, limN (IntKind.i64.wrap (x + y))]) ≤ lb.worth (look uvw [limN x, limN y, limN (IntKind.i64.wrap (x + y))])) := fun h => by
                by_cases hq : Leq la lb
                · exact hq _
                · rw [leB_false hq] at h; cases h
              have HLE2 : Hid (leB lb la = true → lb.worth (look uvw [limN x, limN y, limN (IntKind.i64.wrap (x + y))]) ≤ la.worth (look uvw [limN x, limN y, limN (IntKind.i64.wrap (x + y))])) := fun h => by
                by_cases hq : Leq lb la
                · exact hq _
                · rw [leB_false hq] at h; cases h
              have HIa7 := hide ia7
              have HB8 := hide (Below.refl w7.heap.size w7)
              clear hC7 ia7 ib7 tw HIa HIb HMA HMB HL HC HN6 HN7 HI7 HX HY HZ K7 HB5 HB6 HC0 HTb
              generalize (⟨la.text.toArray⟩ : ByteArray) = tx at *
              generalize la.worth (look uvw [limN x, limN y, limN (IntKind.i64.wrap (x + y))]) = N1 at *
              generalize lb.worth (look uvw [limN x, limN y, limN (IntKind.i64.wrap (x + y))]) = N2 at *
              generalize leB la lb = X at *
              generalize leB lb la = Y at *
              go_wp2_with (go_at_call 8; refine (K8a.out _ ?_).mono ?_; exact HB8.out; clear o4 o5 p0 p1 p2 b0 b1 b2 l0 l1 l2; rintro e w8 ⟨rfl, HB8, ⟨o4, o5⟩, ⟨p0, p1, p2⟩, ⟨b0, b1, b2⟩, l0, l1, l2⟩)
              go_wp2_with (go_at_call 8; refine (K8b.out _ ?_).mono ?_; exact HB8.out; clear o4 o5 p0 p1 p2 b0 b1 b2 l0 l1 l2; rintro e w9 ⟨rfl, HB9, ⟨o4, o5⟩, ⟨p0, p1, p2⟩, ⟨b0, b1, b2⟩, l0, l1, l2⟩)
              go_wp2_with (go_at_call 9; refine (K9a.out _ ?_).mono ?_; exact HB9.out; clear o4 o5 p0 p1 p2 b0 b1 b2 l0 l1 l2; rintro e w10 ⟨rfl, HB10, ⟨o4, o5⟩, ⟨p0, p1, p2⟩, ⟨b0, b1, b2⟩, l0, l1, l2⟩)
              go_wp2_with (go_at_call 9; refine (K9b.out _ ?_).mono ?_; exact HB10.out; clear o4 o5 p0 p1 p2 b0 b1 b2 l0 l1 l2; rintro e w11 ⟨rfl, HB11, ⟨o4, o5⟩, ⟨p0, p1, p2⟩, ⟨b0, b1, b2⟩, l0, l1, l2⟩)
              go_upto_region 16 with (go_at_call 10; refine (K10.out _ ?_).mono ?_; exact HB11.out; clear o4 o5 p0 p1 p2 b0 b1 b2 l0 l1 l2; rintro e w12 ⟨rfl, HB12, ⟨o4, o5⟩, ⟨p0, p1, p2⟩, ⟨b0, b1, b2⟩, l0, l1, l2⟩)
              clear K8a K8b K9a K9b K10 HB8 HB9 HB10 HB11
              go_cut [131] (fun v wx => v = .bool false ∧ wx = w12)
              case first =>
                cases X with
                | true =>
                  have h1 := HLE1.out rfl
                  have eg : decide (N2 < N1) = false := by simp; omega
                  cases Y with
                  | true =>
                    have h2 := HLE2.out rfl
                    have en : (N1 != N2) = false := by simp; omega
                    have en2 : ((N1 : Int) != (N2 : Int)) = false := by simp; omega
                    go_wp2_with fail
                    go_meet
                    case rel =>
                      refine ⟨?_, rfl⟩
                      first | rfl | (simp only [eg]; done) | (simp; omega) | (simp; done)
                  | false =>
                    go_wp2_with fail
                    go_meet
                    case rel =>
                      refine ⟨?_, rfl⟩
                      first | rfl | (simp only [eg]; done) | (simp; omega) | (simp; done)
                | false =>
                  cases Y with
                  | true =>
                    go_wp2_with fail
                    go_meet
                    case rel =>
                      refine ⟨?_, rfl⟩
                      first | rfl | (simp only [eg]; done) | (simp; omega) | (simp; done)
                  | false =>
                    go_wp2_with fail
                    go_meet
                    case rel =>
                      refine ⟨?_, rfl⟩
                      first | rfl | (simp only [eg]; done) | (simp; omega) | (simp; done)
              case rest =>
                obtain ⟨rfl, rfl⟩ := hcut
                go_wp2_with (go_at_call 11; refine (K11.out _ ?_).mono ?_; exact HB12.out; clear o4 o5 p0 p1 p2 b0 b1 b2 l0 l1 l2; rintro e w13 ⟨rfl, HB13, ⟨o4, o5⟩, ⟨p0, p1, p2⟩, ⟨b0, b1, b2⟩, l0, l1, l2⟩)
                go_wp2_with (go_at_call 12; refine (K12.out _ ?_).mono ?_; exact HB13.out; clear o4 o5 p0 p1 p2 b0 b1 b2 l0 l1 l2; rintro e w14 ⟨k3, nm3, A3, n3, cap3, rfl, HI14, HB14, ⟨o4, o5⟩, ⟨p0, p1, p2⟩, ⟨b0, b1, b2⟩, l0, l1, l2⟩)
                have HB14' : Hid (Below w7.heap.size w7 (w14.alloc (.cells #[.int .i64 k3, .string nm3, .slice A3 n3 cap3] 28))) := HB14.out.alloc HB14.out.size _
                have hbn : Below w14.heap.size w14 (w14.alloc (.cells #[.int .i64 k3, .string nm3, .slice A3 n3 cap3] 28)) := (Below.refl _ _).alloc (Nat.le_refl _) _
                have HIu : Hid (InLv (w14.alloc (.cells #[.int .i64 k3, .string nm3, .slice A3 n3 cap3] 28)) (w14.alloc (.cells #[.int .i64 k3, .string nm3, .slice A3 n3 cap3] 28)).heap.size la (.agg #[.int .i64 k1, .string nm1, .slice A1 n1 cap1])) := (HIa7.out.below HB14'.out).mono HB14'.out.size
                have HIv : Hid (InLv (w14.alloc (.cells #[.int .i64 k3, .string nm3, .slice A3 n3 cap3] 28)) (w14.alloc (.cells #[.int .i64 k3, .string nm3, .slice A3 n3 cap3] 28)).heap.size la (.agg #[.int .i64 k3, .string nm3, .slice A3 n3 cap3])) := (HI14.out.below hbn).mono hbn.size
                clear hbn
                go_wp2_with (go_at_call 10; refine (K10b.out _ _ _ HIu HIv HB14'.out).mono ?_; rintro e w15 ⟨rfl, HB15, -⟩)
                go_roundg (len - (k + 1))
                case measure => omega
                case rel => exact ⟨k + 1, by omega, by go_num, HW7.out.trans (HB15.out.mono HW7.out.size)⟩
      · go_wp2_with fail
        go_ret
        exact ⟨rfl, HB.out⟩
    · go_wp2_with fail
      go_ret
      exact ⟨rfl, HB.out⟩


end Go.Proofs.YtpdoegjddiaaoaaDoor
