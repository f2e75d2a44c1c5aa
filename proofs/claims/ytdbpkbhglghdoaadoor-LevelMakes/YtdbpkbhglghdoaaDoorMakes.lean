/- The contract of the statement's step: for two texts that are levels the program's Print, Params, Subst and Worth answer as the document's; in every other case the step says nothing. -/
import Derived.Test.YtdbpkbhglghdoaaDoorParse
import Derived.Test.YtdbpkbhglghdoaaDoorParams
import Derived.Test.YtdbpkbhglghdoaaDoorPrint
import Derived.Test.YtdbpkbhglghdoaaDoorRefPrint
import Derived.Test.YtdbpkbhglghdoaaDoorRefSameLv
import Derived.Test.YtdbpkbhglghdoaaDoorRefSubst
import Derived.Test.YtdbpkbhglghdoaaDoorRefWorth
import Derived.Deep.DeepCutAuto
import Derived.Deep.RegionHeld3
namespace Go.Proofs.YtdbpkbhglghdoaaDoor
open Go.RowKit

theorem parse_calls (s : ByteArray) (w : World) (hm : s.size ≤ maxLen) : Calls Tryd.prog 5 #[.string s] w fun e w' => Parsed w s e w' := by
  by_cases h : s.size ≤ 20000
  · exact parse_short s w h
  · exact parse_long s w (by omega) hm

/-- The cells that the step's walk reads, in a world. -/
def Cells (bo ba bb : Nat) (S T : ByteArray) (x y k1 k2 : Int) (nm1 nm2 : ByteArray) (A1 A2 : Option Addr) (n1 cap1 n2 cap2 : Nat) (W : World) : Prop :=
  (W.cell? ⟨bo, 1, none⟩ = some (.string S) ∧ W.cell? ⟨bo, 2, none⟩ = some (.string T) ∧ W.cell? ⟨bo, 4, none⟩ = some (.int .i64 x) ∧ W.cell? ⟨bo, 5, none⟩ = some (.int .i64 y)) ∧
  (W.cell? ⟨ba, 0, none⟩ = some (.int .i64 k1) ∧ W.cell? ⟨ba, 1, none⟩ = some (.string nm1) ∧ W.cell? ⟨ba, 2, none⟩ = some (.slice A1 n1 cap1)) ∧
  (W.cell? ⟨bb, 0, none⟩ = some (.int .i64 k2) ∧ W.cell? ⟨bb, 1, none⟩ = some (.string nm2) ∧ W.cell? ⟨bb, 2, none⟩ = some (.slice A2 n2 cap2)) ∧ bo < W.heap.size ∧ ba < W.heap.size ∧ bb < W.heap.size

theorem Cells.later {bo ba bb : Nat} {S T : ByteArray} {x y k1 k2 : Int} {nm1 nm2 : ByteArray} {A1 A2 : Option Addr} {n1 cap1 n2 cap2 : Nat} {V W : World} (h : Cells bo ba bb S T x y k1 k2 nm1 nm2 A1 A2 n1 cap1 n2 cap2 V) (hb : Below V.heap.size V W) : Cells bo ba bb S T x y k1 k2 nm1 nm2 A1 A2 n1 cap1 n2 cap2 W := by
  obtain ⟨⟨h1, h2, h3, h4⟩, ⟨h5, h6, h7⟩, ⟨h8, h9, h10⟩, h11, h12, h13⟩ := h
  have := hb.size
  exact ⟨⟨cell_later hb h1, cell_later hb h2, cell_later hb h3, cell_later hb h4⟩, ⟨cell_later hb h5, cell_later hb h6, cell_later hb h7⟩, ⟨cell_later hb h8, cell_later hb h9, cell_later hb h10⟩, by omega, by omega, by omega⟩

/-- Where the walk stands: behind the base world, with its cells. -/
def At (V : World) (C : World → Prop) (W : World) : Prop := Hid (Below V.heap.size V W) ∧ C W

theorem At.of {V W : World} {C : World → Prop} (hC : ∀ W, Below V.heap.size V W → C W) (h : Below V.heap.size V W) : At V C W := ⟨h, hC W h⟩

section
variable {V : World} {C : World → Prop} {la lb : LvB} {va : Value}

theorem k_print (hC : ∀ W, Below V.heap.size V W → C W) (hin : InLv V V.heap.size la va) (hn : la.nodes ≤ 20000) (hm : ∀ p, Lv.has p la → p.size ≤ 1000) (ht : Table V) (h0 : 0 < V.heap.size) (W : World) (hW : Below V.heap.size V W) :
    Calls Tryd.prog 6 #[va] W fun e w' => e = .returned (.string ⟨la.text.toArray⟩) ∧ At V C w' :=
  (print_calls la va V.heap.size W (by omega) hm hW.size (hin.below hW) (ht.below hW h0) (Nat.lt_of_lt_of_le h0 hW.size)).mono fun _ _ ⟨he, hb⟩ => ⟨he, At.of hC (hW.trans (hb.mono hW.size))⟩

theorem k_rprint (hC : ∀ W, Below V.heap.size V W → C W) (hin : InLv V V.heap.size la va) (hn : la.nodes ≤ 20000) (hm : ∀ p, Lv.has p la → p.size ≤ 1000) (W : World) (hW : Below V.heap.size V W) :
    Calls Tryd.prog 10 #[va] W fun e w' => e = .returned (.string ⟨la.text.toArray⟩) ∧ At V C w' :=
  (rprint_calls la va V.heap.size W (by omega) hm hW.size (hin.below hW)).mono fun _ _ ⟨he, hb⟩ => ⟨he, At.of hC (hW.trans (hb.mono hW.size))⟩

theorem InStrs.later {W W' : World} {nv : Value} {ns : List ByteArray} (h : InStrs W W.heap.size nv ns) (hb : Below W.heap.size W W') : InStrs W' W'.heap.size nv ns := (h.below hb).mono hb.size

theorem k_params (hC : ∀ W, Below V.heap.size V W → C W) (hin : InLv V V.heap.size la va) (hn : la.nodes ≤ 20000) (hm : ∀ p, Lv.has p la → p.size ≤ 1000) (W : World) (hW : Below V.heap.size V W) :
    Calls Tryd.prog 7 #[va] W fun e w' => ∃ nv, e = .returned nv ∧ Hid (InStrs w' w'.heap.size nv (la.addP [])) ∧ At V C w' := by
  have hl := Lv.addP_len la []
  simp at hl
  exact (params_calls la va V.heap.size W hW.size (hin.below hW) hm (by omega)).mono fun _ _ ⟨nv, he, ho, hb⟩ => ⟨nv, he, InStrs.of_owns ho (by unfold maxLen; omega), At.of hC (hW.trans (hb.mono hW.size))⟩

theorem k_rparams (hC : ∀ W, Below V.heap.size V W → C W) (hin : InLv V V.heap.size la va) (hn : la.nodes ≤ 20000) (W : World) (nv : Value) (hs : Hid (InStrs W W.heap.size nv (la.addP []))) (hW : Below V.heap.size V W) :
    Calls Tryd.prog 8 #[va, .slice none 0 0] W fun e w' => ∃ nv', e = .returned nv' ∧ Hid (InStrs w' w'.heap.size nv (la.addP []) ∧ InStrs w' w'.heap.size nv' (la.addP [])) ∧ At V C w' := by
  have hl := Lv.addP_len la []
  simp at hl
  refine (rparams_calls la.nodes la va (.slice none 0 0) [] V.heap.size W.heap.size W (Nat.le_refl _) hW.size (Nat.le_refl _) (hin.below hW) (World.ownsRow_nil _ _ _ _) (by simp; omega)).mono ?_
  rintro e w' ⟨nv', he, ho, hg⟩
  have hb : Below W.heap.size W w' := hg.below (Nat.le_refl _) (fun k hk => by simp [Value.ownBlock] at hk)
  exact ⟨nv', he, ⟨hs.out.later hb, InStrs.of_owns ho (by unfold maxLen; omega)⟩, At.of hC (hW.trans (hb.mono hW.size))⟩

theorem k_names (hC : ∀ W, Below V.heap.size V W → C W) (ns : List ByteArray) (W : World) (nv nv' : Value) (hs : Hid (InStrs W W.heap.size nv ns ∧ InStrs W W.heap.size nv' ns)) (hW : Below V.heap.size V W) :
    Calls Tryd.prog 9 #[nv, nv'] W fun e w' => e = .returned (.bool true) ∧ At V C w' :=
  (sameNames_calls ns nv nv' _ _ W hs.out.1 hs.out.2).mono fun _ _ ⟨he, hb⟩ => ⟨he, At.of hC (hW.trans (hb.mono hW.size))⟩
end

/-- The names that the statement puts levels in for. -/
abbrev uwu : List ByteArray := [⟨#[117]⟩, ⟨#[119]⟩, ⟨#[117]⟩]
/-- The two lists that it makes. -/
abbrev lists (W : World) (k1 k2 : Int) (nm1 nm2 : ByteArray) (A1 A2 : Option Addr) (n1 cap1 n2 cap2 : Nat) : World :=
  (W.alloc (.cells #[.string ⟨#[117]⟩, .string ⟨#[119]⟩, .string ⟨#[117]⟩] 9)).alloc (.cells #[.int .i64 k2, .string nm2, .slice A2 n2 cap2, .int .i64 k1, .string nm1, .slice A1 n1 cap1, .int .i64 k1, .string nm1, .slice A1 n1 cap1] 29)

section
variable {V : World} {C : World → Prop} {la lb : LvB} {k1 k2 : Int} {nm1 nm2 : ByteArray} {A1 A2 : Option Addr} {n1 cap1 n2 cap2 : Nat}

theorem lists_old (W : World) : Below W.heap.size W (lists W k1 k2 nm1 nm2 A1 A2 n1 cap1 n2 cap2) := ((Below.refl _ _).alloc (Nat.le_refl _) _).alloc (by simp) _
theorem lists_size (W : World) : (lists W k1 k2 nm1 nm2 A1 A2 n1 cap1 n2 cap2).heap.size = W.heap.size + 2 := by simp
theorem lists_names (W : World) : InStrs (lists W k1 k2 nm1 nm2 A1 A2 n1 cap1 n2 cap2) (W.heap.size + 2) (.slice (some ⟨W.heap.size, 0, none⟩) 3 3) uwu := by
  refine ⟨by simp [uwu, maxLen], _, _, rfl, fun i hi => ⟨_, _, rfl, by omega, ?_⟩⟩
  match i, hi with
  | 0, _ => simp [lists, uwu]
  | 1, _ => simp [lists, uwu]
  | 2, _ => simp [lists, uwu]
theorem lists_levels (W : World) (ha : InLv W W.heap.size la (.agg #[.int .i64 k1, .string nm1, .slice A1 n1 cap1])) (hb : InLv W W.heap.size lb (.agg #[.int .i64 k2, .string nm2, .slice A2 n2 cap2])) :
    InLvs (lists W k1 k2 nm1 nm2 A1 A2 n1 cap1 n2 cap2) (W.heap.size + 2) (.slice (some ⟨W.heap.size + 1, 0, none⟩) 3 3) [lb, la, la] := by
  have ho := lists_old (k1 := k1) (k2 := k2) (nm1 := nm1) (nm2 := nm2) (A1 := A1) (A2 := A2) (n1 := n1) (cap1 := cap1) (n2 := n2) (cap2 := cap2) W
  have ha' := (ha.below ho).mono (B' := W.heap.size + 2) (by omega)
  have hb' := (hb.below ho).mono (B' := W.heap.size + 2) (by omega)
  refine ⟨by simp [maxLen], _, _, rfl, fun i hi => ?_⟩
  match i, hi with
  | 0, _ => exact ⟨_, _, rfl, by omega, ⟨k2, nm2, A2, n2, cap2, rfl, by simp [lists, World.cell?_alloc_at], by simp [lists, World.cell?_alloc_at], by simp [lists, World.cell?_alloc_at]⟩, hb'⟩
  | 1, _ => exact ⟨_, _, rfl, by omega, ⟨k1, nm1, A1, n1, cap1, rfl, by simp [lists, World.cell?_alloc_at], by simp [lists, World.cell?_alloc_at], by simp [lists, World.cell?_alloc_at]⟩, ha'⟩
  | 2, _ => exact ⟨_, _, rfl, by omega, ⟨k1, nm1, A1, n1, cap1, rfl, by simp [lists, World.cell?_alloc_at], by simp [lists, World.cell?_alloc_at], by simp [lists, World.cell?_alloc_at]⟩, ha'⟩

theorem k_subst (hC : ∀ W, Below V.heap.size V W → C W) (ha : InLv V V.heap.size la (.agg #[.int .i64 k1, .string nm1, .slice A1 n1 cap1])) (hb : InLv V V.heap.size lb (.agg #[.int .i64 k2, .string nm2, .slice A2 n2 cap2])) (W : World) (hW : Below V.heap.size V W) :
    Calls Tryd.prog 11 #[.agg #[.int .i64 k1, .string nm1, .slice A1 n1 cap1], .slice (some ⟨W.heap.size, 0, none⟩) 3 3, .slice (some ⟨W.heap.size + 1, 0, none⟩) 3 3] (lists W k1 k2 nm1 nm2 A1 A2 n1 cap1 n2 cap2) fun e w' =>
      ∃ (k : Int) (nm : ByteArray) (A : Option Addr) (n cap : Nat), e = .returned (.agg #[.int .i64 k, .string nm, .slice A n cap]) ∧ Hid (InLv w' w'.heap.size (la.bind (lookL uwu [lb, la, la])) (.agg #[.int .i64 k, .string nm, .slice A n cap])) ∧ At V C w' := by
  have ha1 := (ha.below hW).mono hW.size
  have hb1 := (hb.below hW).mono hW.size
  refine (subst_calls la uwu [lb, la, la] _ _ _ (W.heap.size + 2) _ (by rw [lists_size]; exact Nat.le_refl _) ((ha1.below (lists_old W)).mono (by omega)) (lists_names W) (lists_levels W ha1 hb1) rfl).mono ?_
  rintro e w' ⟨k, nm, A, n, cap, he, hl, hbw⟩
  exact ⟨k, nm, A, n, cap, he, hl, At.of hC (hW.trans (((lists_old W).trans (hbw.mono (by rw [lists_size]; omega))).mono hW.size))⟩

theorem k_rsubst (hC : ∀ W, Below V.heap.size V W → C W) (ha : InLv V V.heap.size la (.agg #[.int .i64 k1, .string nm1, .slice A1 n1 cap1])) (hb : InLv V V.heap.size lb (.agg #[.int .i64 k2, .string nm2, .slice A2 n2 cap2])) (W : World) (m : Nat) (hm : W.heap.size = m) (hW : Below V.heap.size V W) :
    Calls Tryd.prog 12 #[.agg #[.int .i64 k1, .string nm1, .slice A1 n1 cap1], .slice (some ⟨m, 0, none⟩) 3 3, .slice (some ⟨m + 1, 0, none⟩) 3 3] (lists W k1 k2 nm1 nm2 A1 A2 n1 cap1 n2 cap2) fun e w' =>
      ∃ (k : Int) (nm : ByteArray) (A : Option Addr) (n cap : Nat), e = .returned (.agg #[.int .i64 k, .string nm, .slice A n cap]) ∧ Hid (InLv w' w'.heap.size (la.bind (lookL uwu [lb, la, la])) (.agg #[.int .i64 k, .string nm, .slice A n cap])) ∧ Hid (Below W.heap.size W w') ∧ At V C w' := by
  subst hm
  have ha1 := (ha.below hW).mono hW.size
  have hb1 := (hb.below hW).mono hW.size
  refine (rsubst_calls uwu [lb, la, la] _ _ (W.heap.size + 2) rfl la.nodes la _ _ (Nat.le_refl _) (by rw [lists_size]; exact Nat.le_refl _) ((ha1.below (lists_old W)).mono (by omega)) (lists_names W) (lists_levels W ha1 hb1)).mono ?_
  rintro e w' ⟨k, nm, A, n, cap, he, hl, hbw⟩
  have h1 := (lists_old W).trans (hbw.mono (by rw [lists_size]; omega))
  exact ⟨k, nm, A, n, cap, he, hl.inLv, h1, At.of hC (hW.trans (h1.mono hW.size))⟩

theorem k_same (hC : ∀ W, Below V.heap.size V W → C W) (X : LvB) (W : World) (u v : Value) (hu : Hid (InLv W W.heap.size X u)) (hv : Hid (InLv W W.heap.size X v)) (hW : Below V.heap.size V W) :
    Calls Tryd.prog 13 #[u, v] W fun e w' => e = .returned (.bool true) ∧ At V C w' := by
  have := rsameLv_calls X.nodes X X u v W.heap.size W (Nat.le_refl _) (Nat.le_refl _) hu.out hv.out
  rw [eqB_true rfl] at this
  exact this.mono fun _ _ ⟨he, hb⟩ => ⟨he, At.of hC (hW.trans (hb.mono hW.size))⟩
end

/-- The names under which the statement asks what a level is worth. -/
abbrev uv : List ByteArray := [⟨#[117]⟩, ⟨#[118]⟩]

theorem strs_at {W : World} {b : Nat} (h0 : W.cell? ⟨b, 0, none⟩ = some (.string ⟨#[117]⟩)) (h1 : W.cell? ⟨b, 1, none⟩ = some (.string ⟨#[118]⟩)) : InStrs W W.heap.size (.slice (some ⟨b, 0, none⟩) 2 2) uv := by
  have hb := World.block_lt_of_cell? _ _ h0
  refine ⟨by simp [uv, maxLen], _, _, rfl, fun i hi => ⟨_, _, rfl, hb, ?_⟩⟩
  match i, hi with
  | 0, _ => exact h0
  | 1, _ => exact h1
theorem ints_at {W : World} {b m n : Nat} (h0 : W.cell? ⟨b, 0, none⟩ = some (.int .i64 (m : Nat))) (h1 : W.cell? ⟨b, 1, none⟩ = some (.int .i64 (n : Nat))) : InInts W W.heap.size (.slice (some ⟨b, 0, none⟩) 2 2) [m, n] := by
  have hb := World.block_lt_of_cell? _ _ h0
  refine ⟨_, _, rfl, fun i hi => ⟨_, _, rfl, hb, ?_⟩⟩
  match i, hi with
  | 0, _ => exact h0
  | 1, _ => exact h1

section
variable {V : World} {C : World → Prop} {la : LvB} {va : Value}
theorem k_worth (hC : ∀ W, Below V.heap.size V W → C W) (hin : InLv V V.heap.size la va) (hn : la.nodes ≤ 20000) (hm : ∀ p, Lv.has p la → p.size ≤ 1000) (m n : Nat) (h1 : m ≤ 1000000) (h2 : n ≤ 1000000) (W : World) (sb ib : Nat) (hW : Below V.heap.size V W)
    (s0 : W.cell? ⟨sb, 0, none⟩ = some (.string ⟨#[117]⟩)) (s1 : W.cell? ⟨sb, 1, none⟩ = some (.string ⟨#[118]⟩)) (i0 : W.cell? ⟨ib, 0, none⟩ = some (.int .i64 (m : Nat))) (i1 : W.cell? ⟨ib, 1, none⟩ = some (.int .i64 (n : Nat))) :
    Calls Tryd.prog 14 #[va, .slice (some ⟨sb, 0, none⟩) 2 2, .slice (some ⟨ib, 0, none⟩) 2 2] W fun e w' => e = .returned (.int .i64 (la.worth (look uv [m, n]) : Nat)) ∧ At V C w' :=
  (lworth_calls uv [m, n] _ _ W.heap.size rfl (by simp; omega) la va W hm (by omega) (Nat.le_refl _) ((hin.below hW).mono hW.size) (strs_at s0 s1) (ints_at i0 i1)).mono fun _ _ ⟨he, hb⟩ => ⟨he, At.of hC (hW.trans (hb.mono hW.size))⟩
theorem k_rworth (hC : ∀ W, Below V.heap.size V W → C W) (hin : InLv V V.heap.size la va) (hn : la.nodes ≤ 20000) (m n : Nat) (h1 : m ≤ 1000000) (h2 : n ≤ 1000000) (W : World) (sb ib : Nat) (hW : Below V.heap.size V W)
    (s0 : W.cell? ⟨sb, 0, none⟩ = some (.string ⟨#[117]⟩)) (s1 : W.cell? ⟨sb, 1, none⟩ = some (.string ⟨#[118]⟩)) (i0 : W.cell? ⟨ib, 0, none⟩ = some (.int .i64 (m : Nat))) (i1 : W.cell? ⟨ib, 1, none⟩ = some (.int .i64 (n : Nat))) :
    Calls Tryd.prog 16 #[va, .slice (some ⟨sb, 0, none⟩) 2 2, .slice (some ⟨ib, 0, none⟩) 2 2] W fun e w' => e = .returned (.int .i64 (la.worth (look uv [m, n]) : Nat)) ∧ At V C w' :=
  (rworth_calls uv [m, n] _ _ W.heap.size rfl (by simp; omega) la va W (by omega) (Nat.le_refl _) ((hin.below hW).mono hW.size) (strs_at s0 s1) (ints_at i0 i1)).mono fun _ _ ⟨he, hb⟩ => ⟨he, At.of hC (hW.trans (hb.mono hW.size))⟩
end

set_option maxHeartbeats 4000000 in
set_option maxRecDepth 100000 in
theorem made_calls (kd x y : Int) (S T U : ByteArray) (w : World) (hS : S.size ≤ maxLen) (hT : T.size ≤ maxLen) (hx : -9223372036854775808 ≤ x ∧ x ≤ 9223372036854775807) (hy : -9223372036854775808 ≤ y ∧ y ≤ 9223372036854775807) (ht : Table w) :
    Calls Tryd.prog 4 #[.agg #[.int .i64 kd, .string S, .string T, .string U, .int .i64 x, .int .i64 y]] w fun e w' => e = .returned (.bool true) ∧ Below w.heap.size w w' := by
  have h00 : 0 < w.heap.size := World.block_lt_of_cell? _ _ ht.t0
  have HTb := hide ht
  have HS := hide (fun W => parse_calls S W hS)
  have HT := hide (fun W => parse_calls T W hT)
  have HXY := hide (And.intro hx hy)
  clear ht hx hy
  unfold maxLen at hS hT
  go_enter Tryd.func4, Tryd.ntmps4
  go_wp2_with (go_at_call 5; refine (HS.out _).mono ?_)
  rintro e w1 ⟨k1, nm1, A1, n1, cap1, c1, a1, rfl, hb1, hp1⟩
  have hz1 := hb1.size
  simp at hz1
  have HB1 : Hid (Below (w.heap.size + 1) (w.alloc (.cells #[.int .i64 kd, .string S, .string T, .string U, .int .i64 x, .int .i64 y] 25)) w1) := by simpa [Hid] using hb1
  have o2 : w1.cell? ⟨w.heap.size, 2, none⟩ = some (.string T) := by rw [HB1.out.cell (by simp)]; simp
  have l0 : w.heap.size < w1.heap.size := by omega
  have HP1 := hide hp1
  clear hb1 hp1
  go_wp2_with (go_at_call 5; refine (HT.out _).mono ?_)
  rintro e w2 ⟨k2, nm2, A2, n2, cap2, c2, a2, rfl, hb2, hp2⟩
  have hz2 := hb2.size
  simp at hz2
  have HB2 : Hid (Below (w1.heap.size + 2) ((w1.alloc (.cells #[.int .i64 k1, .string nm1, .slice A1 n1 cap1] 29)).alloc (.cells #[.int .i64 (c1 : Nat), .int .i64 (a1 : Nat)] 31)) w2) := by simpa [Hid] using hb2
  have HP2 := hide hp2
  clear hb2 hp2 o2
  go_upto_region 3 with fail
  have hold2 : Below w2.heap.size w2 ((w2.alloc (.cells #[.int .i64 k2, .string nm2, .slice A2 n2 cap2] 29)).alloc (.cells #[.int .i64 (c2 : Nat), .int .i64 (a2 : Nat)] 31)) := ((Below.refl _ _).alloc (Nat.le_refl _) _).alloc (by simp) _
  have b0 : ((w2.alloc (.cells #[.int .i64 k2, .string nm2, .slice A2 n2 cap2] 29)).alloc (.cells #[.int .i64 (c2 : Nat), .int .i64 (a2 : Nat)] 31)).cell? ⟨w2.heap.size, 0, none⟩ = some (.int .i64 k2) := by simp
  have b1 : ((w2.alloc (.cells #[.int .i64 k2, .string nm2, .slice A2 n2 cap2] 29)).alloc (.cells #[.int .i64 (c2 : Nat), .int .i64 (a2 : Nat)] 31)).cell? ⟨w2.heap.size, 1, none⟩ = some (.string nm2) := by simp
  have b2 : ((w2.alloc (.cells #[.int .i64 k2, .string nm2, .slice A2 n2 cap2] 29)).alloc (.cells #[.int .i64 (c2 : Nat), .int .i64 (a2 : Nat)] 31)).cell? ⟨w2.heap.size, 2, none⟩ = some (.slice A2 n2 cap2) := by simp
  have g0 : ((w2.alloc (.cells #[.int .i64 k2, .string nm2, .slice A2 n2 cap2] 29)).alloc (.cells #[.int .i64 (c2 : Nat), .int .i64 (a2 : Nat)] 31)).cell? ⟨w2.heap.size + 1, 0, none⟩ = some (.int .i64 (c2 : Nat)) := by simp [World.cell?_alloc_at]
  have hz3 : ((w2.alloc (.cells #[.int .i64 k2, .string nm2, .slice A2 n2 cap2] 29)).alloc (.cells #[.int .i64 (c2 : Nat), .int .i64 (a2 : Nat)] 31)).heap.size = w2.heap.size + 2 := by simp
  generalize (w2.alloc (.cells #[.int .i64 k2, .string nm2, .slice A2 n2 cap2] 29)).alloc (.cells #[.int .i64 (c2 : Nat), .int .i64 (a2 : Nat)] 31) = W3 at *
  have hold1 : Below (w1.heap.size + 2) ((w1.alloc (.cells #[.int .i64 k1, .string nm1, .slice A1 n1 cap1] 29)).alloc (.cells #[.int .i64 (c1 : Nat), .int .i64 (a1 : Nat)] 31)) W3 := HB2.out.trans (hold2.mono (by omega))
  have p0 : W3.cell? ⟨w1.heap.size, 0, none⟩ = some (.int .i64 k1) := by rw [hold1.cell (by simp)]; simp
  have p1 : W3.cell? ⟨w1.heap.size, 1, none⟩ = some (.string nm1) := by rw [hold1.cell (by simp)]; simp
  have p2 : W3.cell? ⟨w1.heap.size, 2, none⟩ = some (.slice A1 n1 cap1) := by rw [hold1.cell (by simp)]; simp
  have f0 : W3.cell? ⟨w1.heap.size + 1, 0, none⟩ = some (.int .i64 (c1 : Nat)) := by rw [hold1.cell (by simp)]; simp [World.cell?_alloc_at]
  have hold1' : Below w1.heap.size w1 W3 := (((Below.refl _ _).alloc (Nat.le_refl _) _).alloc (by simp) _).trans (hold1.mono (by omega))
  have hold0 : Below (w.heap.size + 1) (w.alloc (.cells #[.int .i64 kd, .string S, .string T, .string U, .int .i64 x, .int .i64 y] 25)) W3 := HB1.out.trans (hold1'.mono (by omega))
  have o1 : W3.cell? ⟨w.heap.size, 1, none⟩ = some (.string S) := by rw [hold0.cell (by simp)]; simp
  have o2 : W3.cell? ⟨w.heap.size, 2, none⟩ = some (.string T) := by rw [hold0.cell (by simp)]; simp
  have o4 : W3.cell? ⟨w.heap.size, 4, none⟩ = some (.int .i64 x) := by rw [hold0.cell (by simp)]; simp
  have o5 : W3.cell? ⟨w.heap.size, 5, none⟩ = some (.int .i64 y) := by rw [hold0.cell (by simp)]; simp
  have HW : Hid (Below w.heap.size w W3) := ((Below.refl _ _).alloc (Nat.le_refl _) _).trans (hold0.mono (by omega))
  have HL1 : Hid (c1 = 0 → S.size ≤ 20000 ∧ ∃ l : LvB, InLv W3 W3.heap.size l (.agg #[.int .i64 k1, .string nm1, .slice A1 n1 cap1]) ∧ l.nodes ≤ S.size ∧ ∀ q, Lv.has q l → q.size ≤ 1000) := fun h => by
    obtain ⟨hz, l, h1, h2, h3⟩ := HP1.out h
    exact ⟨hz, l, (h1.below hold1').mono (by omega), h2, h3⟩
  have HL2 : Hid (c2 = 0 → T.size ≤ 20000 ∧ ∃ l : LvB, InLv W3 W3.heap.size l (.agg #[.int .i64 k2, .string nm2, .slice A2 n2 cap2]) ∧ l.nodes ≤ T.size ∧ ∀ q, Lv.has q l → q.size ≤ 1000) := fun h => by
    obtain ⟨hz, l, h1, h2, h3⟩ := HP2.out h
    exact ⟨hz, l, (h1.below hold2).mono (by omega), h2, h3⟩
  clear hold0 hold1 hold1' hold2 HB1 HB2 HP1 HP2 HS HT
  by_cases hc1 : c1 = 0
  · have e1 : ((c1 : Int) != 0) = false := by simp [hc1]
    by_cases hc2 : c2 = 0
    · have e2 : ((c2 : Int) != 0) = false := by simp [hc2]
      obtain ⟨zS, la, ia, na, ma⟩ := HL1.out hc1
      obtain ⟨zT, lb, ib, nb, mb⟩ := HL2.out hc2
      have hC : ∀ W, Below W3.heap.size W3 W → Cells w.heap.size w1.heap.size w2.heap.size S T x y k1 k2 nm1 nm2 A1 A2 n1 cap1 n2 cap2 W := fun W hW => Cells.later ⟨⟨o1, o2, o4, o5⟩, ⟨p0, p1, p2⟩, ⟨b0, b1, b2⟩, by omega, by omega, by omega⟩ hW
      have h03 : 0 < W3.heap.size := by omega
      have K6 := hide (k_print hC ia (by omega) ma (HTb.out.below HW.out h00) h03)
      have K7 := hide (k_params hC ia (by omega) ma)
      have K8 := hide (k_rparams hC ia (by omega))
      have K9 := hide (k_names hC (la.addP []))
      have K10 := hide (k_rprint hC ia (by omega) ma)
      have K11 := hide (k_subst hC ia ib)
      have K12 := hide (k_rsubst hC ia ib)
      have K13 := hide (k_same hC (la.bind (lookL uwu [lb, la, la])))
      have K14 := hide (k_worth hC ia (by omega) ma (limN x) (limN y) (limN_le x) (limN_le y))
      have K16 := hide (k_rworth hC ia (by omega) (limN x) (limN y) (limN_le x) (limN_le y))
      have K15 : Hid (∀ z W, z = x ∨ z = y → Calls Tryd.prog 15 #[.int .i64 z] W fun e w' => e = .returned (.int .i64 (limN z : Nat)) ∧ w' = W) := fun z W h => by
        have := HXY.out
        rcases h with rfl | rfl <;> exact limit_calls _ W (by omega) (by omega)
      have HC := hide hC
      have HMA := hide ma
      have HMB := hide mb
      have HIa := hide ia
      have HIb := hide ib
      have HC1 := hide hc1
      have HC2 := hide hc2
      clear hC ma mb ia ib hc1 hc2 HL1 HL2
      generalize (⟨la.text.toArray⟩ : ByteArray) = tx at *
      have HB3 := hide (Below.refl W3.heap.size W3)
      go_wp2_with (go_at_call 6; refine (K6.out _ ?_).mono ?_; exact HB3.out; clear o1 o2 o4 o5 p0 p1 p2 b0 b1 b2; rintro e w4 ⟨rfl, HB4, ⟨o1, o2, o4, o5⟩, ⟨p0, p1, p2⟩, ⟨b0, b1, b2⟩, l0, l1, l2⟩)
      go_wp2_with (go_at_call 7; refine (K7.out _ ?_).mono ?_; exact HB4.out; clear o1 o2 o4 o5 p0 p1 p2 b0 b1 b2 l0 l1 l2; rintro e w5 ⟨nv, rfl, HN5, HB5, ⟨o1, o2, o4, o5⟩, ⟨p0, p1, p2⟩, ⟨b0, b1, b2⟩, l0, l1, l2⟩)
      go_wp2_with (go_at_call 8; refine (K8.out _ _ HN5 ?_).mono ?_; exact HB5.out; clear o1 o2 o4 o5 p0 p1 p2 b0 b1 b2 l0 l1 l2; rintro e w6 ⟨nv', rfl, HN6, HB6, ⟨o1, o2, o4, o5⟩, ⟨p0, p1, p2⟩, ⟨b0, b1, b2⟩, l0, l1, l2⟩)
      go_wp2_with (go_at_call 9; refine (K9.out _ _ _ HN6 ?_).mono ?_; exact HB6.out; clear o1 o2 o4 o5 p0 p1 p2 b0 b1 b2 l0 l1 l2; rintro e w7 ⟨rfl, HB7, ⟨o1, o2, o4, o5⟩, ⟨p0, p1, p2⟩, ⟨b0, b1, b2⟩, l0, l1, l2⟩)
      go_upto_region 12 with (go_at_call 10; refine (K10.out _ ?_).mono ?_; exact HB7.out; clear o1 o2 o4 o5 p0 p1 p2 b0 b1 b2 l0 l1 l2; rintro e w8 ⟨rfl, HB8, ⟨o1, o2, o4, o5⟩, ⟨p0, p1, p2⟩, ⟨b0, b1, b2⟩, l0, l1, l2⟩)
      clear K6 K7 K8 K9 K10 HN5 HN6 HB4 HB5 HB6 HB7
      obtain ⟨bv, hbv⟩ : ∃ bv : Bool, decide (S.size ≤ 2000 ∧ T.size ≤ 2000) = bv := ⟨_, rfl⟩
      have HBV := hide hbv
      clear hbv
      go_cut [60] (fun v wx => v = .bool bv ∧ wx = w8)
      case first =>
        by_cases hS2 : S.size ≤ 2000
        · have eS : decide ((S.size : Int) ≤ 2000) = true := by simp; omega
          by_cases hT2 : T.size ≤ 2000
          · have eT : decide ((T.size : Int) ≤ 2000) = true := by simp; omega
            have HE : Hid (decide (S.size ≤ 2000 ∧ T.size ≤ 2000) = true) := by simp [Hid, hS2, hT2]
            go_wp2_with fail
            go_meet
            case rel => exact ⟨by rw [← HBV.out, HE.out], rfl⟩
          · have eT : decide ((T.size : Int) ≤ 2000) = false := by simp; omega
            have HE : Hid (decide (S.size ≤ 2000 ∧ T.size ≤ 2000) = false) := by simp [Hid]; omega
            go_wp2_with fail
            go_meet
            case rel => exact ⟨by rw [← HBV.out, HE.out], rfl⟩
        · have eS : decide ((S.size : Int) ≤ 2000) = false := by simp; omega
          have HE : Hid (decide (S.size ≤ 2000 ∧ T.size ≤ 2000) = false) := by simp [Hid]; omega
          go_wp2_with fail
          go_meet
          case rel => exact ⟨by rw [← HBV.out, HE.out], rfl⟩
      case rest =>
        obtain ⟨rfl, rfl⟩ := hcut
        go_upto_if 60 with fail
        go_cut [10] (fun v wx => v = .bool true ∧ At W3 (Cells w.heap.size w1.heap.size w2.heap.size S T x y k1 k2 nm1 nm2 A1 A2 n1 cap1 n2 cap2) wx)
        case first =>
          cases bv with
          | true =>
            generalize la.bind (lookL uwu [lb, la, la]) = X at *
            go_wp2_with (go_at_call 11; refine (K11.out _ ?_).mono ?_; exact HB8.out; clear o1 o2 o4 o5 p0 p1 p2 b0 b1 b2 l0 l1 l2; rintro e w9 ⟨k3, nm3, A3, n3, cap3, rfl, HI9, HB9, ⟨o1, o2, o4, o5⟩, ⟨p0, p1, p2⟩, ⟨b0, b1, b2⟩, l0, l1, l2⟩)
            have HB9' : Hid (Below W3.heap.size W3 (w9.alloc (.cells #[.int .i64 k3, .string nm3, .slice A3 n3 cap3] 29))) := HB9.out.alloc HB9.out.size _
            go_wp2_with (go_at_call 12; refine (K12.out (w9.alloc (.cells #[.int .i64 k3, .string nm3, .slice A3 n3 cap3] 29)) (w9.heap.size + 1) (by simp) HB9'.out).mono ?_)
            clear o1 o2 o4 o5 p0 p1 p2 b0 b1 b2 l0 l1 l2
            rintro e w10 ⟨k4, nm4, A4, n4, cap4, rfl, HI10, HBu, HB10, ⟨o1, o2, o4, o5⟩, ⟨p0, p1, p2⟩, ⟨b0, b1, b2⟩, l0, l1, l2⟩
            have u0 : w10.cell? ⟨w9.heap.size, 0, none⟩ = some (.int .i64 k3) := by rw [HBu.out.cell (by simp)]; simp
            have u1 : w10.cell? ⟨w9.heap.size, 1, none⟩ = some (.string nm3) := by rw [HBu.out.cell (by simp)]; simp
            have u2 : w10.cell? ⟨w9.heap.size, 2, none⟩ = some (.slice A3 n3 cap3) := by rw [HBu.out.cell (by simp)]; simp
            have lu : w9.heap.size < w10.heap.size := by have := HBu.out.size; simp at this; omega
            have HB10' : Hid (Below W3.heap.size W3 (w10.alloc (.cells #[.int .i64 k4, .string nm4, .slice A4 n4 cap4] 29))) := HB10.out.alloc HB10.out.size _
            have hbn : Below w10.heap.size w10 (w10.alloc (.cells #[.int .i64 k4, .string nm4, .slice A4 n4 cap4] 29)) := (Below.refl _ _).alloc (Nat.le_refl _) _
            have hbo : Below w9.heap.size w9 w10 := ((Below.refl _ _).alloc (Nat.le_refl _) _).trans (HBu.out.mono (by simp))
            have HIu : Hid (InLv (w10.alloc (.cells #[.int .i64 k4, .string nm4, .slice A4 n4 cap4] 29)) (w10.alloc (.cells #[.int .i64 k4, .string nm4, .slice A4 n4 cap4] 29)).heap.size X (.agg #[.int .i64 k3, .string nm3, .slice A3 n3 cap3])) := (((HI9.out.below hbo).mono hbo.size).below hbn).mono hbn.size
            have HIv : Hid (InLv (w10.alloc (.cells #[.int .i64 k4, .string nm4, .slice A4 n4 cap4] 29)) (w10.alloc (.cells #[.int .i64 k4, .string nm4, .slice A4 n4 cap4] 29)).heap.size X (.agg #[.int .i64 k4, .string nm4, .slice A4 n4 cap4])) := (HI10.out.below hbn).mono hbn.size
            clear hbn hbo HBu
            go_wp2_with (go_at_call 13; refine (K13.out _ _ _ HIu HIv HB10'.out).mono ?_)
            rintro e w11 ⟨rfl, HB11, hcs⟩
            go_wp2_with fail
            go_meet
            case rel => exact ⟨rfl, HB11, hcs⟩
          | false =>
            go_wp2_with fail
            go_meet
            case rel => exact ⟨rfl, At.of HC.out HB8.out⟩
        case rest =>
          clear o1 o2 o4 o5 p0 p1 p2 b0 b1 b2 l0 l1 l2
          obtain ⟨rfl, HB9, ⟨o1, o2, o4, o5⟩, ⟨p0, p1, p2⟩, ⟨b0, b1, b2⟩, l0, l1, l2⟩ := hcut
          clear o1 o2 b0 b1 b2 l2 K11 K12 K13 HB8 HIb HMB HMA HBV HTb
          generalize la.worth (look uv [limN x, limN y]) = N at *
          have hzc := HB9.out.size
          go_wp2_with fail
          go_cut [13] (fun v wx => v = .int .i64 (N : Nat) ∧ At W3 (Cells w.heap.size w1.heap.size w2.heap.size S T x y k1 k2 nm1 nm2 A1 A2 n1 cap1 n2 cap2) wx)
          case first =>
            go_region_held3 (fun w' => w'.cell? ⟨w.heap.size, 4, none⟩ = some (.int .i64 x) ∧ w'.cell? ⟨w.heap.size, 5, none⟩ = some (.int .i64 y) ∧ w'.cell? ⟨w1.heap.size, 0, none⟩ = some (.int .i64 k1) ∧ w'.cell? ⟨w1.heap.size, 1, none⟩ = some (.string nm1) ∧ w'.cell? ⟨w1.heap.size, 2, none⟩ = some (.slice A1 n1 cap1)) (go_keep)
              (first
                | (go_at_call 15; refine (K15.out _ _ ?_).mono ?_; (first | exact .inl rfl | exact .inr rfl); rintro e w' ⟨rfl, rfl⟩)
                | (go_at_call 14; refine (K14.out _ _ _ (by repeat' (first | exact HB9.out | refine Below.drew ?_ | refine Below.alloc ?_ (by first | exact hzc | (simp; omega)) _)) (by simp [World.cell?_alloc_at]) (by simp [World.cell?_alloc_at]) (by simp [World.cell?_alloc_at]) (by simp [World.cell?_alloc_at])).mono ?_; rintro e w' ⟨rfl, HB10, ⟨o1, o2, o4, o5⟩, ⟨p0, p1, p2⟩, ⟨b0, b1, b2⟩, l0, l1, l2⟩))
            all_goals
              go_wp2_with fail
              go_meet
              case rel => exact ⟨rfl, At.of HC.out HB10.out⟩
          case rest =>
            clear o4 o5 p0 p1 p2 l0 l1 hzc
            obtain ⟨rfl, HB9, ⟨o1, o2, o4, o5⟩, ⟨p0, p1, p2⟩, ⟨b0, b1, b2⟩, l0, l1, l2⟩ := hcut
            have hzc := HB9.out.size
            clear o1 o2 b0 b1 b2 l2 K14
            go_wp2_with fail
            go_region_held3 (fun w' => w'.cell? ⟨w.heap.size, 4, none⟩ = some (.int .i64 x) ∧ w'.cell? ⟨w.heap.size, 5, none⟩ = some (.int .i64 y) ∧ w'.cell? ⟨w1.heap.size, 0, none⟩ = some (.int .i64 k1) ∧ w'.cell? ⟨w1.heap.size, 1, none⟩ = some (.string nm1) ∧ w'.cell? ⟨w1.heap.size, 2, none⟩ = some (.slice A1 n1 cap1)) (go_keep)
              (first
                | (go_at_call 15; refine (K15.out _ _ ?_).mono ?_; (first | exact .inl rfl | exact .inr rfl); rintro e w' ⟨rfl, rfl⟩)
                | (go_at_call 16; refine (K16.out _ _ _ (by repeat' (first | exact HB9.out | refine Below.drew ?_ | refine Below.alloc ?_ (by first | exact hzc | (simp; omega)) _)) (by simp [World.cell?_alloc_at]) (by simp [World.cell?_alloc_at]) (by simp [World.cell?_alloc_at]) (by simp [World.cell?_alloc_at])).mono ?_; rintro e w' ⟨rfl, HB10, ⟨o1, o2, o4, o5⟩, ⟨p0, p1, p2⟩, ⟨b0, b1, b2⟩, l0, l1, l2⟩))
            all_goals
              go_wp2_with fail
              go_ret
              exact ⟨by simp, HW.out.trans (HB10.out.mono HW.out.size)⟩
    · have e2 : ((c2 : Int) != 0) = true := by simp; omega
      have H1 := hide hc1
      clear hc1 hc2
      go_wp2_with fail
      go_ret
      exact ⟨rfl, HW.out⟩
  · have e1 : ((c1 : Int) != 0) = true := by simp; omega
    clear hc1
    go_wp2_with fail
    go_ret
    exact ⟨rfl, HW.out⟩

end Go.Proofs.YtdbpkbhglghdoaaDoor
