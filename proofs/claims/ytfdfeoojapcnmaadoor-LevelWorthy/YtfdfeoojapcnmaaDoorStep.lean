/- What the calls of the statement's step give, and that the world which the step's walk stands in keeps its cells. -/
import Derived.Test.YtfdfeoojapcnmaaDoorFacts
import Derived.Test.YtfdfeoojapcnmaaDoorRead
import Derived.Test.YtfdfeoojapcnmaaDoorParse
import Derived.Test.YtfdfeoojapcnmaaDoorParams
namespace Go.Proofs.YtfdfeoojapcnmaaDoor
open Go.RowKit

theorem parse_calls (s : ByteArray) (w : World) (hm : s.size ≤ maxLen) : Calls Tryd.prog 5 #[.string s] w fun e w' => Parsed w s e w' := by
  by_cases h : s.size ≤ 20000
  · exact parse_short s w h
  · exact parse_long s w (by omega) hm

/-- The cells that the step's walk reads, in a world. -/
def Cells (bo ba bb : Nat) (x y k1 k2 : Int) (nm1 nm2 : ByteArray) (A1 A2 : Option Addr) (n1 cap1 n2 cap2 : Nat) (W : World) : Prop :=
  (W.cell? ⟨bo, 4, none⟩ = some (.int .i64 x) ∧ W.cell? ⟨bo, 5, none⟩ = some (.int .i64 y)) ∧
  (W.cell? ⟨ba, 0, none⟩ = some (.int .i64 k1) ∧ W.cell? ⟨ba, 1, none⟩ = some (.string nm1) ∧ W.cell? ⟨ba, 2, none⟩ = some (.slice A1 n1 cap1)) ∧
  (W.cell? ⟨bb, 0, none⟩ = some (.int .i64 k2) ∧ W.cell? ⟨bb, 1, none⟩ = some (.string nm2) ∧ W.cell? ⟨bb, 2, none⟩ = some (.slice A2 n2 cap2)) ∧ bo < W.heap.size ∧ ba < W.heap.size ∧ bb < W.heap.size

theorem Cells.later {bo ba bb : Nat} {x y k1 k2 : Int} {nm1 nm2 : ByteArray} {A1 A2 : Option Addr} {n1 cap1 n2 cap2 : Nat} {V W : World} (h : Cells bo ba bb x y k1 k2 nm1 nm2 A1 A2 n1 cap1 n2 cap2 V) (hb : Below V.heap.size V W) : Cells bo ba bb x y k1 k2 nm1 nm2 A1 A2 n1 cap1 n2 cap2 W := by
  obtain ⟨⟨h3, h4⟩, ⟨h5, h6, h7⟩, ⟨h8, h9, h10⟩, h11, h12, h13⟩ := h
  have := hb.size
  exact ⟨⟨cell_later hb h3, cell_later hb h4⟩, ⟨cell_later hb h5, cell_later hb h6, cell_later hb h7⟩, ⟨cell_later hb h8, cell_later hb h9, cell_later hb h10⟩, by omega, by omega, by omega⟩

/-- Where the walk stands: behind the base world, with its cells. -/
def At (V : World) (C : World → Prop) (W : World) : Prop := Hid (Below V.heap.size V W) ∧ C W
theorem At.of {V W : World} {C : World → Prop} (hC : ∀ W, Below V.heap.size V W → C W) (h : Below V.heap.size V W) : At V C W := ⟨h, hC W h⟩

theorem Nm.small {q : ByteArray} (h : Nm q) : q.size ≤ 1000 := by have := h.2.1; omega

theorem addP_self_len (a b : LvB) : (a.addP (a.addP [])).length ≤ (a.addP (b.addP [])).length :=
  nodup_length _ _ (Lv.addP_nodup _ _ (Lv.addP_nodup _ _ List.nodup_nil)) fun p hp => by
    rcases Lv.addP_mem _ _ _ hp with h | h
    · rcases Lv.addP_mem _ _ _ h with h | h
      · cases h
      · exact Lv.addP_has _ _ _ h
    · exact Lv.addP_has _ _ _ h

theorem sameB_self (a : LvB) : sameB a a = true := by
  unfold sameB
  rw [leB_true fun τ => Nat.le_refl _]
  rfl

/-- The names under which the statement asks what a level is worth. -/
abbrev uvw : List ByteArray := [⟨#[117]⟩, ⟨#[118]⟩, ⟨#[119]⟩]

theorem strs3 {W : World} {b : Nat} (h0 : W.cell? ⟨b, 0, none⟩ = some (.string ⟨#[117]⟩)) (h1 : W.cell? ⟨b, 1, none⟩ = some (.string ⟨#[118]⟩)) (h2 : W.cell? ⟨b, 2, none⟩ = some (.string ⟨#[119]⟩)) : InStrs W W.heap.size (.slice (some ⟨b, 0, none⟩) 3 3) uvw := by
  have hb := World.block_lt_of_cell? _ _ h0
  refine ⟨by simp [uvw, maxLen], _, _, rfl, fun i hi => ⟨_, _, rfl, hb, ?_⟩⟩
  match i, hi with
  | 0, _ => exact h0
  | 1, _ => exact h1
  | 2, _ => exact h2
theorem ints3 {W : World} {b m n o : Nat} (h0 : W.cell? ⟨b, 0, none⟩ = some (.int .i64 (m : Nat))) (h1 : W.cell? ⟨b, 1, none⟩ = some (.int .i64 (n : Nat))) (h2 : W.cell? ⟨b, 2, none⟩ = some (.int .i64 (o : Nat))) : InInts W W.heap.size (.slice (some ⟨b, 0, none⟩) 3 3) [m, n, o] := by
  have hb := World.block_lt_of_cell? _ _ h0
  refine ⟨_, _, rfl, fun i hi => ⟨_, _, rfl, hb, ?_⟩⟩
  match i, hi with
  | 0, _ => exact h0
  | 1, _ => exact h1
  | 2, _ => exact h2

section
variable {V : World} {C : World → Prop} {la lb : LvB} {va vb : Value}

theorem s_leq (hC : ∀ W, Below V.heap.size V W → C W) (ia : InLv V V.heap.size la va) (ib : InLv V V.heap.size lb vb) (na : la.nodes ≤ 300) (nb : lb.nodes ≤ 300) (ma : ∀ p, Lv.has p la → Nm p) (mb : ∀ p, Lv.has p lb → Nm p) (hl : (la.addP (lb.addP [])).length ≤ 6) (W : World) (hW : Below V.heap.size V W) :
    Calls Tryd.prog 9 #[va, vb] W fun e w' => e = .returned (.bool (leB la lb)) ∧ At V C w' :=
  (leq_calls la lb va vb V.heap.size W hW.size (ia.below hW) (ib.below hW) (by omega) (by omega) (fun p h => (ma p h).small) (fun p h => (mb p h).small) hl).mono fun _ _ ⟨he, hb⟩ => ⟨he, At.of hC (hW.trans (hb.mono hW.size))⟩

theorem s_same (hC : ∀ W, Below V.heap.size V W → C W) (ia : InLv V V.heap.size la va) (ib : InLv V V.heap.size lb vb) (na : la.nodes ≤ 300) (nb : lb.nodes ≤ 300) (ma : ∀ p, Lv.has p la → Nm p) (mb : ∀ p, Lv.has p lb → Nm p) (hl : (la.addP (lb.addP [])).length ≤ 6) (W : World) (hW : Below V.heap.size V W) :
    Calls Tryd.prog 10 #[va, vb] W fun e w' => e = .returned (.bool (leB la lb && leB lb la)) ∧ At V C w' :=
  (same_calls la lb va vb V.heap.size W hW.size (ia.below hW) (ib.below hW) (by omega) (by omega) (fun p h => (ma p h).small) (fun p h => (mb p h).small) hl).mono fun _ _ ⟨he, hb⟩ => ⟨he, At.of hC (hW.trans (hb.mono hW.size))⟩

theorem s_again (hC : ∀ W, Below V.heap.size V W → C W) (na : la.nodes ≤ 300) (ma : ∀ p, Lv.has p la → Nm p) (hl : (la.addP (lb.addP [])).length ≤ 6) (W : World) (u v : Value) (iu : Hid (InLv W W.heap.size la u)) (iv : Hid (InLv W W.heap.size la v)) (hW : Below V.heap.size V W) :
    Calls Tryd.prog 10 #[u, v] W fun e w' => e = .returned (.bool true) ∧ At V C w' := by
  have h := same_calls la la u v W.heap.size W (Nat.le_refl _) iu.out iv.out (by omega) (by omega) (fun p h => (ma p h).small) (fun p h => (ma p h).small) (by have := addP_self_len la lb; omega)
  rw [sameB_self] at h
  exact h.mono fun _ _ ⟨he, hb⟩ => ⟨he, At.of hC (hW.trans (hb.mono hW.size))⟩

theorem s_worth (hC : ∀ W, Below V.heap.size V W → C W) (ia : InLv V V.heap.size la va) (na : la.nodes ≤ 300) (ma : ∀ p, Lv.has p la → Nm p) (nv iv : Value) (m n o : Nat) (hm : m ≤ 1000000) (hn : n ≤ 1000000) (ho : o ≤ 1000000) (hs : InStrs V V.heap.size nv uvw) (hi : InInts V V.heap.size iv [m, n, o]) (W : World) (hW : Below V.heap.size V W) :
    Calls Tryd.prog 8 #[va, nv, iv] W fun e w' => e = .returned (.int .i64 (la.worth (look uvw [m, n, o]) : Nat)) ∧ At V C w' :=
  (lworth_calls uvw [m, n, o] nv iv V.heap.size rfl (by simp; omega) la va W (fun p h => (ma p h).small) (by omega) hW.size (ia.below hW) (hs.below hW) (hi.below hW)).mono fun _ _ ⟨he, hb⟩ => ⟨he, At.of hC (hW.trans (hb.mono hW.size))⟩

theorem s_print (hC : ∀ W, Below V.heap.size V W → C W) (ia : InLv V V.heap.size la va) (na : la.nodes ≤ 300) (ma : ∀ p, Lv.has p la → Nm p) (ht : Tabs V) (W : World) (hW : Below V.heap.size V W) :
    Calls Tryd.prog 11 #[va] W fun e w' => e = .returned (.string ⟨la.text.toArray⟩) ∧ At V C w' :=
  (print_calls la va V.heap.size W (by omega) (fun p h => (ma p h).small) hW.size (ia.below hW) (ht.below hW ht.lt).t (by have := ht.lt; have := hW.size; omega)).mono fun _ _ ⟨he, hb⟩ => ⟨he, At.of hC (hW.trans (hb.mono hW.size))⟩

theorem s_back (hC : ∀ W, Below V.heap.size V W → C W) (na : la.nodes ≤ 300) (ma : ∀ p, Lv.has p la → Nm p) (ht : Tabs V) (W : World) (hW : Below V.heap.size V W) :
    Calls Tryd.prog 12 #[.string ⟨la.text.toArray⟩] W fun e w' => ∃ (k : Int) (nm : ByteArray) (A : Option Addr) (n cap : Nat), e = .returned (.tuple #[.agg #[.int .i64 k, .string nm, .slice A n cap], .nilIface]) ∧ Hid (InLv w' w'.heap.size la (.agg #[.int .i64 k, .string nm, .slice A n cap])) ∧ At V C w' :=
  (parse_back la W (by omega) ma (ht.below hW ht.lt)).mono fun _ _ ⟨k, nm, A, n, cap, he, hi, hb⟩ => ⟨k, nm, A, n, cap, he, hi, At.of hC (hW.trans (hb.mono hW.size))⟩

/-- What the statement's own Params gives: how many names there are. -/
theorem s_names1 (hC : ∀ W, Below V.heap.size V W → C W) (ib : InLv V V.heap.size lb vb) (nb : lb.nodes ≤ 300) (W : World) (hW : Below V.heap.size V W) :
    Calls Tryd.prog 6 #[vb, .slice none 0 0] W fun e w' => ∃ v', e = .returned v' ∧ Hid (w'.ownsRow V.heap.size 9 1 v' (lb.addP []).length ((lb.addP []).map .string)) ∧ At V C w' := by
  refine (rparams_calls lb.nodes lb _ (.slice none 0 0) [] V.heap.size V.heap.size W (Nat.le_refl _) (Nat.le_refl _) hW.size (ib.below hW) (World.ownsRow_nil _ _ _ _) (by simp; omega)).mono ?_
  rintro e w' ⟨v', rfl, ho, hg⟩
  have hb := hW.trans (hg.below hW.size (fun k hk => by simp [Value.ownBlock] at hk))
  exact ⟨v', rfl, ho, At.of hC hb⟩
theorem s_names2 (hC : ∀ W, Below V.heap.size V W → C W) (ia : InLv V V.heap.size la va) (na : la.nodes ≤ 300) (nb : lb.nodes ≤ 300) (W : World) (v1 : Value) (hO : Hid (W.ownsRow V.heap.size 9 1 v1 (lb.addP []).length ((lb.addP []).map .string))) (hW : Below V.heap.size V W) :
    Calls Tryd.prog 6 #[va, v1] W fun e w' => ∃ A9 cap9, e = .returned (.slice A9 (la.addP (lb.addP [])).length cap9) ∧ At V C w' := by
  have hla := Lv.addP_len lb []
  simp at hla
  refine (rparams_calls la.nodes la _ v1 _ V.heap.size V.heap.size W (Nat.le_refl _) (Nat.le_refl _) hW.size (ia.below hW) hO.out (by omega)).mono ?_
  rintro e w' ⟨v', rfl, ho, hg⟩
  have hb := hW.trans (hg.below hW.size (fun k hk => (hO.out.lt k hk).1))
  obtain ⟨A9, cap9, rfl⟩ := shape_of_owns' ho
  exact ⟨A9, cap9, rfl, At.of hC hb⟩
end

end Go.Proofs.YtfdfeoojapcnmaaDoor
