/- How a level, a list of names and a list of numbers lie in memory: no walk. -/
import Derived.WalkKit
import Derived.WalkSpells
import Derived.Test.YtpdoegjddiaaoaaDoorMath
namespace Go.Proofs.YtpdoegjddiaaoaaDoor
open Go.RowKit

abbrev LvB := Lv ByteArray

theorem ret_bool {a b : Bool} (h : a = b) : Ending.returned (.bool a) = .returned (.bool b) := by rw [h]
theorem ret_int {k : IntKind} {a b : Int} (h : a = b) : Ending.returned (.int k a) = .returned (.int k b) := by rw [h]

def Lv.kind {α : Type} : Lv α → Nat
  | .zero => 0
  | .succ _ => 1
  | .max _ _ => 2
  | .imax _ _ => 3
  | .param _ => 4

def Lv.nm : LvB → ByteArray
  | .param p => p
  | _ => ⟨#[]⟩

def Lv.kids {α : Type} : Lv α → List (Lv α)
  | .zero => []
  | .succ a => [a]
  | .max a b => [a, b]
  | .imax a b => [a, b]
  | .param _ => []

def Lv.nodes {α : Type} : Lv α → Nat
  | .zero => 1
  | .succ a => a.nodes + 1
  | .max a b => a.nodes + b.nodes + 1
  | .imax a b => a.nodes + b.nodes + 1
  | .param _ => 1

theorem Lv.succs_le {α : Type} : ∀ l : Lv α, l.succs ≤ l.nodes
  | .zero => by simp [succs]
  | .succ a => by have := Lv.succs_le a; simp only [succs, nodes]; omega
  | .max a b => by have := Lv.succs_le a; have := Lv.succs_le b; simp only [succs, nodes]; omega
  | .imax a b => by have := Lv.succs_le a; have := Lv.succs_le b; simp only [succs, nodes]; omega
  | .param _ => by simp [succs]

/-- Three cells of a block are a level's value. -/
def Three (w : World) (b o : Nat) (x : Value) : Prop := ∃ (k : Int) (nm : ByteArray) (A : Option Addr) (n cap : Nat), x = .agg #[.int .i64 k, .string nm, .slice A n cap] ∧
  w.cell? ⟨b, o, none⟩ = some (.int .i64 k) ∧ w.cell? ⟨b, o + 1, none⟩ = some (.string nm) ∧ w.cell? ⟨b, o + 2, none⟩ = some (.slice A n cap)

/-- The value is that level, all its parts in blocks below B. -/
def InLv (w : World) (B : Nat) : LvB → Value → Prop
  | .zero, v => v = .agg #[.int .i64 0, .string ⟨#[]⟩, .slice none 0 0]
  | .param p, v => v = .agg #[.int .i64 4, .string p, .slice none 0 0]
  | .succ a, v => ∃ b cap x, v = .agg #[.int .i64 1, .string ⟨#[]⟩, .slice (some ⟨b, 0, none⟩) 1 cap] ∧ b < B ∧ Three w b 0 x ∧ InLv w B a x
  | .max a c, v => ∃ b cap x y, v = .agg #[.int .i64 2, .string ⟨#[]⟩, .slice (some ⟨b, 0, none⟩) 2 cap] ∧ b < B ∧ Three w b 0 x ∧ Three w b 3 y ∧ InLv w B a x ∧ InLv w B c y
  | .imax a c, v => ∃ b cap x y, v = .agg #[.int .i64 3, .string ⟨#[]⟩, .slice (some ⟨b, 0, none⟩) 2 cap] ∧ b < B ∧ Three w b 0 x ∧ Three w b 3 y ∧ InLv w B a x ∧ InLv w B c y

theorem Three.below {w w' : World} {B b o : Nat} {x : Value} (h : Below B w w') (hb : b < B) (ht : Three w b o x) : Three w' b o x := by
  obtain ⟨k, nm, A, n, cap, e, h0, h1, h2⟩ := ht
  exact ⟨k, nm, A, n, cap, e, by rw [h.cell hb]; exact h0, by rw [h.cell hb]; exact h1, by rw [h.cell hb]; exact h2⟩

theorem InLv.below {w w' : World} {B : Nat} (h : Below B w w') : ∀ {l : LvB} {v : Value}, InLv w B l v → InLv w' B l v
  | .zero, _, hl => hl
  | .param _, _, hl => hl
  | .succ a, _, ⟨b, cap, x, e, hb, h3, ha⟩ => ⟨b, cap, x, e, hb, h3.below h hb, InLv.below h (l := a) ha⟩
  | .max a c, _, ⟨b, cap, x, y, e, hb, h3, h4, ha, hc⟩ => ⟨b, cap, x, y, e, hb, h3.below h hb, h4.below h hb, InLv.below h (l := a) ha, InLv.below h (l := c) hc⟩
  | .imax a c, _, ⟨b, cap, x, y, e, hb, h3, h4, ha, hc⟩ => ⟨b, cap, x, y, e, hb, h3.below h hb, h4.below h hb, InLv.below h (l := a) ha, InLv.below h (l := c) hc⟩

theorem InLv.mono {w : World} {B B' : Nat} (h : B ≤ B') : ∀ {l : LvB} {v : Value}, InLv w B l v → InLv w B' l v
  | .zero, _, hl => hl
  | .param _, _, hl => hl
  | .succ a, _, ⟨b, cap, x, e, hb, h3, ha⟩ => ⟨b, cap, x, e, Nat.lt_of_lt_of_le hb h, h3, InLv.mono h (l := a) ha⟩
  | .max a c, _, ⟨b, cap, x, y, e, hb, h3, h4, ha, hc⟩ => ⟨b, cap, x, y, e, Nat.lt_of_lt_of_le hb h, h3, h4, InLv.mono h (l := a) ha, InLv.mono h (l := c) hc⟩
  | .imax a c, _, ⟨b, cap, x, y, e, hb, h3, h4, ha, hc⟩ => ⟨b, cap, x, y, e, Nat.lt_of_lt_of_le hb h, h3, h4, InLv.mono h (l := a) ha, InLv.mono h (l := c) hc⟩

/-- Its value's shape, and where its parts lie. -/
theorem InLv.shape {w : World} {B : Nat} : ∀ {l : LvB} {v : Value}, InLv w B l v → ∃ (A : Option Addr) (cap : Nat), v = .agg #[.int .i64 l.kind, .string l.nm, .slice A l.kids.length cap] ∧
    ∀ i (hi : i < l.kids.length), ∃ b x, A = some ⟨b, 0, none⟩ ∧ b < B ∧ Three w b (i * 3) x ∧ InLv w B l.kids[i] x
  | .zero, _, hl => ⟨none, 0, hl, fun i hi => absurd hi (by simp [Lv.kids])⟩
  | .param _, _, hl => ⟨none, 0, hl, fun i hi => absurd hi (by simp [Lv.kids])⟩
  | .succ a, _, ⟨b, cap, x, e, hb, h3, ha⟩ => ⟨some ⟨b, 0, none⟩, cap, e, fun i hi => by
      match i, hi with
      | 0, _ => exact ⟨b, x, rfl, hb, h3, ha⟩
      | i + 1, hi => exact absurd hi (by simp [Lv.kids])⟩
  | .max a c, _, ⟨b, cap, x, y, e, hb, h3, h4, ha, hc⟩ => ⟨some ⟨b, 0, none⟩, cap, e, fun i hi => by
      match i, hi with
      | 0, _ => exact ⟨b, x, rfl, hb, h3, ha⟩
      | 1, _ => exact ⟨b, y, rfl, hb, h4, hc⟩
      | i + 2, hi => exact absurd hi (by simp [Lv.kids])⟩
  | .imax a c, _, ⟨b, cap, x, y, e, hb, h3, h4, ha, hc⟩ => ⟨some ⟨b, 0, none⟩, cap, e, fun i hi => by
      match i, hi with
      | 0, _ => exact ⟨b, x, rfl, hb, h3, ha⟩
      | 1, _ => exact ⟨b, y, rfl, hb, h4, hc⟩
      | i + 2, hi => exact absurd hi (by simp [Lv.kids])⟩

/-- A level's value, whatever it is. -/
theorem InLv.form {w : World} {B : Nat} {l : LvB} {v : Value} (h : InLv w B l v) : ∃ (A : Option Addr) (cap : Nat), v = .agg #[.int .i64 l.kind, .string l.nm, .slice A l.kids.length cap] := by
  obtain ⟨A, cap, e, _⟩ := h.shape
  exact ⟨A, cap, e⟩

/-- A slice of strings, read alone. -/
def InStrs (w : World) (B : Nat) (v : Value) (ns : List ByteArray) : Prop := ns.length ≤ maxLen ∧ ∃ (A : Option Addr) (cap : Nat), v = .slice A ns.length cap ∧
  ∀ i (hi : i < ns.length), ∃ b o, A = some ⟨b, o, none⟩ ∧ b < B ∧ w.cell? ⟨b, o + i, none⟩ = some (.string ns[i])

theorem InStrs.below {w w' : World} {B : Nat} (h : Below B w w') {v : Value} {ns : List ByteArray} (hs : InStrs w B v ns) : InStrs w' B v ns := by
  obtain ⟨hm, A, cap, e, hc⟩ := hs
  refine ⟨hm, A, cap, e, fun i hi => ?_⟩
  obtain ⟨b, o, ea, hb, hcell⟩ := hc i hi
  exact ⟨b, o, ea, hb, by rw [h.cell hb]; exact hcell⟩

theorem InStrs.mono {w : World} {B B' : Nat} (h : B ≤ B') {v : Value} {ns : List ByteArray} (hs : InStrs w B v ns) : InStrs w B' v ns := by
  obtain ⟨hm, A, cap, e, hc⟩ := hs
  refine ⟨hm, A, cap, e, fun i hi => ?_⟩
  obtain ⟨b, o, ea, hb, hcell⟩ := hc i hi
  exact ⟨b, o, ea, Nat.lt_of_lt_of_le hb h, hcell⟩

/-- Out of a row that the call owns. -/
theorem InStrs.of_owns {w : World} {base : Nat} {v : Value} {ns : List ByteArray} (h : w.ownsRow base 9 1 v ns.length (ns.map .string)) (hm : ns.length ≤ maxLen) : InStrs w w.heap.size v ns := by
  refine ⟨hm, ?_⟩
  have hlt := h.lt
  have hcells := fun g hg => h.cells (g := g) hg
  rcases h.2 with ⟨rfl, hn⟩ | ⟨g, cap, cur, rfl, hb, hg, _⟩
  · exact ⟨none, 0, by rw [hn], fun i hi => absurd hi (by omega)⟩
  · refine ⟨some ⟨g, 0, none⟩, cap, rfl, fun i hi => ⟨g, 0, rfl, (hlt g rfl).2, ?_⟩⟩
    have := hcells g rfl i (.string ns[i]) (by simp [hi])
    rwa [Addr.add_lit] at this

/-- A slice of numbers, read alone. -/
def InInts (w : World) (B : Nat) (v : Value) (ns : List Nat) : Prop := ∃ (A : Option Addr) (cap : Nat), v = .slice A ns.length cap ∧
  ∀ i (hi : i < ns.length), ∃ b o, A = some ⟨b, o, none⟩ ∧ b < B ∧ w.cell? ⟨b, o + i, none⟩ = some (.int .i64 (ns[i] : Nat))

theorem InInts.below {w w' : World} {B : Nat} (h : Below B w w') {v : Value} {ns : List Nat} (hs : InInts w B v ns) : InInts w' B v ns := by
  obtain ⟨A, cap, e, hc⟩ := hs
  refine ⟨A, cap, e, fun i hi => ?_⟩
  obtain ⟨b, o, ea, hb, hcell⟩ := hc i hi
  exact ⟨b, o, ea, hb, by rw [h.cell hb]; exact hcell⟩

theorem InInts.mono {w : World} {B B' : Nat} (h : B ≤ B') {v : Value} {ns : List Nat} (hs : InInts w B v ns) : InInts w B' v ns := by
  obtain ⟨A, cap, e, hc⟩ := hs
  refine ⟨A, cap, e, fun i hi => ?_⟩
  obtain ⟨b, o, ea, hb, hcell⟩ := hc i hi
  exact ⟨b, o, ea, Nat.lt_of_lt_of_le hb h, hcell⟩

theorem InInts.of_owns {w : World} {base : Nat} {v : Value} {ns : List Nat} (h : w.ownsRow base 3 1 v ns.length (ns.map fun n => .int .i64 (n : Nat))) : InInts w w.heap.size v ns := by
  have hlt := h.lt
  have hcells := fun g hg => h.cells (g := g) hg
  rcases h.2 with ⟨rfl, hn⟩ | ⟨g, cap, cur, rfl, hb, hg, _⟩
  · exact ⟨none, 0, by rw [hn], fun i hi => absurd hi (by omega)⟩
  · refine ⟨some ⟨g, 0, none⟩, cap, rfl, fun i hi => ⟨g, 0, rfl, (hlt g rfl).2, ?_⟩⟩
    have := hcells g rfl i (.int .i64 (ns[i] : Nat)) (by simp [hi])
    rwa [Addr.add_lit] at this

/-- All old cells and marks read as before. -/
theorem bcell {W w1 : World} (hb : Below W.heap.size W w1) : (∀ b o, b < W.heap.size → w1.cell? ⟨b, o, none⟩ = W.cell? ⟨b, o, none⟩) ∧ (∀ b o, b < W.heap.size → w1.frozen? ⟨b, o, none⟩ = W.frozen? ⟨b, o, none⟩) :=
  ⟨fun b o h => hb.cell (p := ⟨b, o, none⟩) h, fun b o h => hb.frozen (p := ⟨b, o, none⟩) h⟩

/-- The number at a name's first place; 0 where it has none. -/
def look : List ByteArray → List Nat → ByteArray → Nat
  | p :: ps, n :: ns, q => if p = q then n else look ps ns q
  | _, _, _ => 0

end Go.Proofs.YtpdoegjddiaaoaaDoor
