/- The contract of gates: how often each parameter stands where it may decide an imax. -/
import Derived.Test.YtdbpkbhglghdoaaDoorMaps
namespace Go.Proofs.YtdbpkbhglghdoaaDoor
open Go.RowKit Go.Maps

def Lv.gcount (p : ByteArray) : Bool → LvB → Nat
  | _, .zero => 0
  | d, .succ a => Lv.gcount p d a
  | d, .max a b => Lv.gcount p d a + Lv.gcount p d b
  | d, .imax a b => Lv.gcount p d a + Lv.gcount p true b
  | d, .param q => if d = true ∧ p = q then 1 else 0

theorem Lv.gcount_le (p : ByteArray) : ∀ (d : Bool) (l : LvB), Lv.gcount p d l ≤ l.nodes
  | _, .zero => by simp [gcount]
  | d, .succ a => by have := Lv.gcount_le p d a; simp only [gcount, nodes]; omega
  | d, .max a b => by have := Lv.gcount_le p d a; have := Lv.gcount_le p d b; simp only [gcount, nodes]; omega
  | d, .imax a b => by have := Lv.gcount_le p d a; have := Lv.gcount_le p true b; simp only [gcount, nodes]; omega
  | d, .param q => by simp only [gcount, nodes]; split <;> omega

theorem Lv.gcount_gate (p : ByteArray) : ∀ (d : Bool) (l : LvB), 0 < Lv.gcount p d l ↔ Lv.gate p d l
  | _, .zero => by simp [gcount, gate]
  | d, .succ a => Lv.gcount_gate p d a
  | d, .max a b => by have := Lv.gcount_gate p d a; have := Lv.gcount_gate p d b; simp only [gcount, gate, ← Lv.gcount_gate p d a, ← Lv.gcount_gate p d b]; omega
  | d, .imax a b => by simp only [gcount, gate, ← Lv.gcount_gate p d a, ← Lv.gcount_gate p true b]; omega
  | d, .param q => by
    simp only [gcount, gate]
    split
    · rename_i h; simp [h.1, h.2]
    · rename_i h
      constructor
      · intro h'; omega
      · rintro ⟨h1, h2⟩; exact absurd ⟨h1, h2.symm⟩ h

/-- Whether the k-th part of a level stands where it may decide. -/
def Lv.under (l : LvB) (d : Bool) (k : Nat) : Bool := d || (decide (l.kind = 3) && decide (k = 1))

def Lv.gkids (p : ByteArray) (l : LvB) (d : Bool) : Nat → Nat
  | 0 => 0
  | k + 1 => Lv.gkids p l d k + (match l.kids[k]? with | some a => Lv.gcount p (l.under d k) a | none => 0)

theorem Lv.gkids_succ (p : ByteArray) (l : LvB) (d : Bool) (k : Nat) (h : k < l.kids.length) : Lv.gkids p l d (k + 1) = Lv.gkids p l d k + Lv.gcount p (l.under d k) l.kids[k] := by
  simp [gkids, h]

theorem Lv.gkids_all (p : ByteArray) (l : LvB) (d : Bool) (h : l.kind ≠ 4) : Lv.gkids p l d l.kids.length = Lv.gcount p d l := by
  cases l <;> simp [gkids, kids, gcount, kind, under] at h ⊢

/-- What the walk changes: the map alone, and new blocks. -/
def Touched (w : World) (m : Nat) (w' : World) : Prop := w.grownBy w' (some m)

theorem Touched.refl (w : World) (m : Nat) : Touched w m w := World.grownBy.refl _ _
theorem Touched.trans {w w' w'' : World} {m : Nat} (h : Touched w m w') (h' : Touched w' m w'') : Touched w m w'' :=
  ⟨h'.os.trans h.os, h'.tape.trans h.tape, h'.output.trans h.output, Nat.le_trans h.size h'.size, fun k hk hne => (h'.block k (Nat.lt_of_lt_of_le hk h.size) hne).trans (h.block k hk hne)⟩
theorem Touched.alloc (w : World) (m : Nat) (o : Obj) : Touched w m (w.alloc o) := World.grownBy_alloc _ _ _
theorem Touched.cell {w w' : World} {m : Nat} (h : Touched w m w') {p : Addr} (hp : p.block < w.heap.size) (hne : p.block ≠ m) : w'.cell? p = w.cell? p :=
  World.cell?_of_block (h.block p.block hp (by simpa using hne))
theorem Touched.below {w w' : World} {m B : Nat} (h : Touched w m w') (hB : B ≤ w.heap.size) (hm : B ≤ m) : Below B w w' :=
  (Below.refl _ _).grown h hB fun k hk => by injection hk with hk; omega
theorem Touched.of_below {w w' : World} {m : Nat} (h : Below w.heap.size w w') : Touched w m w' := ⟨h.os, h.tape, h.output, h.size, fun k hk _ => h.block k hk⟩
theorem Touched.setNew {w w' : World} {m : Nat} (h : Touched w m w') {a : Addr} (ha : w.heap.size ≤ a.block) (u : Value) : Touched w m (w'.setCell a u) :=
  ⟨h.os, h.tape, h.output, by simp [World.setCell]; exact h.size, fun k hk hne => by rw [Below.heap_setCell _ _ _ _ (by omega)]; exact h.block k hk hne⟩

def Lv.nkids (l : LvB) (k : Nat) : Nat := ((l.kids.take k).map Lv.nodes).sum
theorem Lv.nkids_snoc (l : LvB) (k : Nat) (h : k < l.kids.length) : l.nkids (k + 1) = l.nkids k + (l.kids[k]).nodes := by
  unfold nkids; rw [List.take_succ_eq_append_getElem h, List.map_append, List.sum_append]; simp
theorem Lv.nkids_lt (l : LvB) (k : Nat) : l.nkids k < l.nodes := by
  cases l with
  | zero => simp [nkids, kids, nodes]
  | param => simp [nkids, kids, nodes]
  | succ a => simp only [nkids, kids, nodes]; rcases k with _ | k <;> simp
  | max a b => simp only [nkids, kids, nodes]; rcases k with _ | _ | k <;> simp <;> omega
  | imax a b => simp only [nkids, kids, nodes]; rcases k with _ | _ | k <;> simp <;> omega
theorem Lv.gkids_le (p : ByteArray) (l : LvB) (d : Bool) : ∀ k, k ≤ l.kids.length → Lv.gkids p l d k ≤ l.nkids k
  | 0, _ => by simp [gkids]
  | k + 1, h => by
    rw [Lv.gkids_succ p l d k (by omega), Lv.nkids_snoc l k (by omega)]
    have := Lv.gkids_le p l d k (by omega)
    have := Lv.gcount_le p (l.under d k) l.kids[k]
    omega

theorem Lv.kid_has {l : LvB} {k : Nat} (h : k < l.kids.length) {p : ByteArray} (hp : Lv.has p l.kids[k]) : Lv.has p l := by
  cases l with
  | zero => simp [kids] at h
  | param => simp [kids] at h
  | succ a => match k, h with | 0, _ => exact hp
  | max a b => match k, h with | 0, _ => exact .inl hp | 1, _ => exact .inr hp
  | imax a b => match k, h with | 0, _ => exact .inl hp | 1, _ => exact .inr hp

end Go.Proofs.YtdbpkbhglghdoaaDoor
