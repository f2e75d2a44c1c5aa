/- What a call changes: one block alone, and new ones. -/
import Derived.Test.YtmpepnckfghepaaDoorTools
namespace Go.Proofs.YtmpepnckfghepaaDoor
open Go.RowKit

/-- What the walk changes: the map alone, and new blocks. -/
def Touched (w : World) (m : Nat) (w' : World) : Prop := w.grownBy w' (some m)

theorem Touched.refl (w : World) (m : Nat) : Touched w m w := World.grownBy.refl _ _
theorem Touched.trans {w w' w'' : World} {m : Nat} (h : Touched w m w') (h' : Touched w' m w'') : Touched w m w'' :=
  ⟨h'.os.trans h.os, h'.tape.trans h.tape, h'.output.trans h.output, Nat.le_trans h.size h'.size, fun k hk hne => (h'.block k (Nat.lt_of_lt_of_le hk h.size) hne).trans (h.block k hk hne)⟩
theorem Touched.alloc (w : World) (m : Nat) (o : Obj) : Touched w m (w.alloc o) := World.grownBy_alloc _ _ _
theorem Touched.cell {w w' : World} {m : Nat} (h : Touched w m w') {p : Addr} (hp : p.block < w.heap.size) (hne : p.block ≠ m) : w'.cell? p = w.cell? p :=
  World.cell?_of_block (h.block p.block hp (by simpa using hne))
theorem Touched.below {w w' : World} {m B : Nat} (h : Touched w m w') (hB : B ≤ w.heap.size) (hm : B ≤ m) : Below B w w' :=
  (Below.refl _ _).grown h hB fun k hk => by injection hk with hk; omega
theorem Touched.of_below {w w' : World} {m : Nat} (h : Below w.heap.size w w') : Touched w m w' := ⟨h.os, h.tape, h.output, h.size, fun k hk _ => h.block k hk⟩
theorem Touched.setNew {w w' : World} {m : Nat} (h : Touched w m w') {a : Addr} (ha : w.heap.size ≤ a.block) (u : Value) : Touched w m (w'.setCell a u) :=
  ⟨h.os, h.tape, h.output, by simp [World.setCell]; exact h.size, fun k hk hne => by rw [Below.heap_setCell _ _ _ _ (by omega)]; exact h.block k hk hne⟩

end Go.Proofs.YtmpepnckfghepaaDoor
