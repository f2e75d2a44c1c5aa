/- A map from names to numbers that the call itself makes: what it holds at each name, and the walk's laws for a look-up and a store. -/
import Derived.Test.YtpdoegjddiaaoaaDoorTools
import Derived.Maps.Own
import Derived.Maps.OwnOps
import Derived.Maps.OwnSet
namespace Go.Proofs.YtpdoegjddiaaoaaDoor
open Go.RowKit Go.Maps

def key (p : ByteArray) : Lit := .string p.data.toList
theorem key_inj {p q : ByteArray} (h : p ≠ q) : key p ≠ key q := fun e => h (WideShapes.bytes_inj (by injection e))

theorem law : Keyed Tryd.prog 9 := string_keyed Tryd.underlying9
theorem zero3 (w : World) : (zeroValue 3).run Tryd.prog w = .ok (.int .i64 0) w := by kernel_rfl
theorem key_of {p : ByteArray} (h : p.size ≤ maxLen) : keyOf Tryd.prog 9 (.string p) = some (key p) := WideMaps.keyOf_string_mk Tryd.underlying9 h

/-- Block b is a map, of at most n entries, that holds f p at p (0 where there is none); S p: is there an entry at p? -/
def MapIs (w : World) (b n : Nat) (f : ByteArray → Nat) (S : ByteArray → Bool) : Prop :=
  ∃ D : DataW Unit, w.ownsMap Tryd.prog 9 (plainElem Tryd.prog 3) b n D ∧ ∀ p : ByteArray, p.size ≤ maxLen → D.atKey (key p) (.lit (.int .i64 0)) = .lit (.int .i64 (f p : Nat)) ∧ has D (key p) = S p

theorem MapIs.made (w : World) : MapIs (w.alloc (.map #[] 0)) w.heap.size 0 (fun _ => 0) (fun _ => false) :=
  ⟨.map [], World.ownsMap_made _ _ _ _, fun _ _ => ⟨rfl, rfl⟩⟩

theorem MapIs.kept {w w' : World} {row : Option Nat} {b n : Nat} {f : ByteArray → Nat} {S : ByteArray → Bool} (h : MapIs w b n f S) (hg : w.grownBy w' row) (hne : some b ≠ row) : MapIs w' b n f S := by
  obtain ⟨D, ho, hf⟩ := h
  exact ⟨D, ho.kept hg hne, hf⟩

theorem MapIs.lt {w : World} {b n : Nat} {f : ByteArray → Nat} {S : ByteArray → Bool} (h : MapIs w b n f S) : b < w.heap.size := by
  obtain ⟨D, ho, _⟩ := h
  exact ho.lt

theorem MapIs.mono {w : World} {b n n' : Nat} {f : ByteArray → Nat} {S : ByteArray → Bool} (h : MapIs w b n f S) (hn : n ≤ n') : MapIs w b n' f S := by
  obtain ⟨D, ho, hf⟩ := h
  exact ⟨D, ho.mono hn, hf⟩

theorem MapIs.congr {w : World} {b n : Nat} {f f' : ByteArray → Nat} {S S' : ByteArray → Bool} (h : MapIs w b n f S) (hf : ∀ p, f p = f' p) (hS : ∀ p, S p = S' p) : MapIs w b n f' S' := by
  have e1 : f = f' := funext hf
  have e2 : S = S' := funext hS
  rw [← e1, ← e2]
  exact h

theorem MapIs.below {w w' : World} {b n B : Nat} {f : ByteArray → Nat} {S : ByteArray → Bool} (h : MapIs w b n f S) (hb : Below B w w') (hB : b < B) : MapIs w' b n f S := by
  obtain ⟨D, ⟨es, clock, he, r⟩, hf⟩ := h
  exact ⟨D, ⟨es, clock, by rw [hb.block b hB]; exact he, r⟩, hf⟩

theorem MapIs.alloc {w : World} {b n : Nat} {f : ByteArray → Nat} {S : ByteArray → Bool} (h : MapIs w b n f S) (o : Obj) : MapIs (w.alloc o) b n f S := by
  obtain ⟨D, ho, hf⟩ := h
  exact ⟨D, ho.alloc o, hf⟩

theorem MapIs.drew {w : World} {b n : Nat} {f : ByteArray → Nat} {S : ByteArray → Bool} (h : MapIs w b n f S) : MapIs w.drew b n f S := by
  obtain ⟨D, ho, hf⟩ := h
  exact ⟨D, ho.drew, hf⟩

theorem MapIs.setCell {w : World} {b n : Nat} {f : ByteArray → Nat} {S : ByteArray → Bool} (h : MapIs w b n f S) {a : Addr} (ha : b ≠ a.block) (u : Value) : MapIs (w.setCell a u) b n f S := by
  obtain ⟨D, ho, hf⟩ := h
  exact ⟨D, ho.setCell ha u, hf⟩

section
variable {w : World} {ops : Array Oper} {rest : List Oper} {o : Oper} {a : Act} {Q : Exit → Act → World → Prop}

/-- 'm[p]': behind 'at_lookup'. -/
theorem wpList_look (hg : o.guard = none) (m x : Operand) (hop : o.op = Op.lookup 71 m x false) {b n : Nat} {f : ByteArray → Nat} {S : ByteArray → Bool} (hm : a.eval m = .map (some b)) (h : MapIs w b n f S)
    (p : ByteArray) (hx : a.eval x = .string p) (hp : p.size ≤ maxLen) (hK : wpList Tryd.prog ops Q rest (a.put o.dst (.int .i64 (f p : Nat))) w) : wpList Tryd.prog ops Q (o :: rest) a w := by
  obtain ⟨D, ho, hf⟩ := h
  refine wpList_lookup_own_int w hg m x 71 hop 9 3 .i64 law Tryd.underlying71 Tryd.underlying3 (zero3 _) b n D hm ho _ _ hx (key_of hp) ?_
  intro c hc _
  rw [(hf p hp).1] at hc
  injection hc with hc
  injection hc with _ hc
  rw [← hc]
  exact hK

/-- 'v, ok := m[p]'. -/
theorem wpList_lookOk (hg : o.guard = none) (m x : Operand) (hop : o.op = Op.lookup 71 m x true) {b n : Nat} {f : ByteArray → Nat} {S : ByteArray → Bool} (hm : a.eval m = .map (some b)) (h : MapIs w b n f S)
    (p : ByteArray) (hx : a.eval x = .string p) (hp : p.size ≤ maxLen) (hK : wpList Tryd.prog ops Q rest (a.put o.dst (.tuple #[.int .i64 (f p : Nat), .bool (S p)])) w) : wpList Tryd.prog ops Q (o :: rest) a w := by
  obtain ⟨D, ho, hf⟩ := h
  refine wpList_lookup_own_ok_int w hg m x 71 hop 9 3 .i64 law Tryd.underlying71 Tryd.underlying3 (zero3 _) b n D hm ho _ _ hx (key_of hp) ?_
  intro c hc _
  rw [(hf p hp).1] at hc
  injection hc with hc
  injection hc with _ hc
  rw [← hc, (hf p hp).2]
  exact hK

/-- 'm[p] = c': behind 'at_mapUpdate'. -/
theorem wpList_put (hg : o.guard = none) (m x v : Operand) (hop : o.op = Op.mapUpdate 71 m x v) {b n : Nat} {f : ByteArray → Nat} {S : ByteArray → Bool} (hm : a.eval m = .map (some b)) (h : MapIs w b n f S) (hn : n < maxLen)
    (p : ByteArray) (c : Nat) (hx : a.eval x = .string p) (hp : p.size ≤ maxLen) (hv : a.eval v = .int .i64 (c : Nat)) (hc : c ≤ 4000000000)
    (hK : ∀ w', MapIs w' b (n + 1) (fun q => if q = p then c else f q) (fun q => if q = p then true else S q) → w.grownBy w' (some b) → wpList Tryd.prog ops Q rest (a.put o.dst undef) w') : wpList Tryd.prog ops Q (o :: rest) a w := by
  obtain ⟨D, ho, hf⟩ := h
  refine wpList_mapUpdate_own w hg m x v 71 hop 9 3 law Tryd.underlying71 _ b n D hm ho hn _ _ _ hx hv (key_of hp) (.lit (.int .i64 (c : Nat))) [] (plainElem_int Tryd.underlying3 (WalkArith.wf_i64 (n := (c : Int)) (by omega))) ?_
  intro w' ho' hgr
  refine hK w' ⟨_, ho', fun q hq => ?_⟩ hgr
  by_cases e : q = p
  · subst e
    simp only [if_true]
    exact ⟨atKey_put_same ho.isMap (law.key (key_of hp)) _ _, has_put_same ho.isMap (law.key (key_of hp)) _⟩
  · simp only [if_neg e]
    rw [atKey_put_other (key_inj e), has_put_other (key_inj e)]
    exact hf q hq
end

end Go.Proofs.YtpdoegjddiaaoaaDoor
