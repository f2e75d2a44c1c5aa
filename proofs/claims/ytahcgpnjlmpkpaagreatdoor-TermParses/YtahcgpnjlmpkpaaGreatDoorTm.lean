/- Terms, as mathematics; how a term lies in memory. No walk. -/
import Derived.Test.YtahcgpnjlmpkpaaGreatDoorInP
namespace Go.Proofs.YtahcgpnjlmpkpaaGreatDoor
open Go.RowKit

/-- A term: its kind, its number, its name, its levels, its parts. -/
inductive Tm where
  | node (kd n : Nat) (nm : ByteArray) (ls : List LvB) (ts : List Tm)

def Tm.kd : Tm → Nat | .node k _ _ _ _ => k
def Tm.n : Tm → Nat | .node _ n _ _ _ => n
def Tm.nm : Tm → ByteArray | .node _ _ m _ _ => m
def Tm.ls : Tm → List LvB | .node _ _ _ l _ => l
def Tm.ts : Tm → List Tm | .node _ _ _ _ t => t

/-- Five cells of a block are a term's value. -/
def Five (w : World) (b o : Nat) (x : Value) : Prop := ∃ (k n : Int) (nm : ByteArray) (A : Option Addr) (m c : Nat) (A' : Option Addr) (m' c' : Nat), x = .agg #[.int .i64 k, .int .i64 n, .string nm, .slice A m c, .slice A' m' c'] ∧
  w.cell? ⟨b, o, none⟩ = some (.int .i64 k) ∧ w.cell? ⟨b, o + 1, none⟩ = some (.int .i64 n) ∧ w.cell? ⟨b, o + 2, none⟩ = some (.string nm) ∧ w.cell? ⟨b, o + 3, none⟩ = some (.slice A m c) ∧ w.cell? ⟨b, o + 4, none⟩ = some (.slice A' m' c')

theorem Five.lt {w : World} {b o : Nat} {x : Value} (h : Five w b o x) : b < w.heap.size := by
  obtain ⟨_, _, _, _, _, _, _, _, _, _, h0, _⟩ := h
  exact World.block_lt_of_cell? _ _ h0
theorem Five.of_block {w w' : World} {b o : Nat} {x : Value} (h : Five w b o x) (he : w'.heap[b]? = w.heap[b]?) : Five w' b o x := by
  obtain ⟨k, n, nm, A, m, c, A', m', c', e, h0, h1, h2, h3, h4⟩ := h
  exact ⟨k, n, nm, A, m, c, A', m', c', e, (World.cell?_of_block he).trans h0, (World.cell?_of_block he).trans h1, (World.cell?_of_block he).trans h2, (World.cell?_of_block he).trans h3, (World.cell?_of_block he).trans h4⟩

/-- A list of levels lies there. -/
def LvsIn (w : World) (S : Nat → Prop) (A : Option Addr) (ls : List LvB) : Prop := ∀ i (hi : i < ls.length), ∃ b x, A = some ⟨b, 0, none⟩ ∧ S b ∧ Three w b (i * 3) x ∧ InP w S ls[i] x

/-- The value is that term, of at most that depth, all its parts in blocks of that kind. -/
def InTm (w : World) (S : Nat → Prop) : Nat → Tm → Value → Prop
  | 0, _, _ => False
  | d + 1, t, v => ∃ (A : Option Addr) (c : Nat) (A' : Option Addr) (c' : Nat), v = .agg #[.int .i64 (t.kd : Nat), .int .i64 (t.n : Nat), .string t.nm, .slice A t.ls.length c, .slice A' t.ts.length c'] ∧
      LvsIn w S A t.ls ∧ ∀ i (hi : i < t.ts.length), ∃ b x, A' = some ⟨b, 0, none⟩ ∧ S b ∧ Five w b (i * 5) x ∧ InTm w S d t.ts[i] x

theorem LvsIn.keep {w w' : World} {S S' : Nat → Prop} (h : ∀ b, b < w.heap.size → S b → S' b ∧ w'.heap[b]? = w.heap[b]?) {A : Option Addr} {ls : List LvB} (hl : LvsIn w S A ls) : LvsIn w' S' A ls := by
  intro i hi
  obtain ⟨b, x, e, hb, h3, hp⟩ := hl i hi
  exact ⟨b, x, e, (h b h3.lt hb).1, h3.of_block (h b h3.lt hb).2, hp.keep h⟩

theorem InTm.keep {w w' : World} {S S' : Nat → Prop} (h : ∀ b, b < w.heap.size → S b → S' b ∧ w'.heap[b]? = w.heap[b]?) : ∀ {d : Nat} {t : Tm} {v : Value}, InTm w S d t v → InTm w' S' d t v
  | 0, _, _, ht => ht
  | d + 1, t, _, ⟨A, c, A', c', e, hl, ht⟩ => ⟨A, c, A', c', e, hl.keep h, fun i hi => by
      obtain ⟨b, x, e, hb, h5, hp⟩ := ht i hi
      exact ⟨b, x, e, (h b h5.lt hb).1, h5.of_block (h b h5.lt hb).2, InTm.keep h hp⟩⟩

theorem InTm.deeper {w : World} {S : Nat → Prop} : ∀ {d e : Nat} {t : Tm} {v : Value}, InTm w S d t v → d ≤ e → InTm w S e t v
  | 0, _, _, _, ht, _ => absurd ht (by simp [InTm])
  | d + 1, 0, _, _, _, h => absurd h (by omega)
  | d + 1, e + 1, t, _, ⟨A, c, A', c', ev, hl, ht⟩, h => ⟨A, c, A', c', ev, hl, fun i hi => by
      obtain ⟨b, x, e', hb, h5, hp⟩ := ht i hi
      exact ⟨b, x, e', hb, h5, InTm.deeper hp (by omega)⟩⟩

theorem InTm.form {w : World} {S : Nat → Prop} {d : Nat} {t : Tm} {v : Value} (h : InTm w S d t v) : ∃ (k n : Int) (nm : ByteArray) (A : Option Addr) (m c : Nat) (A' : Option Addr) (m' c' : Nat), v = .agg #[.int .i64 k, .int .i64 n, .string nm, .slice A m c, .slice A' m' c'] := by
  cases d with
  | zero => exact absurd h (by simp [InTm])
  | succ d => obtain ⟨A, c, A', c', e, _⟩ := h; exact ⟨_, _, _, A, _, c, A', _, c', e⟩

/-- The cells of a row whose values are each of z cells. -/
theorem flat_len {z : Nat} : ∀ (xs : List Value), (∀ i (h : i < xs.length), ∃ a : Array Value, xs[i] = .agg a ∧ a.size = z) → (flat xs).length = xs.length * z
  | [], _ => by simp [flat]
  | x :: xs, hf => by
    obtain ⟨a, e, hz⟩ := hf 0 (by simp)
    simp only [List.getElem_cons_zero] at e
    subst e
    have ih := flat_len xs fun i hi => by have := hf (i + 1) (by simp; omega); simpa using this
    simp only [flat, List.length_append, List.length_cons, Array.length_toList, ih, hz, Nat.add_mul]
    omega

theorem flat_get {z : Nat} : ∀ (xs : List Value) (j : Nat) (a : Array Value) (i : Nat), (∀ i (h : i < xs.length), ∃ a : Array Value, xs[i] = .agg a ∧ a.size = z) → xs[j]? = some (.agg a) → i < z → (flat xs)[j * z + i]? = a[i]?
  | [], j, a, i, _, h, _ => by simp at h
  | x :: xs, 0, a, i, hf, h, hi => by
    simp at h
    subst h
    obtain ⟨a', e, hz⟩ := hf 0 (by simp)
    simp at e
    subst e
    simp only [flat, Nat.zero_mul, Nat.zero_add]
    rw [List.getElem?_append_left (by simpa [hz] using hi)]
    simp
  | x :: xs, j + 1, a, i, hf, h, hi => by
    obtain ⟨a', e, hz⟩ := hf 0 (by simp)
    simp only [List.getElem_cons_zero] at e
    subst e
    have ih := flat_get xs j a i (fun i hi => by have := hf (i + 1) (by simp; omega); simpa using this) (by simpa using h) hi
    simp only [flat]
    have e1 : (j + 1) * z + i = z + (j * z + i) := by rw [Nat.add_mul]; omega
    rw [e1, List.getElem?_append_right (by simp [hz])]
    simpa [hz] using ih

/-- A row of parts, so many of them made: the row that is owned, what lies in it, whose own blocks are neither the row's nor below what counts. -/
structure TRow (W : World) (T d n0 : Nat) (ts : List Tm) (rv : Value) (xs : List Value) : Prop where
  own : W.ownsRow n0 T 5 rv xs.length (flat xs)
  nil : xs.length = 0 → rv = .slice none 0 0
  len : xs.length = ts.length
  parts : ∀ j (h : j < xs.length) (h' : j < ts.length), InTm W (fun b => n0 ≤ b ∧ rv.ownBlock ≠ some b) d ts[j] xs[j]

section
variable {W : World} {T d n0 : Nat} {ts : List Tm} {rv : Value} {xs : List Value}
theorem TRow.forms (h : TRow W T d n0 ts rv xs) : ∀ i (hi : i < xs.length), ∃ a : Array Value, xs[i] = .agg a ∧ a.size = 5 := fun i hi => by
  obtain ⟨k, n, nm, A, m, c, A', m', c', e⟩ := (h.parts i hi (by rw [← h.len]; exact hi)).form
  exact ⟨_, e, rfl⟩

theorem TRow.start (W : World) (T d n0 : Nat) : TRow W T d n0 [] (.slice none 0 0) [] :=
  ⟨World.ownsRow_nil _ _ _ _, fun _ => rfl, rfl, fun j h => absurd h (by simp)⟩

theorem TRow.deeper (h : TRow W T d n0 ts rv xs) {e : Nat} (he : d ≤ e) : TRow W T e n0 ts rv xs := ⟨h.own, h.nil, h.len, fun j hj hj' => (h.parts j hj hj').deeper he⟩

/-- The row's shape. -/
theorem TRow.shape (h : TRow W T d n0 ts rv xs) : ∃ A c, rv = .slice A ts.length c ∧ ∀ g, A = some g → g.block < W.heap.size ∧ n0 ≤ g.block := by
  rcases h.own.2 with ⟨e, hn⟩ | ⟨g, cap, cur, e, hb, _⟩
  · exact ⟨none, 0, by rw [e, ← h.len, hn], fun g hg => by cases hg⟩
  · refine ⟨some ⟨g, 0, none⟩, cap, by rw [e, h.len], fun g' hg => ?_⟩
    cases hg
    exact ⟨(h.own.lt g (by rw [e]; rfl)).2, hb⟩

/-- Its parts, out of the whole row. -/
theorem TRow.made (h : TRow W T d n0 ts rv xs) : ∃ A c, rv = .slice A ts.length c ∧ ∀ i (hi : i < ts.length), ∃ b x, A = some ⟨b, 0, none⟩ ∧ n0 ≤ b ∧ Five W b (i * 5) x ∧ InTm W (fun b => n0 ≤ b) d ts[i] x := by
  rcases h.own.2 with ⟨e, hn⟩ | ⟨g, cap, cur, e, hb, _⟩
  · exact ⟨none, 0, by rw [e, ← h.len, hn], fun i hi => absurd hi (by rw [← h.len, hn]; omega)⟩
  · refine ⟨some ⟨g, 0, none⟩, cap, by rw [e, h.len], fun i hi => ?_⟩
    have hix : i < xs.length := by rw [h.len]; exact hi
    obtain ⟨k, n, nm, A, m, c, A', m', c', ex⟩ := (h.parts i hix hi).form
    refine ⟨g, xs[i], rfl, hb, ⟨k, n, nm, A, m, c, A', m', c', ex, ?_, ?_, ?_, ?_, ?_⟩, (h.parts i hix hi).keep fun b _ hS => ⟨hS.1, rfl⟩⟩
    all_goals
      have hg := fun (q : Nat) (hq : q < 5) => flat_get xs i _ q h.forms (by rw [List.getElem?_eq_getElem hix, ex]) hq
      have ho := h.own
      rw [e] at ho
      have hc := ho.cells (g := g) rfl
    · have := hc _ _ (hg 0 (by omega)); rw [Addr.add_lit] at this; simpa using this
    · have := hc _ _ (hg 1 (by omega)); rw [Addr.add_lit] at this; simpa using this
    · have := hc _ _ (hg 2 (by omega)); rw [Addr.add_lit] at this; simpa using this
    · have := hc _ _ (hg 3 (by omega)); rw [Addr.add_lit] at this; simpa using this
    · have := hc _ _ (hg 4 (by omega)); rw [Addr.add_lit] at this; simpa using this
end

/-- One part more: a call that leaves the old alone has made it, its cells are laid in a box, the row is appended to, and a cell of block c (below the row's base) is set. -/
theorem TRow.next {W w5 w6 : World} {T d n0 c m q : Nat} {ts : List Tm} {t : Tm} {rv rv' : Value} {xs : List Value} {k n : Int} {nm : ByteArray} {A : Option Addr} {la lc : Nat} {A' : Option Addr} {ta tc : Nat} (h : TRow W T d n0 ts rv xs) (hc : c < n0) (hnm : n0 ≤ m) (hm' : ∀ g, rv.ownBlock = some g → g < m)
    (hz : W.heap.size ≤ w5.heap.size) (hw : ∀ b, b < W.heap.size → n0 ≤ b → w5.heap[b]? = W.heap[b]?) (hx : InTm w5 (fun b => m ≤ b) d t (.agg #[.int .i64 k, .int .i64 n, .string nm, .slice A la lc, .slice A' ta tc]))
    (hown : w6.ownsRow n0 T 5 rv' (xs.length + 1) (flat xs ++ [.int .i64 k, .int .i64 n, .string nm, .slice A la lc, .slice A' ta tc])) (hgr : (w5.alloc (.cells #[.int .i64 k, .int .i64 n, .string nm, .slice A la lc, .slice A' ta tc] T)).grownBy w6 rv.ownBlock)
    (hpl : rv'.ownBlock = rv.ownBlock ∨ rv'.ownBlock = some (w5.alloc (.cells #[.int .i64 k, .int .i64 n, .string nm, .slice A la lc, .slice A' ta tc] T)).heap.size) (u : Value) :
    TRow (w6.setCell ⟨c, q, none⟩ u) T d n0 (ts ++ [t]) rv' (xs ++ [.agg #[.int .i64 k, .int .i64 n, .string nm, .slice A la lc, .slice A' ta tc]]) := by
  have hblock : ∀ b, b < w5.heap.size → rv.ownBlock ≠ some b → b ≠ c → (w6.setCell ⟨c, q, none⟩ u).heap[b]? = w5.heap[b]? := fun b hb hne hbc => by
    rw [Below.heap_setCell _ _ _ _ hbc, hgr.block b (by simp; omega) (fun e => hne e.symm)]
    exact Below.heap_alloc _ _ _ hb
  have hne' : ∀ b, b < w5.heap.size → rv.ownBlock ≠ some b → rv'.ownBlock ≠ some b := fun b hb hne => by
    rcases hpl with e | e
    · rw [e]; exact hne
    · rw [e]; simp; omega
  refine ⟨?_, fun e => by simp at e, by simp [h.len], fun j hj hj' => ?_⟩
  · have : flat (xs ++ [Value.agg #[.int .i64 k, .int .i64 n, .string nm, .slice A la lc, .slice A' ta tc]]) = flat xs ++ [.int .i64 k, .int .i64 n, .string nm, .slice A la lc, .slice A' ta tc] := by rw [flat_append]; simp [flat]
    rw [this, List.length_append, List.length_singleton]
    exact ownsRow_setCell_below hown (a := ⟨c, q, none⟩) hc _
  · by_cases hjx : j < xs.length
    · have hjk : j < ts.length := by rw [← h.len]; exact hjx
      rw [List.getElem_append_left hjx, List.getElem_append_left hjk]
      refine (h.parts j hjx hjk).keep fun b hb hS => ⟨⟨hS.1, hne' b (by omega) hS.2⟩, ?_⟩
      rw [hblock b (by omega) hS.2 (by have := hS.1; omega)]
      exact hw b hb hS.1
    · have e : j = xs.length := by simp at hj; omega
      subst e
      have hjk : ¬ xs.length < ts.length := by rw [h.len]; omega
      have e2 : (ts ++ [t])[xs.length] = t := by rw [List.getElem_append_right (by omega)]; simp
      rw [e2, List.getElem_append_right (Nat.le_refl _)]
      simp only [Nat.sub_self, List.getElem_cons_zero]
      refine hx.keep fun b hb hS => ?_
      have hne : rv.ownBlock ≠ some b := fun e => by
        have h1 := hm' b e
        omega
      refine ⟨⟨by omega, hne' b hb hne⟩, hblock b hb hne (by omega)⟩

/-- The variable of a term that is being built. -/
def TVar (T : Nat) (w : World) (c : Nat) (k n : Int) (nm : ByteArray) (v v' : Value) : Prop := w.heap[c]? = some (.cells #[.int .i64 k, .int .i64 n, .string nm, v, v'] T (0, 0))
section
variable {T : Nat} {w w' : World} {c : Nat} {k n : Int} {nm : ByteArray} {v v' : Value}
theorem TVar.lt (h : TVar T w c k n nm v v') : c < w.heap.size := (Array.getElem?_eq_some_iff.1 h).1
theorem TVar.c0 (h : TVar T w c k n nm v v') : w.cell? ⟨c, 0, none⟩ = some (.int .i64 k) := by unfold TVar at h; simp [World.cell?, h]
theorem TVar.c1 (h : TVar T w c k n nm v v') : w.cell? ⟨c, 1, none⟩ = some (.int .i64 n) := by unfold TVar at h; simp [World.cell?, h]
theorem TVar.c2 (h : TVar T w c k n nm v v') : w.cell? ⟨c, 2, none⟩ = some (.string nm) := by unfold TVar at h; simp [World.cell?, h]
theorem TVar.c3 (h : TVar T w c k n nm v v') : w.cell? ⟨c, 3, none⟩ = some v := by unfold TVar at h; simp [World.cell?, h]
theorem TVar.c4 (h : TVar T w c k n nm v v') : w.cell? ⟨c, 4, none⟩ = some v' := by unfold TVar at h; simp [World.cell?, h]
theorem TVar.f (h : TVar T w c k n nm v v') (i : Nat) : w.frozen? ⟨c, i, none⟩ = false := by unfold TVar at h; simp [World.frozen?, h]
theorem TVar.setName (h : TVar T w c k n nm v v') (m : ByteArray) : TVar T (w.setCell ⟨c, 2, none⟩ (.string m)) c k n m v v' := by unfold TVar at *; simp [World.setCell, Array.getElem?_modify, h]
theorem TVar.setL (h : TVar T w c k n nm v v') (u : Value) : TVar T (w.setCell ⟨c, 3, none⟩ u) c k n nm u v' := by unfold TVar at *; simp [World.setCell, Array.getElem?_modify, h]
theorem TVar.setA (h : TVar T w c k n nm v v') (u : Value) : TVar T (w.setCell ⟨c, 4, none⟩ u) c k n nm v u := by unfold TVar at *; simp [World.setCell, Array.getElem?_modify, h]
theorem TVar.of_block (h : TVar T w c k n nm v v') (he : w'.heap[c]? = w.heap[c]?) : TVar T w' c k n nm v v' := by unfold TVar at *; rw [he]; exact h
theorem TVar.alloc (h : TVar T w c k n nm v v') (o : Obj) : TVar T (w.alloc o) c k n nm v v' := h.of_block (Below.heap_alloc _ _ _ h.lt)
end

theorem five_new (w : World) (a b c d e : Value) (t : TypeId) : ∀ j u, [a, b, c, d, e][j]? = some u → (w.alloc (.cells #[a, b, c, d, e] t)).cell? ((⟨w.heap.size, 0, none⟩ : Addr).add j) = some u := by
  intro j u hj
  match j, hj with
  | 0, hj => simp at hj; subst hj; simp [Addr.add]
  | 1, hj => simp at hj; subst hj; simp [Addr.add]
  | 2, hj => simp at hj; subst hj; simp [Addr.add]
  | 3, hj => simp at hj; subst hj; simp [Addr.add]
  | 4, hj => simp at hj; subst hj; simp [Addr.add]

/-- A list of levels out of a whole row of them. -/
theorem Row.list {W : World} {n0 : Nat} {ls : List LvB} {rv : Value} {xs : List Value} (h : Row W 0 n0 ls rv xs) : ∃ A c, rv = .slice A ls.length c ∧ LvsIn W (fun b => n0 ≤ b) A ls := by
  rcases h.own.2 with ⟨e, hn⟩ | ⟨g, cap, cur, e, hb, _⟩
  · exact ⟨none, 0, by rw [e, ← h.len, hn], fun i hi => absurd hi (by rw [← h.len, hn]; omega)⟩
  · refine ⟨some ⟨g, 0, none⟩, cap, by rw [e, h.len], fun i hi => ?_⟩
    have hix : i < xs.length := by rw [h.len]; exact hi
    obtain ⟨k, nm, A, n, cap', e'⟩ := h.forms i hix
    obtain ⟨h0, h1, h2⟩ := flat_at xs i k nm A n cap' h.forms (by rw [List.getElem?_eq_getElem hix, e'])
    have ho := h.own
    rw [e] at ho
    refine ⟨g, xs[i], rfl, hb, ?_, (h.parts i hix hi).keep fun b _ hS => ⟨hS.1.elim (fun h => absurd h (by omega)) id, rfl⟩⟩
    rw [e']
    exact row_three ho h0 h1 h2

end Go.Proofs.YtahcgpnjlmpkpaaGreatDoor
