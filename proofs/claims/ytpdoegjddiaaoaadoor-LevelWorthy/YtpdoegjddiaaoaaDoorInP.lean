/- Memory of a level that is being made: which blocks its parts lie in; a row of parts that grows. No walk. -/
import Derived.Test.YtpdoegjddiaaoaaDoorLevelMem
namespace Go.Proofs.YtpdoegjddiaaoaaDoor
open Go.RowKit

/-- The value is that level, all its parts in blocks of that kind. -/
def InP (w : World) (S : Nat → Prop) : LvB → Value → Prop
  | .zero, v => v = .agg #[.int .i64 0, .string ⟨#[]⟩, .slice none 0 0]
  | .param p, v => v = .agg #[.int .i64 4, .string p, .slice none 0 0]
  | .succ a, v => ∃ b cap x, v = .agg #[.int .i64 1, .string ⟨#[]⟩, .slice (some ⟨b, 0, none⟩) 1 cap] ∧ S b ∧ Three w b 0 x ∧ InP w S a x
  | .max a c, v => ∃ b cap x y, v = .agg #[.int .i64 2, .string ⟨#[]⟩, .slice (some ⟨b, 0, none⟩) 2 cap] ∧ S b ∧ Three w b 0 x ∧ Three w b 3 y ∧ InP w S a x ∧ InP w S c y
  | .imax a c, v => ∃ b cap x y, v = .agg #[.int .i64 3, .string ⟨#[]⟩, .slice (some ⟨b, 0, none⟩) 2 cap] ∧ S b ∧ Three w b 0 x ∧ Three w b 3 y ∧ InP w S a x ∧ InP w S c y

theorem InLv.inP {w : World} {B : Nat} : ∀ {l : LvB} {v : Value}, InLv w B l v → InP w (fun b => b < B) l v
  | .zero, _, hl => hl
  | .param _, _, hl => hl
  | .succ a, _, ⟨b, cap, x, e, hb, h3, ha⟩ => ⟨b, cap, x, e, hb, h3, InLv.inP (l := a) ha⟩
  | .max a c, _, ⟨b, cap, x, y, e, hb, h3, h4, ha, hc⟩ => ⟨b, cap, x, y, e, hb, h3, h4, InLv.inP (l := a) ha, InLv.inP (l := c) hc⟩
  | .imax a c, _, ⟨b, cap, x, y, e, hb, h3, h4, ha, hc⟩ => ⟨b, cap, x, y, e, hb, h3, h4, InLv.inP (l := a) ha, InLv.inP (l := c) hc⟩

theorem InP.inLv {w : World} {S : Nat → Prop} : ∀ {l : LvB} {v : Value}, InP w S l v → InLv w w.heap.size l v
  | .zero, _, hl => hl
  | .param _, _, hl => hl
  | .succ a, _, ⟨b, cap, x, e, _, h3, ha⟩ => ⟨b, cap, x, e, h3.lt, h3, InP.inLv (l := a) ha⟩
  | .max a c, _, ⟨b, cap, x, y, e, _, h3, h4, ha, hc⟩ => ⟨b, cap, x, y, e, h3.lt, h3, h4, InP.inLv (l := a) ha, InP.inLv (l := c) hc⟩
  | .imax a c, _, ⟨b, cap, x, y, e, _, h3, h4, ha, hc⟩ => ⟨b, cap, x, y, e, h3.lt, h3, h4, InP.inLv (l := a) ha, InP.inLv (l := c) hc⟩

/-- In another world, in which the blocks that count stand as they stood. -/
theorem InP.keep {w w' : World} {S S' : Nat → Prop} (h : ∀ b, b < w.heap.size → S b → S' b ∧ w'.heap[b]? = w.heap[b]?) : ∀ {l : LvB} {v : Value}, InP w S l v → InP w' S' l v
  | .zero, _, hl => hl
  | .param _, _, hl => hl
  | .succ a, _, ⟨b, cap, x, e, hb, h3, ha⟩ => ⟨b, cap, x, e, (h b h3.lt hb).1, h3.of_block (h b h3.lt hb).2, InP.keep h (l := a) ha⟩
  | .max a c, _, ⟨b, cap, x, y, e, hb, h3, h4, ha, hc⟩ => ⟨b, cap, x, y, e, (h b h3.lt hb).1, h3.of_block (h b h3.lt hb).2, h4.of_block (h b h3.lt hb).2, InP.keep h (l := a) ha, InP.keep h (l := c) hc⟩
  | .imax a c, _, ⟨b, cap, x, y, e, hb, h3, h4, ha, hc⟩ => ⟨b, cap, x, y, e, (h b h3.lt hb).1, h3.of_block (h b h3.lt hb).2, h4.of_block (h b h3.lt hb).2, InP.keep h (l := a) ha, InP.keep h (l := c) hc⟩

theorem InP.form {w : World} {S : Nat → Prop} {l : LvB} {v : Value} (h : InP w S l v) : ∃ (k : Int) (nm : ByteArray) (A : Option Addr) (n cap : Nat), v = .agg #[.int .i64 k, .string nm, .slice A n cap] := by
  obtain ⟨A, cap, e⟩ := h.inLv.form
  exact ⟨_, _, A, _, cap, e⟩

/-- Levels in the place of parameters. -/
def Lv.bind (σ : ByteArray → LvB) : LvB → LvB
  | .zero => .zero
  | .succ a => .succ (Lv.bind σ a)
  | .max a b => .max (Lv.bind σ a) (Lv.bind σ b)
  | .imax a b => .imax (Lv.bind σ a) (Lv.bind σ b)
  | .param p => σ p

theorem Lv.bind_kids (σ : ByteArray → LvB) (l : LvB) (h : l.kind ≠ 4) : (l.bind σ).kids = l.kids.map (Lv.bind σ) ∧ (l.bind σ).kind = l.kind ∧ (l.bind σ).nm = ⟨#[]⟩ ∧ l.nm = ⟨#[]⟩ := by
  cases l <;> simp [kind] at h <;> simp [bind, kids, kind, nm]

/-- A level put in for each parameter of a level, itself. -/
theorem Lv.bind_param : ∀ l : LvB, l.bind .param = l
  | .zero => rfl
  | .param _ => rfl
  | .succ a => by simp [bind, Lv.bind_param a]
  | .max a b => by simp [bind, Lv.bind_param a, Lv.bind_param b]
  | .imax a b => by simp [bind, Lv.bind_param a, Lv.bind_param b]

/-- The cells of a row of levels. -/
def flat : List Value → List Value
  | [] => []
  | .agg a :: xs => a.toList ++ flat xs
  | _ :: xs => flat xs

theorem flat_append (xs ys : List Value) : flat (xs ++ ys) = flat xs ++ flat ys := by
  induction xs with
  | nil => rfl
  | cons x xs ih => cases x <;> simp [flat, ih]

theorem flat_at : ∀ (xs : List Value) (j : Nat) (k : Int) (nm : ByteArray) (A : Option Addr) (n cap : Nat), (∀ i (h : i < xs.length), ∃ (k : Int) (nm : ByteArray) (A : Option Addr) (n cap : Nat), xs[i] = .agg #[.int .i64 k, .string nm, .slice A n cap]) → xs[j]? = some (.agg #[.int .i64 k, .string nm, .slice A n cap]) →
    (flat xs)[j * 3]? = some (.int .i64 k) ∧ (flat xs)[j * 3 + 1]? = some (.string nm) ∧ (flat xs)[j * 3 + 2]? = some (.slice A n cap)
  | [], j, k, nm, A, n, cap, _, h => by simp at h
  | x :: xs, 0, k, nm, A, n, cap, _, h => by
    simp at h
    subst h
    simp [flat]
  | x :: xs, j + 1, k, nm, A, n, cap, hf, h => by
    obtain ⟨k', nm', A', n', cap', e⟩ := hf 0 (by simp)
    simp only [List.getElem_cons_zero] at e
    subst e
    have ih := flat_at xs j k nm A n cap (fun i hi => by have := hf (i + 1) (by simp; omega); simpa using this) (by simpa using h)
    have e1 : (j + 1) * 3 = 3 + j * 3 := by omega
    rw [e1]
    simp only [flat]
    refine ⟨?_, ?_, ?_⟩
    · rw [List.getElem?_append_right (by simp)]; simpa using ih.1
    · rw [List.getElem?_append_right (by simp; omega)]; have e2 : 3 + j * 3 + 1 - [Value.int .i64 k', .string nm', .slice A' n' cap'].length = j * 3 + 1 := by simp; omega
      simp only [e2]; exact ih.2.1
    · rw [List.getElem?_append_right (by simp; omega)]; have e2 : 3 + j * 3 + 2 - [Value.int .i64 k', .string nm', .slice A' n' cap'].length = j * 3 + 2 := by simp; omega
      simp only [e2]; exact ih.2.2

/-- A row of parts, k of them made: the row that is owned, the levels in it, whose own blocks are neither the row's nor below what counts. -/
structure Row (W : World) (B n0 : Nat) (ks : List LvB) (rv : Value) (xs : List Value) : Prop where
  own : W.ownsRow n0 28 3 rv xs.length (flat xs)
  nil : xs.length = 0 → rv = .slice none 0 0
  len : xs.length = ks.length
  parts : ∀ j (h : j < xs.length) (h' : j < ks.length), InP W (fun b => (b < B ∨ n0 ≤ b) ∧ rv.ownBlock ≠ some b) ks[j] xs[j]

theorem Row.forms {W : World} {B n0 : Nat} {ks : List LvB} {rv : Value} {xs : List Value} (h : Row W B n0 ks rv xs) : ∀ i (hi : i < xs.length), ∃ (k : Int) (nm : ByteArray) (A : Option Addr) (n cap : Nat), xs[i] = .agg #[.int .i64 k, .string nm, .slice A n cap] :=
  fun i hi => (h.parts i hi (by rw [← h.len]; exact hi)).form

theorem Row.start (W : World) (B n0 : Nat) : Row W B n0 [] (.slice none 0 0) [] :=
  ⟨World.ownsRow_nil _ _ _ _, fun _ => rfl, rfl, fun j h => absurd h (by simp)⟩

/-- A level's value out of a whole row. -/
theorem Row.made {W : World} {B n0 : Nat} {l : LvB} {rv : Value} {xs : List Value} (h : Row W B n0 l.kids rv xs) (hl : l.kind ≠ 4) : InP W (fun b => b < B ∨ n0 ≤ b) l (.agg #[.int .i64 l.kind, .string ⟨#[]⟩, rv]) := by
  have hthree : ∀ j (hj : j < xs.length) g cap, rv = .slice (some ⟨g, 0, none⟩) xs.length cap → Three W g (j * 3) xs[j] := fun j hj g cap e => by
    obtain ⟨k, nm, A, n, cap', e'⟩ := h.forms j hj
    obtain ⟨h0, h1, h2⟩ := flat_at xs j k nm A n cap' h.forms (by rw [List.getElem?_eq_getElem hj, e'])
    have ho := h.own
    rw [e] at ho
    rw [e']
    exact row_three ho h0 h1 h2
  have hp : ∀ j (hj : j < xs.length) (hj' : j < l.kids.length), InP W (fun b => b < B ∨ n0 ≤ b) l.kids[j] xs[j] := fun j hj hj' => (h.parts j hj hj').keep fun b _ hb => ⟨hb.1, rfl⟩
  have hlen := h.len
  cases l with
  | param p => exact absurd rfl hl
  | zero => rw [h.nil (by simpa [Lv.kids] using hlen)]; exact rfl
  | succ a =>
    have e : xs.length = 1 := by simpa [Lv.kids] using hlen
    obtain ⟨g, cap, er, hg⟩ := shape_row h.own (by omega)
    rw [e] at er
    refine ⟨g, cap, xs[0], by rw [er]; rfl, .inr hg, ?_, hp 0 (by omega) (by simp [Lv.kids])⟩
    exact hthree 0 (by omega) g cap (by rw [er, e])
  | max a c =>
    have e : xs.length = 2 := by simpa [Lv.kids] using hlen
    obtain ⟨g, cap, er, hg⟩ := shape_row h.own (by omega)
    rw [e] at er
    refine ⟨g, cap, xs[0], xs[1], by rw [er]; rfl, .inr hg, ?_, ?_, hp 0 (by omega) (by simp [Lv.kids]), hp 1 (by omega) (by simp [Lv.kids])⟩
    · exact hthree 0 (by omega) g cap (by rw [er, e])
    · exact hthree 1 (by omega) g cap (by rw [er, e])
  | imax a c =>
    have e : xs.length = 2 := by simpa [Lv.kids] using hlen
    obtain ⟨g, cap, er, hg⟩ := shape_row h.own (by omega)
    rw [e] at er
    refine ⟨g, cap, xs[0], xs[1], by rw [er]; rfl, .inr hg, ?_, ?_, hp 0 (by omega) (by simp [Lv.kids]), hp 1 (by omega) (by simp [Lv.kids])⟩
    · exact hthree 0 (by omega) g cap (by rw [er, e])
    · exact hthree 1 (by omega) g cap (by rw [er, e])

/-- One part more: a call that leaves the old alone has made it, its cells are laid in a box, the row is appended to, and cell 2 of block c (below the row's base) is set. -/
theorem Row.next {W w5 w6 : World} {B n0 c n m : Nat} {ks : List LvB} {l : LvB} {rv rv' : Value} {xs : List Value} {k : Int} {nm : ByteArray} {A : Option Addr} {cap : Nat} (h : Row W B n0 ks rv xs) (hB : B ≤ c) (hc : c < n0) (hnm : n0 ≤ m) (hm' : ∀ g, rv.ownBlock = some g → g < m)
    (hz : W.heap.size ≤ w5.heap.size) (hw : ∀ b, b < W.heap.size → b < B ∨ n0 ≤ b → w5.heap[b]? = W.heap[b]?) (hx : InP w5 (fun b => b < B ∨ m ≤ b) l (.agg #[.int .i64 k, .string nm, .slice A n cap]))
    (hown : w6.ownsRow n0 28 3 rv' (xs.length + 1) (flat xs ++ [.int .i64 k, .string nm, .slice A n cap])) (hgr : (w5.alloc (.cells #[.int .i64 k, .string nm, .slice A n cap] 28)).grownBy w6 rv.ownBlock)
    (hpl : rv'.ownBlock = rv.ownBlock ∨ rv'.ownBlock = some (w5.alloc (.cells #[.int .i64 k, .string nm, .slice A n cap] 28)).heap.size) (u : Value) :
    Row (w6.setCell ⟨c, 2, none⟩ u) B n0 (ks ++ [l]) rv' (xs ++ [.agg #[.int .i64 k, .string nm, .slice A n cap]]) := by
  have hblock : ∀ b, b < w5.heap.size → rv.ownBlock ≠ some b → b ≠ c → (w6.setCell ⟨c, 2, none⟩ u).heap[b]? = w5.heap[b]? := fun b hb hne hbc => by
    rw [Below.heap_setCell _ _ _ _ hbc, hgr.block b (by simp; omega) (fun e => hne e.symm)]
    exact Below.heap_alloc _ _ _ hb
  have hne' : ∀ b, b < w5.heap.size → rv.ownBlock ≠ some b → rv'.ownBlock ≠ some b := fun b hb hne => by
    rcases hpl with e | e
    · rw [e]; exact hne
    · rw [e]; simp; omega
  refine ⟨?_, fun e => by simp at e, by simp [h.len], fun j hj hj' => ?_⟩
  · have : flat (xs ++ [Value.agg #[.int .i64 k, .string nm, .slice A n cap]]) = flat xs ++ [.int .i64 k, .string nm, .slice A n cap] := by rw [flat_append]; simp [flat]
    rw [this, List.length_append, List.length_singleton]
    exact ownsRow_setCell_below hown (a := ⟨c, 2, none⟩) hc _
  · by_cases hjx : j < xs.length
    · have hjk : j < ks.length := by rw [← h.len]; exact hjx
      rw [List.getElem_append_left hjx, List.getElem_append_left hjk]
      refine (h.parts j hjx hjk).keep fun b hb hS => ⟨⟨hS.1, hne' b (by omega) hS.2⟩, ?_⟩
      rw [hblock b (by omega) hS.2 (by rcases hS.1 with h1 | h1 <;> omega)]
      exact hw b hb hS.1
    · have e : j = xs.length := by simp at hj; omega
      subst e
      have hjk : ¬ xs.length < ks.length := by rw [h.len]; omega
      have e2 : (ks ++ [l])[xs.length] = l := by rw [List.getElem_append_right (by omega)]; simp
      rw [e2, List.getElem_append_right (Nat.le_refl _)]
      simp only [Nat.sub_self, List.getElem_cons_zero]
      refine hx.keep fun b hb hS => ?_
      have hne : rv.ownBlock ≠ some b := fun e => by
        have h1 := hm' b e
        have h2 := h.own.lt b e
        rcases hS with h3 | h3 <;> omega
      refine ⟨⟨hS.imp id fun h3 => by omega, hne' b hb hne⟩, hblock b hb hne (by rcases hS with h3 | h3 <;> omega)⟩

end Go.Proofs.YtpdoegjddiaaoaaDoor
