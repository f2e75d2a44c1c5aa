/- Memory of a level that is being read: the variable that is built up, its row of parts. No walk but take's contract, whatever went before. -/
import Derived.Test.YtafdlaaohglfdaaGreatDoorLevelWord

namespace Go.Proofs.YtafdlaaohglfdaaGreatDoor
open Go.RowKit

/-- The value is that level, all its parts in blocks from lo on, below hi. -/
def InBet (w : World) (lo hi : Nat) : LvB → Value → Prop
  | .zero, v => v = .agg #[.int .i64 0, .string ⟨#[]⟩, .slice none 0 0]
  | .param p, v => v = .agg #[.int .i64 4, .string p, .slice none 0 0]
  | .succ a, v => ∃ b cap x, v = .agg #[.int .i64 1, .string ⟨#[]⟩, .slice (some ⟨b, 0, none⟩) 1 cap] ∧ (lo ≤ b ∧ b < hi) ∧ Three w b 0 x ∧ InBet w lo hi a x
  | .max a c, v => ∃ b cap x y, v = .agg #[.int .i64 2, .string ⟨#[]⟩, .slice (some ⟨b, 0, none⟩) 2 cap] ∧ (lo ≤ b ∧ b < hi) ∧ Three w b 0 x ∧ Three w b 3 y ∧ InBet w lo hi a x ∧ InBet w lo hi c y
  | .imax a c, v => ∃ b cap x y, v = .agg #[.int .i64 3, .string ⟨#[]⟩, .slice (some ⟨b, 0, none⟩) 2 cap] ∧ (lo ≤ b ∧ b < hi) ∧ Three w b 0 x ∧ Three w b 3 y ∧ InBet w lo hi a x ∧ InBet w lo hi c y

theorem InAbove.bet {w : World} {lo : Nat} : ∀ {l : LvB} {v : Value}, InAbove w lo l v → InBet w lo w.heap.size l v
  | .zero, _, hl => hl
  | .param _, _, hl => hl
  | .succ a, _, ⟨b, cap, x, e, hb, h3, ha⟩ => ⟨b, cap, x, e, ⟨hb, h3.lt⟩, h3, InAbove.bet (l := a) ha⟩
  | .max a c, _, ⟨b, cap, x, y, e, hb, h3, h4, ha, hc⟩ => ⟨b, cap, x, y, e, ⟨hb, h3.lt⟩, h3, h4, InAbove.bet (l := a) ha, InAbove.bet (l := c) hc⟩
  | .imax a c, _, ⟨b, cap, x, y, e, hb, h3, h4, ha, hc⟩ => ⟨b, cap, x, y, e, ⟨hb, h3.lt⟩, h3, h4, InAbove.bet (l := a) ha, InAbove.bet (l := c) hc⟩

theorem InBet.above {w : World} {lo lo' hi : Nat} (h : lo' ≤ lo) : ∀ {l : LvB} {v : Value}, InBet w lo hi l v → InAbove w lo' l v
  | .zero, _, hl => hl
  | .param _, _, hl => hl
  | .succ a, _, ⟨b, cap, x, e, hb, h3, ha⟩ => ⟨b, cap, x, e, Nat.le_trans h hb.1, h3, InBet.above h (l := a) ha⟩
  | .max a c, _, ⟨b, cap, x, y, e, hb, h3, h4, ha, hc⟩ => ⟨b, cap, x, y, e, Nat.le_trans h hb.1, h3, h4, InBet.above h (l := a) ha, InBet.above h (l := c) hc⟩
  | .imax a c, _, ⟨b, cap, x, y, e, hb, h3, h4, ha, hc⟩ => ⟨b, cap, x, y, e, Nat.le_trans h hb.1, h3, h4, InBet.above h (l := a) ha, InBet.above h (l := c) hc⟩

theorem Three.of_block {w w' : World} {b o : Nat} {x : Value} (h : Three w b o x) (he : w'.heap[b]? = w.heap[b]?) : Three w' b o x := by
  obtain ⟨k, nm, A, n, cap, e, h0, h1, h2⟩ := h
  exact ⟨k, nm, A, n, cap, e, (World.cell?_of_block he).trans h0, (World.cell?_of_block he).trans h1, (World.cell?_of_block he).trans h2⟩

theorem InBet.keep {w w' : World} {lo hi : Nat} (h : ∀ b, lo ≤ b → b < hi → w'.heap[b]? = w.heap[b]?) : ∀ {l : LvB} {v : Value}, InBet w lo hi l v → InBet w' lo hi l v
  | .zero, _, hl => hl
  | .param _, _, hl => hl
  | .succ a, _, ⟨b, cap, x, e, hb, h3, ha⟩ => ⟨b, cap, x, e, hb, h3.of_block (h b hb.1 hb.2), InBet.keep h (l := a) ha⟩
  | .max a c, _, ⟨b, cap, x, y, e, hb, h3, h4, ha, hc⟩ => ⟨b, cap, x, y, e, hb, h3.of_block (h b hb.1 hb.2), h4.of_block (h b hb.1 hb.2), InBet.keep h (l := a) ha, InBet.keep h (l := c) hc⟩
  | .imax a c, _, ⟨b, cap, x, y, e, hb, h3, h4, ha, hc⟩ => ⟨b, cap, x, y, e, hb, h3.of_block (h b hb.1 hb.2), h4.of_block (h b hb.1 hb.2), InBet.keep h (l := a) ha, InBet.keep h (l := c) hc⟩

/-- The variable of a level that is being built. -/
def LVar (w : World) (c : Nat) (k : Int) (v : Value) : Prop := w.heap[c]? = some (.cells #[.int .i64 k, .string ⟨#[]⟩, v] 79 (0, 0))
section
variable {w w' : World} {c : Nat} {k : Int} {v : Value}
theorem LVar.lt (h : LVar w c k v) : c < w.heap.size := (Array.getElem?_eq_some_iff.1 h).1
theorem LVar.c0 (h : LVar w c k v) : w.cell? ⟨c, 0, none⟩ = some (.int .i64 k) := by unfold LVar at h; simp [World.cell?, h]
theorem LVar.c1 (h : LVar w c k v) : w.cell? ⟨c, 1, none⟩ = some (.string ⟨#[]⟩) := by unfold LVar at h; simp [World.cell?, h]
theorem LVar.c2 (h : LVar w c k v) : w.cell? ⟨c, 2, none⟩ = some v := by unfold LVar at h; simp [World.cell?, h]
theorem LVar.f (h : LVar w c k v) (i : Nat) : w.frozen? ⟨c, i, none⟩ = false := by unfold LVar at h; simp [World.frozen?, h]
theorem LVar.set (h : LVar w c k v) (u : Value) : LVar (w.setCell ⟨c, 2, none⟩ u) c k u := by unfold LVar at *; simp [World.setCell, Array.getElem?_modify, h]
theorem LVar.of_block (h : LVar w c k v) (he : w'.heap[c]? = w.heap[c]?) : LVar w' c k v := by unfold LVar at *; rw [he]; exact h
theorem LVar.alloc (h : LVar w c k v) (o : Obj) : LVar (w.alloc o) c k v := h.of_block (Below.heap_alloc _ _ _ h.lt)
end

theorem Touched.at {w w' : World} {m k : Nat} (h : Touched w m w') (hk : k < w.heap.size) (hne : k ≠ m) : w'.heap[k]? = w.heap[k]? := h.block k hk (by simpa using hne)

/-- take, whatever went before. -/
theorem take_any (rb : Nat) (s : ByteArray) (p code a : Nat) (w : World) (hs : s.size ≤ 20000) (hp : p ≤ s.size) (h : RdAt w rb s p code a) :
    Calls Tryz.prog 39 #[.pointer (some ⟨rb, 0, none⟩), .string ⟨#[41]⟩] w fun e w' => ∃ p' c' a' : Nat, e = .returned (.tuple #[]) ∧ RdAt w' rb s p' c' a' ∧ p ≤ p' ∧ p' ≤ s.size ∧ Touched w rb w' ∧ (c' = 0 → code = 0 ∧ p < p' ∧ SignAt s 41 p p') ∧ (c' ≠ 0 → (code ≠ 0 ∧ c' = code ∧ a' = a) ∨ (code = 0 ∧ c' = 1 ∧ a' = runTo blankB s p ∧ (tok s p).t ≠ ⟨#[41]⟩)) := by
  by_cases hc : code = 0
  · subst hc
    obtain ⟨k1, k2, k3, k4⟩ := tok_facts hp
    by_cases ht : (tok s p).t = ⟨#[41]⟩
    · rw [ht] at k2
      have k2' : (tok s p).at_ + 1 ≤ s.size := k2
      have hsg := tok_shut hp ht
      exact (take_good rb s p a w hs hp h ht).mono fun e w' ⟨he, hr, ht⟩ => ⟨_, 0, a, he, hr, by omega, k2', ht, fun _ => ⟨rfl, by omega, hsg⟩, fun h => absurd rfl h⟩
    · have hno := ht
      exact (take_bad rb s p a w hs hp h ht).mono fun e w' ⟨he, hr, ht⟩ => ⟨p, 1, _, he, hr, Nat.le_refl _, hp, ht, fun h => by omega, fun _ => .inr ⟨rfl, rfl, tok_place s p hp, hno⟩⟩
  · exact (take_not rb s p code a w hs hp hc h).mono fun e w' ⟨he, hw⟩ => ⟨p, code, a, he, by rw [hw]; exact h, Nat.le_refl _, hp, by rw [hw]; exact Touched.refl _ _, fun h => absurd h hc, fun _ => .inl ⟨hc, rfl, rfl⟩⟩

/-- An append onto an owned row, as one step of a region that draws its order. -/
theorem step_append_own {P : Program} {ops : Array Oper} {o : Oper} {a : Act} {w : World} {K : Act → World → Prop} {Q : Exit → Act → World → Prop} {E : Prop}
    (hg : o.guard = none) (s x : Operand) (t : TypeId) (hop : o.op = Op.call { callee := Callee.builtin Builtin.append, args := #[s, x], argTypes := #[t, t] })
    (base : Nat) (e : TypeId) (i : TypeInfo) (z : Value) (size bytes : Nat) (h1 : P.underlying t = some (.slice e)) (h2 : P.info? e = some i) (h3 : i.zero = some z) (h4 : i.size = size) (h5 : i.bytes = bytes) (h6 : z.cells.size = size) (h7 : 0 < size)
    (v : Value) (n : Nat) (xs : List Value) (hs : a.eval s = v) (hown : w.ownsRow base e size v n xs)
    (ad : Addr) (m c : Nat) (news : List Value) (hx : a.eval x = .slice (some ad) m c) (hn : news.length = m * size) (hc : ∀ j u, news[j]? = some u → w.cell? (ad.add j) = some u) (h1c : ∀ u ∈ news, u.oneCell' = true) (hm : 0 < m)
    (b1 : n + m ≤ maxLen) (b2 : (n + m) * bytes ≤ 140737488355328) (hbase : base ≤ w.heap.size)
    (hK : ∀ v' w', w'.ownsRow base e size v' (n + m) (xs ++ news) → w.grownBy w' v.ownBlock → (v'.ownBlock = v.ownBlock ∨ v'.ownBlock = some w.heap.size) → K (a.put o.dst v') w') :
    if Region.wanted o (yielded ops a.tmps) = true then Oper.wp P o a w K Q else E := by
  have hw : Region.wanted o (yielded ops a.tmps) = true := by simp [Region.wanted, hg]
  rw [if_pos hw]
  obtain ⟨v', w', hr, r1, r2, _⟩ := run_append_own (P := P) w base t o.type e i z size bytes h1 h2 h3 h4 h5 h6 h7 v n xs hown ad m c news hn hc h1c b1 b2 hbase
  have hp := append_place (P := P) w base t o.type e i z size bytes h1 h2 h3 h4 h5 v n xs hown ad m c news hn hc h1c hm b1 b2 hr
  unfold Oper.wp execOp
  simp only [hop, resolve, invoke, builtin, Sem.run_bind, Sem.run_pure, Result.andThen_ok, List.map_toArray, List.map_cons, List.map_nil, hs, hx, hr]
  exact hK v' w' r1 r2 hp

theorem Tryz.info79 : (Tryz.prog.info? 79).map (fun i => (i.zero, i.size, i.bytes)) = some (some (.agg #[.int .i64 0, .string ⟨#[]⟩, .slice none 0 0]), 3, 48) := by kernel_rfl

theorem three_new (w : World) (a b c : Value) (t : TypeId) : ∀ j u, [a, b, c][j]? = some u → (w.alloc (.cells #[a, b, c] t)).cell? ((⟨w.heap.size, 0, none⟩ : Addr).add j) = some u := by
  intro j u hj
  match j, hj with
  | 0, hj => simp at hj; subst hj; simp [Addr.add]
  | 1, hj => simp at hj; subst hj; simp [Addr.add]
  | 2, hj => simp at hj; subst hj; simp [Addr.add]

theorem shape_row {w : World} {base : Nat} {v : Value} {n : Nat} {xs : List Value} (h : w.ownsRow base 79 3 v n xs) (hn : 0 < n) : ∃ g cap, v = .slice (some ⟨g, 0, none⟩) n cap ∧ base ≤ g := by
  rcases h.2 with ⟨_, h0⟩ | ⟨g, cap, _, e, hb, _⟩
  · omega
  · exact ⟨g, cap, e, hb⟩

theorem row_three {w : World} {base g n cap : Nat} {xs : List Value} (h : w.ownsRow base 79 3 (.slice (some ⟨g, 0, none⟩) n cap) n xs) {k : Int} {nm : ByteArray} {A : Option Addr} {m c : Nat} {o : Nat}
    (h0 : xs[o]? = some (.int .i64 k)) (h1 : xs[o + 1]? = some (.string nm)) (h2 : xs[o + 2]? = some (.slice A m c)) : Three w g o (.agg #[.int .i64 k, .string nm, .slice A m c]) := by
  have hc := h.cells (g := g) rfl
  have e0 := hc _ _ h0
  have e1 := hc _ _ h1
  have e2 := hc _ _ h2
  rw [Addr.add_lit] at e0 e1 e2
  simp only [Nat.zero_add] at e0 e1 e2
  exact ⟨k, nm, A, m, c, rfl, e0, e1, e2⟩

end Go.Proofs.YtafdlaaohglfdaaGreatDoor

/- Memory of a level that is being made: which blocks its parts lie in; a row of parts that grows. No walk. -/
namespace Go.Proofs.YtafdlaaohglfdaaGreatDoor
open Go.RowKit

/-- The value is that level, all its parts in blocks of that kind. -/
def InP (w : World) (S : Nat → Prop) : LvB → Value → Prop
  | .zero, v => v = .agg #[.int .i64 0, .string ⟨#[]⟩, .slice none 0 0]
  | .param p, v => v = .agg #[.int .i64 4, .string p, .slice none 0 0]
  | .succ a, v => ∃ b cap x, v = .agg #[.int .i64 1, .string ⟨#[]⟩, .slice (some ⟨b, 0, none⟩) 1 cap] ∧ S b ∧ Three w b 0 x ∧ InP w S a x
  | .max a c, v => ∃ b cap x y, v = .agg #[.int .i64 2, .string ⟨#[]⟩, .slice (some ⟨b, 0, none⟩) 2 cap] ∧ S b ∧ Three w b 0 x ∧ Three w b 3 y ∧ InP w S a x ∧ InP w S c y
  | .imax a c, v => ∃ b cap x y, v = .agg #[.int .i64 3, .string ⟨#[]⟩, .slice (some ⟨b, 0, none⟩) 2 cap] ∧ S b ∧ Three w b 0 x ∧ Three w b 3 y ∧ InP w S a x ∧ InP w S c y

theorem InLv.inP {w : World} {B : Nat} : ∀ {l : LvB} {v : Value}, InLv w B l v → InP w (fun b => b < B) l v
  | .zero, _, hl => hl
  | .param _, _, hl => hl
  | .succ a, _, ⟨b, cap, x, e, hb, h3, ha⟩ => ⟨b, cap, x, e, hb, h3, InLv.inP (l := a) ha⟩
  | .max a c, _, ⟨b, cap, x, y, e, hb, h3, h4, ha, hc⟩ => ⟨b, cap, x, y, e, hb, h3, h4, InLv.inP (l := a) ha, InLv.inP (l := c) hc⟩
  | .imax a c, _, ⟨b, cap, x, y, e, hb, h3, h4, ha, hc⟩ => ⟨b, cap, x, y, e, hb, h3, h4, InLv.inP (l := a) ha, InLv.inP (l := c) hc⟩

theorem InP.inLv {w : World} {S : Nat → Prop} : ∀ {l : LvB} {v : Value}, InP w S l v → InLv w w.heap.size l v
  | .zero, _, hl => hl
  | .param _, _, hl => hl
  | .succ a, _, ⟨b, cap, x, e, _, h3, ha⟩ => ⟨b, cap, x, e, h3.lt, h3, InP.inLv (l := a) ha⟩
  | .max a c, _, ⟨b, cap, x, y, e, _, h3, h4, ha, hc⟩ => ⟨b, cap, x, y, e, h3.lt, h3, h4, InP.inLv (l := a) ha, InP.inLv (l := c) hc⟩
  | .imax a c, _, ⟨b, cap, x, y, e, _, h3, h4, ha, hc⟩ => ⟨b, cap, x, y, e, h3.lt, h3, h4, InP.inLv (l := a) ha, InP.inLv (l := c) hc⟩

/-- In another world, in which the blocks that count stand as they stood. -/
theorem InP.keep {w w' : World} {S S' : Nat → Prop} (h : ∀ b, b < w.heap.size → S b → S' b ∧ w'.heap[b]? = w.heap[b]?) : ∀ {l : LvB} {v : Value}, InP w S l v → InP w' S' l v
  | .zero, _, hl => hl
  | .param _, _, hl => hl
  | .succ a, _, ⟨b, cap, x, e, hb, h3, ha⟩ => ⟨b, cap, x, e, (h b h3.lt hb).1, h3.of_block (h b h3.lt hb).2, InP.keep h (l := a) ha⟩
  | .max a c, _, ⟨b, cap, x, y, e, hb, h3, h4, ha, hc⟩ => ⟨b, cap, x, y, e, (h b h3.lt hb).1, h3.of_block (h b h3.lt hb).2, h4.of_block (h b h3.lt hb).2, InP.keep h (l := a) ha, InP.keep h (l := c) hc⟩
  | .imax a c, _, ⟨b, cap, x, y, e, hb, h3, h4, ha, hc⟩ => ⟨b, cap, x, y, e, (h b h3.lt hb).1, h3.of_block (h b h3.lt hb).2, h4.of_block (h b h3.lt hb).2, InP.keep h (l := a) ha, InP.keep h (l := c) hc⟩

theorem InP.form {w : World} {S : Nat → Prop} {l : LvB} {v : Value} (h : InP w S l v) : ∃ (k : Int) (nm : ByteArray) (A : Option Addr) (n cap : Nat), v = .agg #[.int .i64 k, .string nm, .slice A n cap] := by
  obtain ⟨A, cap, e⟩ := h.inLv.form
  exact ⟨_, _, A, _, cap, e⟩

/-- Levels in the place of parameters. -/
def Lv.bind (σ : ByteArray → LvB) : LvB → LvB
  | .zero => .zero
  | .succ a => .succ (Lv.bind σ a)
  | .max a b => .max (Lv.bind σ a) (Lv.bind σ b)
  | .imax a b => .imax (Lv.bind σ a) (Lv.bind σ b)
  | .param p => σ p

theorem Lv.bind_kids (σ : ByteArray → LvB) (l : LvB) (h : l.kind ≠ 4) : (l.bind σ).kids = l.kids.map (Lv.bind σ) ∧ (l.bind σ).kind = l.kind ∧ (l.bind σ).nm = ⟨#[]⟩ ∧ l.nm = ⟨#[]⟩ := by
  cases l <;> simp [kind] at h <;> simp [bind, kids, kind, nm]

/-- A level put in for each parameter of a level, itself. -/
theorem Lv.bind_param : ∀ l : LvB, l.bind .param = l
  | .zero => rfl
  | .param _ => rfl
  | .succ a => by simp [bind, Lv.bind_param a]
  | .max a b => by simp [bind, Lv.bind_param a, Lv.bind_param b]
  | .imax a b => by simp [bind, Lv.bind_param a, Lv.bind_param b]

/-- The cells of a row of levels. -/
def flat : List Value → List Value
  | [] => []
  | .agg a :: xs => a.toList ++ flat xs
  | _ :: xs => flat xs

theorem flat_append (xs ys : List Value) : flat (xs ++ ys) = flat xs ++ flat ys := by
  induction xs with
  | nil => rfl
  | cons x xs ih => cases x <;> simp [flat, ih]

theorem flat_at : ∀ (xs : List Value) (j : Nat) (k : Int) (nm : ByteArray) (A : Option Addr) (n cap : Nat), (∀ i (h : i < xs.length), ∃ (k : Int) (nm : ByteArray) (A : Option Addr) (n cap : Nat), xs[i] = .agg #[.int .i64 k, .string nm, .slice A n cap]) → xs[j]? = some (.agg #[.int .i64 k, .string nm, .slice A n cap]) →
    (flat xs)[j * 3]? = some (.int .i64 k) ∧ (flat xs)[j * 3 + 1]? = some (.string nm) ∧ (flat xs)[j * 3 + 2]? = some (.slice A n cap)
  | [], j, k, nm, A, n, cap, _, h => by simp at h
  | x :: xs, 0, k, nm, A, n, cap, _, h => by
    simp at h
    subst h
    simp [flat]
  | x :: xs, j + 1, k, nm, A, n, cap, hf, h => by
    obtain ⟨k', nm', A', n', cap', e⟩ := hf 0 (by simp)
    simp only [List.getElem_cons_zero] at e
    subst e
    have ih := flat_at xs j k nm A n cap (fun i hi => by have := hf (i + 1) (by simp; omega); simpa using this) (by simpa using h)
    have e1 : (j + 1) * 3 = 3 + j * 3 := by omega
    rw [e1]
    simp only [flat]
    refine ⟨?_, ?_, ?_⟩
    · rw [List.getElem?_append_right (by simp)]; simpa using ih.1
    · rw [List.getElem?_append_right (by simp; omega)]; have e2 : 3 + j * 3 + 1 - [Value.int .i64 k', .string nm', .slice A' n' cap'].length = j * 3 + 1 := by simp; omega
      simp only [e2]; exact ih.2.1
    · rw [List.getElem?_append_right (by simp; omega)]; have e2 : 3 + j * 3 + 2 - [Value.int .i64 k', .string nm', .slice A' n' cap'].length = j * 3 + 2 := by simp; omega
      simp only [e2]; exact ih.2.2

/-- A row of parts, k of them made: the row that is owned, the levels in it, whose own blocks are neither the row's nor below what counts. -/
structure Row (W : World) (B n0 : Nat) (ks : List LvB) (rv : Value) (xs : List Value) : Prop where
  own : W.ownsRow n0 79 3 rv xs.length (flat xs)
  nil : xs.length = 0 → rv = .slice none 0 0
  len : xs.length = ks.length
  parts : ∀ j (h : j < xs.length) (h' : j < ks.length), InP W (fun b => (b < B ∨ n0 ≤ b) ∧ rv.ownBlock ≠ some b) ks[j] xs[j]

theorem Row.forms {W : World} {B n0 : Nat} {ks : List LvB} {rv : Value} {xs : List Value} (h : Row W B n0 ks rv xs) : ∀ i (hi : i < xs.length), ∃ (k : Int) (nm : ByteArray) (A : Option Addr) (n cap : Nat), xs[i] = .agg #[.int .i64 k, .string nm, .slice A n cap] :=
  fun i hi => (h.parts i hi (by rw [← h.len]; exact hi)).form

theorem Row.start (W : World) (B n0 : Nat) : Row W B n0 [] (.slice none 0 0) [] :=
  ⟨World.ownsRow_nil _ _ _ _, fun _ => rfl, rfl, fun j h => absurd h (by simp)⟩

/-- A level's value out of a whole row. -/
theorem Row.made {W : World} {B n0 : Nat} {l : LvB} {rv : Value} {xs : List Value} (h : Row W B n0 l.kids rv xs) (hl : l.kind ≠ 4) : InP W (fun b => b < B ∨ n0 ≤ b) l (.agg #[.int .i64 l.kind, .string ⟨#[]⟩, rv]) := by
  have hthree : ∀ j (hj : j < xs.length) g cap, rv = .slice (some ⟨g, 0, none⟩) xs.length cap → Three W g (j * 3) xs[j] := fun j hj g cap e => by
    obtain ⟨k, nm, A, n, cap', e'⟩ := h.forms j hj
    obtain ⟨h0, h1, h2⟩ := flat_at xs j k nm A n cap' h.forms (by rw [List.getElem?_eq_getElem hj, e'])
    have ho := h.own
    rw [e] at ho
    rw [e']
    exact row_three ho h0 h1 h2
  have hp : ∀ j (hj : j < xs.length) (hj' : j < l.kids.length), InP W (fun b => b < B ∨ n0 ≤ b) l.kids[j] xs[j] := fun j hj hj' => (h.parts j hj hj').keep fun b _ hb => ⟨hb.1, rfl⟩
  have hlen := h.len
  cases l with
  | param p => exact absurd rfl hl
  | zero => rw [h.nil (by simpa [Lv.kids] using hlen)]; exact rfl
  | succ a =>
    have e : xs.length = 1 := by simpa [Lv.kids] using hlen
    obtain ⟨g, cap, er, hg⟩ := shape_row h.own (by omega)
    rw [e] at er
    refine ⟨g, cap, xs[0], by rw [er]; rfl, .inr hg, ?_, hp 0 (by omega) (by simp [Lv.kids])⟩
    exact hthree 0 (by omega) g cap (by rw [er, e])
  | max a c =>
    have e : xs.length = 2 := by simpa [Lv.kids] using hlen
    obtain ⟨g, cap, er, hg⟩ := shape_row h.own (by omega)
    rw [e] at er
    refine ⟨g, cap, xs[0], xs[1], by rw [er]; rfl, .inr hg, ?_, ?_, hp 0 (by omega) (by simp [Lv.kids]), hp 1 (by omega) (by simp [Lv.kids])⟩
    · exact hthree 0 (by omega) g cap (by rw [er, e])
    · exact hthree 1 (by omega) g cap (by rw [er, e])
  | imax a c =>
    have e : xs.length = 2 := by simpa [Lv.kids] using hlen
    obtain ⟨g, cap, er, hg⟩ := shape_row h.own (by omega)
    rw [e] at er
    refine ⟨g, cap, xs[0], xs[1], by rw [er]; rfl, .inr hg, ?_, ?_, hp 0 (by omega) (by simp [Lv.kids]), hp 1 (by omega) (by simp [Lv.kids])⟩
    · exact hthree 0 (by omega) g cap (by rw [er, e])
    · exact hthree 1 (by omega) g cap (by rw [er, e])

/-- One part more: a call that leaves the old alone has made it, its cells are laid in a box, the row is appended to, and cell 2 of block c (below the row's base) is set. -/
theorem Row.next {W w5 w6 : World} {B n0 c n m : Nat} {ks : List LvB} {l : LvB} {rv rv' : Value} {xs : List Value} {k : Int} {nm : ByteArray} {A : Option Addr} {cap : Nat} (h : Row W B n0 ks rv xs) (hB : B ≤ c) (hc : c < n0) (hnm : n0 ≤ m) (hm' : ∀ g, rv.ownBlock = some g → g < m)
    (hz : W.heap.size ≤ w5.heap.size) (hw : ∀ b, b < W.heap.size → b < B ∨ n0 ≤ b → w5.heap[b]? = W.heap[b]?) (hx : InP w5 (fun b => b < B ∨ m ≤ b) l (.agg #[.int .i64 k, .string nm, .slice A n cap]))
    (hown : w6.ownsRow n0 79 3 rv' (xs.length + 1) (flat xs ++ [.int .i64 k, .string nm, .slice A n cap])) (hgr : (w5.alloc (.cells #[.int .i64 k, .string nm, .slice A n cap] 79)).grownBy w6 rv.ownBlock)
    (hpl : rv'.ownBlock = rv.ownBlock ∨ rv'.ownBlock = some (w5.alloc (.cells #[.int .i64 k, .string nm, .slice A n cap] 79)).heap.size) (u : Value) :
    Row (w6.setCell ⟨c, 2, none⟩ u) B n0 (ks ++ [l]) rv' (xs ++ [.agg #[.int .i64 k, .string nm, .slice A n cap]]) := by
  have hblock : ∀ b, b < w5.heap.size → rv.ownBlock ≠ some b → b ≠ c → (w6.setCell ⟨c, 2, none⟩ u).heap[b]? = w5.heap[b]? := fun b hb hne hbc => by
    rw [Below.heap_setCell _ _ _ _ hbc, hgr.block b (by simp; omega) (fun e => hne e.symm)]
    exact Below.heap_alloc _ _ _ hb
  have hne' : ∀ b, b < w5.heap.size → rv.ownBlock ≠ some b → rv'.ownBlock ≠ some b := fun b hb hne => by
    rcases hpl with e | e
    · rw [e]; exact hne
    · rw [e]; simp; omega
  refine ⟨?_, fun e => by simp at e, by simp [h.len], fun j hj hj' => ?_⟩
  · have : flat (xs ++ [Value.agg #[.int .i64 k, .string nm, .slice A n cap]]) = flat xs ++ [.int .i64 k, .string nm, .slice A n cap] := by rw [flat_append]; simp [flat]
    rw [this, List.length_append, List.length_singleton]
    exact ownsRow_setCell_below hown (a := ⟨c, 2, none⟩) hc _
  · by_cases hjx : j < xs.length
    · have hjk : j < ks.length := by rw [← h.len]; exact hjx
      rw [List.getElem_append_left hjx, List.getElem_append_left hjk]
      refine (h.parts j hjx hjk).keep fun b hb hS => ⟨⟨hS.1, hne' b (by omega) hS.2⟩, ?_⟩
      rw [hblock b (by omega) hS.2 (by rcases hS.1 with h1 | h1 <;> omega)]
      exact hw b hb hS.1
    · have e : j = xs.length := by simp at hj; omega
      subst e
      have hjk : ¬ xs.length < ks.length := by rw [h.len]; omega
      have e2 : (ks ++ [l])[xs.length] = l := by rw [List.getElem_append_right (by omega)]; simp
      rw [e2, List.getElem_append_right (Nat.le_refl _)]
      simp only [Nat.sub_self, List.getElem_cons_zero]
      refine hx.keep fun b hb hS => ?_
      have hne : rv.ownBlock ≠ some b := fun e => by
        have h1 := hm' b e
        have h2 := h.own.lt b e
        rcases hS with h3 | h3 <;> omega
      refine ⟨⟨hS.imp id fun h3 => by omega, hne' b hb hne⟩, hblock b hb hne (by rcases hS with h3 | h3 <;> omega)⟩

end Go.Proofs.YtafdlaaohglfdaaGreatDoor
