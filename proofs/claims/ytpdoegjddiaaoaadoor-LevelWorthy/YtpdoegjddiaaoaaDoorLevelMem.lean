/- Memory of a level that is being read: the variable that is built up, its row of parts. No walk but take's contract, whatever went before. -/
import Derived.Test.YtpdoegjddiaaoaaDoorLevelWord
namespace Go.Proofs.YtpdoegjddiaaoaaDoor
open Go.RowKit

/-- The value is that level, all its parts in blocks from lo on, below hi. -/
def InBet (w : World) (lo hi : Nat) : LvB → Value → Prop
  | .zero, v => v = .agg #[.int .i64 0, .string ⟨#[]⟩, .slice none 0 0]
  | .param p, v => v = .agg #[.int .i64 4, .string p, .slice none 0 0]
  | .succ a, v => ∃ b cap x, v = .agg #[.int .i64 1, .string ⟨#[]⟩, .slice (some ⟨b, 0, none⟩) 1 cap] ∧ (lo ≤ b ∧ b < hi) ∧ Three w b 0 x ∧ InBet w lo hi a x
  | .max a c, v => ∃ b cap x y, v = .agg #[.int .i64 2, .string ⟨#[]⟩, .slice (some ⟨b, 0, none⟩) 2 cap] ∧ (lo ≤ b ∧ b < hi) ∧ Three w b 0 x ∧ Three w b 3 y ∧ InBet w lo hi a x ∧ InBet w lo hi c y
  | .imax a c, v => ∃ b cap x y, v = .agg #[.int .i64 3, .string ⟨#[]⟩, .slice (some ⟨b, 0, none⟩) 2 cap] ∧ (lo ≤ b ∧ b < hi) ∧ Three w b 0 x ∧ Three w b 3 y ∧ InBet w lo hi a x ∧ InBet w lo hi c y

theorem InAbove.bet {w : World} {lo : Nat} : ∀ {l : LvB} {v : Value}, InAbove w lo l v → InBet w lo w.heap.size l v
  | .zero, _, hl => hl
  | .param _, _, hl => hl
  | .succ a, _, ⟨b, cap, x, e, hb, h3, ha⟩ => ⟨b, cap, x, e, ⟨hb, h3.lt⟩, h3, InAbove.bet (l := a) ha⟩
  | .max a c, _, ⟨b, cap, x, y, e, hb, h3, h4, ha, hc⟩ => ⟨b, cap, x, y, e, ⟨hb, h3.lt⟩, h3, h4, InAbove.bet (l := a) ha, InAbove.bet (l := c) hc⟩
  | .imax a c, _, ⟨b, cap, x, y, e, hb, h3, h4, ha, hc⟩ => ⟨b, cap, x, y, e, ⟨hb, h3.lt⟩, h3, h4, InAbove.bet (l := a) ha, InAbove.bet (l := c) hc⟩

theorem InBet.above {w : World} {lo lo' hi : Nat} (h : lo' ≤ lo) : ∀ {l : LvB} {v : Value}, InBet w lo hi l v → InAbove w lo' l v
  | .zero, _, hl => hl
  | .param _, _, hl => hl
  | .succ a, _, ⟨b, cap, x, e, hb, h3, ha⟩ => ⟨b, cap, x, e, Nat.le_trans h hb.1, h3, InBet.above h (l := a) ha⟩
  | .max a c, _, ⟨b, cap, x, y, e, hb, h3, h4, ha, hc⟩ => ⟨b, cap, x, y, e, Nat.le_trans h hb.1, h3, h4, InBet.above h (l := a) ha, InBet.above h (l := c) hc⟩
  | .imax a c, _, ⟨b, cap, x, y, e, hb, h3, h4, ha, hc⟩ => ⟨b, cap, x, y, e, Nat.le_trans h hb.1, h3, h4, InBet.above h (l := a) ha, InBet.above h (l := c) hc⟩

theorem Three.of_block {w w' : World} {b o : Nat} {x : Value} (h : Three w b o x) (he : w'.heap[b]? = w.heap[b]?) : Three w' b o x := by
  obtain ⟨k, nm, A, n, cap, e, h0, h1, h2⟩ := h
  exact ⟨k, nm, A, n, cap, e, (World.cell?_of_block he).trans h0, (World.cell?_of_block he).trans h1, (World.cell?_of_block he).trans h2⟩

theorem InBet.keep {w w' : World} {lo hi : Nat} (h : ∀ b, lo ≤ b → b < hi → w'.heap[b]? = w.heap[b]?) : ∀ {l : LvB} {v : Value}, InBet w lo hi l v → InBet w' lo hi l v
  | .zero, _, hl => hl
  | .param _, _, hl => hl
  | .succ a, _, ⟨b, cap, x, e, hb, h3, ha⟩ => ⟨b, cap, x, e, hb, h3.of_block (h b hb.1 hb.2), InBet.keep h (l := a) ha⟩
  | .max a c, _, ⟨b, cap, x, y, e, hb, h3, h4, ha, hc⟩ => ⟨b, cap, x, y, e, hb, h3.of_block (h b hb.1 hb.2), h4.of_block (h b hb.1 hb.2), InBet.keep h (l := a) ha, InBet.keep h (l := c) hc⟩
  | .imax a c, _, ⟨b, cap, x, y, e, hb, h3, h4, ha, hc⟩ => ⟨b, cap, x, y, e, hb, h3.of_block (h b hb.1 hb.2), h4.of_block (h b hb.1 hb.2), InBet.keep h (l := a) ha, InBet.keep h (l := c) hc⟩

/-- The variable of a level that is being built. -/
def LVar (w : World) (c : Nat) (k : Int) (v : Value) : Prop := w.heap[c]? = some (.cells #[.int .i64 k, .string ⟨#[]⟩, v] 28 (0, 0))
section
variable {w w' : World} {c : Nat} {k : Int} {v : Value}
theorem LVar.lt (h : LVar w c k v) : c < w.heap.size := (Array.getElem?_eq_some_iff.1 h).1
theorem LVar.c0 (h : LVar w c k v) : w.cell? ⟨c, 0, none⟩ = some (.int .i64 k) := by unfold LVar at h; simp [World.cell?, h]
theorem LVar.c1 (h : LVar w c k v) : w.cell? ⟨c, 1, none⟩ = some (.string ⟨#[]⟩) := by unfold LVar at h; simp [World.cell?, h]
theorem LVar.c2 (h : LVar w c k v) : w.cell? ⟨c, 2, none⟩ = some v := by unfold LVar at h; simp [World.cell?, h]
theorem LVar.f (h : LVar w c k v) (i : Nat) : w.frozen? ⟨c, i, none⟩ = false := by unfold LVar at h; simp [World.frozen?, h]
theorem LVar.set (h : LVar w c k v) (u : Value) : LVar (w.setCell ⟨c, 2, none⟩ u) c k u := by unfold LVar at *; simp [World.setCell, Array.getElem?_modify, h]
theorem LVar.of_block (h : LVar w c k v) (he : w'.heap[c]? = w.heap[c]?) : LVar w' c k v := by unfold LVar at *; rw [he]; exact h
theorem LVar.alloc (h : LVar w c k v) (o : Obj) : LVar (w.alloc o) c k v := h.of_block (Below.heap_alloc _ _ _ h.lt)
end

theorem Touched.at {w w' : World} {m k : Nat} (h : Touched w m w') (hk : k < w.heap.size) (hne : k ≠ m) : w'.heap[k]? = w.heap[k]? := h.block k hk (by simpa using hne)

/-- take, whatever went before. -/
theorem take_any (rb : Nat) (s : ByteArray) (p code a : Nat) (w : World) (hs : s.size ≤ 20000) (hp : p ≤ s.size) (h : RdAt w rb s p code a) :
    Calls Tryd.prog 30 #[.pointer (some ⟨rb, 0, none⟩), .string ⟨#[41]⟩] w fun e w' => ∃ p' c' a' : Nat, e = .returned (.tuple #[]) ∧ RdAt w' rb s p' c' a' ∧ p ≤ p' ∧ p' ≤ s.size ∧ Touched w rb w' ∧ (c' = 0 → code = 0 ∧ p < p') := by
  by_cases hc : code = 0
  · subst hc
    obtain ⟨k1, k2, k3, k4⟩ := tok_facts hp
    by_cases ht : (tok s p).t = ⟨#[41]⟩
    · rw [ht] at k2
      have k2' : (tok s p).at_ + 1 ≤ s.size := k2
      exact (take_good rb s p a w hs hp h ht).mono fun e w' ⟨he, hr, ht⟩ => ⟨_, 0, a, he, hr, by omega, k2', ht, fun _ => ⟨rfl, by omega⟩⟩
    · exact (take_bad rb s p a w hs hp h ht).mono fun e w' ⟨he, hr, ht⟩ => ⟨p, 1, _, he, hr, Nat.le_refl _, hp, ht, fun h => by omega⟩
  · exact (take_not rb s p code a w hs hp hc h).mono fun e w' ⟨he, hw⟩ => ⟨p, code, a, he, by rw [hw]; exact h, Nat.le_refl _, hp, by rw [hw]; exact Touched.refl _ _, fun h => absurd h hc⟩

/-- An append onto an owned row, as one step of a region that draws its order. -/
theorem step_append_own {P : Program} {ops : Array Oper} {o : Oper} {a : Act} {w : World} {K : Act → World → Prop} {Q : Exit → Act → World → Prop} {E : Prop}
    (hg : o.guard = none) (s x : Operand) (t : TypeId) (hop : o.op = Op.call { callee := Callee.builtin Builtin.append, args := #[s, x], argTypes := #[t, t] })
    (base : Nat) (e : TypeId) (i : TypeInfo) (z : Value) (size bytes : Nat) (h1 : P.underlying t = some (.slice e)) (h2 : P.info? e = some i) (h3 : i.zero = some z) (h4 : i.size = size) (h5 : i.bytes = bytes) (h6 : z.cells.size = size) (h7 : 0 < size)
    (v : Value) (n : Nat) (xs : List Value) (hs : a.eval s = v) (hown : w.ownsRow base e size v n xs)
    (ad : Addr) (m c : Nat) (news : List Value) (hx : a.eval x = .slice (some ad) m c) (hn : news.length = m * size) (hc : ∀ j u, news[j]? = some u → w.cell? (ad.add j) = some u) (h1c : ∀ u ∈ news, u.oneCell' = true) (hm : 0 < m)
    (b1 : n + m ≤ maxLen) (b2 : (n + m) * bytes ≤ 140737488355328) (hbase : base ≤ w.heap.size)
    (hK : ∀ v' w', w'.ownsRow base e size v' (n + m) (xs ++ news) → w.grownBy w' v.ownBlock → (v'.ownBlock = v.ownBlock ∨ v'.ownBlock = some w.heap.size) → K (a.put o.dst v') w') :
    if Region.wanted o (yielded ops a.tmps) = true then Oper.wp P o a w K Q else E := by
  have hw : Region.wanted o (yielded ops a.tmps) = true := by simp [Region.wanted, hg]
  rw [if_pos hw]
  obtain ⟨v', w', hr, r1, r2, _⟩ := run_append_own (P := P) w base t o.type e i z size bytes h1 h2 h3 h4 h5 h6 h7 v n xs hown ad m c news hn hc h1c b1 b2 hbase
  have hp := append_place (P := P) w base t o.type e i z size bytes h1 h2 h3 h4 h5 v n xs hown ad m c news hn hc h1c hm b1 b2 hr
  unfold Oper.wp execOp
  simp only [hop, resolve, invoke, builtin, Sem.run_bind, Sem.run_pure, Result.andThen_ok, List.map_toArray, List.map_cons, List.map_nil, hs, hx, hr]
  exact hK v' w' r1 r2 hp

theorem Tryd.info28 : (Tryd.prog.info? 28).map (fun i => (i.zero, i.size, i.bytes)) = some (some (.agg #[.int .i64 0, .string ⟨#[]⟩, .slice none 0 0]), 3, 48) := by kernel_rfl

theorem three_new (w : World) (a b c : Value) (t : TypeId) : ∀ j u, [a, b, c][j]? = some u → (w.alloc (.cells #[a, b, c] t)).cell? ((⟨w.heap.size, 0, none⟩ : Addr).add j) = some u := by
  intro j u hj
  match j, hj with
  | 0, hj => simp at hj; subst hj; simp [Addr.add]
  | 1, hj => simp at hj; subst hj; simp [Addr.add]
  | 2, hj => simp at hj; subst hj; simp [Addr.add]

theorem shape_row {w : World} {base : Nat} {v : Value} {n : Nat} {xs : List Value} (h : w.ownsRow base 28 3 v n xs) (hn : 0 < n) : ∃ g cap, v = .slice (some ⟨g, 0, none⟩) n cap ∧ base ≤ g := by
  rcases h.2 with ⟨_, h0⟩ | ⟨g, cap, _, e, hb, _⟩
  · omega
  · exact ⟨g, cap, e, hb⟩

theorem row_three {w : World} {base g n cap : Nat} {xs : List Value} (h : w.ownsRow base 28 3 (.slice (some ⟨g, 0, none⟩) n cap) n xs) {k : Int} {nm : ByteArray} {A : Option Addr} {m c : Nat} {o : Nat}
    (h0 : xs[o]? = some (.int .i64 k)) (h1 : xs[o + 1]? = some (.string nm)) (h2 : xs[o + 2]? = some (.slice A m c)) : Three w g o (.agg #[.int .i64 k, .string nm, .slice A m c]) := by
  have hc := h.cells (g := g) rfl
  have e0 := hc _ _ h0
  have e1 := hc _ _ h1
  have e2 := hc _ _ h2
  rw [Addr.add_lit] at e0 e1 e2
  simp only [Nat.zero_add] at e0 e1 e2
  exact ⟨k, nm, A, m, c, rfl, e0, e1, e2⟩

end Go.Proofs.YtpdoegjddiaaoaaDoor
