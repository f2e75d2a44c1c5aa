/- The contract of done, and of fail whatever went before. -/
import Derived.Test.YtjlibnijecdgcaaGreatDoorExact
import Derived.Test.YtjlibnijecdgcaaGreatDoorTok
import Derived.Deep.RegionLaw
import Derived.Deep.DeepCutAuto

namespace Go.Proofs.YtjlibnijecdgcaaGreatDoor
open Go.RowKit

end Go.Proofs.YtjlibnijecdgcaaGreatDoor

/- A level that is read: where it lies; the contract of level where a fault stands already, and at a 0. -/
namespace Go.Proofs.YtjlibnijecdgcaaGreatDoor
open Go.RowKit

/-- The value is that level, all its parts in blocks from lo on. -/
def InAbove (w : World) (lo : Nat) : LvB → Value → Prop
  | .zero, v => v = .agg #[.int .i64 0, .string ⟨#[]⟩, .slice none 0 0]
  | .param p, v => v = .agg #[.int .i64 4, .string p, .slice none 0 0]
  | .succ a, v => ∃ b cap x, v = .agg #[.int .i64 1, .string ⟨#[]⟩, .slice (some ⟨b, 0, none⟩) 1 cap] ∧ lo ≤ b ∧ Three w b 0 x ∧ InAbove w lo a x
  | .max a c, v => ∃ b cap x y, v = .agg #[.int .i64 2, .string ⟨#[]⟩, .slice (some ⟨b, 0, none⟩) 2 cap] ∧ lo ≤ b ∧ Three w b 0 x ∧ Three w b 3 y ∧ InAbove w lo a x ∧ InAbove w lo c y
  | .imax a c, v => ∃ b cap x y, v = .agg #[.int .i64 3, .string ⟨#[]⟩, .slice (some ⟨b, 0, none⟩) 2 cap] ∧ lo ≤ b ∧ Three w b 0 x ∧ Three w b 3 y ∧ InAbove w lo a x ∧ InAbove w lo c y

theorem Three.lt {w : World} {b o : Nat} {x : Value} (h : Three w b o x) : b < w.heap.size := by
  obtain ⟨_, _, _, _, _, _, h0, _⟩ := h
  exact World.block_lt_of_cell? _ _ h0
theorem Three.touched {w w' : World} {rb b o : Nat} {x : Value} (h : Three w b o x) (ht : Touched w rb w') (hne : b ≠ rb) : Three w' b o x := by
  have hlt := h.lt
  obtain ⟨k, nm, A, n, cap, e, h0, h1, h2⟩ := h
  exact ⟨k, nm, A, n, cap, e, by rw [ht.cell hlt hne]; exact h0, by rw [ht.cell hlt hne]; exact h1, by rw [ht.cell hlt hne]; exact h2⟩

theorem InAbove.touched {w w' : World} {rb lo : Nat} (ht : Touched w rb w') (hlo : rb < lo) : ∀ {l : LvB} {v : Value}, InAbove w lo l v → InAbove w' lo l v
  | .zero, _, hl => hl
  | .param _, _, hl => hl
  | .succ a, _, ⟨b, cap, x, e, hb, h3, ha⟩ => ⟨b, cap, x, e, hb, h3.touched ht (by omega), InAbove.touched ht hlo (l := a) ha⟩
  | .max a c, _, ⟨b, cap, x, y, e, hb, h3, h4, ha, hc⟩ => ⟨b, cap, x, y, e, hb, h3.touched ht (by omega), h4.touched ht (by omega), InAbove.touched ht hlo (l := a) ha, InAbove.touched ht hlo (l := c) hc⟩
  | .imax a c, _, ⟨b, cap, x, y, e, hb, h3, h4, ha, hc⟩ => ⟨b, cap, x, y, e, hb, h3.touched ht (by omega), h4.touched ht (by omega), InAbove.touched ht hlo (l := a) ha, InAbove.touched ht hlo (l := c) hc⟩

theorem InAbove.mono {w : World} {lo lo' : Nat} (h : lo' ≤ lo) : ∀ {l : LvB} {v : Value}, InAbove w lo l v → InAbove w lo' l v
  | .zero, _, hl => hl
  | .param _, _, hl => hl
  | .succ a, _, ⟨b, cap, x, e, hb, h3, ha⟩ => ⟨b, cap, x, e, Nat.le_trans h hb, h3, InAbove.mono h (l := a) ha⟩
  | .max a c, _, ⟨b, cap, x, y, e, hb, h3, h4, ha, hc⟩ => ⟨b, cap, x, y, e, Nat.le_trans h hb, h3, h4, InAbove.mono h (l := a) ha, InAbove.mono h (l := c) hc⟩
  | .imax a c, _, ⟨b, cap, x, y, e, hb, h3, h4, ha, hc⟩ => ⟨b, cap, x, y, e, Nat.le_trans h hb, h3, h4, InAbove.mono h (l := a) ha, InAbove.mono h (l := c) hc⟩

theorem InAbove.inLv {w : World} {lo : Nat} : ∀ {l : LvB} {v : Value}, InAbove w lo l v → InLv w w.heap.size l v
  | .zero, _, hl => hl
  | .param _, _, hl => hl
  | .succ a, _, ⟨b, cap, x, e, _, h3, ha⟩ => ⟨b, cap, x, e, h3.lt, h3, InAbove.inLv (l := a) ha⟩
  | .max a c, _, ⟨b, cap, x, y, e, _, h3, h4, ha, hc⟩ => ⟨b, cap, x, y, e, h3.lt, h3, h4, InAbove.inLv (l := a) ha, InAbove.inLv (l := c) hc⟩
  | .imax a c, _, ⟨b, cap, x, y, e, _, h3, h4, ha, hc⟩ => ⟨b, cap, x, y, e, h3.lt, h3, h4, InAbove.inLv (l := a) ha, InAbove.inLv (l := c) hc⟩

abbrev zlev : Obj := .cells #[.int .i64 0, .string ⟨#[]⟩, .slice none 0 0] 94

end Go.Proofs.YtjlibnijecdgcaaGreatDoor

/- An append onto a slice that the call owns, told with its place: where it was, or a new block. -/
namespace Go.Proofs.YtjlibnijecdgcaaGreatDoor
open Go.RowKit

theorem append_place {P : Program} (w : World) (base : Nat) (t ty e : TypeId) (i : TypeInfo) (z : Value) (size bytes : Nat) (ht : P.underlying t = some (.slice e)) (hi : P.info? e = some i) (hz : i.zero = some z)
    (hsize : i.size = size) (hby : i.bytes = bytes)
    (v : Value) (n : Nat) (xs : List Value) (hown : w.ownsRow base e size v n xs)
    (a : Addr) (m c : Nat) (news : List Value) (hl : news.length = m * size) (hnews : ∀ j u, news[j]? = some u → w.cell? (a.add j) = some u) (h1 : ∀ u ∈ news, u.oneCell' = true) (hm : 0 < m)
    (h63 : n + m ≤ maxLen) (hbytes : (n + m) * bytes ≤ 140737488355328) {v' : Value} {w' : World} (hrun : (Builtin.append_ #[t, t] ty #[v, .slice (some a) m c]).run P w = .ok v' w') :
    v'.ownBlock = v.ownBlock ∨ v'.ownBlock = some w.heap.size := by
  subst hsize
  subst hby
  have hsmall : n + m ≤ 9223372036854775807 := by simp only [maxLen] at h63; omega
  rcases hown.2 with ⟨rfl, rfl⟩ | ⟨g, cap, cur, rfl, hbg, hg, hnc, hcm, hcs, htake⟩
  · have hr := run_append_nil (P := P) w t ty e i z ht hi hz a m c news hl hnews (by omega) (by omega) (by have hb := hbytes; simp only [Nat.zero_add] at hb; omega)
    rw [hr] at hrun
    injection hrun with e1 _
    subst e1
    exact .inr rfl
  · by_cases hroom : n + m ≤ cap
    · have hfit : n * i.size + news.length ≤ cur.size := by rw [hl, hcs, ← Nat.add_mul]; exact Nat.mul_le_mul_right _ hroom
      have hr := run_append_room (P := P) w t ty e i ht hi g n cap cur hg a m c news hl hnews h1 hroom hfit
      rw [hr] at hrun
      injection hrun with e1 _
      subst e1
      exact .inl rfl
    · have holds : ∀ j u, xs[j]? = some u → w.cell? ((⟨g, 0, none⟩ : Addr).add j) = some u := hown.cells (g := g) rfl
      have hr := run_append_grow (P := P) w t ty e i z ht hi hz ⟨g, 0, none⟩ n cap xs hown.1 holds a m c news hl hnews (by omega) (by omega) (growslice_fits (by omega) hbytes)
      rw [hr] at hrun
      injection hrun with e1 _
      subst e1
      exact .inr rfl

/-- As the walk takes it: behind 'at_builtin'. -/
theorem wpList_append_placed {P : Program} (w : World) {ops : Array Oper} {rest : List Oper} {o : Oper} {a : Act} {Q : Exit → Act → World → Prop} (hgd : o.guard = none) (s x : Operand) (t : TypeId)
    (ho : o.op = .call { callee := .builtin .append, args := #[s, x], argTypes := #[t, t] })
    (base : Nat) (e : TypeId) (i : TypeInfo) (z : Value) (size bytes : Nat) (ht : P.underlying t = some (.slice e)) (hi : P.info? e = some i) (hz : i.zero = some z)
    (hsize : i.size = size) (hby : i.bytes = bytes) (hzs : z.cells.size = size) (hsz : 0 < size)
    (v : Value) (n : Nat) (xs : List Value) (hs : a.eval s = v) (hown : w.ownsRow base e size v n xs)
    (ad : Addr) (m c : Nat) (news : List Value) (hx : a.eval x = .slice (some ad) m c) (hl : news.length = m * size) (hnews : ∀ j u, news[j]? = some u → w.cell? (ad.add j) = some u) (h1 : ∀ u ∈ news, u.oneCell' = true) (hm : 0 < m)
    (h63 : n + m ≤ maxLen) (hbytes : (n + m) * bytes ≤ 140737488355328) (hbase : base ≤ w.heap.size)
    (h : ∀ v' w', w'.ownsRow base e size v' (n + m) (xs ++ news) → w.grownBy w' v.ownBlock → (v'.ownBlock = v.ownBlock ∨ v'.ownBlock = some w.heap.size) → wpList P ops Q rest (a.put o.dst v') w') : wpList P ops Q (o :: rest) a w := by
  refine wpList_plain hgd fun _ hK => ?_
  obtain ⟨v', w', hr, h2, h3, _⟩ := run_append_own (P := P) w base t o.type e i z size bytes ht hi hz hsize hby hzs hsz v n xs hown ad m c news hl hnews h1 h63 hbytes hbase
  have hp := append_place (P := P) w base t o.type e i z size bytes ht hi hz hsize hby v n xs hown ad m c news hl hnews h1 hm h63 hbytes hr
  unfold Oper.wp execOp
  simp only [ho, resolve, invoke, builtin, Sem.run_bind, Sem.run_pure, Result.andThen_ok, List.map_toArray, List.map_cons, List.map_nil, hs, hx, hr]
  exact hK _ _ (h v' w' h2 h3 hp)

/-- Blocks that a call leaves alone: all old ones but the row of the slice that it was handed. -/
def Grew (w : World) (v : Value) (w' : World) (v' : Value) : Prop := w.grownBy w' v.ownBlock ∧ (v'.ownBlock = v.ownBlock ∨ ∀ k, v'.ownBlock = some k → w.heap.size ≤ k)

theorem Grew.refl (w : World) (v : Value) : Grew w v w v := ⟨World.grownBy.refl _ _, .inl rfl⟩

theorem Grew.trans {w w' w'' : World} {v v' v'' : Value} (h : Grew w v w' v') (h' : Grew w' v' w'' v'') : Grew w v w'' v'' := by
  refine ⟨⟨h'.1.os.trans h.1.os, h'.1.tape.trans h.1.tape, h'.1.output.trans h.1.output, Nat.le_trans h.1.size h'.1.size, fun k hk hne => ?_⟩, ?_⟩
  · refine (h'.1.block k (Nat.lt_of_lt_of_le hk h.1.size) ?_).trans (h.1.block k hk hne)
    rcases h.2 with e | e
    · rw [e]; exact hne
    · intro e'
      have := e k e'.symm
      omega
  · rcases h'.2 with e' | e'
    · rw [e']; exact h.2
    · exact .inr fun k hk => Nat.le_trans h.1.size (e' k hk)

theorem Grew.alloc {w : World} {v : Value} (o : Obj) : Grew w v (w.alloc o) v := ⟨World.grownBy_alloc _ _ _, .inl rfl⟩

theorem Grew.below {w w' : World} {v v' : Value} {B : Nat} (h : Grew w v w' v') (hB : B ≤ w.heap.size) (hv : ∀ k, v.ownBlock = some k → B ≤ k) : Below B w w' :=
  (Below.refl _ _).grown h.1 hB hv

theorem Grew.cell {w w' : World} {v v' : Value} (h : Grew w v w' v') {p : Addr} (hp : p.block < w.heap.size) (hne : some p.block ≠ v.ownBlock) : w'.cell? p = w.cell? p :=
  World.cell?_of_block (h.1.block p.block hp hne)

end Go.Proofs.YtjlibnijecdgcaaGreatDoor

/- The contract of level at a name, at a token that cannot stand there, and at a bracket with another word. -/
namespace Go.Proofs.YtjlibnijecdgcaaGreatDoor
open Go.RowKit

theorem isNameB_ne {t : ByteArray} (h : isNameB t = true) : t ≠ ⟨#[]⟩ := by
  intro e; subst e; simp [isNameB] at h

theorem size_pos {t : ByteArray} (h : t ≠ ⟨#[]⟩) : 0 < t.size := by
  rcases Nat.eq_zero_or_pos t.size with h' | h'
  · exact absurd (by cases t; rename_i d; simp [ByteArray.size] at h'; rw [h']) h
  · exact h'

theorem isNameB_open : isNameB ⟨#[40]⟩ = false := by decide

/-- What stands at the result's block behind calls that leave it alone. -/
theorem zcells {w w' : World} {rb : Nat} (hrb : rb < w.heap.size) (ht : Touched (w.alloc zlev) rb w') : w'.cell? ⟨w.heap.size, 0, none⟩ = some (.int .i64 0) ∧ w'.cell? ⟨w.heap.size, 1, none⟩ = some (.string ⟨#[]⟩) ∧ w'.cell? ⟨w.heap.size, 2, none⟩ = some (.slice none 0 0) ∧ (∀ i, w'.frozen? ⟨w.heap.size, i, none⟩ = false) ∧ w.heap.size + 1 ≤ w'.heap.size := by
  have hblk := ht.block w.heap.size (by simp) (by simp; omega)
  refine ⟨by rw [World.cell?_of_block hblk]; simp, by rw [World.cell?_of_block hblk]; simp, by rw [World.cell?_of_block hblk]; simp, fun i => by rw [World.frozen?_of_block hblk]; simp [World.frozen?_alloc_at], ?_⟩
  have := ht.size
  simpa using this

end Go.Proofs.YtjlibnijecdgcaaGreatDoor

/- Memory of a level that is being read: the variable that is built up, its row of parts. No walk but take's contract, whatever went before. -/
namespace Go.Proofs.YtjlibnijecdgcaaGreatDoor
open Go.RowKit

/-- The value is that level, all its parts in blocks from lo on, below hi. -/
def InBet (w : World) (lo hi : Nat) : LvB → Value → Prop
  | .zero, v => v = .agg #[.int .i64 0, .string ⟨#[]⟩, .slice none 0 0]
  | .param p, v => v = .agg #[.int .i64 4, .string p, .slice none 0 0]
  | .succ a, v => ∃ b cap x, v = .agg #[.int .i64 1, .string ⟨#[]⟩, .slice (some ⟨b, 0, none⟩) 1 cap] ∧ (lo ≤ b ∧ b < hi) ∧ Three w b 0 x ∧ InBet w lo hi a x
  | .max a c, v => ∃ b cap x y, v = .agg #[.int .i64 2, .string ⟨#[]⟩, .slice (some ⟨b, 0, none⟩) 2 cap] ∧ (lo ≤ b ∧ b < hi) ∧ Three w b 0 x ∧ Three w b 3 y ∧ InBet w lo hi a x ∧ InBet w lo hi c y
  | .imax a c, v => ∃ b cap x y, v = .agg #[.int .i64 3, .string ⟨#[]⟩, .slice (some ⟨b, 0, none⟩) 2 cap] ∧ (lo ≤ b ∧ b < hi) ∧ Three w b 0 x ∧ Three w b 3 y ∧ InBet w lo hi a x ∧ InBet w lo hi c y

theorem InAbove.bet {w : World} {lo : Nat} : ∀ {l : LvB} {v : Value}, InAbove w lo l v → InBet w lo w.heap.size l v
  | .zero, _, hl => hl
  | .param _, _, hl => hl
  | .succ a, _, ⟨b, cap, x, e, hb, h3, ha⟩ => ⟨b, cap, x, e, ⟨hb, h3.lt⟩, h3, InAbove.bet (l := a) ha⟩
  | .max a c, _, ⟨b, cap, x, y, e, hb, h3, h4, ha, hc⟩ => ⟨b, cap, x, y, e, ⟨hb, h3.lt⟩, h3, h4, InAbove.bet (l := a) ha, InAbove.bet (l := c) hc⟩
  | .imax a c, _, ⟨b, cap, x, y, e, hb, h3, h4, ha, hc⟩ => ⟨b, cap, x, y, e, ⟨hb, h3.lt⟩, h3, h4, InAbove.bet (l := a) ha, InAbove.bet (l := c) hc⟩

theorem InBet.above {w : World} {lo lo' hi : Nat} (h : lo' ≤ lo) : ∀ {l : LvB} {v : Value}, InBet w lo hi l v → InAbove w lo' l v
  | .zero, _, hl => hl
  | .param _, _, hl => hl
  | .succ a, _, ⟨b, cap, x, e, hb, h3, ha⟩ => ⟨b, cap, x, e, Nat.le_trans h hb.1, h3, InBet.above h (l := a) ha⟩
  | .max a c, _, ⟨b, cap, x, y, e, hb, h3, h4, ha, hc⟩ => ⟨b, cap, x, y, e, Nat.le_trans h hb.1, h3, h4, InBet.above h (l := a) ha, InBet.above h (l := c) hc⟩
  | .imax a c, _, ⟨b, cap, x, y, e, hb, h3, h4, ha, hc⟩ => ⟨b, cap, x, y, e, Nat.le_trans h hb.1, h3, h4, InBet.above h (l := a) ha, InBet.above h (l := c) hc⟩

theorem Three.of_block {w w' : World} {b o : Nat} {x : Value} (h : Three w b o x) (he : w'.heap[b]? = w.heap[b]?) : Three w' b o x := by
  obtain ⟨k, nm, A, n, cap, e, h0, h1, h2⟩ := h
  exact ⟨k, nm, A, n, cap, e, (World.cell?_of_block he).trans h0, (World.cell?_of_block he).trans h1, (World.cell?_of_block he).trans h2⟩

theorem InBet.keep {w w' : World} {lo hi : Nat} (h : ∀ b, lo ≤ b → b < hi → w'.heap[b]? = w.heap[b]?) : ∀ {l : LvB} {v : Value}, InBet w lo hi l v → InBet w' lo hi l v
  | .zero, _, hl => hl
  | .param _, _, hl => hl
  | .succ a, _, ⟨b, cap, x, e, hb, h3, ha⟩ => ⟨b, cap, x, e, hb, h3.of_block (h b hb.1 hb.2), InBet.keep h (l := a) ha⟩
  | .max a c, _, ⟨b, cap, x, y, e, hb, h3, h4, ha, hc⟩ => ⟨b, cap, x, y, e, hb, h3.of_block (h b hb.1 hb.2), h4.of_block (h b hb.1 hb.2), InBet.keep h (l := a) ha, InBet.keep h (l := c) hc⟩
  | .imax a c, _, ⟨b, cap, x, y, e, hb, h3, h4, ha, hc⟩ => ⟨b, cap, x, y, e, hb, h3.of_block (h b hb.1 hb.2), h4.of_block (h b hb.1 hb.2), InBet.keep h (l := a) ha, InBet.keep h (l := c) hc⟩

/-- The variable of a level that is being built. -/
def LVar (w : World) (c : Nat) (k : Int) (v : Value) : Prop := w.heap[c]? = some (.cells #[.int .i64 k, .string ⟨#[]⟩, v] 94 (0, 0))
section
variable {w w' : World} {c : Nat} {k : Int} {v : Value}
theorem LVar.lt (h : LVar w c k v) : c < w.heap.size := (Array.getElem?_eq_some_iff.1 h).1
theorem LVar.c0 (h : LVar w c k v) : w.cell? ⟨c, 0, none⟩ = some (.int .i64 k) := by unfold LVar at h; simp [World.cell?, h]
theorem LVar.c1 (h : LVar w c k v) : w.cell? ⟨c, 1, none⟩ = some (.string ⟨#[]⟩) := by unfold LVar at h; simp [World.cell?, h]
theorem LVar.c2 (h : LVar w c k v) : w.cell? ⟨c, 2, none⟩ = some v := by unfold LVar at h; simp [World.cell?, h]
theorem LVar.f (h : LVar w c k v) (i : Nat) : w.frozen? ⟨c, i, none⟩ = false := by unfold LVar at h; simp [World.frozen?, h]
theorem LVar.set (h : LVar w c k v) (u : Value) : LVar (w.setCell ⟨c, 2, none⟩ u) c k u := by unfold LVar at *; simp [World.setCell, Array.getElem?_modify, h]
theorem LVar.of_block (h : LVar w c k v) (he : w'.heap[c]? = w.heap[c]?) : LVar w' c k v := by unfold LVar at *; rw [he]; exact h
theorem LVar.alloc (h : LVar w c k v) (o : Obj) : LVar (w.alloc o) c k v := h.of_block (Below.heap_alloc _ _ _ h.lt)
end

theorem Touched.at {w w' : World} {m k : Nat} (h : Touched w m w') (hk : k < w.heap.size) (hne : k ≠ m) : w'.heap[k]? = w.heap[k]? := h.block k hk (by simpa using hne)

/-- An append onto an owned row, as one step of a region that draws its order. -/
theorem step_append_own {P : Program} {ops : Array Oper} {o : Oper} {a : Act} {w : World} {K : Act → World → Prop} {Q : Exit → Act → World → Prop} {E : Prop}
    (hg : o.guard = none) (s x : Operand) (t : TypeId) (hop : o.op = Op.call { callee := Callee.builtin Builtin.append, args := #[s, x], argTypes := #[t, t] })
    (base : Nat) (e : TypeId) (i : TypeInfo) (z : Value) (size bytes : Nat) (h1 : P.underlying t = some (.slice e)) (h2 : P.info? e = some i) (h3 : i.zero = some z) (h4 : i.size = size) (h5 : i.bytes = bytes) (h6 : z.cells.size = size) (h7 : 0 < size)
    (v : Value) (n : Nat) (xs : List Value) (hs : a.eval s = v) (hown : w.ownsRow base e size v n xs)
    (ad : Addr) (m c : Nat) (news : List Value) (hx : a.eval x = .slice (some ad) m c) (hn : news.length = m * size) (hc : ∀ j u, news[j]? = some u → w.cell? (ad.add j) = some u) (h1c : ∀ u ∈ news, u.oneCell' = true) (hm : 0 < m)
    (b1 : n + m ≤ maxLen) (b2 : (n + m) * bytes ≤ 140737488355328) (hbase : base ≤ w.heap.size)
    (hK : ∀ v' w', w'.ownsRow base e size v' (n + m) (xs ++ news) → w.grownBy w' v.ownBlock → (v'.ownBlock = v.ownBlock ∨ v'.ownBlock = some w.heap.size) → K (a.put o.dst v') w') :
    if Region.wanted o (yielded ops a.tmps) = true then Oper.wp P o a w K Q else E := by
  have hw : Region.wanted o (yielded ops a.tmps) = true := by simp [Region.wanted, hg]
  rw [if_pos hw]
  obtain ⟨v', w', hr, r1, r2, _⟩ := run_append_own (P := P) w base t o.type e i z size bytes h1 h2 h3 h4 h5 h6 h7 v n xs hown ad m c news hn hc h1c b1 b2 hbase
  have hp := append_place (P := P) w base t o.type e i z size bytes h1 h2 h3 h4 h5 v n xs hown ad m c news hn hc h1c hm b1 b2 hr
  unfold Oper.wp execOp
  simp only [hop, resolve, invoke, builtin, Sem.run_bind, Sem.run_pure, Result.andThen_ok, List.map_toArray, List.map_cons, List.map_nil, hs, hx, hr]
  exact hK v' w' r1 r2 hp

theorem Tryz.info94 : (Tryz.prog.info? 94).map (fun i => (i.zero, i.size, i.bytes)) = some (some (.agg #[.int .i64 0, .string ⟨#[]⟩, .slice none 0 0]), 3, 48) := by kernel_rfl

theorem three_new (w : World) (a b c : Value) (t : TypeId) : ∀ j u, [a, b, c][j]? = some u → (w.alloc (.cells #[a, b, c] t)).cell? ((⟨w.heap.size, 0, none⟩ : Addr).add j) = some u := by
  intro j u hj
  match j, hj with
  | 0, hj => simp at hj; subst hj; simp [Addr.add]
  | 1, hj => simp at hj; subst hj; simp [Addr.add]
  | 2, hj => simp at hj; subst hj; simp [Addr.add]

theorem shape_row {w : World} {base : Nat} {v : Value} {n : Nat} {xs : List Value} (h : w.ownsRow base 94 3 v n xs) (hn : 0 < n) : ∃ g cap, v = .slice (some ⟨g, 0, none⟩) n cap ∧ base ≤ g := by
  rcases h.2 with ⟨_, h0⟩ | ⟨g, cap, _, e, hb, _⟩
  · omega
  · exact ⟨g, cap, e, hb⟩

theorem row_three {w : World} {base g n cap : Nat} {xs : List Value} (h : w.ownsRow base 94 3 (.slice (some ⟨g, 0, none⟩) n cap) n xs) {k : Int} {nm : ByteArray} {A : Option Addr} {m c : Nat} {o : Nat}
    (h0 : xs[o]? = some (.int .i64 k)) (h1 : xs[o + 1]? = some (.string nm)) (h2 : xs[o + 2]? = some (.slice A m c)) : Three w g o (.agg #[.int .i64 k, .string nm, .slice A m c]) := by
  have hc := h.cells (g := g) rfl
  have e0 := hc _ _ h0
  have e1 := hc _ _ h1
  have e2 := hc _ _ h2
  rw [Addr.add_lit] at e0 e1 e2
  simp only [Nat.zero_add] at e0 e1 e2
  exact ⟨k, nm, A, m, c, rfl, e0, e1, e2⟩

end Go.Proofs.YtjlibnijecdgcaaGreatDoor

/- A level that is being read: what stands when its parts have come. -/
namespace Go.Proofs.YtjlibnijecdgcaaGreatDoor
open Go.RowKit

theorem Touched.of_none {w w' : World} {m : Nat} (h : w.grownBy w' none) : Touched w m w' := ⟨h.os, h.tape, h.output, h.size, fun k hk _ => h.block k hk (by simp)⟩

theorem Touched.undrew {w w' : World} {m : Nat} (h : Touched w.drew m w') : Touched w m w' := ⟨h.os, h.tape, h.output, h.size, h.block⟩
end Go.Proofs.YtjlibnijecdgcaaGreatDoor

/- The contract of level at a successor. -/
namespace Go.Proofs.YtjlibnijecdgcaaGreatDoor
open Go.RowKit

end Go.Proofs.YtjlibnijecdgcaaGreatDoor

/- The contract of level at a max. -/
namespace Go.Proofs.YtjlibnijecdgcaaGreatDoor
open Go.RowKit

end Go.Proofs.YtjlibnijecdgcaaGreatDoor

/- The contract of level at an imax. -/
namespace Go.Proofs.YtjlibnijecdgcaaGreatDoor
open Go.RowKit

end Go.Proofs.YtjlibnijecdgcaaGreatDoor

/- The contracts of level and  of the document: what is read without a fault is a level, no greater than its text. -/
namespace Go.Proofs.YtjlibnijecdgcaaGreatDoor
open Go.RowKit

theorem pastB {w : World} {o : Obj} {n i : Nat} (hn : n < w.heap.size) : (w.alloc o).cell? ⟨n, i, none⟩ = w.cell? ⟨n, i, none⟩ := World.cell?_alloc_past o n i hn

/-- What ParseLevel leaves: a level's value and a fault; where there is none, a level no greater than the text. -/
def Parsed (w : World) (s : ByteArray) (e : Ending) (w' : World) : Prop :=
  ∃ (k : Int) (nm : ByteArray) (A : Option Addr) (n cap c a : Nat), e = .returned (.tuple #[.agg #[.int .i64 k, .string nm, .slice A n cap], .agg #[.int .i64 (c : Nat), .int .i64 (a : Nat)]]) ∧ Below w.heap.size w w' ∧
    (c = 0 → s.size ≤ 200000 ∧ ∃ (l : LvB) (p' : Nat), InLv w' w'.heap.size l (.agg #[.int .i64 k, .string nm, .slice A n cap]) ∧ l.nodes ≤ s.size ∧ Reads s l 0 p' ∧ runTo blankB s p' = s.size) ∧
    (c ≠ 0 → (k = 0 ∧ nm = ⟨#[]⟩ ∧ A = none ∧ n = 0 ∧ cap = 0) ∧ ((200000 < s.size ∧ c = 2 ∧ a = 0) ∨ (s.size ≤ 200000 ∧ c = 1 ∧ Wrong s a)))

end Go.Proofs.YtjlibnijecdgcaaGreatDoor
