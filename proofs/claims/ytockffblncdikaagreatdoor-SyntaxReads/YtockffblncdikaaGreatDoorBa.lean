/- How levels and expressions lie in memory; rows that grow; what a call leaves alone. No walk. -/
import Derived.Test.YtockffblncdikaaGreatDoorLxB
namespace Go.Proofs.YtockffblncdikaaGreatDoor
open Go.RowKit
set_option maxRecDepth 100000
set_option maxHeartbeats 16000000
theorem sameStr (a b : ByteArray) : (a.toList == b.toList) = decide (a = b) := by
 rw [Bool.eq_iff_iff, beq_iff_eq, decide_eq_true_eq]
 constructor
 . intro h
   rw [ByteArray.toList_eq, ByteArray.toList_eq] at h; exact WideShapes.bytes_inj h
 . rintro rfl; rfl
theorem sameStr_pos {a b : ByteArray} (h : a = b) : (a.toList == b.toList) = true := by rw [sameStr]; simp [h]
theorem sameStr_neg {a b : ByteArray} (h : a ≠ b) : (a.toList == b.toList) = false := by rw [sameStr]; simp [h]
theorem sameLit (t : ByteArray) (l : List UInt8) : (t.toList == l) = decide (t = ⟨l.toArray⟩) := by
 rw [Bool.eq_iff_iff, beq_iff_eq, decide_eq_true_eq, ByteArray.toList_eq]
 constructor
 . intro h
   exact WideShapes.bytes_inj (by rw [h])
 . rintro rfl; rfl
theorem sameLit_neg {t : ByteArray} {l : List UInt8} (h : t ≠ ⟨l.toArray⟩) : (t.toList == l) = false := by rw [sameLit]; simp [h]
theorem ne_empty {t : ByteArray} (h : t ≠ ⟨#[]⟩) : (t.toList == ([] : List UInt8)) = false := by
 have := sameStr_neg (a := t) (b := ⟨#[]⟩) h
 simpa using this
theorem ret_bool {a b : Bool} (h : a = b) : Ending.returned (.bool a) = .returned (.bool b) := by rw [h]
theorem ret_int {k : IntKind} {a b : Int} (h : a = b) : Ending.returned (.int k a) = .returned (.int k b) := by rw [h]
def Three (w : World) (b o : Nat) (x : Value) : Prop := ∃ (k : Int) (nm : ByteArray) (A : Option Addr) (n cap : Nat), x = .agg #[.int .i64 k, .string nm, .slice A n cap] /\
 w.cell? ⟨b, o, none⟩ = some (.int .i64 k) /\ w.cell? ⟨b, o + 1, none⟩ = some (.string nm) /\ w.cell? ⟨b, o + 2, none⟩ = some (.slice A n cap)
theorem Three.lt {w : World} {b o : Nat} {x : Value} (h : Three w b o x) : b < w.heap.size := by
 obtain ⟨_, _, _, _, _, _, h0, _⟩ := h; exact World.block_lt_of_cell? _ _ h0
theorem Three.of_block {w w' : World} {b o : Nat} {x : Value} (h : Three w b o x) (he : w'.heap[b]? = w.heap[b]?) : Three w' b o x := by
 obtain ⟨k, nm, A, n, cap, e, h0, h1, h2⟩ := h; exact ⟨k, nm, A, n, cap, e, (World.cell?_of_block he).trans h0, (World.cell?_of_block he).trans h1, (World.cell?_of_block he).trans h2⟩
def InP (w : World) (S : Nat -> Prop) : LvB -> Value -> Prop
 | .zero, v => v = .agg #[.int .i64 0, .string ⟨#[]⟩, .slice none 0 0]
 | .param p, v => v = .agg #[.int .i64 4, .string p, .slice none 0 0]
 | .succ a, v => ∃ b cap x, v = .agg #[.int .i64 1, .string ⟨#[]⟩, .slice (some ⟨b, 0, none⟩) 1 cap] /\ S b /\ Three w b 0 x /\ InP w S a x
 | .max a c, v => ∃ b cap x y, v = .agg #[.int .i64 2, .string ⟨#[]⟩, .slice (some ⟨b, 0, none⟩) 2 cap] /\ S b /\ Three w b 0 x /\ Three w b 3 y /\ InP w S a x /\ InP w S c y
 | .imax a c, v => ∃ b cap x y, v = .agg #[.int .i64 3, .string ⟨#[]⟩, .slice (some ⟨b, 0, none⟩) 2 cap] /\ S b /\ Three w b 0 x /\ Three w b 3 y /\ InP w S a x /\ InP w S c y
theorem InP.keep {w w' : World} {S S' : Nat -> Prop} (h : ∀ b, b < w.heap.size -> S b -> S' b /\ w'.heap[b]? = w.heap[b]?) : ∀ {l : LvB} {v : Value}, InP w S l v -> InP w' S' l v
 | .zero, _, hl => hl
 | .param _, _, hl => hl
 | .succ a, _, ⟨b, cap, x, e, hb, h3, ha⟩ => ⟨b, cap, x, e, (h b h3.lt hb).1, h3.of_block (h b h3.lt hb).2, InP.keep h (l := a) ha⟩
 | .max a c, _, ⟨b, cap, x, y, e, hb, h3, h4, ha, hc⟩ => ⟨b, cap, x, y, e, (h b h3.lt hb).1, h3.of_block (h b h3.lt hb).2, h4.of_block (h b h3.lt hb).2, InP.keep h (l := a) ha, InP.keep h (l := c) hc⟩
 | .imax a c, _, ⟨b, cap, x, y, e, hb, h3, h4, ha, hc⟩ => ⟨b, cap, x, y, e, (h b h3.lt hb).1, h3.of_block (h b h3.lt hb).2, h4.of_block (h b h3.lt hb).2, InP.keep h (l := a) ha, InP.keep h (l := c) hc⟩
def Touched (w : World) (m : Nat) (w' : World) : Prop := w.grownBy w' (some m)
theorem Touched.refl (w : World) (m : Nat) : Touched w m w := World.grownBy.refl _ _
theorem Touched.trans {w w' w'' : World} {m : Nat} (h : Touched w m w') (h' : Touched w' m w'') : Touched w m w'' :=
 ⟨h'.os.trans h.os, h'.tape.trans h.tape, h'.output.trans h.output, Nat.le_trans h.size h'.size, fun k hk hne => (h'.block k (Nat.lt_of_lt_of_le hk h.size) hne).trans (h.block k hk hne)⟩
theorem Touched.alloc (w : World) (m : Nat) (o : Obj) : Touched w m (w.alloc o) := World.grownBy_alloc _ _ _
theorem Touched.cell {w w' : World} {m : Nat} (h : Touched w m w') {p : Addr} (hp : p.block < w.heap.size) (hne : p.block ≠ m) : w'.cell? p = w.cell? p :=
 World.cell?_of_block (h.block p.block hp (by simpa using hne))
theorem Touched.below {w w' : World} {m B : Nat} (h : Touched w m w') (hB : B <= w.heap.size) (hm : B <= m) : Below B w w' :=
 (Below.refl _ _).grown h hB fun k hk => by injection hk with hk; omega
theorem Touched.of_below {w w' : World} {m : Nat} (h : Below w.heap.size w w') : Touched w m w' := ⟨h.os, h.tape, h.output, h.size, fun k hk _ => h.block k hk⟩
theorem Touched.setNew {w w' : World} {m : Nat} (h : Touched w m w') {a : Addr} (ha : w.heap.size <= a.block) (u : Value) : Touched w m (w'.setCell a u) :=
 ⟨h.os, h.tape, h.output, by simp [World.setCell]; exact h.size, fun k hk hne => by rw [Below.heap_setCell _ _ _ _ (by omega)]; exact h.block k hk hne⟩
theorem Touched.at {w w' : World} {m k : Nat} (h : Touched w m w') (hk : k < w.heap.size) (hne : k ≠ m) : w'.heap[k]? = w.heap[k]? := h.block k hk (by simpa using hne)
theorem Touched.drew' {w w' : World} {m : Nat} (h : Touched w m w') : Touched w m w'.drew := ⟨h.os, h.tape, h.output, h.size, h.block⟩
def flat : List Value -> List Value
 | [] => []
 | .agg a :: xs => a.toList ++ flat xs
 | _ :: xs => flat xs
theorem flat_append (xs ys : List Value) : flat (xs ++ ys) = flat xs ++ flat ys := by
 induction xs with
 | nil => rfl
 | cons x xs ih => cases x <;> simp [flat, ih]
theorem flat_len {z : Nat} : ∀ (xs : List Value), (∀ i (h : i < xs.length), ∃ a : Array Value, xs[i] = .agg a /\ a.size = z) -> (flat xs).length = xs.length * z
 | [], _ => by simp [flat]
 | x :: xs, hf => by
   obtain ⟨a, e, hz⟩ := hf 0 (by simp)
   simp only [List.getElem_cons_zero] at e
   subst e; have ih := flat_len xs fun i hi => by have := hf (i + 1) (by simp; omega); simpa using this
   simp only [flat, List.length_append, List.length_cons, Array.length_toList, ih, hz, Nat.add_mul]
   omega
theorem flat_get {z : Nat} : ∀ (xs : List Value) (j : Nat) (a : Array Value) (i : Nat), (∀ i (h : i < xs.length), ∃ a : Array Value, xs[i] = .agg a /\ a.size = z) -> xs[j]? = some (.agg a) -> i < z -> (flat xs)[j * z + i]? = a[i]?
 | [], j, a, i, _, h, _ => by simp at h
 | x :: xs, 0, a, i, hf, h, hi => by
   simp at h
   subst h; obtain ⟨a', e, hz⟩ := hf 0 (by simp)
   simp at e
   subst e
   simp only [flat, Nat.zero_mul, Nat.zero_add]
   rw [List.getElem?_append_left (by simpa [hz] using hi)]
   simp
 | x :: xs, j + 1, a, i, hf, h, hi => by
   obtain ⟨a', e, hz⟩ := hf 0 (by simp)
   simp only [List.getElem_cons_zero] at e
   subst e; have ih := flat_get xs j a i (fun i hi => by have := hf (i + 1) (by simp; omega); simpa using this) (by simpa using h) hi
   simp only [flat]
   have e1 : (j + 1) * z + i = z + (j * z + i) := by rw [Nat.add_mul]; omega
   rw [e1, List.getElem?_append_right (by simp [hz])]
   simpa [hz] using ih
theorem cell_of {W : World} {c : Nat} {vs : Array Value} {T : TypeId} (h : W.heap[c]? = some (.cells vs T (0, 0))) (i : Nat) {v : Value} (hv : vs[i]? = some v) : W.cell? ⟨c, i, none⟩ = some v := by
 unfold World.cell?; rw [h]; exact hv
theorem frozen_of {W : World} {c : Nat} {vs : Array Value} {T : TypeId} (h : W.heap[c]? = some (.cells vs T (0, 0))) (i : Nat) : W.frozen? ⟨c, i, none⟩ = false := by simp [World.frozen?, h]
theorem there_of {W : World} {c : Nat} {vs : Array Value} {T : TypeId} (h : W.heap[c]? = some (.cells vs T (0, 0))) : W.there c 0 vs.size := fun j hj => ⟨by rw [cell_of h (0 + j) (Array.getElem?_eq_getElem (by omega))]; rfl, frozen_of h _⟩
theorem own_row_slice {w : World} {base T z n : Nat} {v : Value} {xs : List Value} (h : w.ownsRow base T z v n xs) : ∃ A c, v = .slice A n c := by
 rcases h.2 with ⟨e, h0⟩ | ⟨g, cap, cur, e, _⟩
 . exact ⟨none, 0, by rw [e, h0]⟩
 . exact ⟨_, _, e⟩
theorem cells_new (w : World) (l : List Value) (T : TypeId) : ∀ j u, l[j]? = some u -> (w.alloc (.cells l.toArray T)).cell? ((⟨w.heap.size, 0, none⟩ : Addr).add j) = some u := by
 intro j u h; rw [Addr.add_lit, Nat.zero_add]; have hb := heap_alloc_new w (.cells l.toArray T); unfold World.cell?; rw [hb]
 simpa using h
theorem infoParts {P : Program} {T : TypeId} {z : Value} {n b : Nat} (h : (P.info? T).map (fun i => (i.zero, i.size, i.bytes)) = some (some z, n, b)) : ∃ i, P.info? T = some i /\ i.zero = some z /\ i.size = n /\ i.bytes = b := by
 cases hi : P.info? T with
 | none => rw [hi] at h; cases h
 | some i => rw [hi] at h; simp at h; exact ⟨i, rfl, h.1, h.2.1, h.2.2⟩
theorem setCells_below {B b : Nat} (hb : B <= b) : ∀ (vs : List Value) (o : Nat) {w W : World}, Below B w W -> Below B w (W.setCells b o vs)
 | [], _, _, _, h => h
 | _ :: vs, o, _, _, h => setCells_below hb vs (o + 1) (h.setCell (p := ⟨b, o, none⟩) hb _)
theorem append_place {P : Program} (w : World) (base : Nat) (t ty e : TypeId) (i : TypeInfo) (z : Value) (size bytes : Nat) (ht : P.underlying t = some (.slice e)) (hi : P.info? e = some i) (hz : i.zero = some z)
 (hsize : i.size = size) (hby : i.bytes = bytes)
 (v : Value) (n : Nat) (xs : List Value) (hown : w.ownsRow base e size v n xs)
 (a : Addr) (m c : Nat) (news : List Value) (hl : news.length = m * size) (hnews : ∀ j u, news[j]? = some u -> w.cell? (a.add j) = some u) (h1 : ∀ u ∈ news, u.oneCell' = true) (hm : 0 < m)
 (h63 : n + m <= maxLen) (hbytes : (n + m) * bytes <= 140737488355328) {v' : Value} {w' : World} (hrun : (Builtin.append_ #[t, t] ty #[v, .slice (some a) m c]).run P w = .ok v' w') :
 v'.ownBlock = v.ownBlock \/ v'.ownBlock = some w.heap.size := by
 subst hsize; subst hby; have hsmall : n + m <= 9223372036854775807 := by simp only [maxLen] at h63; omega
 rcases hown.2 with ⟨rfl, rfl⟩ | ⟨g, cap, cur, rfl, hbg, hg, hnc, hcm, hcs, htake⟩
 . have hr := run_append_nil (P := P) w t ty e i z ht hi hz a m c news hl hnews (by omega) (by omega) (by have hb := hbytes; simp only [Nat.zero_add] at hb; omega)
   rw [hr] at hrun; injection hrun with e1 _; subst e1; exact .inr rfl
 . by_cases hroom : n + m <= cap
   . have hfit : n * i.size + news.length <= cur.size := by rw [hl, hcs, <- Nat.add_mul]; exact Nat.mul_le_mul_right _ hroom
     have hr := run_append_room (P := P) w t ty e i ht hi g n cap cur hg a m c news hl hnews h1 hroom hfit; rw [hr] at hrun; injection hrun with e1 _; subst e1; exact .inl rfl
   . have holds : ∀ j u, xs[j]? = some u -> w.cell? ((⟨g, 0, none⟩ : Addr).add j) = some u := hown.cells (g := g) rfl
     have hr := run_append_grow (P := P) w t ty e i z ht hi hz ⟨g, 0, none⟩ n cap xs hown.1 holds a m c news hl hnews (by omega) (by omega) (growslice_fits (by omega) hbytes); rw [hr] at hrun
     injection hrun with e1 _; subst e1; exact .inr rfl
theorem wpList_append_placed {P : Program} (w : World) {ops : Array Oper} {rest : List Oper} {o : Oper} {a : Act} {Q : Exit -> Act -> World -> Prop} (hgd : o.guard = none) (s x : Operand) (t : TypeId)
 (ho : o.op = .call { callee := .builtin .append, args := #[s, x], argTypes := #[t, t] })
 (base : Nat) (e : TypeId) (i : TypeInfo) (z : Value) (size bytes : Nat) (ht : P.underlying t = some (.slice e)) (hi : P.info? e = some i) (hz : i.zero = some z)
 (hsize : i.size = size) (hby : i.bytes = bytes) (hzs : z.cells.size = size) (hsz : 0 < size)
 (v : Value) (n : Nat) (xs : List Value) (hs : a.eval s = v) (hown : w.ownsRow base e size v n xs)
 (ad : Addr) (m c : Nat) (news : List Value) (hx : a.eval x = .slice (some ad) m c) (hl : news.length = m * size) (hnews : ∀ j u, news[j]? = some u -> w.cell? (ad.add j) = some u) (h1 : ∀ u ∈ news, u.oneCell' = true) (hm : 0 < m)
 (h63 : n + m <= maxLen) (hbytes : (n + m) * bytes <= 140737488355328) (hbase : base <= w.heap.size)
 (h : ∀ v' w', w'.ownsRow base e size v' (n + m) (xs ++ news) -> w.grownBy w' v.ownBlock -> (v'.ownBlock = v.ownBlock \/ v'.ownBlock = some w.heap.size) -> wpList P ops Q rest (a.put o.dst v') w') : wpList P ops Q (o :: rest) a w := by
 refine wpList_plain hgd fun _ hK => ?_
 obtain ⟨v', w', hr, h2, h3, _⟩ := run_append_own (P := P) w base t o.type e i z size bytes ht hi hz hsize hby hzs hsz v n xs hown ad m c news hl hnews h1 h63 hbytes hbase
 have hp := append_place (P := P) w base t o.type e i z size bytes ht hi hz hsize hby v n xs hown ad m c news hl hnews h1 hm h63 hbytes hr; unfold Oper.wp execOp
 simp only [ho, resolve, invoke, builtin, Sem.run_bind, Sem.run_pure, Result.andThen_ok, List.map_toArray, List.map_cons, List.map_nil, hs, hx, hr]
 exact hK _ _ (h v' w' h2 h3 hp)
def Keeps (K : World -> (Nat -> Prop) -> Nat -> Value -> Prop) : Prop := ∀ W W' S S' j v, (∀ b, b < W.heap.size -> S b -> S' b /\ W'.heap[b]? = W.heap[b]?) -> K W S j v -> K W' S' j v
structure GRow (K : World -> (Nat -> Prop) -> Nat -> Value -> Prop) (W : World) (T z B n0 k : Nat) (rv : Value) (xs : List Value) : Prop where
 own : W.ownsRow n0 T z rv k (flat xs)
 len : xs.length = k
 forms : ∀ i (h : i < xs.length), ∃ a : Array Value, xs[i] = .agg a /\ a.size = z
 parts : ∀ j (h : j < xs.length), K W (fun b => (b < B \/ n0 <= b) /\ rv.ownBlock ≠ some b) j xs[j]
section
variable {K K' : World -> (Nat -> Prop) -> Nat -> Value -> Prop} {W W' : World} {T z B n0 k sc : Nat} {rv : Value} {xs : List Value}
theorem GRow.begin (h : W.ownsRow n0 T z rv 0 []) : GRow K W T z B n0 0 rv [] :=
 ⟨h, rfl, fun i hi => absurd hi (by simp), fun j hj => absurd hj (by simp)⟩
theorem GRow.start (K : World -> (Nat -> Prop) -> Nat -> Value -> Prop) (W : World) (T z B n0 : Nat) : GRow K W T z B n0 0 (.slice none 0 0) [] := GRow.begin (World.ownsRow_nil _ _ _ _)
theorem GRow.later (hK : Keeps K) (h : GRow K W T z B n0 k rv xs) {w' : World} (hb : Below W.heap.size W w') : GRow K w' T z B n0 k rv xs :=
 ⟨h.own.kept (row := none) ⟨hb.os, hb.tape, hb.output, hb.size, fun j hj _ => hb.block j hj⟩ (Classical.em _), h.len, h.forms, fun j hj => hK _ _ _ _ _ _ (fun b hbl hS => ⟨hS, hb.block b hbl⟩) (h.parts j hj)⟩
theorem GRow.set (hK : Keeps K) (h : GRow K W T z B n0 k rv xs) {c q : Nat} (hc : c < n0) (hB : B <= c) (u : Value) : GRow K (W.setCell ⟨c, q, none⟩ u) T z B n0 k rv xs :=
 ⟨ownsRow_setCell_below h.own (a := ⟨c, q, none⟩) hc _, h.len, h.forms, fun j hj => hK _ _ _ _ _ _ (fun b hbl hS => ⟨hS, Below.heap_setCell _ _ _ _ (by have := hS.1; show b ≠ c; omega)⟩) (h.parts j hj)⟩
theorem GRow.shape (h : GRow K W T z B n0 k rv xs) : ∃ A c, rv = .slice A k c /\ ∀ g, A = some g -> g.block < W.heap.size /\ n0 <= g.block := by
 rcases h.own.2 with ⟨e, hn⟩ | ⟨g, cap, cur, e, hb, _⟩
 . exact ⟨none, 0, by rw [e, hn], fun g hg => by cases hg⟩
 . refine ⟨some ⟨g, 0, none⟩, cap, e, fun g' hg => ?_⟩
   cases hg
   exact ⟨(h.own.lt g (by rw [e]; rfl)).2, hb⟩
theorem GRow.push (hK : Keeps K) (h : GRow K W T z B n0 k rv xs) {w5 w6 : World} {m : Nat} {rv' : Value} {a : Array Value} (hBn : B <= n0) (hnm : n0 <= m) (hm : ∀ g, rv.ownBlock = some g -> g < m)
 (hw : Below W.heap.size W w5) (hx : K w5 (fun b => b < B \/ m <= b) k (.agg a)) (ha : a.size = z)
 (hown : w6.ownsRow n0 T z rv' (k + 1) (flat xs ++ a.toList)) (hgr : (w5.alloc (.cells a T)).grownBy w6 rv.ownBlock)
 (hpl : rv'.ownBlock = rv.ownBlock \/ rv'.ownBlock = some (w5.alloc (.cells a T)).heap.size) : GRow K w6 T z B n0 (k + 1) rv' (xs ++ [.agg a]) := by
 have hz := hw.size
 have hblock : ∀ b, b < w5.heap.size -> rv.ownBlock ≠ some b -> w6.heap[b]? = w5.heap[b]? := fun b hb hne => by
  rw [hgr.block b (by simp; omega) (fun e => hne e.symm)]; exact Below.heap_alloc _ _ _ hb
 have hne' : ∀ b, b < w5.heap.size -> rv.ownBlock ≠ some b -> rv'.ownBlock ≠ some b := fun b hb hne => by
  rcases hpl with e | e
  . rw [e]; exact hne
  . rw [e]; simp; omega
 refine ⟨?_, by simp [h.len], fun i hi => ?_, fun j hj => ?_⟩
 . have : flat (xs ++ [Value.agg a]) = flat xs ++ a.toList := by rw [flat_append]; simp [flat]
   rw [this]; exact hown
 . by_cases hix : i < xs.length
   . rw [List.getElem_append_left hix]; exact h.forms i hix
   . have e : i = xs.length := by simp at hi; omega
     subst e; rw [List.getElem_append_right (Nat.le_refl _)]; exact ⟨a, by simp, ha⟩
 . by_cases hjx : j < xs.length
   . rw [List.getElem_append_left hjx]
     refine hK _ _ _ _ _ _ (fun b hb hS => ⟨⟨hS.1, hne' b (by omega) hS.2⟩, ?_⟩) (h.parts j hjx); rw [hblock b (by omega) hS.2]; exact hw.block b hb
   . have e : j = xs.length := by simp at hj; omega
     subst e; rw [List.getElem_append_right (Nat.le_refl _)]
     simp only [Nat.sub_self, List.getElem_cons_zero]
     rw [h.len]; refine hK _ _ _ _ _ _ (fun b hb hS => ?_) hx
     have hne : rv.ownBlock ≠ some b := fun e => by
      have h1 := hm b e; have h2 := (h.own.lt b e).1; omega
     exact ⟨⟨hS.imp id fun h3 => by omega, hne' b hb hne⟩, hblock b hb hne⟩
theorem GRow.out (hK : Keeps K) (h : GRow K W T z B n0 k rv xs) : ∃ A c, rv = .slice A k c /\ ∀ i, i < k -> ∃ (g : Nat) (a : Array Value), A = some ⟨g, 0, none⟩ /\ n0 <= g /\ a.size = z /\ (∀ q, q < z -> W.cell? ⟨g, i * z + q, none⟩ = a[q]?) /\ K W (fun b => b < B \/ n0 <= b) i (.agg a) := by
 rcases h.own.2 with ⟨e, hn⟩ | ⟨g, cap, cur, e, hb, _⟩
 . exact ⟨none, 0, by rw [e, hn], fun i hi => absurd hi (by omega)⟩
 . refine ⟨some ⟨g, 0, none⟩, cap, e, fun i hi => ?_⟩
   have hix : i < xs.length := by rw [h.len]; exact hi
   obtain ⟨a, ea, haz⟩ := h.forms i hix; refine ⟨g, a, rfl, hb, haz, fun q hq => ?_, ?_⟩
   . have hg := flat_get xs i a q h.forms (by rw [List.getElem?_eq_getElem hix, ea]) hq
     have hqa : q < a.size := by omega
     have ho := h.own; rw [e] at ho; have hc := ho.cells (g := g) rfl (i * z + q) a[q] (by rw [hg]; exact Array.getElem?_eq_getElem hqa); rw [Addr.add_lit] at hc; rw [Array.getElem?_eq_getElem hqa]
     simpa using hc
   . have := h.parts i hix
     rw [ea] at this; exact hK _ _ _ _ _ _ (fun b _ hS => ⟨hS.1, rfl⟩) this
theorem GRow.touched (hK : Keeps K) (h : GRow K W T z 0 n0 k rv xs) (ht : Touched W sc W') (hsc : sc < n0) : GRow K W' T z 0 n0 k rv xs :=
 ⟨h.own.kept (row := some sc) ht (.inr (fun e => by have := (h.own.lt sc e).1; omega)), h.len, h.forms, fun j hj => hK _ _ _ _ _ _ (fun b hbl hS => ⟨hS, ht.at hbl (by have := hS.1; omega)⟩) (h.parts j hj)⟩
theorem GRow.imp (h : GRow K W T z 0 n0 k rv xs) (hi : ∀ S j v, j < k -> K W S j v -> K' W S j v) : GRow K' W T z 0 n0 k rv xs :=
 ⟨h.own, h.len, h.forms, fun j hj => hi _ _ _ (by rw [<- h.len]; exact hj) (h.parts j hj)⟩
end
def wrote : Array Value -> Nat -> List Value -> Array Value
 | vs, _, [] => vs
 | vs, o, v :: l => wrote (vs.setIfInBounds o v) (o + 1) l
theorem heap_setCells {c : Nat} {T : TypeId} : ∀ (l : List Value) (o : Nat) (vs : Array Value) (W : World), W.heap[c]? = some (.cells vs T (0, 0)) -> (W.setCells c o l).heap[c]? = some (.cells (wrote vs o l) T (0, 0))
 | [], _, _, _, h => h
 | v :: l, o, vs, W, h => heap_setCells l (o + 1) (vs.setIfInBounds o v) (W.setCell ⟨c, o, none⟩ v) (by simp [World.setCell, Array.getElem?_modify, h])
end Go.Proofs.YtockffblncdikaaGreatDoor
