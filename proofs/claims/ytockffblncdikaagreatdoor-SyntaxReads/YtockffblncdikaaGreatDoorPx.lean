/- The printer, in memory. No walk. -/
import Derived.Test.YtockffblncdikaaGreatDoorPk
import Derived.Test.YtockffblncdikaaGreatDoorCx
import Derived.Lib.FrozenHead
namespace Go.Proofs.YtockffblncdikaaGreatDoor
open Go.RowKit
set_option maxRecDepth 100000
set_option maxHeartbeats 16000000
def isSL : LvB -> Bool
 | .succ _ => true
 | _ => false
def lw : LvB -> Nat
 | .zero => 2
 | .param _ => 2
 | .succ a => lw a + (if isSL a = true then 0 else 8)
 | .max a b => lw a + lw b + 10
 | .imax a b => lw a + lw b + 10
theorem lw_two : ∀ x, 2 <= lw x
 | .zero => Nat.le_refl _
 | .param _ => Nat.le_refl _
 | .succ a => by
   simp only [lw]
   exact Nat.le_trans (lw_two a) (Nat.le_add_right _ _)
 | .max a b => by simp only [lw]; omega
 | .imax a b => by simp only [lw]; omega
def xw : Ex -> Nat
 | .node _ _ _ _ _ _ _ ls xs => 24 + (ls.map fun l => lw l + 2).sum + (xs.map xw).sum
theorem xw_node (k a : Nat) (q : ByteArray) (b1 b2 b3 b4 : Bool) (ls : List LvB) (xs : List Ex) : xw (.node k a q b1 b2 b3 b4 ls xs) = 24 + (ls.map fun l => lw l + 2).sum + (xs.map xw).sum := by rw [xw]
def XAt (w : World) (S : Nat -> Prop) (e : Ex) (b o : Nat) : Prop := ∃ v, S b /\ InX w S e v /\ ∀ q, q < 9 -> w.cell? ⟨b, o + q, none⟩ = v[q]?
def LAt (w : World) (S : Nat -> Prop) (l : LvB) (b o : Nat) : Prop := ∃ v, S b /\ Three w b o v /\ InP w S l v
theorem XAt.keep {w w' : World} {S S' : Nat -> Prop} {e : Ex} {b o : Nat} (h : XAt w S e b o) (hk : ∀ b, b < w.heap.size -> S b -> S' b /\ w'.heap[b]? = w.heap[b]?) : XAt w' S' e b o := by
 obtain ⟨v, hs, hx, hc⟩ := h; have h1 := hk b (cells_lt hx.size hc) hs; exact ⟨v, h1.1, hx.keep hk, fun q hq => (World.cell?_of_block h1.2).trans (hc q hq)⟩
theorem LAt.keep {w w' : World} {S S' : Nat -> Prop} {l : LvB} {b o : Nat} (h : LAt w S l b o) (hk : ∀ b, b < w.heap.size -> S b -> S' b /\ w'.heap[b]? = w.heap[b]?) : LAt w' S' l b o := by
 obtain ⟨v, hs, h3, hp⟩ := h; have h1 := hk b h3.lt hs; exact ⟨v, h1.1, h3.of_block h1.2, hp.keep hk⟩
theorem XAt.lt {w : World} {S : Nat -> Prop} {e : Ex} {b o : Nat} (h : XAt w S e b o) : b < w.heap.size := by
 obtain ⟨v, _, hx, hc⟩ := h; exact cells_lt hx.size hc
theorem XAt.open {w : World} {S : Nat -> Prop} {kd a : Nat} {nm : ByteArray} {ex gi inf im : Bool} {ls : List LvB} {xs : List Ex} {b o : Nat} (h : XAt w S (.node kd a nm ex gi inf im ls xs) b o) :
 ∃ (A : Option Addr) (c : Nat) (A' : Option Addr) (c' : Nat), b < w.heap.size /\ S b /\ w.cell? ⟨b, o, none⟩ = some (.int .i64 (kd : Nat)) /\ w.cell? ⟨b, o + 2, none⟩ = some (.string nm) /\ w.cell? ⟨b, o + 3, none⟩ = some (.bool ex) /\ w.cell? ⟨b, o + 4, none⟩ = some (.bool gi) /\ w.cell? ⟨b, o + 5, none⟩ = some (.bool inf) /\ w.cell? ⟨b, o + 6, none⟩ = some (.bool im) /\
   w.cell? ⟨b, o + 7, none⟩ = some (.slice A ls.length c) /\ w.cell? ⟨b, o + 8, none⟩ = some (.slice A' xs.length c') /\
   (∀ i (hi : i < ls.length), ∃ g, A = some ⟨g, 0, none⟩ /\ LAt w S ls[i] g (i * 3)) /\ (∀ i (hi : i < xs.length), ∃ g, A' = some ⟨g, 0, none⟩ /\ XAt w S xs[i] g (i * 9)) := by
 have hlt := h.lt; obtain ⟨v, hs, hx, hc⟩ := h
 cases hx with
 | mk A c A' c' hl vs hb hv =>
   refine ⟨A, c, A', c', hlt, hs, hc 0 (by omega), hc 2 (by omega), hc 3 (by omega), hc 4 (by omega), hc 5 (by omega), hc 6 (by omega), hc 7 (by omega), hc 8 (by omega), fun i hi => ?_, fun i hi => ?_⟩
   . obtain ⟨g, x, e, hg, h3, hp⟩ := hl i hi
     exact ⟨g, e, x, hg, h3, hp⟩
   . obtain ⟨g, e, hg, _, hq⟩ := hb i hi
     exact ⟨g, e, vs i, hg, hv i hi, hq⟩
inductive Pc
 | tok (t : ByteArray)
 | ex (e : Ex) (t : List ByteArray) (b o k : Nat)
 | lv (l : LvB) (b o k : Nat)
 | en (e : Ex) (b o f : Nat)
namespace Pc
def cells : Pc -> Array Value
 | tok t => #[.string t, .pointer none, .pointer none, .int .i64 0, .bool false, .int .i64 0]
 | ex _ _ b o k => #[.string ⟨#[]⟩, .pointer (some ⟨b, o, none⟩), .pointer none, .int .i64 (k : Nat), .bool false, .int .i64 0]
 | lv _ b o k => #[.string ⟨#[]⟩, .pointer none, .pointer (some ⟨b, o, none⟩), .int .i64 (k : Nat), .bool false, .int .i64 0]
 | en _ b o f => #[.string ⟨#[]⟩, .pointer (some ⟨b, o, none⟩), .pointer none, .int .i64 0, .bool true, .int .i64 (f : Nat)]
def toks : Pc -> List ByteArray
 | tok t => [t]
 | ex e t _ _ k => inK e k t
 | lv l _ _ k => if k = 3 then latK l (lvK l 0) else lvK l 0
 | en .. => []
def wt : Pc -> Nat
 | tok _ => 1
 | ex e _ _ _ k => xw e + 3 * k
 | lv l _ _ k => lw l + k
 | en .. => 1
def Ok (w : World) (n0 : Nat) : Pc -> Prop
 | tok t => t.size <= 100
 | ex e t b o k => XAt w (fun b => b < n0) e b o /\ Sp e t /\ k <= 3 /\ ExFit 1000000 e
 | lv l b o k => LAt w (fun b => b < n0) l b o /\ GoodAt l 0 /\ k <= 3
 | en e b o f => XAt w (fun b => b < n0) e b o /\ 0 < e.xs.length /\ f <= 1099511627776
theorem size (p : Pc) : p.cells.size = 6 := by cases p <;> rfl
theorem one (p : Pc) : ∀ u ∈ p.cells.toList, u.oneCell' = true := by
 cases p <;> (intro u hu; simp [cells] at hu; rcases hu with rfl | rfl | rfl | rfl | rfl | rfl <;> rfl)
theorem wt_pos (p : Pc) : 0 < p.wt := by
 cases p with
 | tok t => exact Nat.one_pos
 | ex e t b o k => obtain ⟨kd, a, nm, ex, gi, inf, im, ls, xs⟩ := e; show 0 < xw _ + 3 * k; rw [xw_node]; omega
 | lv l b o k => show 0 < lw l + k; have := lw_two l; omega
 | en => exact Nat.one_pos
theorem Ok.keep {w w' : World} {n0 : Nat} {p : Pc} (h : p.Ok w n0) (hk : ∀ b, b < n0 -> w'.heap[b]? = w.heap[b]?) : p.Ok w' n0 := by
 cases p with
 | tok t => exact h
 | ex e t b o k => exact ⟨h.1.keep fun b _ hb => ⟨hb, hk b hb⟩, h.2⟩
 | lv l b o k => exact ⟨h.1.keep fun b _ hb => ⟨hb, hk b hb⟩, h.2⟩
 | en e b o f => exact ⟨h.1.keep fun b _ hb => ⟨hb, hk b hb⟩, h.2⟩
end Pc
def flatP (st : List Pc) : List Value := st.flatMap fun p => p.cells.toList
def popT (st : List Pc) : List ByteArray := st.reverse.flatMap Pc.toks
def wtS (st : List Pc) : Nat := (st.map Pc.wt).sum
theorem flatP_len : ∀ st : List Pc, (flatP st).length = st.length * 6
 | [] => rfl
 | p :: st => by
   have e : flatP (p :: st) = p.cells.toList ++ flatP st := rfl; rw [e, List.length_append, flatP_len st, Array.length_toList, p.size, List.length_cons, Nat.add_mul]; omega
theorem flatP_append (a b : List Pc) : flatP (a ++ b) = flatP a ++ flatP b := by simp [flatP]
theorem flatP_one (p : Pc) : flatP [p] = p.cells.toList := by simp [flatP]
theorem popT_append (a b : List Pc) : popT (a ++ b) = popT b ++ popT a := by simp [popT]
theorem popT_one (p : Pc) : popT [p] = p.toks := by simp [popT]
theorem popT_reverse (l : List Pc) : popT l.reverse = l.flatMap Pc.toks := by simp [popT]
theorem wtS_append (a b : List Pc) : wtS (a ++ b) = wtS a + wtS b := by simp [wtS]
theorem wtS_one (p : Pc) : wtS [p] = p.wt := by simp [wtS]
theorem wtS_reverse (l : List Pc) : wtS l.reverse = wtS l := by unfold wtS; rw [List.map_reverse, List.sum_reverse]
theorem wtS_len : ∀ st : List Pc, st.length <= wtS st
 | [] => Nat.le_refl _
 | p :: st => by
   have h := wtS_len st; have := p.wt_pos; have e : wtS (p :: st) = p.wt + wtS st := by simp [wtS]
   rw [e, List.length_cons]; omega
theorem ownsRow_pop {W : World} {B : Nat} {T : TypeId} {z n cap : Nat} {A : Option Addr} {xs ys : List Value} (h : W.ownsRow B T z (.slice A (n + 1) cap) (n + 1) (xs ++ ys)) (hy : ys.length = z) : ∃ g, A = some ⟨g, 0, none⟩ /\ n + 1 <= cap /\ g < W.heap.size /\ W.ownsRow B T z (.slice A n cap) n xs /\ ∀ q, q < z -> W.cell? ⟨g, n * z + q, none⟩ = ys[q]? := by
 rcases h.2 with ⟨_, h0⟩ | ⟨g, cap', cur, e, hb, hg, hnc, hcm, hcs, htake⟩
 . omega
 . injection e with e1 e2 e3
   subst e1; subst e3
   have hl : xs.length = n * z := by
    have := h.1; rw [List.length_append, hy, Nat.add_mul] at this; omega
   refine ⟨g, rfl, hnc, (Array.getElem?_eq_some_iff.1 hg).1, ⟨hl, .inr ⟨g, cap, cur, rfl, hb, hg, by omega, hcm, hcs, ?_⟩⟩, fun q hq => ?_⟩
   . have : (cur.toList.take ((n + 1) * z)).take (n * z) = (xs ++ ys).take (n * z) := by rw [htake]
     rw [List.take_take, Nat.min_eq_left (Nat.mul_le_mul_right _ (Nat.le_succ _))] at this; rw [this, <- hl, List.take_left]
   . have hc : W.cell? ⟨g, n * z + q, none⟩ = cur[n * z + q]? := by simp [World.cell?, hg]
     have hlt : n * z + q < (n + 1) * z := by rw [Nat.add_mul]; omega
     have e1 : (cur.toList.take ((n + 1) * z))[n * z + q]? = cur[n * z + q]? := by rw [List.getElem?_take, if_pos hlt]; simp
     rw [hc, <- e1, htake, <- hl, List.getElem?_append_right (Nat.le_add_right _ _)]
     congr 1
     omega
theorem ownsRow_ne {W : World} {B : Nat} {T T' : TypeId} {z n b : Nat} {v : Value} {xs : List Value} {cs : Array Value} {fr : Nat × Nat} (h : W.ownsRow B T z v n xs) (hb : W.heap[b]? = some (.cells cs T' fr)) (hT : T' ≠ T) : v.ownBlock ≠ some b := by
 rcases h.2 with ⟨rfl, _⟩ | ⟨g, cap, cur, rfl, _, hg, _⟩
 . simp [Value.ownBlock]
 . intro e
   simp only [Value.ownBlock, Option.some.injEq] at e
   subst e; rw [hg] at hb; injection hb with hb; injection hb with _ e2 _; exact hT e2.symm
theorem ownsRowF_ne {W : World} {B : Nat} {T T' : TypeId} {z n b : Nat} {v : Value} {xs : List Value} {cs : Array Value} {fr : Nat × Nat} (h : W.ownsRowF B T z v n xs) (hb : W.heap[b]? = some (.cells cs T' fr)) (hT : T' ≠ T) : v.ownBlock ≠ some b := by
 rcases h.2 with ⟨rfl, _⟩ | ⟨g, cap, cur, fz, rfl, _, hg, _⟩
 . simp [Value.ownBlock]
 . intro e
   simp only [Value.ownBlock, Option.some.injEq] at e
   subst e; rw [hg] at hb; injection hb with hb; injection hb with _ e2 _; exact hT e2.symm
theorem ownsRow_ne_map {W : World} {B : Nat} {T : TypeId} {z n b : Nat} {v : Value} {xs : List Value} {es : Array MapEntry} {c : Nat} (h : W.ownsRow B T z v n xs) (hb : W.heap[b]? = some (.map es c)) : v.ownBlock ≠ some b := by
 rcases h.2 with ⟨rfl, _⟩ | ⟨g, cap, cur, rfl, _, hg, _⟩
 . simp [Value.ownBlock]
 . intro e
   simp only [Value.ownBlock, Option.some.injEq] at e
   subst e; rw [hg] at hb
   cases hb
theorem ownsRowF_ne_map {W : World} {B : Nat} {T : TypeId} {z n b : Nat} {v : Value} {xs : List Value} {es : Array MapEntry} {c : Nat} (h : W.ownsRowF B T z v n xs) (hb : W.heap[b]? = some (.map es c)) : v.ownBlock ≠ some b := by
 rcases h.2 with ⟨rfl, _⟩ | ⟨g, cap, cur, fz, rfl, _, hg, _⟩
 . simp [Value.ownBlock]
 . intro e
   simp only [Value.ownBlock, Option.some.injEq] at e
   subst e; rw [hg] at hb
   cases hb
def KeyF (w : World) (n0 : Nat) (v : Value) : Prop := ∃ (b : Nat) (k : Int) (nm : ByteArray) (im : Bool), v = .agg #[.pointer (some ⟨b, 0, none⟩), .int .i64 k, .string nm, .bool im] /\ b < n0 /\ Opn w b /\ ∃ u, w.cell? ⟨b, 0, none⟩ = some u
theorem KeyF.keep {w w' : World} {n0 : Nat} {v : Value} (h : KeyF w n0 v) (hk : ∀ b, b < n0 -> b < w.heap.size -> w'.heap[b]? = w.heap[b]?) : KeyF w' n0 v := by
 obtain ⟨b, k, nm, im, e, hb, ho, u, hu⟩ := h; have h1 := hk b hb (World.block_lt_of_cell? _ _ hu); exact ⟨b, k, nm, im, e, hb, ho.keep h1, u, (World.cell?_of_block (a := ⟨b, 0, none⟩) h1).trans hu⟩
def MapOk (w : World) (n0 mb n : Nat) : Prop := n0 <= mb /\ ∃ (es : Array MapEntry) (c : Nat), w.heap[mb]? = some (.map es c) /\ (0 < es.size -> 8388608 <= n) /\ ∀ e ∈ es.toList, KeyF w n0 e.key /\ ∃ f t : Nat, f <= t /\ t <= n /\ e.val = .agg #[.int .i64 (f : Nat), .int .i64 (t : Nat)]
theorem MapOk.lt {w : World} {n0 mb n : Nat} (h : MapOk w n0 mb n) : mb < w.heap.size := by
 obtain ⟨_, es, c, hb, _⟩ := h; exact (Array.getElem?_eq_some_iff.1 hb).1
theorem MapOk.more {w : World} {n0 mb n m : Nat} (h : MapOk w n0 mb n) (hn : n <= m) : MapOk w n0 mb m := by
 obtain ⟨h0, es, c, hb, h1, h2⟩ := h; refine ⟨h0, es, c, hb, fun x => Nat.le_trans (h1 x) hn, fun e he => ?_⟩; obtain ⟨hk, f, t, h3, h4, h5⟩ := h2 e he; exact ⟨hk, f, t, h3, Nat.le_trans h4 hn, h5⟩
def tacWs : List ByteArray := ⟨#[]⟩ :: tacWords
structure Wk where
 b : Bool
 k : Nat
 o : Option (Array Value)
def Kp (w : World) (wr : Wk) : Prop := ∀ cs, wr.o = some cs -> w.heap[wr.k]? = some (.cells cs 148 (0, 0))
def TacOk (w : World) (n0 pb : Nat) (wr : Wk) (v : Value) : Prop := ∃ tb c, v = .slice (some ⟨tb, 0, none⟩) 14 c /\ n0 <= tb /\ tb ≠ pb /\ tb < w.heap.size /\ (∀ cs T f, w.heap[tb]? = some (.cells cs T f) -> T = 9) /\ (∀ es c, w.heap[tb]? ≠ some (.map es c)) /\ (∀ k, k < 14 -> w.cell? ⟨tb, k, none⟩ = some (.string (tacWs.getD k ⟨#[]⟩))) /\ Kp w wr
theorem TacOk.kp {w : World} {n0 pb : Nat} {wr : Wk} {v : Value} (h : TacOk w n0 pb wr v) : Kp w wr := by
 obtain ⟨_, _, _, _, _, _, _, _, _, h⟩ := h; exact h
theorem Kp.ne {w : World} {wr : Wk} (h : Kp w wr) {k : Nat} {cs' : Array Value} {T : TypeId} {f : Nat × Nat} (hb : w.heap[k]? = some (.cells cs' T f)) (hT : T ≠ 148) : ∀ cs, wr.o = some cs -> some k ≠ some wr.k := fun cs hc e => by
 injection e with e; have := h cs hc; rw [<- e, hb] at this; injection this with this; injection this with _ this _; exact hT this
def BufOk (w : World) (n0 pb : Nat) (pp bv : Value) (l : List UInt8) : Prop := (pp = .pointer none \/ pp = .pointer (some ⟨pb, 0, none⟩)) /\ w.ownsRowF n0 5 1 bv l.length (Lib.byteCells l)
structure PR (W : World) (n0 pb : Nat) (wr : Wk) (n : Nat) (l : List UInt8) (st : List Pc) (pp bv tv : Value) (mb : Nat) (tac : Value) : Prop where
 lo : n0 <= pb
 stk : W.ownsRow n0 106 6 tv st.length (flatP st)
 ok : ∀ p ∈ st, p.Ok W n0
 map : MapOk W n0 mb n
 buf : wr.b = true -> BufOk W n0 pb pp bv l
 tac : TacOk W n0 pb wr tac
structure PX (W : World) (n0 pb : Nat) (wr : Wk) (n : Nat) (l : List UInt8) (tg : Bool) (st : List Pc) (pp bv tv : Value) (mb : Nat) (tac : Value) : Prop where
 blk : W.heap[pb]? = some (.cells #[pp, bv, .bool wr.b, .int .i64 (n : Nat), .int .i64 8589934592, .bool tg, tv, .int .i64 33554432, .map (some mb), tac] 75 (0, 0))
 few : n <= 8589934592
 rest : PR W n0 pb wr n l st pp bv tv mb tac
def PS (W : World) (n0 pb : Nat) (wr : Wk) (l : List UInt8) (tg : Bool) (st : List Pc) : Prop := ∃ pp bv tv mb tac, PX W n0 pb wr l.length l tg st pp bv tv mb tac
section
variable {W W' : World} {n0 pb n : Nat} {wr : Wk} {tg : Bool} {l : List UInt8} {st : List Pc} {pp bv tv tac : Value} {mb : Nat}
theorem PR.frame {row : Option Nat} (h : PR W n0 pb wr n l st pp bv tv mb tac) (hg : W.grownBy W' row) (h0 : ∀ b, row = some b -> n0 <= b) (h1 : tv.ownBlock = none \/ tv.ownBlock ≠ row) (h2 : row ≠ some mb) (h3 : wr.b = true -> bv.ownBlock = none \/ bv.ownBlock ≠ row) (h4 : ∀ tb c, tac = .slice (some ⟨tb, 0, none⟩) 14 c -> row ≠ some tb) (h5 : ∀ cs, wr.o = some cs -> row ≠ some wr.k) : PR W' n0 pb wr n l st pp bv tv mb tac := by
 have low : ∀ b, b < n0 -> b < W.heap.size -> W'.heap[b]? = W.heap[b]? := fun b hb hl => hg.block b hl fun e => by have := h0 b e.symm; omega
 refine ⟨h.lo, h.stk.kept hg h1, fun p hp => ?_, ?_, fun hw => ⟨(h.buf hw).1, (h.buf hw).2.kept hg (h3 hw)⟩, ?_⟩
 . have := h.ok p hp
   cases p with
   | tok t => exact this
   | ex e t b o k => exact ⟨this.1.keep fun b hl hb => ⟨hb, low b hb hl⟩, this.2⟩
   | lv x b o k => exact ⟨this.1.keep fun b hl hb => ⟨hb, low b hb hl⟩, this.2⟩
   | en e b o f => exact ⟨this.1.keep fun b hl hb => ⟨hb, low b hb hl⟩, this.2⟩
 . have hl := h.map.lt
   obtain ⟨hm, es, c, hb, r1, r2⟩ := h.map; exact ⟨hm, es, c, (hg.block mb hl (Ne.symm h2)).trans hb, r1, fun e he => ⟨(r2 e he).1.keep low, (r2 e he).2⟩⟩
 . obtain ⟨tb, c, e, q5, h6, h7, h8, h8', h9, hkp⟩ := h.tac
   have hk := hg.block tb h7 (Ne.symm (h4 tb c e))
   exact ⟨tb, c, e, q5, h6, Nat.lt_of_lt_of_le h7 hg.size, fun cs T f hb => h8 cs T f (hk ▸ hb), fun es c hb => h8' es c (hk ▸ hb), fun k hk' => (World.cell?_of_block hk).trans (h9 k hk'), fun cs hc => (hg.block wr.k (Array.getElem?_eq_some_iff.1 (hkp cs hc)).1 (Ne.symm (h5 cs hc))).trans (hkp cs hc)⟩
theorem Below.grown0 (h : Below W.heap.size W W') : W.grownBy W' none := ⟨h.os, h.tape, h.output, h.size, fun k hk _ => h.block k hk⟩
theorem PR.later (h : PR W n0 pb wr n l st pp bv tv mb tac) (hb : Below W.heap.size W W') : PR W' n0 pb wr n l st pp bv tv mb tac :=
 h.frame (row := none) (Below.grown0 hb) (fun b e => by cases e) (Classical.em _) (by simp) (fun _ => Classical.em _) (fun _ _ _ => by simp) (fun _ _ => by simp)
theorem PX.later (h : PX W n0 pb wr n l tg st pp bv tv mb tac) (hb : Below W.heap.size W W') : PX W' n0 pb wr n l tg st pp bv tv mb tac :=
 ⟨(hb.block pb (Array.getElem?_eq_some_iff.1 h.blk).1).trans h.blk, h.few, h.rest.later hb⟩
theorem PS.later (h : PS W n0 pb wr l tg st) (hb : Below W.heap.size W W') : PS W' n0 pb wr l tg st := by
 obtain ⟨pp, bv, tv, mb, tac, h⟩ := h; exact ⟨pp, bv, tv, mb, tac, h.later hb⟩
theorem PX.lt (h : PX W n0 pb wr n l tg st pp bv tv mb tac) : pb < W.heap.size := (Array.getElem?_eq_some_iff.1 h.blk).1
theorem PS.lt (h : PS W n0 pb wr l tg st) : pb < W.heap.size := by obtain ⟨_, _, _, _, _, h⟩ := h; exact h.lt
theorem PS.lo (h : PS W n0 pb wr l tg st) : n0 <= pb := by obtain ⟨_, _, _, _, _, h⟩ := h; exact h.rest.lo
theorem PS.few (h : PS W n0 pb wr l tg st) : l.length <= 8589934592 := by obtain ⟨_, _, _, _, _, h⟩ := h; exact h.few
theorem setCell_grown (W : World) (pb i : Nat) (u : Value) : W.grownBy (W.setCell ⟨pb, i, none⟩ u) (some pb) :=
 ⟨rfl, rfl, rfl, by simp [World.setCell], fun k _ hk => Below.heap_setCell _ _ _ _ (fun e => hk (by rw [e]))⟩
theorem PX.setRest (h : PX W n0 pb wr n l tg st pp bv tv mb tac) (i : Nat) (u : Value) : PR (W.setCell ⟨pb, i, none⟩ u) n0 pb wr n l st pp bv tv mb tac := by
 refine h.rest.frame (setCell_grown W pb i u) (fun b e => by injection e with e; rw [<- e]; exact h.rest.lo) (.inr (ownsRow_ne h.rest.stk h.blk (by decide))) (fun e => ?_) (fun hw => .inr (ownsRowF_ne (h.rest.buf hw).2 h.blk (by decide))) (fun tb c e e2 => ?_) (h.rest.tac.kp.ne h.blk (by decide))
 . injection e with e
   obtain ⟨_, es, c, hb, _⟩ := h.rest.map; rw [<- e, h.blk] at hb
   cases hb
 . injection e2 with e2
   obtain ⟨tb', c', e', _, h6, _⟩ := h.rest.tac; rw [e'] at e; injection e with e _ _; injection e with e; injection e with e _ _; exact h6 (by rw [e, <- e2])
theorem PX.setTg (h : PX W n0 pb wr n l tg st pp bv tv mb tac) (b : Bool) : PX (W.setCell ⟨pb, 5, none⟩ (.bool b)) n0 pb wr n l b st pp bv tv mb tac :=
 ⟨heap_setCell_same W pb 5 _ _ _ h.blk, h.few, h.setRest _ _⟩
theorem PX.setLen (h : PX W n0 pb wr n l tg st pp bv tv mb tac) {m : Nat} (hn : n <= m) : PR (W.setCell ⟨pb, 3, none⟩ (.int .i64 (m : Nat))) n0 pb wr m l st pp bv tv mb tac /\ (W.setCell ⟨pb, 3, none⟩ (.int .i64 (m : Nat))).heap[pb]? = some (.cells #[pp, bv, .bool wr.b, .int .i64 (m : Nat), .int .i64 8589934592, .bool tg, tv, .int .i64 33554432, .map (some mb), tac] 75 (0, 0)) := by
 have := h.setRest 3 (.int .i64 (m : Nat)); exact ⟨⟨this.lo, this.stk, this.ok, this.map.more hn, this.buf, this.tac⟩, heap_setCell_same W pb 3 _ _ _ h.blk⟩
theorem PX.setTodo {st' : List Pc} {tv' : Value} (h : PX W n0 pb wr n l tg st pp bv tv mb tac) (hs : W.ownsRow n0 106 6 tv' st'.length (flatP st')) (hok : ∀ p ∈ st', p.Ok W n0) : PX (W.setCell ⟨pb, 6, none⟩ tv') n0 pb wr n l tg st' pp bv tv' mb tac := by
 have hr := h.setRest 6 tv'; have h' : PX W n0 pb wr n l tg st' pp bv tv mb tac -> True := fun _ => trivial
 have hs' : (W.setCell ⟨pb, 6, none⟩ tv').ownsRow n0 106 6 tv' st'.length (flatP st') := hs.kept (setCell_grown W pb 6 tv') (.inr (ownsRow_ne hs h.blk (by decide)))
 refine ⟨heap_setCell_same W pb 6 _ _ _ h.blk, h.few, ⟨hr.lo, hs', fun p hp => (hok p hp).keep fun b hb => Below.heap_setCell _ _ _ _ (by have := h.rest.lo; show b ≠ pb; omega), hr.map, hr.buf, hr.tac⟩⟩
theorem PX.c (h : PX W n0 pb wr n l tg st pp bv tv mb tac) : W.cell? ⟨pb, 0, none⟩ = some pp /\ W.cell? ⟨pb, 1, none⟩ = some bv /\ W.cell? ⟨pb, 2, none⟩ = some (.bool wr.b) /\ W.cell? ⟨pb, 3, none⟩ = some (.int .i64 (n : Nat)) /\ W.cell? ⟨pb, 4, none⟩ = some (.int .i64 8589934592) /\ W.cell? ⟨pb, 5, none⟩ = some (.bool tg) /\ W.cell? ⟨pb, 6, none⟩ = some tv /\ W.cell? ⟨pb, 7, none⟩ = some (.int .i64 33554432) /\ W.cell? ⟨pb, 8, none⟩ = some (.map (some mb)) /\ W.cell? ⟨pb, 9, none⟩ = some tac /\ ∀ i, W.frozen? ⟨pb, i, none⟩ = false :=
 ⟨cell_of h.blk 0 rfl, cell_of h.blk 1 rfl, cell_of h.blk 2 rfl, cell_of h.blk 3 rfl, cell_of h.blk 4 rfl, cell_of h.blk 5 rfl, cell_of h.blk 6 rfl, cell_of h.blk 7 rfl, cell_of h.blk 8 rfl, cell_of h.blk 9 rfl, frozen_of h.blk⟩
end
def Thr (n0 : Nat) (w : World) (e : Ending) (w' : World) : Prop := Below n0 w w' /\ ∃ fb, e = .panicked [{ v := .iface 41 (.pointer (some ⟨fb, 0, none⟩)), recovered := false }]
end Go.Proofs.YtockffblncdikaaGreatDoor
