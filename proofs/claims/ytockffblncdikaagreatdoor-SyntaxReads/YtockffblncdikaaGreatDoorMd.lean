/- The contract of made: an expression of these parts. -/
import Derived.Test.YtockffblncdikaaGreatDoorLl
import Derived.Shelf.Spec.SlicesGrow
namespace Go.Proofs.YtockffblncdikaaGreatDoor
open Go.RowKit Go.Shelf
set_option maxRecDepth 100000
set_option maxHeartbeats 16000000
def growX_ren : Go.Shelf.Ren := ⟨fun | 4 => 86 | n => n, fun | 22 => 57 | 25 => 59 | n => n, fun | n => n⟩
theorem growX : Lays8.n4 Tryz.prog growX_ren := {
 mixed := by kernel_rfl
 f4 := ⟨Tryz.f86.name, by kernel_rfl, Tryz.func86.trans (congrArg some (by kernel_rfl))⟩
 t0 := Tryz.underlying0
 a0 := Tryz.isAgg0
 z0 := Tryz.sizeOf0
 v0 := Tryz.zeroValue0
 t3 := Tryz.underlying3
 a3 := Tryz.isAgg3
 z3 := Tryz.sizeOf3
 v3 := Tryz.zeroValue3
 t4 := Tryz.underlying4
 a4 := Tryz.isAgg4
 z4 := Tryz.sizeOf4
 v4 := Tryz.zeroValue4
 t9 := Tryz.underlying9
 a9 := Tryz.isAgg9
 z9 := Tryz.sizeOf9
 v9 := Tryz.zeroValue9
 t20 := Tryz.underlying20
 a20 := Tryz.isAgg20
 z20 := Tryz.sizeOf20
 v20 := Tryz.zeroValue20
 t22 := Tryz.underlying57
 a22 := Tryz.isAgg57
 z22 := Tryz.sizeOf57
 v22 := Tryz.zeroValue57 }
theorem Tryz.info59' : (Tryz.prog.info? 59).map (fun i => (i.zero, i.size, i.bytes)) = some (some (.agg (xcs 0 0 ⟨#[]⟩ false false false false (.slice none 0 0) (.slice none 0 0))), 9, 88) := by kernel_rfl
theorem Tryz.size43 : (Tryz.prog.info? 59).map (·.size) = some 9 := by kernel_rfl
theorem xgrow_calls (n : Nat) (w : World) (hn : n <= 20000) : Calls Tryz.prog 86 #[.slice none 0 0, .int .i64 (n : Nat)] w fun e w' => ∃ A c, e = .returned (.slice A 0 c) /\ w'.ownsRow w.heap.size 59 9 (.slice A 0 c) 0 [] /\ Below w.heap.size w w' := by
 by_cases h0 : n = 0
 . subst h0
   exact (Any8.slices_Grow_room growX none 0 0 0 w (by omega) (by omega) (by omega) (by omega)).mono fun _ _ ⟨he, hw⟩ => ⟨none, 0, he, by rw [hw]; exact World.ownsRow_nil _ _ _ _, by rw [hw]; exact Below.refl _ _⟩
 . obtain ⟨i0, hi, hz0, hz1, hz2⟩ := infoParts Tryz.info59'
   refine (Any8.slices_Grow_grow growX i0 _ hi hz0 (by rw [hz1]; decide) none 0 0 n [] w (by omega) (by omega) (by rw [hz2]; omega) (by omega) (by simp) (fun _ => rfl) (fun a e => by cases e)).mono ?_
   rintro e w' ⟨rfl, rfl⟩; have hG := grownCap_ge w (0 + n) 0 (growX_ren.t 25); have hM := grownCap_le_maxLen w (0 + n) 0 (growX_ren.t 25) (by unfold maxLen; omega)
   refine ⟨_, _, rfl, World.ownsRow_made (base := w.heap.size) (e := 59) (size := 9) w.drew _ _ (Nat.le_refl _) hM ?_, ((Below.refl _ _).drew).alloc (Nat.le_refl _) _⟩
   generalize grownCap w (0 + n) 0 (growX_ren.t 25) = G at *
   simp only [Array.size_append, size_zeroCells, Value.cells, List.size_toArray, List.length_nil, List.length_cons]
   omega
theorem step_append_own {P : Program} {ops : Array Oper} {o : Oper} {a : Act} {w : World} {K : Act -> World -> Prop} {Q : Exit -> Act -> World -> Prop} {E : Prop}
 (hg : o.guard = none) (s x : Operand) (t : TypeId) (hop : o.op = Op.call { callee := Callee.builtin Builtin.append, args := #[s, x], argTypes := #[t, t] })
 (base : Nat) (e : TypeId) (i : TypeInfo) (z : Value) (size bytes : Nat) (h1 : P.underlying t = some (.slice e)) (h2 : P.info? e = some i) (h3 : i.zero = some z) (h4 : i.size = size) (h5 : i.bytes = bytes) (h6 : z.cells.size = size) (h7 : 0 < size)
 (v : Value) (n : Nat) (xs : List Value) (hs : a.eval s = v) (hown : w.ownsRow base e size v n xs)
 (ad : Addr) (m c : Nat) (news : List Value) (hx : a.eval x = .slice (some ad) m c) (hn : news.length = m * size) (hc : ∀ j u, news[j]? = some u -> w.cell? (ad.add j) = some u) (h1c : ∀ u ∈ news, u.oneCell' = true) (hm : 0 < m)
 (b1 : n + m <= maxLen) (b2 : (n + m) * bytes <= 140737488355328) (hbase : base <= w.heap.size)
 (hK : ∀ v' w', w'.ownsRow base e size v' (n + m) (xs ++ news) -> w.grownBy w' v.ownBlock -> (v'.ownBlock = v.ownBlock \/ v'.ownBlock = some w.heap.size) -> K (a.put o.dst v') w') :
 if Region.wanted o (yielded ops a.tmps) = true then Oper.wp P o a w K Q else E := by
 have hw : Region.wanted o (yielded ops a.tmps) = true := by simp [Region.wanted, hg]
 rw [if_pos hw]; obtain ⟨v', w', hr, r1, r2, _⟩ := run_append_own (P := P) w base t o.type e i z size bytes h1 h2 h3 h4 h5 h6 h7 v n xs hown ad m c news hn hc h1c b1 b2 hbase
 have hp := append_place (P := P) w base t o.type e i z size bytes h1 h2 h3 h4 h5 v n xs hown ad m c news hn hc h1c hm b1 b2 hr; unfold Oper.wp execOp
 simp only [hop, resolve, invoke, builtin, Sem.run_bind, Sem.run_pure, Result.andThen_ok, List.map_toArray, List.map_cons, List.map_nil, hs, hx, hr]
 exact hK v' w' r1 r2 hp
theorem ownsRow_stores {base e size g n cap : Nat} : ∀ (vs zs xs : List Value) (w : World), vs.length = zs.length -> w.ownsRow base e size (.slice (some ⟨g, 0, none⟩) n cap) n (xs ++ zs) ->
 (w.setCells g xs.length vs).ownsRow base e size (.slice (some ⟨g, 0, none⟩) n cap) n (xs ++ vs) /\ w.grownBy (w.setCells g xs.length vs) (some g)
 | [], zs, xs, w, hl, h => by
   have : zs = [] := List.length_eq_zero_iff.1 hl.symm; subst this; exact ⟨h, World.grownBy.refl _ _⟩
 | v :: vs, [], xs, w, hl, h => by simp at hl
 | v :: vs, z :: zs, xs, w, hl, h => by
   obtain ⟨h1, h3⟩ := h.stored xs.length v; have e1 : (xs ++ z :: zs).set xs.length v = (xs ++ [v]) ++ zs := by simp
   rw [e1] at h1; obtain ⟨h2, h4⟩ := ownsRow_stores vs zs (xs ++ [v]) _ (by simpa using hl) h1; have e2 : (xs ++ [v]).length = xs.length + 1 := by simp
   rw [e2] at h2 h4; refine ⟨?_, Touched.trans (m := g) h3 h4⟩; rw [show xs ++ v :: vs = xs ++ [v] ++ vs by simp]; exact h2
theorem row_there {w : World} {base e size g n cap : Nat} {xs : List Value} (h : w.ownsRow base e size (.slice (some ⟨g, 0, none⟩) n cap) n xs) {o m : Nat} (hm : o + m <= n * size) : w.there g o m := fun j hj => by
 refine ⟨?_, h.frozenAt _⟩; rw [h.cellAt (o + j) (by omega)]; rw [List.getElem?_eq_getElem (by have := h.1; omega)]
 rfl
theorem setCell_comm (w : World) (a b : Addr) (u v : Value) (h : a.block ≠ b.block) : (w.setCell a u).setCell b v = (w.setCell b v).setCell a u := by
 unfold World.setCell
 congr 1
 apply Array.ext_getElem?
 intro i
 simp only [Array.getElem?_modify]
 by_cases h1 : b.block = i
 . have h2 : a.block ≠ i := fun e => h (e.trans h1.symm)
   simp [h1, h2]
 . simp [h1]
theorem setCells_comm (a : Addr) (u : Value) (g : Nat) (h : a.block ≠ g) : ∀ (vs : List Value) (o : Nat) (w : World), (w.setCell a u).setCells g o vs = (w.setCells g o vs).setCell a u
 | [], _, _ => rfl
 | v :: vs, o, w => by
   show ((w.setCell a u).setCell ⟨g, o, none⟩ v).setCells g (o + 1) vs = _; rw [setCell_comm w a ⟨g, o, none⟩ u v h]; exact setCells_comm a u g h vs (o + 1) _
section
variable {K : World -> (Nat -> Prop) -> Nat -> Value -> Prop} {W : World} {T z B n0 k : Nat} {rv : Value} {xs : List Value}
theorem GRow.pushO (hK : Keeps K) (h : GRow K W T z B n0 k rv xs) {w5 w6 : World} {m : Nat} {rv' : Value} {a : Array Value} {o : Obj} (hBn : B <= n0) (hnm : n0 <= m) (hm : ∀ g, rv.ownBlock = some g -> g < m)
 (hw : Below W.heap.size W w5) (hx : K w5 (fun b => b < B \/ m <= b) k (.agg a)) (ha : a.size = z)
 (hown : w6.ownsRow n0 T z rv' (k + 1) (flat xs ++ a.toList)) (hgr : (w5.alloc o).grownBy w6 rv.ownBlock)
 (hpl : rv'.ownBlock = rv.ownBlock \/ rv'.ownBlock = some (w5.alloc o).heap.size) : GRow K w6 T z B n0 (k + 1) rv' (xs ++ [.agg a]) := by
 have hz := hw.size
 have hblock : ∀ b, b < w5.heap.size -> rv.ownBlock ≠ some b -> w6.heap[b]? = w5.heap[b]? := fun b hb hne => by
  rw [hgr.block b (by simp; omega) (fun e => hne e.symm)]; exact Below.heap_alloc _ _ _ hb
 have hne' : ∀ b, b < w5.heap.size -> rv.ownBlock ≠ some b -> rv'.ownBlock ≠ some b := fun b hb hne => by
  rcases hpl with e | e
  . rw [e]; exact hne
  . rw [e]; simp; omega
 refine ⟨?_, by simp [h.len], fun i hi => ?_, fun j hj => ?_⟩
 . have : flat (xs ++ [Value.agg a]) = flat xs ++ a.toList := by rw [flat_append]; simp [flat]
   rw [this]; exact hown
 . by_cases hix : i < xs.length
   . rw [List.getElem_append_left hix]; exact h.forms i hix
   . have e : i = xs.length := by simp at hi; omega
     subst e; rw [List.getElem_append_right (Nat.le_refl _)]; exact ⟨a, by simp, ha⟩
 . by_cases hjx : j < xs.length
   . rw [List.getElem_append_left hjx]
     refine hK _ _ _ _ _ _ (fun b hb hS => ⟨⟨hS.1, hne' b (by omega) hS.2⟩, ?_⟩) (h.parts j hjx); rw [hblock b (by omega) hS.2]; exact hw.block b hb
   . have e : j = xs.length := by simp at hj; omega
     subst e; rw [List.getElem_append_right (Nat.le_refl _)]
     simp only [Nat.sub_self, List.getElem_cons_zero]
     rw [h.len]; refine hK _ _ _ _ _ _ (fun b hb hS => ?_) hx
     have hne : rv.ownBlock ≠ some b := fun e => by
      have h1 := hm b e; have h2 := (h.own.lt b e).1; omega
     exact ⟨⟨hS.imp id fun h3 => by omega, hne' b hb hne⟩, hblock b hb hne⟩
end
def XP (w : World) (S : Nat -> Prop) (pb : Nat) (x : Ex) : Prop := ∃ v : Array Value, w.heap[pb]? = some (.cells v 59 (0, 0)) /\ InX w S x v
theorem XP.lt {w : World} {S : Nat -> Prop} {pb : Nat} {x : Ex} (h : XP w S pb x) : pb < w.heap.size := by obtain ⟨v, h, _⟩ := h; exact (Array.getElem?_eq_some_iff.1 h).1
theorem XP.keep {w w' : World} {S S' : Nat -> Prop} {pb : Nat} {x : Ex} (h : XP w S pb x) (hp : w'.heap[pb]? = w.heap[pb]?) (hk : ∀ b, b < w.heap.size -> S b -> S' b /\ w'.heap[b]? = w.heap[b]?) : XP w' S' pb x := by
 obtain ⟨v, h1, h2⟩ := h; exact ⟨v, hp.trans h1, h2.keep hk⟩
theorem XP.later {w w' : World} {S : Nat -> Prop} {pb : Nat} {x : Ex} (h : XP w S pb x) (hb : Below w.heap.size w w') : XP w' S pb x := h.keep (hb.block _ h.lt) fun b hb' hs => ⟨hs, hb.block b hb'⟩
theorem block_range {w : World} {b : Nat} {v : Array Value} {T : TypeId} (h : w.heap[b]? = some (.cells v T (0, 0))) : w.rangeAt b 0 v.toList := fun j u hj => by
 rw [Nat.zero_add]; exact cell_of h j (by simpa using hj)
def MadeX (w : World) (S : Nat -> Prop) (kd a : Nat) (nm : ByteArray) (xs : List Ex) (e : Ending) (w' : World) : Prop :=
 ∃ (eb : Nat) (A : Option Addr) (c : Nat), e = .returned (.pointer (some ⟨eb, 0, none⟩)) /\ w.heap.size <= eb /\ w'.heap[eb]? = some (.cells (xcs (kd : Nat) (a : Nat) nm false false false false (.slice none 0 0) (.slice A xs.length c)) 59 (0, 0)) /\
   XsIn w' (fun b => (S b \/ w.heap.size <= b) /\ b ≠ eb) A xs /\ Below w.heap.size w w'
def XKR (Q : Nat -> Prop) (xs : List Ex) (W : World) (S : Nat -> Prop) (j : Nat) (v : Value) : Prop := ∃ h : j < xs.length, ∃ a, v = .agg a /\ InX W (fun b => S b /\ Q b) xs[j] a
theorem XKR.keeps (Q : Nat -> Prop) (xs : List Ex) : Keeps (XKR Q xs) := fun _ _ _ _ _ _ h ⟨hj, a, e, hp⟩ => ⟨hj, a, e, hp.keep fun b hb hs => ⟨⟨(h b hb hs.1).1, hs.2⟩, (h b hb hs.1).2⟩⟩
theorem GRow.exprsR {Q : Nat -> Prop} {W : World} {T B n0 : Nat} {xs : List Ex} {rv : Value} {ys : List Value} (h : GRow (XKR Q xs) W T 9 B n0 xs.length rv ys) (hQ : ∀ b, n0 <= b -> Q b) : ∃ A c, rv = .slice A xs.length c /\ XsIn W (fun b => (b < B \/ n0 <= b) /\ Q b) A xs := by
 obtain ⟨A, c, e, hp⟩ := h.out (XKR.keeps _ _); refine ⟨A, c, e, fun i => if h : i < xs.length then (hp i h).choose_spec.choose else #[], fun i hi => ?_, fun i hi => ?_⟩
 . obtain ⟨ea, hg, hz, hc, _⟩ := (hp i hi).choose_spec.choose_spec
   simp only [dif_pos hi]
   exact ⟨_, ea, ⟨.inr hg, hQ _ hg⟩, ⟨hz, h.opn' e ea⟩, hc⟩
 . obtain ⟨_, _, _, _, _, a', e', hin⟩ := (hp i hi).choose_spec.choose_spec
   simp only [dif_pos hi]
   injection e' with e'; rw [e']; exact hin
structure MdSt (w : World) (S : Nat -> Prop) (kd a : Nat) (nm : ByteArray) (xs : List Ex) (pb : Nat -> Nat) (P : Option Addr) (k : Nat) (A : Option Addr) (c : Nat) (ys : List Value) (W : World) : Prop where
 blk : W.heap[w.heap.size]? = some (.cells (xcs (kd : Nat) (a : Nat) nm false false false false (.slice none 0 0) (.slice A k c)) 59 (0, 0))
 row : GRow (XKR (fun b => S b \/ w.heap.size <= b) xs) W 59 9 w.heap.size (w.heap.size + 1) k (.slice A k c) ys
 old : Below w.heap.size w W
theorem MdSt.lt {w : World} {S : Nat -> Prop} {kd a : Nat} {nm : ByteArray} {xs : List Ex} {pb : Nat -> Nat} {P : Option Addr} {k : Nat} {A : Option Addr} {c : Nat} {ys : List Value} {W : World} (h : MdSt w S kd a nm xs pb P k A c ys W) : w.heap.size < W.heap.size := (Array.getElem?_eq_some_iff.1 h.blk).1
def ld43 (v : Value) : Sem Value := Instr.loadAt 59 v
theorem ld43_eq (v : Value) : Instr.loadAt 59 v = ld43 v := rfl
def st43 (p v : Value) : Sem Unit := Instr.storeAt 59 p v
theorem st43_eq (p v : Value) : Instr.storeAt 59 p v = st43 p v := rfl
theorem ld43_run {W : World} {b o : Nat} {v : Array Value} (h : W.rangeAt b o v.toList) (hz : v.size = 9) : (ld43 (.pointer (some ⟨b, o, none⟩))).run Tryz.prog W = .ok (.agg v) W := by
 exact run_loadAt_mid (P := Tryz.prog) W b o 59 v.toList _ h Tryz.underlying59 rfl (by rw [Tryz.size43]; simp [hz])
theorem st43_run {W : World} {b o : Nat} {v : Array Value} (h : W.there b o v.size) (hz : v.size = 9) (h1 : v.all (·.oneCell') = true) : (st43 (.pointer (some ⟨b, o, none⟩)) (.agg v)).run Tryz.prog W = .ok () (W.setCells b o v.toList) :=
 run_storeAt_mid (P := Tryz.prog) W b o 59 v h (by rw [Tryz.size43, hz]) h1
attribute [local go_sem ↓] ld43_eq st43_eq
theorem MdSt.next {w : World} {S : Nat -> Prop} {kd a : Nat} {nm : ByteArray} {xs : List Ex} {pb : Nat -> Nat} {P : Option Addr} {k : Nat} {A : Option Addr} {c : Nat} {ys : List Value} {wr w5 w6 : World} {o : Obj} {pv : Array Value} {g cap : Nat} {zs : List Value} (h : MdSt w S kd a nm xs pb P k A c ys wr) (hk : k < xs.length) (hx : InX w S xs[k] pv)
 (h5 : Below wr.heap.size wr w5) (hz : zs.length = 9) (hown : w6.ownsRow (w.heap.size + 1) 59 9 (.slice (some ⟨g, 0, none⟩) (k + 1) cap) (k + 1) (flat ys ++ zs)) (hgr : (w5.alloc o).grownBy w6 (Value.slice A k c).ownBlock)
 (hpl : (Value.slice (some ⟨g, 0, none⟩) (k + 1) cap).ownBlock = (Value.slice A k c).ownBlock \/ (Value.slice (some ⟨g, 0, none⟩) (k + 1) cap).ownBlock = some (w5.alloc o).heap.size) :
 MdSt w S kd a nm xs pb P (k + 1) (some ⟨g, 0, none⟩) cap (ys ++ [.agg pv]) ((w6.setCells g (k * 9) pv.toList).setCell ⟨w.heap.size, 8, none⟩ (.slice (some ⟨g, 0, none⟩) (k + 1) cap)) := by
 have hl := h.lt; have h5s := h5.size; have hos := h.old.size; have hfl : (flat ys).length = k * 9 := by rw [flat_len ys h.row.forms, h.row.len]
 have hz9 := hx.size; have hgb : w.heap.size + 1 <= g := (hown.lt g rfl).1; have hst := ownsRow_stores pv.toList zs (flat ys) w6 (by simp [hz9, hz]) hown; rw [hfl] at hst
 have hgr7 : (w5.alloc o).grownBy (w6.setCells g (k * 9) pv.toList) (Value.slice A k c).ownBlock := by
  refine ⟨hst.2.os.trans hgr.os, hst.2.tape.trans hgr.tape, hst.2.output.trans hgr.output, Nat.le_trans hgr.size hst.2.size, fun b hb hne => ?_⟩; rw [hst.2.block b (Nat.lt_of_lt_of_le hb hgr.size) ?_]
  . exact hgr.block b hb hne
  . intro e
    injection e with e; subst e
    rcases hpl with hp | hp
    . exact hne (by rw [<- hp]; rfl)
    . have hp' : b = (w5.alloc o).heap.size := by simpa [Value.ownBlock] using hp
      omega
 have hnb : ∀ b, b < wr.heap.size -> some b ≠ (Value.slice A k c).ownBlock -> (w6.setCells g (k * 9) pv.toList).heap[b]? = wr.heap[b]? := fun b hb hne => (hgr7.block b (by simp; omega) hne).trans ((Below.heap_alloc _ _ _ (by omega)).trans (h5.block b hb))
 have hown0 : ∀ b, b <= w.heap.size -> some b ≠ (Value.slice A k c).ownBlock := fun b hb e => by have := (h.row.own.lt b e.symm).1; omega
 have hblk := (hnb w.heap.size hl (hown0 _ (Nat.le_refl _))).trans h.blk; refine ⟨?_, ?_, ?_⟩
 . simp [World.setCell, Array.getElem?_modify, hblk]
 . refine GRow.set (XKR.keeps _ _) ?_ (by omega) (Nat.le_refl _) _
   refine GRow.pushO (XKR.keeps _ _) h.row (m := wr.heap.size) (w5 := w5) (o := o) (by omega) (by omega) (fun g e => (h.row.own.lt g e).2) h5 ⟨hk, pv, rfl, ?_⟩ hz9 ?_ hgr7 hpl
   . exact hx.keep fun b hb hs => ⟨⟨.inl hb, .inl hs⟩, (h5.block b (by omega)).trans (h.old.block b hb)⟩
   . exact hst.1
 . refine Below.setCell (p := ⟨w.heap.size, 8, none⟩) (B := w.heap.size) ?_ (Nat.le_refl _) _
   refine ⟨hgr7.os.trans (h5.os.trans h.old.os), hgr7.tape.trans (h5.tape.trans h.old.tape), hgr7.output.trans (h5.output.trans h.old.output), by have := hgr7.size; simp at this; omega, fun b hb => ?_⟩
   exact (hnb b (by omega) (hown0 b (by omega))).trans (h.old.block b hb)
theorem made_calls (kd a : Nat) (nm : ByteArray) (xs : List Ex) (pb : Nat -> Nat) (P : Option Addr) (pc : Nat) (w : World) (hn : xs.length <= 3) (hP : ∀ i, i < xs.length -> ∃ vb, P = some ⟨vb, 0, none⟩ /\ w.cell? ⟨vb, i, none⟩ = some (.pointer (some ⟨pb i, 0, none⟩)))
 (S : Nat -> Prop) (hx : ∀ i (h : i < xs.length), XP w S (pb i) xs[i]) :
 Calls Tryz.prog 71 #[.int .i64 (kd : Nat), .int .i64 (a : Nat), .string nm, .slice P xs.length pc] w fun e w' => MadeX w S kd a nm xs e w' := by
 have HP := hide hP; have HX := hide hx; have KG := hide (xgrow_calls xs.length (w.alloc (.cells (xcs (kd : Nat) (a : Nat) nm false false false false (.slice none 0 0) (.slice none 0 0)) 59)) (by omega)); clear hP hx
 go_enter Tryz.func71, Tryz.ntmps71
 go_wp2_with (go_at_call 86; refine KG.out.mono ?_)
 rintro e W1 ⟨A0, c0, rfl, hrow0, hB0⟩; have hblk := (hB0.block w.heap.size (by simp)).trans (heap_alloc_new w (.cells (xcs (kd : Nat) (a : Nat) nm false false false false (.slice none 0 0) (.slice none 0 0)) 59))
 have e8 : W1.cell? ⟨w.heap.size, 8, none⟩ = some (.slice none 0 0) := cell_of hblk 8 rfl; have ef : ∀ i, W1.frozen? ⟨w.heap.size, i, none⟩ = false := fun i => frozen_of hblk i
 have el : w.heap.size < W1.heap.size := (Array.getElem?_eq_some_iff.1 hblk).1
 have HSt : Hid (MdSt w S kd a nm xs pb P 0 A0 c0 [] (W1.setCell ⟨w.heap.size, 8, none⟩ (.slice A0 0 c0))) := by
  refine ⟨?_, ?_, ?_⟩
  . simp [World.setCell, Array.getElem?_modify, hblk]
  . refine GRow.set (XKR.keeps _ _) (GRow.begin ?_) (by omega) (Nat.le_refl _) _
    have := hrow0
    simpa using this
  . exact (((Below.refl _ _).alloc (Nat.le_refl _) _).trans (hB0.mono (by simp))).setCell (p := ⟨w.heap.size, 8, none⟩) (Nat.le_refl _) _
 obtain ⟨i0, hi, hz0, hz1, hz2⟩ := infoParts Tryz.info59'; clear hrow0 hB0 hblk KG
 go_wp2_with fail
 go_loopg [29] xs.length (fun g v wr => ∃ (k : Nat) (A : Option Addr) (c : Nat) (ys : List Value), k + g = xs.length /\ v = .int .i64 (k : Nat) /\ Hid (MdSt w S kd a nm xs pb P k A c ys wr))
 case atStart => exact ⟨0, A0, c0, [], by omega, rfl, HSt.out⟩
 case round =>
  clear HSt e8 ef el; obtain ⟨k, A, c, ys, hkg, rfl, HS⟩ := hrel; have hblk := HS.out.blk; have e8 : wr.cell? ⟨w.heap.size, 8, none⟩ = some (.slice A k c) := cell_of hblk 8 rfl
  have ef : ∀ i, wr.frozen? ⟨w.heap.size, i, none⟩ = false := fun i => frozen_of hblk i
  have el := HS.out.lt
  by_cases hk : k < xs.length
  . have hq : decide ((k : Int) < (xs.length : Int)) = true := by simp; omega
    obtain ⟨vb, rfl, hpv⟩ := HP.out k hk; have hpv' := cell_later (w := w) (W := wr) (HS.out.old) hpv; obtain ⟨pv, hpb, hpx⟩ := HX.out k hk; have hpl := (HX.out k hk).lt
    have hpb' := (HS.out.old.block _ hpl).trans hpb; have hz9 := hpx.size; have h1c := hpx.one
    go_wp2_with fail
    have L1 : (ld43 (.pointer (some ⟨pb k, 0, none⟩))).run Tryz.prog wr.drew = .ok (.agg pv) wr.drew := ld43_run (W := wr.drew) (block_range hpb') hz9
    have L2 : (ld43 (.pointer (some ⟨pb k, 0, none⟩))).run Tryz.prog (wr.alloc (.cells (xcs 0 0 ⟨#[]⟩ false false false false (.slice none 0 0) (.slice none 0 0)) 59)).drew = .ok (.agg pv) (wr.alloc (.cells (xcs 0 0 ⟨#[]⟩ false false false false (.slice none 0 0) (.slice none 0 0)) 59)).drew := ld43_run (W := (wr.alloc (.cells (xcs 0 0 ⟨#[]⟩ false false false false (.slice none 0 0) (.slice none 0 0)) 59)).drew) (block_range ((Below.heap_alloc _ _ _ (by have := HS.out.old.size; omega)).trans hpb')) hz9
    have HO := hide HS.out.row.own.drew
    go_region_law (first
     | (refine step_append_own rfl (.tmp 36) (.tmp 41) 57 rfl (w.heap.size + 1) 59 i0 _ 9 88 Tryz.underlying57 hi hz0 hz1 hz2 rfl (by decide) (.slice A k c) k (flat ys) ?_ ?_ ⟨wr.heap.size, 0, none⟩ 1 1 [.int .i64 0, .int .i64 0, .string ⟨#[]⟩, .bool false, .bool false, .bool false, .bool false, .slice none 0 0, .slice none 0 0] ?_ rfl ?_ ?_ (by decide) ?_ ?_ ?_ ?_
        . rfl
        . exact HO.out.alloc _
        . rfl
        . exact cells_new _ _ _
        . intro u hu; simp at hu; rcases hu with rfl | rfl | rfl | rfl | rfl | rfl | rfl | rfl | rfl <;> rfl
        . unfold maxLen; omega
        . omega
        . simp; omega
        intro v' w6 hown6 hgr6 hpl6
        obtain ⟨g, cap', rfl, hgb⟩ : ∃ g cap', v' = .slice (some ⟨g, 0, none⟩) (k + 1) cap' /\ w.heap.size + 1 <= g := by
         rcases hown6.2 with ⟨_, h0⟩ | ⟨g, cap, _, e, hb, _⟩
         . omega
         . exact ⟨g, cap, e, hb⟩
        have hblk6 := (hgr6.block w.heap.size (by simp; omega) (fun e => by have := (HO.out.lt _ e.symm).1; omega)).trans ((Below.heap_alloc _ _ _ el).trans hblk)
        have z8 : w6.cell? ⟨w.heap.size, 8, none⟩ = some (.slice A k c) := cell_of hblk6 8 rfl; have zf : ∀ i, w6.frozen? ⟨w.heap.size, i, none⟩ = false := fun i => frozen_of hblk6 i
        have zl : w.heap.size < w6.heap.size := (Array.getElem?_eq_some_iff.1 hblk6).1; have hth : w6.there g (k * 9) pv.size := row_there hown6 (by omega); have ST1 := st43_run hth hz9 h1c
        have hpb6 := (hgr6.block (pb k) (by simp; have := HS.out.old.size; omega) (fun e => by have := (HO.out.lt _ e.symm).1; omega)).trans ((Below.heap_alloc _ _ _ (by have := HS.out.old.size; omega)).trans hpb')
        have L6 := ld43_run (W := w6) (block_range hpb6) hz9; have hkk : ((k : Nat) : Int) < ((k : Nat) : Int) + 1 := by omega
        have hth2 : (w6.setCell ⟨w.heap.size, 8, none⟩ (.slice (some ⟨g, 0, none⟩) (k + 1) cap')).there g (k * 9) pv.size := fun j hj => by
         have := hth j hj; have hb : (w6.setCell ⟨w.heap.size, 8, none⟩ (.slice (some ⟨g, 0, none⟩) (k + 1) cap')).heap[g]? = w6.heap[g]? := Below.heap_setCell _ _ _ _ (by show g ≠ w.heap.size; omega)
         rw [World.cell?_of_block hb, World.frozen?_of_block hb]; exact this
        have ST2 := st43_run hth2 hz9 h1c
        have hbs : (w6.setCells g (k * 9) pv.toList).heap[w.heap.size]? = w6.heap[w.heap.size]? := (setCells_below (B := w.heap.size + 1) (by omega) pv.toList (k * 9) (Below.refl _ w6)).block _ (by omega)
        have y8 : (w6.setCells g (k * 9) pv.toList).cell? ⟨w.heap.size, 8, none⟩ = some (.slice A k c) := (World.cell?_of_block hbs).trans z8
        have yf : ∀ i, (w6.setCells g (k * 9) pv.toList).frozen? ⟨w.heap.size, i, none⟩ = false := fun i => (World.frozen?_of_block hbs).trans (zf i)))
    all_goals
     have HN := hide (HS.out.next (w5 := wr.drew) hk hpx (Below.refl _ _).drew rfl hown6 hgr6 (by simpa using hpl6)); clear hown6 hgr6 hpl6 hblk6 L6 ST1 ST2 hth hth2 hpb6 hbs
     try rw [setCells_comm ⟨w.heap.size, 8, none⟩ _ g (by show w.heap.size ≠ g; omega)]
     go_wp2_with fail
     go_roundg (xs.length - (k + 1))
     case measure => omega
     case rel => exact ⟨k + 1, _, _, _, by omega, by go_num, HN.out⟩
  . have hke : k = xs.length := by omega
    subst hke
    go_wp2_with fail
    go_ret; obtain ⟨A', c', e', hX⟩ := HS.out.row.exprsR (fun b hb => .inr (by omega)); injection e' with e1 e2 e3; subst e1; refine ⟨w.heap.size, A, c, rfl, Nat.le_refl _, HS.out.blk, ?_, HS.out.old⟩
    exact hX.keep fun b hb hs => ⟨⟨hs.2, by omega⟩, rfl⟩
end Go.Proofs.YtockffblncdikaaGreatDoor
