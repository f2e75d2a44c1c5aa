/- The contract of copied: an expression again, in memory of its own, or the same. -/
import Derived.Test.YtockffblncdikaaGreatDoorCl
namespace Go.Proofs.YtockffblncdikaaGreatDoor
open Go.RowKit
set_option maxRecDepth 100000
set_option maxHeartbeats 16000000
inductive ExFit (N : Nat) : Ex -> Prop
 | mk {kd a : Nat} {nm : ByteArray} {ex gi inf im : Bool} {ls : List LvB} {xs : List Ex} (hl : ls.length <= N) (hx : xs.length <= 3) (h : ∀ i (hi : i < xs.length), ExFit N xs[i]) : ExFit N (.node kd a nm ex gi inf im ls xs)
theorem nodes_bound : ∀ ls : List LvB, ∃ N, ∀ l ∈ ls, l.nodes <= N
 | [] => ⟨0, fun l h => by cases h⟩
 | k :: ls => by
   obtain ⟨N, h⟩ := nodes_bound ls; refine ⟨N + k.nodes, fun l hl => ?_⟩
   rcases List.mem_cons.1 hl with rfl | hl
   . omega
   . have := h l hl; omega
theorem XsIn.vals {w : World} {S : Nat -> Prop} {A : Option Addr} {xs : List Ex} (h : XsIn w S A xs) : ∃ (b : Nat) (vals : Nat -> Array Value), (0 < xs.length -> A = some ⟨b, 0, none⟩ /\ S b) /\ (∀ i, i < xs.length -> (vals i).size = 9 /\ (vals i).all (·.oneCell') = true) /\ (∀ i q, i < xs.length -> q < 9 -> w.cell? ⟨b, i * 9 + q, none⟩ = (vals i)[q]?) /\ ∀ i (hi : i < xs.length), InX w S xs[i] (vals i) := by
 obtain ⟨vs, hb, hx⟩ := h
 by_cases h0 : 0 < xs.length
 . obtain ⟨b, e0, hS, _⟩ := hb 0 h0
   refine ⟨b, vs, fun _ => ⟨e0, hS⟩, fun i hi => ⟨(hx i hi).size, (hx i hi).one⟩, fun i q hi hq => ?_, hx⟩; obtain ⟨b', e, _, _, hc⟩ := hb i hi; rw [e0] at e; have := slice_inj e; subst this; exact hc q hq
 . exact ⟨0, fun _ => #[], fun h => absurd h h0, fun i hi => by omega, fun i q hi => by omega, fun i hi => by omega⟩
theorem InX.parts {w : World} {S : Nat -> Prop} {kd a : Nat} {nm : ByteArray} {ex gi inf im : Bool} {ls : List LvB} {xs : List Ex} {v : Array Value} (h : InX w S (.node kd a nm ex gi inf im ls xs) v) :
 ∃ (A : Option Addr) (c : Nat) (A' : Option Addr) (c' : Nat), v = xcs (kd : Nat) (a : Nat) nm ex gi inf im (.slice A ls.length c) (.slice A' xs.length c') /\ LvsIn w S A ls /\ XsIn w S A' xs := by
 cases h with
 | mk A c A' c' hl vs hb hx => exact ⟨A, c, A', c', rfl, hl, vs, hb, hx⟩
theorem Cp.there {W : World} {g n z : Nat} {vals : Nat -> Array Value} (h : Cp W g n z vals) {j : Nat} (hj : j < n) : W.there g (j * z) z := fun q hq => by
 refine ⟨?_, h.fro _⟩; have := h.cell j q hj hq; rw [this, Array.getElem?_eq_getElem (by have := h.size j hj; omega)]
 rfl
theorem Cp.setAll {W : World} {g n z : Nat} {vals : Nat -> Array Value} (h : Cp W g n z vals) {j : Nat} (hj : j < n) (u : Array Value) (hu : u.size = z) : Cp (W.setCells g (j * z) u.toList) g n z (fun i => if i = j then u else vals i) := by
 refine ⟨fun i q hi hq => ?_, fun i hi => ?_, fun k => ?_⟩
 . by_cases hij : i = j
   . subst hij
     rw [World.cell?_setCells_in g u.toList (i * z) W (fun k hk => (h.there hj k (by simp at hk; omega)).1) q (by simp; omega)]
     simp
   . rw [World.cell?_setCells_out g u.toList (j * z) W _ (fun _ _ => ?_), h.cell i q hi hq, if_neg hij]
     show i * z + q < j * z \/ j * z + u.toList.length <= i * z + q; rw [Array.length_toList, hu]
     rcases Nat.lt_or_gt_of_ne hij with hlt | hlt
     . have : (i + 1) * z <= j * z := Nat.mul_le_mul_right z hlt
       rw [Nat.add_mul] at this; omega
     . have : (j + 1) * z <= i * z := Nat.mul_le_mul_right z hlt
       rw [Nat.add_mul] at this; omega
 . show (if i = j then _ else _ : Array Value).size = z
   split
   . exact hu
   . exact h.size i hi
 . rw [World.frozen?_setCells]; exact h.fro k
theorem Cp.range {W : World} {g n z : Nat} {vals : Nat -> Array Value} (h : Cp W g n z vals) {j : Nat} (hj : j < n) : W.rangeAt g (j * z) (vals j).toList := fun q u hq => by
 have hz := h.size j hj
 have hql : q < z := by
  rcases Nat.lt_or_ge q z with h1 | h1
  . exact h1
  . rw [List.getElem?_eq_none (by simp; omega)] at hq; cases hq
 rw [h.cell j q hj hql]
 simpa using hq
theorem Touched.setsNew {w : World} {m b : Nat} (hb : w.heap.size <= b) : ∀ (vs : List Value) (o : Nat) {W : World}, Touched w m W -> Touched w m (W.setCells b o vs)
 | [], _, _, h => h
 | v :: vs, o, _, h => Touched.setsNew hb vs (o + 1) (h.setNew (a := ⟨b, o, none⟩) hb v)
theorem heap_setCells_ne {b k : Nat} (hb : k ≠ b) : ∀ (vs : List Value) (o : Nat) (W : World), (W.setCells b o vs).heap[k]? = W.heap[k]?
 | [], _, _ => rfl
 | v :: vs, o, W => (heap_setCells_ne hb vs (o + 1) (W.setCell ⟨b, o, none⟩ v)).trans (Below.heap_setCell _ _ _ _ (by show k ≠ b; exact hb))
section
variable {rb : Nat} {mv : Value} {s : ByteArray}
theorem Rdy.puts {w W : World} {st0 st : FS} (h0 : Rdy w rb mv s st0) (h : Rdy W rb mv s st) (hT : Touched w rb W) {eb : Nat} (hle : w.heap.size <= eb) (o : Nat) (vs : List Value) : Rdy (W.setCells eb o vs) rb mv s st :=
 h0.next (h.rd.of_block (heap_setCells_ne (by have := h0.lt; omega) _ _ _)) h.ok (hT.setsNew hle vs o)
structure XcSt (w : World) (S : Nat -> Prop) (rb : Nat) (mv : Value) (s : ByteArray) (st : FS) (kd a : Nat) (nm : ByteArray) (ex gi inf im : Bool) (ls : List LvB) (xs : List Ex) (A1 : Option Addr) (c1 : Nat) (A2 : Option Addr) (c2 : Nat) (g : Nat) (vals : Nat -> Array Value) (W : World) : Prop where
 cp : 0 < xs.length -> A2 = some ⟨g, 0, none⟩ /\ Cp W g xs.length 9 vals /\ w.heap.size + 2 <= g
 all : ∀ i (hi : i < xs.length), InX W (fun b => ((S b /\ b < w.heap.size) \/ w.heap.size + 2 <= b) /\ b ≠ g) xs[i] (vals i)
 lvs : LvsIn W (fun b => ((S b /\ b < w.heap.size) \/ w.heap.size + 2 <= b) /\ (0 < xs.length -> b ≠ g)) A1 ls
 box : W.heap[w.heap.size]? = some (.cells (xcs (kd : Nat) (a : Nat) nm ex gi inf im (.slice A1 ls.length c1) (.slice A2 xs.length c2)) 59 (0, 0))
 res : W.heap[w.heap.size + 1]? = some (.cells (xcs 0 0 ⟨#[]⟩ false false false false (.slice none 0 0) (.slice none 0 0)) 59 (0, 0))
 rdy : Rdy W rb mv s st
 old : Touched w rb W
def CopC (rb : Nat) (mv : Value) (s : ByteArray) (x : Ex) : Prop := ∀ (v : Array Value) (S : Nat -> Prop) (_ : ∀ b, S b -> b ≠ rb) (st : FS) (w : World), Rdy w rb mv s st -> InX w (fun b => S b /\ b < w.heap.size) x v ->
    Calls Tryz.prog 70 #[.pointer (some ⟨rb, 0, none⟩), .agg v] w fun e w' => ∃ v', e = .returned (.agg v') /\ (InX w' (fun b => S b \/ w.heap.size <= b) x v' /\ Rdy w' rb mv s st /\ Touched w rb w')
theorem XcSt.put {w : World} {S : Nat -> Prop} {st : FS} {kd a : Nat} {nm : ByteArray} {ex gi inf im : Bool} {ls : List LvB} {xs : List Ex} {A1 : Option Addr} {c1 : Nat} {A2 : Option Addr} {c2 : Nat} {g : Nat} {vals : Nat -> Array Value} {W W7 : World} (h : XcSt w S rb mv s st kd a nm ex gi inf im ls xs A1 c1 A2 c2 g vals W) (h0 : Rdy w rb mv s st) (hS : ∀ b, S b -> b ≠ rb) {j : Nat} (hj : j < xs.length) {v' : Array Value}
 (hx : InX W7 (fun b => (((S b /\ b < w.heap.size) \/ w.heap.size + 2 <= b) /\ b ≠ g) \/ W.heap.size <= b) xs[j] v') (hR : Rdy W7 rb mv s st) (hT : Touched W rb W7) :
 XcSt w S rb mv s st kd a nm ex gi inf im ls xs A1 c1 A2 c2 g (fun i => if i = j then v' else vals i) (W7.setCells g (j * 9) v'.toList) := by
 obtain ⟨eA, hcp, hg⟩ := h.cp (by omega); have hlt := h0.lt; have hgl := hcp.lt (by omega) (by decide); have hcp7 := hcp.of_block (hT.at hgl (by omega)); have hT7 : Touched w rb W7 := h.old.trans hT
 have hkeep : ∀ b, b ≠ g -> (W7.setCells g (j * 9) v'.toList).heap[b]? = W7.heap[b]? := fun b hb => heap_setCells_ne hb _ _ _
 have hbl : w.heap.size < W.heap.size := (Array.getElem?_eq_some_iff.1 h.box).1; have hbl1 : w.heap.size + 1 < W.heap.size := (Array.getElem?_eq_some_iff.1 h.res).1
 refine ⟨fun _ => ⟨eA, hcp7.setAll hj v' hx.size, hg⟩, fun i hi => ?_, ?_, ?_, ?_, h0.puts hR hT7 (by omega) _ _, hT7.setsNew (by omega) _ _⟩
 . by_cases hij : i = j
   . subst hij
     rw [if_pos rfl]; refine hx.keep fun b hb hs => ?_
     rcases hs with hs | hs
     . exact ⟨hs, hkeep b hs.2⟩
     . exact ⟨⟨.inr (by omega), by omega⟩, hkeep b (by omega)⟩
   . rw [if_neg hij]
     refine (h.all i hi).keep fun b hb hs => ⟨hs, (hkeep b hs.2).trans (hT.at hb ?_)⟩
     rcases hs.1 with hs | hs
     . exact hS b hs.1
     . omega
 . refine h.lvs.keep fun b hb hs => ⟨hs, (hkeep b (hs.2 (by omega))).trans (hT.at hb ?_)⟩
   rcases hs.1 with hs | hs
   . exact hS b hs.1
   . omega
 . exact (hkeep _ (by omega)).trans ((hT.at hbl (by omega)).trans h.box)
 . exact (hkeep _ (by omega)).trans ((hT.at hbl1 (by omega)).trans h.res)
theorem XcSt.inx {w : World} {S : Nat -> Prop} {st : FS} {kd a : Nat} {nm : ByteArray} {ex gi inf im : Bool} {ls : List LvB} {xs : List Ex} {A1 : Option Addr} {c1 : Nat} {A2 : Option Addr} {c2 : Nat} {g : Nat} {vals : Nat -> Array Value} {W : World} (h : XcSt w S rb mv s st kd a nm ex gi inf im ls xs A1 c1 A2 c2 g vals W) (o : Nat) (vs : List Value) :
 InX (W.setCells (w.heap.size + 1) o vs) (fun b => S b \/ w.heap.size <= b) (.node kd a nm ex gi inf im ls xs) (xcs (kd : Nat) (a : Nat) nm ex gi inf im (.slice A1 ls.length c1) (.slice A2 xs.length c2)) := by
 have hk : ∀ b, (S b /\ b < w.heap.size) \/ w.heap.size + 2 <= b -> (S b \/ w.heap.size <= b) /\ (W.setCells (w.heap.size + 1) o vs).heap[b]? = W.heap[b]? := fun b hs => by
  refine ⟨?_, heap_setCells_ne (by rcases hs with hs | hs <;> omega) _ _ _⟩
  rcases hs with hs | hs
  . exact .inl hs.1
  . exact .inr (by omega)
 refine InX.of (h.lvs.keep fun b hb hs => hk b hs.1) ⟨vals, fun i hi => ?_, fun i hi => (h.all i hi).keep fun b hb hs => hk b hs.1⟩; obtain ⟨eA, hcp, hg⟩ := h.cp (by omega); have hkg := hk g (.inr hg)
 exact ⟨g, eA, hkg.1, ⟨hcp.size i hi, fun k => (World.frozen?_of_block (a := ⟨g, k, none⟩) hkg.2).trans (hcp.fro k)⟩, fun q hq => (World.cell?_of_block hkg.2).trans (hcp.cell i q hi hq)⟩
theorem step_cop {ops : Array Oper} {o : Oper} {a : Act} {w : World} {K : Act -> World -> Prop} {Q : Exit -> Act -> World -> Prop} {E : Prop} {args : Array Value} {f : FuncId} {R : Array Value -> World -> Prop}
 (hg : o.guard = none) (hrun : (execOp a.eval o).run Tryz.prog w = .ok (.enter f args) w) (hc : Calls Tryz.prog f args w fun e w' => ∃ v, e = .returned (.agg v) /\ R v w')
 (hK : ∀ (v : Array Value) (w' : World), R v w' -> K (a.put o.dst (.agg v)) w') :
 if Region.wanted o (yielded ops a.tmps) = true then Oper.wp Tryz.prog o a w K Q else E := by
 have hw : Region.wanted o (yielded ops a.tmps) = true := by simp [Region.wanted, hg]
 rw [if_pos hw]; unfold Oper.wp; rw [hrun]; refine hc.mono ?_; rintro e w' ⟨eb, rfl, h⟩; exact hK eb w' h
theorem copied_none {x : Ex} {v : Array Value} {S : Nat -> Prop} {st : FS} {w : World} (h : Rdy w rb mv s st) (hx : InX w (fun b => S b /\ b < w.heap.size) x v) {cc : Int} (g6 : w.cell? ⟨rb, 6, none⟩ = some (.int .i64 cc)) (hcc : cc <= 0) :
 Calls Tryz.prog 70 #[.pointer (some ⟨rb, 0, none⟩), .agg v] w fun e w' => ∃ v', e = .returned (.agg v') /\ (InX w' (fun b => S b \/ w.heap.size <= b) x v' /\ Rdy w' rb mv s st /\ Touched w rb w') := by
 obtain ⟨kd, a, nm, ex, gi, inf, im, A, m, c, A', m', c', rfl⟩ := hx.cells; have hlt := h.lt; have hcq : decide (cc <= 0) = true := by simp [hcc]
 have HX := hide hx; have H := hide h; clear hx h
 go_enter Tryz.func70, Tryz.ntmps70
 go_wp2_with fail
 refine bodyPost_ret (results_cell_row rfl _ _ (w.heap.size + 1) 59 _ (0, 0) _ rfl (heap_alloc2_new _ _ _) Tryz.underlying59 rfl Tryz.size43) rfl ?_
 have hB : ∀ o o' : Obj, Below w.heap.size w ((w.alloc o).alloc o') := fun o o' => ((Below.refl _ w).alloc (Nat.le_refl _) _).alloc (by simp) _
 exact ⟨_, rfl, HX.out.keep fun b hb hs => ⟨.inl hs.1, (hB _ _).block b hb⟩, H.out.later (hB _ _), Touched.of_below (hB _ _)⟩
attribute [local go_sem ↓] ld43_eq st43_eq
theorem copied_calls (N : Nat) (hN : N <= 1000000) {x : Ex} (hf : ExFit N x) : CopC rb mv s x := by
 induction hf with
 | @mk kd a nm ex gi inf im ls xs hl hx3 hfx ih =>
 intro v S hS st w h hx; obtain ⟨cc, g6, gf, hset⟩ := h.copies
 by_cases hcc : cc <= 0
 . exact copied_none h hx g6 hcc
 have hcq : decide (cc <= 0) = false := by simp; omega
 obtain ⟨A, c, A', c', rfl, hL, hX⟩ := hx.parts; have H := hide h; have hlt := h.lt; obtain ⟨Nl, hNl⟩ := nodes_bound ls; obtain ⟨b, vals, hb0, hz, hc, hp⟩ := hX.vals
 obtain ⟨i0, hi, hz0, hz1, hz2⟩ := infoParts Tryz.info59'
 have hfl : (flat ((List.range xs.length).map fun i => Value.agg (vals i))).length = xs.length * 9 := by
  rw [flat_len (z := 9) _ (fun i hi => by simp at hi; exact ⟨vals i, by simp, (hz i hi).1⟩)]
  simp
 have hB1 : ∀ (u : Value) (o o' : Obj), Touched w rb (((w.setCell ⟨rb, 6, none⟩ u).alloc o).alloc o') := fun u o o' => (((Touched.refl w rb).set 6 u).trans (Touched.alloc _ rb o)).trans (Touched.alloc _ rb o')
 have hR1 := ((hset (wrap64 (cc - 1))).alloc (.cells (xcs (kd : Nat) (a : Nat) nm ex gi inf im (.slice A ls.length c) (.slice A' xs.length c')) 59)).alloc (.cells (xcs 0 0 ⟨#[]⟩ false false false false (.slice none 0 0) (.slice none 0 0)) 59)
 have hT1 := hB1 (.int .i64 (wrap64 (cc - 1))) (.cells (xcs (kd : Nat) (a : Nat) nm ex gi inf im (.slice A ls.length c) (.slice A' xs.length c')) 59) (.cells (xcs 0 0 ⟨#[]⟩ false false false false (.slice none 0 0) (.slice none 0 0)) 59)
 have KL := hide (copiedLevels_calls Nl ls hNl (by omega) (fun b => S b /\ b < w.heap.size) (fun b hb => hS b hb.1) A c st _ hR1 (hL.keep fun b hb hs => ⟨hs, hT1.at hb (hS b hs.1)⟩)); have HT1 := hide hT1
 have HL := hide hL; have HX := hide hX; have HZ := hide hz; have HC := hide hc; have HP := hide hp; have HB0 := hide hb0; have HS := hide hS; have HFl := hide hfl; have HIH := hide ih
 clear h hL hX hz hc hp hset hb0 hS ih hfl hB1 hR1 hT1 hx hfx hcc hNl
 go_enter Tryz.func70, Tryz.ntmps70
 go_wp2_with (go_at_call 85; refine KL.out.mono ?_)
 intro e W2 h2; obtain ⟨A1, c1, rfl, hA1, hL1, hR2, hT2⟩ := h2
 have hs1 : (((w.setCell ⟨rb, 6, none⟩ (.int .i64 (wrap64 (cc - 1)))).alloc (.cells (xcs (kd : Nat) (a : Nat) nm ex gi inf im (.slice A ls.length c) (.slice A' xs.length c')) 59)).alloc (.cells (xcs 0 0 ⟨#[]⟩ false false false false (.slice none 0 0) (.slice none 0 0)) 59)).heap.size = w.heap.size + 2 := by simp [World.setCell, World.alloc]
 have hw0 : (w.setCell ⟨rb, 6, none⟩ (.int .i64 (wrap64 (cc - 1)))).heap.size = w.heap.size := by simp [World.setCell]
 have hbx1 := heap_alloc2_old (w.setCell ⟨rb, 6, none⟩ (.int .i64 (wrap64 (cc - 1)))) (.cells (xcs (kd : Nat) (a : Nat) nm ex gi inf im (.slice A ls.length c) (.slice A' xs.length c')) 59) (.cells (xcs 0 0 ⟨#[]⟩ false false false false (.slice none 0 0) (.slice none 0 0)) 59)
 have hrs1 := heap_alloc2_new (w.setCell ⟨rb, 6, none⟩ (.int .i64 (wrap64 (cc - 1)))) (.cells (xcs (kd : Nat) (a : Nat) nm ex gi inf im (.slice A ls.length c) (.slice A' xs.length c')) 59) (.cells (xcs 0 0 ⟨#[]⟩ false false false false (.slice none 0 0) (.slice none 0 0)) 59)
 rw [hw0] at hbx1 hrs1; have hbx2 := (hT2.at (k := w.heap.size) (by omega) (by omega)).trans hbx1; have hrs2 := (hT2.at (k := w.heap.size + 1) (by omega) (by omega)).trans hrs1; rw [hs1] at hL1
 have hT2' : Touched w rb W2 := HT1.out.trans hT2; have hz2' : w.heap.size + 2 <= W2.heap.size := by have := hT2.size; omega
 clear hbx1 hrs1 hw0 hs1 hT2 KL HT1; have e7 : W2.cell? ⟨w.heap.size, 7, none⟩ = some (.slice A ls.length c) := cell_of hbx2 7 rfl
 have e8 : W2.cell? ⟨w.heap.size, 8, none⟩ = some (.slice A' xs.length c') := cell_of hbx2 8 rfl; have ef : ∀ i, W2.frozen? ⟨w.heap.size, i, none⟩ = false := fun i => frozen_of hbx2 i
 have HL1 := hide hL1; have HA1 := hide hA1; have HR2 := hide hR2; have HT2 := hide hT2'; have HBx := hide hbx2; have HRs := hide hrs2; clear hL1 hA1 hR2 hT2' hbx2 hrs2 g6 gf
 obtain ⟨n, hn⟩ : ∃ n, n = xs.length := ⟨_, rfl⟩; have HNl := hide hn; rw [<- hn] at e8 HZ HC HB0 HFl hx3
 have HBx' : Hid (W2.heap[w.heap.size]? = some (.cells (xcs (kd : Nat) (a : Nat) nm ex gi inf im (.slice A ls.length c) (.slice A' n c')) 59 (0, 0))) := by rw [hn]; exact HBx.out
 rw [<- hn]; clear hn HBx
 go_wp2_with (at_builtin; refine wpList_append_copy _ rfl _ _ 57 rfl (w.heap.size + 2) 59 i0 _ 9 88 Tryz.underlying57 hi hz0 hz1 hz2 rfl (by decide) rfl A' n c' (flat ((List.range n).map fun i => Value.agg (vals i))) rfl HFl.out ?m1 (one_cells fun i hi => (HZ.out i hi).2) (by unfold maxLen; omega) (by omega) (by simp [World.setCell]; omega) ?_)
 case m1 =>
  intro h0; obtain ⟨rfl, hSb⟩ := HB0.out h0; refine ⟨_, rfl, src_cells (by decide) (fun i hi => (HZ.out i hi).1) (fun i q hi hq => ?_)⟩
  rw [World.cell?_setCell_other _ _ _ _ (fun e => by injection e with e _; have := hSb.2; omega)]; rw [HT2.out.cell (p := ⟨b, i * 9 + q, none⟩) hSb.2 (HS.out b hSb.1)]; exact HC.out i q hi hq
 intro v' W3 hown hgr hpl hnil; obtain ⟨A2, c2, hv1⟩ := own_row_slice hown; subst hv1; have hz3 := hgr.size
 have hzs : (W2.setCell ⟨w.heap.size, 7, none⟩ (.slice A1 ls.length c1)).heap.size = W2.heap.size := by simp [World.setCell]
 have hB3 : ∀ b, b < W2.heap.size -> b ≠ w.heap.size -> W3.heap[b]? = W2.heap[b]? := fun b hb hne => (hgr.block b (by omega) (by simp)).trans (Below.heap_setCell _ _ _ _ hne)
 have hbx3 : W3.heap[w.heap.size]? = some (.cells (xcs (kd : Nat) (a : Nat) nm ex gi inf im (.slice A1 ls.length c1) (.slice A' n c')) 59 (0, 0)) := by
  rw [hgr.block _ (by omega) (by simp), set_xcs HBx'.out]
  rfl
 have f8 : W3.cell? ⟨w.heap.size, 8, none⟩ = some (.slice A' n c') := cell_of hbx3 8 rfl; have ff : ∀ i, W3.frozen? ⟨w.heap.size, i, none⟩ = false := fun i => frozen_of hbx3 i
 have hT3 : Touched w rb W3 := ⟨hgr.os.trans (HT2.out.setNew (a := ⟨w.heap.size, 7, none⟩) (Nat.le_refl _) _).os, hgr.tape.trans (HT2.out.setNew (a := ⟨w.heap.size, 7, none⟩) (Nat.le_refl _) (.slice A1 ls.length c1)).tape, hgr.output.trans (HT2.out.setNew (a := ⟨w.heap.size, 7, none⟩) (Nat.le_refl _) (.slice A1 ls.length c1)).output, by omega, fun k hk hne => (hB3 k (by omega) (by omega)).trans (HT2.out.block k hk hne)⟩
 obtain ⟨g, hg1⟩ : ∃ g, 0 < n -> A2 = some ⟨g, 0, none⟩ /\ W2.heap.size <= g := by
  by_cases h0 : 0 < n
  . rcases hown.2 with ⟨_, h1⟩ | ⟨g, cap, cur, e, hb, _⟩
    . omega
    . injection e with e1 e2 e3
      refine ⟨g, fun _ => ⟨e1, ?_⟩⟩; rw [e1] at hpl
      rcases hpl with hp | hp
      . cases hp
      . injection hp with hp
        have : g = _ := hp; omega
  . exact ⟨0, fun h => absurd h h0⟩
 have HSt : Hid (XcSt w S rb mv s st kd a nm ex gi inf im ls xs A1 c1 A2 c2 g vals (W3.setCell ⟨w.heap.size, 8, none⟩ (.slice A2 n c2))) := by
  have hk : ∀ b, b < W2.heap.size -> b ≠ w.heap.size -> (W3.setCell ⟨w.heap.size, 8, none⟩ (.slice A2 n c2)).heap[b]? = W2.heap[b]? := fun b hb hne => (Below.heap_setCell _ _ _ _ hne).trans (hB3 b hb hne)
  have hT4 : Touched w rb (W3.setCell ⟨w.heap.size, 8, none⟩ (.slice A2 n c2)) := hT3.setNew (a := ⟨w.heap.size, 8, none⟩) (Nat.le_refl _) _; refine ⟨fun h0 => ?_, fun i hi => ?_, ?_, ?_, ?_, ?_, hT4⟩
  . rw [<- HNl.out] at h0 ⊢
    obtain ⟨e1, hle⟩ := hg1 h0; rw [e1] at hown; refine ⟨e1, ?_, by omega⟩; exact (Cp.of_row (fun i hi => (HZ.out i hi).1) hown).of_block (Below.heap_setCell _ _ _ _ (by show g ≠ w.heap.size; omega))
  . obtain ⟨e1, hle⟩ := hg1 (by rw [HNl.out]; omega)
    refine (HP.out i hi).keep fun b hb hs => ⟨⟨.inl hs, by omega⟩, (hk b (by omega) (by omega)).trans (HT2.out.at hb (HS.out b hs.1))⟩
  . refine HL1.out.keep fun b hb hs => ⟨⟨.inr hs, fun h0 => ?_⟩, hk b hb (by have : w.heap.size + 2 <= b := hs; omega)⟩
    have := (hg1 (by rw [HNl.out]; exact h0)).2; omega
  . rw [set_xcs hbx3, <- HNl.out]
    rfl
  . exact (hk _ (by omega) (by omega)).trans HRs.out
  . exact H.out.next (HR2.out.rd.of_block (hk _ (by omega) (by omega))) HR2.out.ok hT4
 clear hown hgr hpl hnil hB3 hbx3 hT3 hg1 HBx' HRs HR2 HT2 HL1 HA1 HZ HC HP HB0 HFl HL HX e7 e8 ef hzs
 go_wp2_with fail
 go_loopg [31] n (fun g' v wr => ∃ (j : Nat) (vals : Nat -> Array Value), j + g' = n /\ v = .int .i64 (j : Nat) /\ Hid (XcSt w S rb mv s st kd a nm ex gi inf im ls xs A1 c1 A2 c2 g vals wr))
 case atStart => exact ⟨0, vals, by omega, rfl, HSt.out⟩
 case round =>
  clear HSt f8 ff; obtain ⟨j, vals, hjg, rfl, HSt⟩ := hrel; have hbx := HSt.out.box; have hrs := HSt.out.res; have HOld := hide HSt.out.old; rw [<- HNl.out] at hbx
  have e8 : wr.cell? ⟨w.heap.size, 8, none⟩ = some (.slice A2 n c2) := cell_of hbx 8 rfl; have ef : ∀ i, wr.frozen? ⟨w.heap.size, i, none⟩ = false := fun i => frozen_of hbx i
  have hbl : w.heap.size + 1 < wr.heap.size := (Array.getElem?_eq_some_iff.1 hrs).1
  by_cases hj : j < n
  . have hjj : decide ((j : Int) < (n : Int)) = true := by simp; omega
    have hjn : ((j : Nat) : Int) < ((n : Nat) : Int) := by omega
    have hjl : j < xs.length := by rw [<- HNl.out]; exact hj
    obtain ⟨rfl, hcp, hgw⟩ := HSt.out.cp (by omega); have hgl := hcp.lt (by omega) (by decide); have hz9 := hcp.size j hjl
    have KR := hide (HIH.out j hjl (vals j) (fun b => ((S b /\ b < w.heap.size) \/ w.heap.size + 2 <= b) /\ b ≠ g) (fun b hb => by
     rcases hb.1 with hb | hb
     . exact HS.out b hb.1
     . omega) st wr.drew HSt.out.rdy.drew ((HSt.out.all j hjl).keep (w := wr) (w' := wr.drew) fun b hb hs => ⟨⟨hs, hb⟩, rfl⟩))
    have L1 : (ld43 (.pointer (some ⟨g, j * 9, none⟩))).run Tryz.prog wr.drew = .ok (.agg (vals j)) wr.drew := ld43_run (W := wr.drew) (hcp.range hjl) hz9; have HCp := hide hcp; clear hcp hrs hbx
    go_wp2_with fail
    go_region_law (first
     | (refine step_cop (f := 70) rfl ?_ KR.out ?_
        . simp [go_sem]
        intro v' w7 h7; have hT7 : Touched wr rb w7 := ⟨h7.2.2.os, h7.2.2.tape, h7.2.2.output, h7.2.2.size, h7.2.2.block⟩; have hbx7 := (hT7.at (k := w.heap.size) (by omega) (by omega)).trans (HSt.out.box)
        have y8 : w7.cell? ⟨w.heap.size, 8, none⟩ = some (.slice (some ⟨g, 0, none⟩) n c2) := (cell_of hbx7 8 rfl).trans (by rw [HNl.out]; rfl)
        have ST1 : (st43 (.pointer (some ⟨g, j * 9, none⟩)) (.agg v')).run Tryz.prog w7 = .ok () (w7.setCells g (j * 9) v'.toList) := st43_run (by rw [h7.1.size]; exact (HCp.out.of_block (hT7.at hgl (by omega))).there hjl) h7.1.size h7.1.one
        have HNx := hide (HSt.out.put H.out HS.out hjl h7.1 h7.2.1 hT7); clear h7 hT7 hbx7))
    all_goals
     clear KR HCp HSt ST1 L1
     go_wp2_with fail
     go_roundg (n - (j + 1))
     case measure => omega
     case rel => exact ⟨j + 1, _, by omega, by go_num, HNx.out⟩
  . have hjj : decide ((j : Int) < (n : Int)) = false := by simp; omega
    have L9 : (ld43 (.pointer (some ⟨w.heap.size, 0, none⟩))).run Tryz.prog wr = .ok (.agg (xcs (kd : Nat) (a : Nat) nm ex gi inf im (.slice A1 ls.length c1) (.slice A2 n c2))) wr := ld43_run (block_range hbx) rfl
    have ST9 : (st43 (.pointer (some ⟨w.heap.size + 1, 0, none⟩)) (.agg (xcs (kd : Nat) (a : Nat) nm ex gi inf im (.slice A1 ls.length c1) (.slice A2 n c2)))).run Tryz.prog wr = .ok () (wr.setCells (w.heap.size + 1) 0 (xcs (kd : Nat) (a : Nat) nm ex gi inf im (.slice A1 ls.length c1) (.slice A2 n c2)).toList) := st43_run (fun q hq => by
     have hq' : q < 9 := hq; refine ⟨?_, frozen_of hrs _⟩; rw [Nat.zero_add]
     match q, hq' with
     | 0, _ => rw [cell_of hrs 0 rfl]; rfl
     | 1, _ => rw [cell_of hrs 1 rfl]; rfl
     | 2, _ => rw [cell_of hrs 2 rfl]; rfl
     | 3, _ => rw [cell_of hrs 3 rfl]; rfl
     | 4, _ => rw [cell_of hrs 4 rfl]; rfl
     | 5, _ => rw [cell_of hrs 5 rfl]; rfl
     | 6, _ => rw [cell_of hrs 6 rfl]; rfl
     | 7, _ => rw [cell_of hrs 7 rfl]; rfl
     | 8, _ => rw [cell_of hrs 8 rfl]; rfl) rfl (by simp [Value.oneCell'])
    have HIn := hide (HSt.out.inx 0 (xcs (kd : Nat) (a : Nat) nm ex gi inf im (.slice A1 ls.length c1) (.slice A2 n c2)).toList)
    have HRd := hide (H.out.puts HSt.out.rdy HOld.out (eb := w.heap.size + 1) (by omega) 0 (xcs (kd : Nat) (a : Nat) nm ex gi inf im (.slice A1 ls.length c1) (.slice A2 n c2)).toList)
    have HTd := hide (HOld.out.setsNew (b := w.heap.size + 1) (by omega) (xcs (kd : Nat) (a : Nat) nm ex gi inf im (.slice A1 ls.length c1) (.slice A2 n c2)).toList 0)
    have HRes := hide (heap_setCells (xcs (kd : Nat) (a : Nat) nm ex gi inf im (.slice A1 ls.length c1) (.slice A2 n c2)).toList 0 _ wr hrs); clear hrs hbx HSt
    go_wp2_with fail
    refine bodyPost_ret (results_cell_row rfl _ _ (w.heap.size + 1) 59 _ (0, 0) _ rfl HRes.out Tryz.underlying59 rfl Tryz.size43) rfl ?_; refine ⟨_, rfl, ?_, HRd.out, HTd.out⟩; have := HIn.out; rw [<- HNl.out] at this
    exact this
end
end Go.Proofs.YtockffblncdikaaGreatDoor
