/- Rows that grow by several; binders in memory; no list that is read is long. No walk. -/
import Derived.Test.YtockffblncdikaaGreatDoorCp
import Derived.Test.YtockffblncdikaaGreatDoorCx
namespace Go.Proofs.YtockffblncdikaaGreatDoor
open Go.RowKit
set_option maxRecDepth 100000
set_option maxHeartbeats 16000000
section
variable {α : Type} {P : World -> (Nat -> Prop) -> α -> Value -> Prop} {T z : Nat} {rb : Nat} {mv : Value} {s : ByteArray}
structure RwSt (P : World -> (Nat -> Prop) -> α -> Value -> Prop) (T z : Nat) (w : World) (rb : Nat) (mv : Value) (s : ByteArray) (l : List α) (st : FS) (A : Option Addr) (c : Nat) (ys : List Value) (W : World) : Prop where
 row : GRow (KL P l) W T z 0 w.heap.size l.length (.slice A l.length c) ys
 rdy : Rdy W rb mv s st
 old : Touched w rb W
theorem RwSt.touched (hP : Keep1 P) {w : World} {l : List α} {st st' : FS} {A : Option Addr} {c : Nat} {ys : List Value} {W W' : World} (h : RwSt P T z w rb mv s l st A c ys W) (hR : Rdy W' rb mv s st') (hT : Touched W rb W') (h2 : rb < w.heap.size) : RwSt P T z w rb mv s l st' A c ys W' :=
 ⟨h.row.touched (KL.keeps hP _) hT h2, hR, h.old.trans hT⟩
theorem RwSt.snoc (hP : Keep1 P) {w W W4 w6 : World} {l : List α} {st st0 st2 : FS} {A : Option Addr} {c : Nat} {ys : List Value} {x : α} {a : Array Value} {o : Obj} {rv : Value} (h0 : Rdy w rb mv s st0) (h : RwSt P T z w rb mv s l st A c ys W) (hR : Rdy W4 rb mv s st2) (hT : Touched W rb W4) (hx : P W4 (fun b => W.heap.size <= b) x (.agg a)) (ha : a.size = z)
 (hown : w6.ownsRow w.heap.size T z rv (l.length + 1) (flat ys ++ a.toList)) (hgr : (W4.alloc o).grownBy w6 (Value.slice A l.length c).ownBlock) (hpl : rv.ownBlock = (Value.slice A l.length c).ownBlock \/ rv.ownBlock = some (W4.alloc o).heap.size) :
 ∃ A6 c6, rv = .slice A6 (l.length + 1) c6 /\ RwSt P T z w rb mv s (l ++ [x]) st2 A6 c6 (ys ++ [.agg a]) w6 := by
 have hlt := h0.lt; have hz3 := h.old.size; have hz4 := hT.size; have hG := GRow.snoc hP h.row hT hlt hz3 hx ha hown hgr hpl; obtain ⟨A6, c6, hv6⟩ := own_row_slice hown; subst hv6; refine ⟨A6, c6, rfl, ?_⟩
 have hT6 : Touched w rb w6 := by
  refine ⟨hgr.os.trans (hT.os.trans h.old.os), hgr.tape.trans (hT.tape.trans h.old.tape), hgr.output.trans (hT.output.trans h.old.output), by have := hgr.size; simp at this; omega, fun b hb hne => ?_⟩
  rw [hgr.block b (by simp; omega) (fun e => by have := (h.row.own.lt _ e.symm).1; omega), Below.heap_alloc _ _ _ (by omega), hT.block b (by omega) hne]; exact h.old.block b hb hne
 refine ⟨by have := hG; simpa using this, h0.next (hR.rd.of_block ?_) hR.ok hT6, hT6⟩; rw [hgr.block rb (by simp; omega) (fun e => by have := (h.row.own.lt _ e.symm).1; omega), Below.heap_alloc _ _ _ hR.lt]
theorem RwSt.one (hP : Keep1 P) {w W : World} {st : FS} {x : α} {a : Array Value} (hR : Rdy W rb mv s st) (hT : Touched w rb W) (hx : P W (fun b => w.heap.size <= b) x (.agg a)) (ha : a.size = z) : RwSt P T z w rb mv s [x] st (some ⟨W.heap.size, 0, none⟩) 1 [.agg a] (W.alloc (.cells a T)) :=
 ⟨GRow.one hP hT.size hx ha, hR.alloc _, hT.trans (Touched.alloc _ _ _)⟩
end
def TkP (_ : World) (_ : Nat -> Prop) (x : ByteArray × Nat) (v : Value) : Prop := v = .agg #[.int .i64 1, .int .i64 (x.2 : Nat), .string x.1]
theorem keep_TkP : Keep1 TkP := fun _ _ _ _ _ _ _ hp => hp
def NsIn (w : World) (S : Nat -> Prop) (A : Option Addr) (l : List (ByteArray × Nat)) : Prop := ∀ i (h : i < l.length), ∃ b, A = some ⟨b, 0, none⟩ /\ S b /\ w.cell? ⟨b, i * 3, none⟩ = some (.int .i64 1) /\ w.cell? ⟨b, i * 3 + 1, none⟩ = some (.int .i64 ((l[i].2 : Nat))) /\ w.cell? ⟨b, i * 3 + 2, none⟩ = some (.string l[i].1)
theorem GRow.toks {W : World} {T n0 : Nat} {l : List (ByteArray × Nat)} {rv : Value} {ys : List Value} (h : GRow (KL TkP l) W T 3 0 n0 l.length rv ys) : ∃ A c, rv = .slice A l.length c /\ NsIn W (fun b => n0 <= b) A l := by
 obtain ⟨A, c, e, hp⟩ := h.out (KL.keeps keep_TkP _); refine ⟨A, c, e, fun i hi => ?_⟩; obtain ⟨g, a, ea, hg, hz, hc, hin⟩ := hp i hi; obtain ⟨_, hv⟩ := hin
 have hv' : a = #[.int .i64 1, .int .i64 (l[i].2 : Nat), .string l[i].1] := by injection hv
 subst hv'; exact ⟨g, ea, hg, hc 0 (by omega), hc 1 (by omega), hc 2 (by omega)⟩
theorem NsIn.touched {w w' : World} {n0 rb : Nat} {A : Option Addr} {l : List (ByteArray × Nat)} (h : NsIn w (fun b => n0 <= b) A l) (hT : Touched w rb w') (hr : rb < n0) : NsIn w' (fun b => n0 <= b) A l := fun i hi => by
 obtain ⟨b, e, hs, h0, h1, h2⟩ := h i hi; have hb := World.block_lt_of_cell? _ _ h0; have hs' : n0 <= b := hs; have hk : w'.heap[b]? = w.heap[b]? := hT.at hb (by omega)
 exact ⟨b, e, hs, (World.cell?_of_block hk).trans h0, (World.cell?_of_block hk).trans h1, (World.cell?_of_block hk).trans h2⟩
theorem Tryz.info46' : (Tryz.prog.info? 46).map (fun i => (i.zero, i.size, i.bytes)) = some (some (.agg #[.int .i64 0, .int .i64 0, .string ⟨#[]⟩]), 3, 32) := by kernel_rfl
section
variable {rb : Nat} {mv : Value} {s : ByteArray}
def NsR (w : World) (l : List (ByteArray × Nat)) (e : Ending) (w' : World) : Prop := ∃ (A : Option Addr) (c : Nat), e = .returned (.slice A l.length c) /\ NsIn w' (fun b => w.heap.size <= b) A l
theorem name_kin {st : FS} (h : st.kin 1 = true) : st.name s = (st.t.t, st.step s) := by unfold FS.name; rw [if_pos h]
def namesF (s : ByteArray) (g : Nat) (l : List (ByteArray × Nat)) (st : FS) : List (ByteArray × Nat) × FS := if st.kin 1 = true then namesN s g l st else (l, st)
theorem names_calls (n : Nat) (hn : n <= 1000000) (st : FS) (w : World) (h : Rdy w rb mv s st) (hl : st.left s < n) :
 Calls Tryz.prog 69 #[.pointer (some ⟨rb, 0, none⟩)] w fun e w' => RQ w rb mv s (namesN s (n + 1) [] st).2 (NsR w (namesN s (n + 1) [] st).1) e w' := by
 have H := hide h; have hlt := h.lt; have KN := hide (nameQ h); have hd := (Dn.refl h.ok).name; have HLe : Hid ((st.name s).2.left s < n) := hide (Nat.lt_of_le_of_lt hd.left hl)
 obtain ⟨fin, hfin⟩ : ∃ fin, fin = namesN s (n + 1) [] st := ⟨_, rfl⟩; rw [<- hfin]; have HFi : Hid (fin = namesF s n [((st.name s).1, st.t.at_)] (st.name s).2) := hide (by rw [hfin]; rfl)
 obtain ⟨i0, hi, hz0, hz1, hz2⟩ := infoParts Tryz.info46'; clear hfin h hd hl; generalize (st.name s).1 = nm at *; generalize (st.name s).2 = st1 at *; generalize st.t.at_ = ta at *
 go_enter Tryz.func69, Tryz.ntmps69
 go_wp2_with (go_at_call 26; refine KN.out.mono ?_)
 intro e W1 h1
 rcases h1 with ⟨hc1, rfl, hR1, hT1⟩ | ⟨hc1, hth⟩
 rotate_left
 . have HF : Hid (RQ w rb mv s fin.2 (NsR w fin.1) e W1) := RQ.bad hc1 hth (Touched.refl _ _) (by rw [HFi.out]; unfold namesF; rw [if_neg (by rw [(lost_of hc1).kin (by decide)]; simp)])
   obtain ⟨fb, rfl, -⟩ := hth
   go_wp2_with fail
   exact ⟨rfl, HF.out⟩
 have HS : Hid (RwSt TkP 46 3 w rb mv s [(nm, ta)] st1 (some ⟨W1.heap.size, 0, none⟩) 1 [.agg #[.int .i64 1, .int .i64 (ta : Nat), .string nm]] (W1.alloc (.cells #[.int .i64 1, .int .i64 (ta : Nat), .string nm] 46))) := RwSt.one keep_TkP hR1 hT1 rfl rfl
 clear hR1 hT1 KN
 go_wp2_with fail
 go_loopg [3] n (fun g v wr => ∃ (l : List (ByteArray × Nat)) (st' : FS) (A : Option Addr) (c : Nat) (ys : List Value), v = .slice A l.length c /\ Hid (namesF s g l st' = fin) /\ Hid (st'.left s < g) /\ l.length + g = n + 1 /\ Hid (RwSt TkP 46 3 w rb mv s l st' A c ys wr))
 case atStart => exact ⟨[(nm, ta)], st1, _, _, _, rfl, HFi.out.symm, HLe.out, by simp; omega, HS.out⟩
 case round =>
  clear HS HLe HFi; obtain ⟨l, st', A, c, ys, rfl, HE, HLt, hlen, HS⟩ := hrel; obtain ⟨g', rfl⟩ : ∃ g', gk = g' + 1 := ⟨gk - 1, by have := HLt.out; omega⟩; have hok := HS.out.rdy.ok; have hco := HS.out.rdy.code
  obtain ⟨k, t, q1, q2, q3, hk, hk3, _⟩ := HS.out.rdy.kind; have hk1 := hk 1 (by omega); have hke := kin_eq (k := 1) hco
  by_cases hp : st'.kin 1 = true
  . have hkd : st'.t.kd = 1 := by rw [hke] at hp; simpa using hp
    have hkq : ((k : Int) == (1 : Int)) = true := by rw [show ((1 : Int)) = ((1 : Nat) : Int) from rfl, hk1, hkd]; rfl
    have hlef := FS.step_left hok hco (by omega) (by omega)
    have HE2 : Hid (namesF s g' (l ++ [(st'.t.t, st'.t.at_)]) (st'.step s) = fin) := hide (by
     have := HE.out; unfold namesF at this; rw [if_pos hp] at this
     simp only [namesN, name_kin hp] at this
     exact this)
    have HL2 : Hid ((st'.step s).left s < g') := hide (by have := HLt.out; omega); have KT := hide (takeQ HS.out.rdy (by omega)); rw [hkd] at KT; clear hlef hkd hok hco HE HLt hk hk3 hk1 hke hp
    generalize st'.step s = st2 at *; generalize st'.t.t = nm2 at *; generalize st'.t.at_ = ta2 at *
    go_wp2_with (go_at_call 40; refine KT.out.mono ?_)
    rintro e W4 ⟨rfl, hR4, hT4⟩; have hz3 := HS.out.old.size; have hz4 := hT4.size
    have HO4 := hide ((HS.out.row.touched (KL.keeps keep_TkP _) hT4 hlt).own.alloc (.cells #[.int .i64 1, .int .i64 (ta2 : Nat), .string nm2] 46)); have HR4 := hide hR4; have HT4 := hide hT4; clear hR4 hT4 KT q1 q2 q3
    go_wp2_with (at_builtin; refine wpList_append_placed _ rfl _ _ 125 rfl w.heap.size 46 i0 _ 3 32 Tryz.underlying125 hi hz0 hz1 hz2 rfl (by decide) (.slice A l.length c) l.length (flat ys) rfl HO4.out ⟨W4.heap.size, 0, none⟩ 1 1 [.int .i64 1, .int .i64 (ta2 : Nat), .string nm2] rfl rfl (cells_new _ [.int .i64 1, .int .i64 (ta2 : Nat), .string nm2] _) (by intro u hu; simp at hu; rcases hu with rfl | rfl | rfl <;> rfl) (by decide) (by unfold maxLen; omega) (by omega) (by simp; omega) ?_)
    intro v' w6 hown6 hgr6 hpl6; obtain ⟨A6, c6, hv6, hS6⟩ := RwSt.snoc keep_TkP (x := (nm2, ta2)) H.out HS.out HR4.out HT4.out rfl rfl hown6 hgr6 (by simpa using hpl6); subst hv6; have HS6 := hide hS6
    clear hown6 hgr6 hpl6 hS6 HO4 HR4 HT4 HS
    go_wp2_with fail
    go_roundg g'
    case measure => omega
    case rel => exact ⟨l ++ [(nm2, ta2)], st2, A6, c6, _, by simp, HE2.out, HL2.out, by simp; omega, HS6.out⟩
  . have hp' : st'.kin 1 = false := by simpa using hp
    have hkq : ((k : Int) == (1 : Int)) = false := by rw [show ((1 : Int)) = ((1 : Nat) : Int) from rfl, hk1, <- hke, hp']
    have hfi : fin = (l, st') := by rw [<- HE.out]; unfold namesF; rw [if_neg hp]
    subst hfi
    have HF : Hid (RQ w rb mv s st' (NsR w l) (.returned (.slice A l.length c)) wr) := by
     obtain ⟨A', c', e', hL⟩ := GRow.toks (l := l) HS.out.row; injection e' with e1 e2 e3; subst e1; exact .inl ⟨hco, ⟨A, c, rfl, hL⟩, HS.out.rdy, HS.out.old⟩
    clear HE HLt hp hp' hok hco HS hk hk3 hk1 hke
    go_wp2_with fail
    go_ret; exact HF.out
end
section
variable {K : World -> (Nat -> Prop) -> Nat -> Value -> Prop} {w5 w6 : World} {T z n0 k : Nat} {rv rv' : Value} {xs news : List Value}
theorem GRow.more (hK : Keeps K) (h : GRow K w5 T z 0 n0 k rv xs) (hf : ∀ i (hi : i < news.length), ∃ a : Array Value, news[i] = .agg a /\ a.size = z) (hx : ∀ j (hj : j < news.length), K w5 (fun b => n0 <= b /\ rv.ownBlock ≠ some b) (k + j) news[j])
 (hown : w6.ownsRow n0 T z rv' (k + news.length) (flat xs ++ flat news)) (hgr : w5.grownBy w6 rv.ownBlock) (hpl : rv'.ownBlock = rv.ownBlock \/ rv'.ownBlock = some w5.heap.size) : GRow K w6 T z 0 n0 (k + news.length) rv' (xs ++ news) := by
 have hne' : ∀ b, b < w5.heap.size -> rv.ownBlock ≠ some b -> rv'.ownBlock ≠ some b := fun b hb hne => by
  rcases hpl with e | e
  . rw [e]; exact hne
  . rw [e]; simp; omega
 refine ⟨?_, by simp [h.len], fun i hi => ?_, fun j hj => ?_⟩
 . rw [flat_append]
   exact hown
 . by_cases hix : i < xs.length
   . rw [List.getElem_append_left hix]; exact h.forms i hix
   . rw [List.getElem_append_right (by omega)]
     exact hf _ _
 . by_cases hjx : j < xs.length
   . rw [List.getElem_append_left hjx]
     exact hK _ _ _ _ _ _ (fun b hb hS => ⟨⟨hS.1, hne' b hb hS.2⟩, hgr.block b hb (fun e => hS.2 e.symm)⟩) (h.parts j hjx)
   . rw [List.getElem_append_right (by omega)]
     have hj' : j - xs.length < news.length := by simp at hj; omega
     have := hx (j - xs.length) hj'; have e : k + (j - xs.length) = j := by have := h.len; omega
     rw [e] at this; exact hK _ _ _ _ _ _ (fun b hb hS => ⟨⟨.inr hS.1, hne' b hb hS.2⟩, hgr.block b hb (fun e => hS.2 e.symm)⟩) this
end
section
variable {α : Type} {P : World -> (Nat -> Prop) -> α -> Value -> Prop} {T z : Nat} {rb : Nat} {mv : Value} {s : ByteArray}
theorem RwSt.nil {w W : World} {st : FS} (hR : Rdy W rb mv s st) (hT : Touched w rb W) : RwSt P T z w rb mv s [] st none 0 [] W := ⟨GRow.start _ _ _ _ _ _, hR, hT⟩
theorem RwSt.alloc (hP : Keep1 P) {w W : World} {st : FS} {l : List α} {A : Option Addr} {c : Nat} {ys : List Value} (h : RwSt P T z w rb mv s l st A c ys W) (hlt : rb < w.heap.size) (o : Obj) : RwSt P T z w rb mv s l st A c ys (W.alloc o) := h.touched hP (h.rdy.alloc o) (Touched.alloc _ _ _) hlt
theorem RwSt.more (hP : Keep1 P) {w W w6 : World} {l l' : List α} {st st0 : FS} {A : Option Addr} {c : Nat} {ys news : List Value} {rv : Value} (h0 : Rdy w rb mv s st0) (h : RwSt P T z w rb mv s l st A c ys W) (hlen : news.length = l'.length) (hf : ∀ i (hi : i < news.length), ∃ a : Array Value, news[i] = .agg a /\ a.size = z)
 (hx : ∀ j (hj : j < l'.length), P W (fun b => w.heap.size <= b /\ (Value.slice A l.length c).ownBlock ≠ some b) l'[j] (news[j]'(by omega)))
 (hown : w6.ownsRow w.heap.size T z rv (l.length + l'.length) (flat ys ++ flat news)) (hgr : W.grownBy w6 (Value.slice A l.length c).ownBlock) (hpl : rv.ownBlock = (Value.slice A l.length c).ownBlock \/ rv.ownBlock = some W.heap.size) :
 ∃ A6 c6, rv = .slice A6 (l.length + l'.length) c6 /\ RwSt P T z w rb mv s (l ++ l') st A6 c6 (ys ++ news) w6 := by
 have hlt := h0.lt; have hz := h.old.size
 have h1 : GRow (KL P (l ++ l')) W T z 0 w.heap.size l.length (.slice A l.length c) ys := h.row.imp fun S j v hj ⟨hj', hv⟩ => ⟨by simp; omega, by rw [List.getElem_append_left hj']; exact hv⟩
 have hG := GRow.more (KL.keeps hP _) h1 hf (fun j hj => ⟨by simp; omega, by
  have e1 : (l ++ l')[l.length + j]'(by simp; omega) = l'[j] := by rw [List.getElem_append_right (by omega)]; simp
  rw [e1]; exact hx j (by omega)⟩) (by rw [hlen]; exact hown) hgr hpl
 obtain ⟨A6, c6, hv6⟩ := own_row_slice hown; subst hv6; refine ⟨A6, c6, rfl, ?_⟩
 have hT6 : Touched w rb w6 := by
  refine ⟨hgr.os.trans h.old.os, hgr.tape.trans h.old.tape, hgr.output.trans h.old.output, Nat.le_trans hz hgr.size, fun b hb hne => ?_⟩
  rw [hgr.block b (by omega) (fun e => by have := (h.row.own.lt _ e.symm).1; omega)]; exact h.old.block b hb hne
 refine ⟨by have := hG; rw [hlen] at this; simpa using this, h0.next (h.rdy.rd.of_block ?_) h.rdy.ok hT6, hT6⟩; exact hgr.block rb h.rdy.lt (fun e => by have := (h.row.own.lt _ e.symm).1; omega)
end
abbrev bcs (nm : ByteArray) (im : Bool) (xv : Array Value) (a : Int) : Array Value := #[.string nm, .bool im] ++ xv ++ #[.int .i64 a]
def BdP (W : World) (S : Nat -> Prop) (b : Bd) (v : Value) : Prop := ∃ xv, InX W S b.ty xv /\ v = .agg (bcs b.nm b.im xv (b.at_ : Nat))
theorem keep_BdP : Keep1 BdP := fun _ _ _ _ _ _ h ⟨xv, hx, e⟩ => ⟨xv, hx.keep h, e⟩
def BdsIn (w : World) (S : Nat -> Prop) (A : Option Addr) (l : List Bd) : Prop := ∀ i (h : i < l.length), ∃ b xv, A = some ⟨b, 0, none⟩ /\ S b /\ InX w S l[i].ty xv /\ ∀ q, q < 12 -> w.cell? ⟨b, i * 12 + q, none⟩ = (bcs l[i].nm l[i].im xv (l[i].at_ : Nat))[q]?
theorem GRow.bds {W : World} {T n0 : Nat} {l : List Bd} {rv : Value} {ys : List Value} (h : GRow (KL BdP l) W T 12 0 n0 l.length rv ys) : ∃ A c, rv = .slice A l.length c /\ BdsIn W (fun b => n0 <= b) A l := by
 obtain ⟨A, c, e, hp⟩ := h.out (KL.keeps keep_BdP _); refine ⟨A, c, e, fun i hi => ?_⟩; obtain ⟨g, a, ea, hg, hz, hc, hin⟩ := hp i hi; obtain ⟨_, xv, hx, hv⟩ := hin
 have hv' : a = bcs l[i].nm l[i].im xv (l[i].at_ : Nat) := by injection hv
 subst hv'; exact ⟨g, xv, ea, hg, hx.mono fun b hb => by rcases hb with hb | hb; omega; exact hb, hc⟩
theorem BdsIn.keep {w w' : World} {S S' : Nat -> Prop} {A : Option Addr} {l : List Bd} (h : BdsIn w S A l) (hk : ∀ b, b < w.heap.size -> S b -> S' b /\ w'.heap[b]? = w.heap[b]?) : BdsIn w' S' A l := fun i hi => by
 obtain ⟨b, xv, e, hs, hx, hc⟩ := h i hi; have hz := hx.size; have hb : b < w.heap.size := World.block_lt_of_cell? _ ⟨b, i * 12 + 0, none⟩ ((hc 0 (by omega)).trans (Array.getElem?_eq_getElem (by simp; omega)))
 have h1 := hk b hb hs; exact ⟨b, xv, e, h1.1, hx.keep hk, fun q hq => (World.cell?_of_block h1.2).trans (hc q hq)⟩
theorem ExFit.mono {N M : Nat} (h : N <= M) {x : Ex} (hx : ExFit N x) : ExFit M x := by
 induction hx with
 | mk hl hx3 _ ih => exact ExFit.mk (Nat.le_trans hl h) hx3 ih
theorem ExFit.zero (N : Nat) (kd a : Nat) (nm : ByteArray) (ex gi inf im : Bool) : ExFit N (.node kd a nm ex gi inf im [] []) := ExFit.mk (by simp) (by simp) (fun i hi => absurd hi (by simp))
theorem ExFit.two {N kd a : Nat} {nm : ByteArray} {ex gi inf im : Bool} {x y : Ex} (hx : ExFit N x) (hy : ExFit N y) : ExFit N (.node kd a nm ex gi inf im [] [x, y]) := ExFit.mk (by simp) (by simp) (fun i hi => by
 match i, hi with
 | 0, _ => exact hx
 | 1, _ => exact hy)
theorem ExFit.three {N kd a : Nat} {nm : ByteArray} {ex gi inf im : Bool} {x y u : Ex} (hx : ExFit N x) (hy : ExFit N y) (hu : ExFit N u) : ExFit N (.node kd a nm ex gi inf im [] [x, y, u]) := ExFit.mk (by simp) (by simp) (fun i hi => by
 match i, hi with
 | 0, _ => exact hx
 | 1, _ => exact hy
 | 2, _ => exact hu)
theorem levelsN_len (s : ByteArray) (n : Nat) : ∀ (m : Nat) (ls : List LvB) (st : FS), (levelsN s n m ls st).1.length <= ls.length + m
 | 0, ls, st => Nat.le_refl _
 | m + 1, ls, st => by
   simp only [levelsN]
   split
   . have := levelsN_len s n m (ls ++ [(levelN s n (st.step s)).1]) (levelN s n (st.step s)).2
     simp at this
     omega
   . simp
section
variable {s : ByteArray} {n N : Nat} {E : FS -> Ex × FS}
theorem nameX_fit (hn : n + 1 <= N) (a : Nat) (ex : Bool) (st : FS) : ExFit N (nameX s n a ex st).1 := by
 unfold nameX
 simp only
 split
 . refine ExFit.mk ?_ (by simp) (fun i hi => absurd hi (by simp))
   have := levelsN_len s n n [(levelN s n ((st.name s).2.step s)).1] (levelN s n ((st.name s).2.step s)).2
   simp at this
   omega
 . exact ExFit.zero _ _ _ _ _ _ _ _
theorem sortX_fit (hn : n + 1 <= N) (a : Nat) (l : LvB) : ExFit N (sortX a l) := ExFit.mk (by simp; omega) (by simp) (fun i hi => absurd hi (by simp))
theorem atomF_fit (hn : n + 1 <= N) (hE : ∀ st, ExFit N (E st).1) (st : FS) : ExFit N (atomF s n E st).1 := by
 unfold atomF
 split
 . exact nameX_fit hn _ _ _
 split
 . exact nameX_fit hn _ _ _
 split
 . exact ExFit.zero _ _ _ _ _ _ _ _
 split
 . exact sortX_fit hn _ _
 split
 . split
   . exact sortX_fit hn _ _
   . exact sortX_fit hn _ _
 split
 . exact sortX_fit hn _ _
 split
 . unfold bracketX
   simp only
   split
   . exact ExFit.two (hE _) (hE _)
   . exact hE _
 . exact ExFit.zero _ _ _ _ _ _ _ _
theorem applyN_fit (hn : n + 1 <= N) (hE : ∀ st, ExFit N (E st).1) : ∀ (m : Nat) (e : Ex) (st : FS), ExFit N e -> ExFit N (applyN s n E m e st).1
 | 0, _, _, h => h
 | m + 1, e, st, h => by
   simp only [applyN]
   split
   . exact applyN_fit hn hE m _ _ (ExFit.two h (atomF_fit hn hE _))
   . exact h
theorem applyF_fit (hn : n + 1 <= N) (hE : ∀ st, ExFit N (E st).1) (st : FS) : ExFit N (applyF s n E st).1 := applyN_fit hn hE _ _ _ (atomF_fit hn hE _)
theorem equalF_fit (hn : n + 1 <= N) (hE : ∀ st, ExFit N (E st).1) (st : FS) : ExFit N (equalF s n E st).1 := by
 unfold equalF
 simp only
 split
 . exact ExFit.two (ExFit.two (ExFit.zero _ _ _ _ _ _ _ _) (applyF_fit hn hE _)) (applyF_fit hn hE _)
 . exact applyF_fit hn hE _
theorem groupF_fit (hE : ∀ st, ExFit N (E st).1) (st : FS) : ∀ b ∈ (groupF s n E st).1, ExFit N b.ty := fun b hb => by
 unfold groupF at hb
 simp only [List.mem_map] at hb
 obtain ⟨x, _, rfl⟩ := hb; exact hE _
theorem groupsN_fit (hE : ∀ st, ExFit N (E st).1) : ∀ (m : Nat) (l : List Bd) (st : FS), (∀ b ∈ l, ExFit N b.ty) -> ∀ b ∈ (groupsN s n E m l st).1, ExFit N b.ty
 | 0, _, _, h => h
 | m + 1, l, st, h => by
   simp only [groupsN]
   split
   . exact groupsN_fit hE m _ _ (fun b hb => by rcases List.mem_append.1 hb with hb | hb; exact h b hb; exact groupF_fit hE _ b hb)
   . exact h
theorem funsN_fit (hE : ∀ st, ExFit N (E st).1) : ∀ (m : Nat) (l : List Bd) (st : FS), (∀ b ∈ l, ExFit N b.ty) -> ∀ b ∈ (funsN s n E m l st).1, ExFit N b.ty
 | 0, _, _, h => h
 | m + 1, l, st, h => by
   simp only [funsN]
   split
   . refine funsN_fit hE m _ _ (fun b hb => ?_)
     rcases List.mem_append.1 hb with hb | hb
     . exact h b hb
     . rw [List.mem_singleton] at hb
       subst hb; exact ExFit.zero _ _ _ _ _ _ _ _
   . split
     . exact funsN_fit hE m _ _ (fun b hb => by rcases List.mem_append.1 hb with hb | hb; exact h b hb; exact groupF_fit hE _ b hb)
     . exact h
theorem underX_fit (k : Nat) : ∀ (l : List Bd) (e : Ex), (∀ b ∈ l, ExFit N b.ty) -> ExFit N e -> ExFit N (underX k l e)
 | [], _, _, h => h
 | b :: l, e, hl, h => ExFit.two (hl b (by simp)) (underX_fit k l e (fun b hb => hl b (by simp [hb])) h)
theorem some1_fst (p : List Bd × FS) : (some1 p).1 = p.1 := by unfold some1; split <;> rfl
theorem exprF_fit (hn : n + 1 <= N) (hE : ∀ st, ExFit N (E st).1) (st : FS) : ExFit N (exprF s n E st).1 := by
 unfold exprF
 simp only
 split
 . exact underX_fit _ _ _ (by rw [some1_fst]; exact funsN_fit hE _ _ _ (fun b hb => by cases hb)) (hE _)
 split
 . exact underX_fit _ _ _ (by rw [some1_fst]; exact groupsN_fit hE _ _ _ (fun b hb => by cases hb)) (hE _)
 split
 . unfold letX
   exact ExFit.three (hE _) (hE _) (hE _)
 split
 . exact ExFit.two (equalF_fit hn hE _) (hE _)
 . exact equalF_fit hn hE _
end
theorem exprN_fit (s : ByteArray) : ∀ (n : Nat) (st : FS), ExFit (n + 1) (exprN s n st).1
 | 0, _ => ExFit.zero _ _ _ _ _ _ _ _
 | n + 1, st => exprF_fit (by omega) (fun st => (exprN_fit s n st).mono (by omega)) st
theorem Tryz.info86' : (Tryz.prog.info? 86).map (fun i => (i.zero, i.size, i.bytes)) = some (some (.agg #[.string ⟨#[]⟩, .bool false, .int .i64 0, .int .i64 0, .string ⟨#[]⟩, .bool false, .bool false, .bool false, .bool false, .slice none 0 0, .slice none 0 0, .int .i64 0]), 12, 120) := by kernel_rfl
theorem Tryz.size64 : (Tryz.prog.info? 84).map (·.size) = some 11 := by kernel_rfl
end Go.Proofs.YtockffblncdikaaGreatDoor
