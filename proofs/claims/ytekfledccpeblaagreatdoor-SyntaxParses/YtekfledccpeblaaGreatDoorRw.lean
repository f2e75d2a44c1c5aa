/- Rows that grow by several; binders in memory; no list that is read is long. No walk. -/
import Derived.Test.YtekfledccpeblaaGreatDoorNs
import Derived.Test.YtekfledccpeblaaGreatDoorCx

namespace Go.Proofs.YtekfledccpeblaaGreatDoor
open Go.RowKit

section
variable {K : World → (Nat → Prop) → Nat → Value → Prop} {w5 w6 : World} {T z n0 k : Nat} {rv rv' : Value} {xs news : List Value}
theorem GRow.more (hK : Keeps K) (h : GRow K w5 T z 0 n0 k rv xs) (hf : ∀ i (hi : i < news.length), ∃ a : Array Value, news[i] = .agg a ∧ a.size = z) (hx : ∀ j (hj : j < news.length), K w5 (fun b => n0 ≤ b ∧ rv.ownBlock ≠ some b) (k + j) news[j])
    (hown : w6.ownsRow n0 T z rv' (k + news.length) (flat xs ++ flat news)) (hgr : w5.grownBy w6 rv.ownBlock) (hpl : rv'.ownBlock = rv.ownBlock ∨ rv'.ownBlock = some w5.heap.size) : GRow K w6 T z 0 n0 (k + news.length) rv' (xs ++ news) := by
  have hne' : ∀ b, b < w5.heap.size → rv.ownBlock ≠ some b → rv'.ownBlock ≠ some b := fun b hb hne => by
    rcases hpl with e | e
    · rw [e]; exact hne
    · rw [e]; simp; omega
  refine ⟨?_, by simp [h.len], fun i hi => ?_, fun j hj => ?_⟩
  · rw [flat_append]
    exact hown
  · by_cases hix : i < xs.length
    · rw [List.getElem_append_left hix]; exact h.forms i hix
    · rw [List.getElem_append_right (by omega)]
      exact hf _ _
  · by_cases hjx : j < xs.length
    · rw [List.getElem_append_left hjx]
      exact hK _ _ _ _ _ _ (fun b hb hS => ⟨⟨hS.1, hne' b hb hS.2⟩, hgr.block b hb (fun e => hS.2 e.symm)⟩) (h.parts j hjx)
    · rw [List.getElem_append_right (by omega)]
      have hj' : j - xs.length < news.length := by simp at hj; omega
      have := hx (j - xs.length) hj'
      have e : k + (j - xs.length) = j := by have := h.len; omega
      rw [e] at this
      exact hK _ _ _ _ _ _ (fun b hb hS => ⟨⟨.inr hS.1, hne' b hb hS.2⟩, hgr.block b hb (fun e => hS.2 e.symm)⟩) this
end
section
variable {α : Type} {P : World → (Nat → Prop) → α → Value → Prop} {T z : Nat} {rb : Nat} {mv : Value} {s : ByteArray}
theorem RwSt.nil {w W : World} {st : FS} (hR : Rdy W rb mv s st) (hT : Touched w rb W) : RwSt P T z w rb mv s [] st none 0 [] W := ⟨GRow.start _ _ _ _ _ _, hR, hT⟩
theorem RwSt.alloc (hP : Keep1 P) {w W : World} {st : FS} {l : List α} {A : Option Addr} {c : Nat} {ys : List Value} (h : RwSt P T z w rb mv s l st A c ys W) (hlt : rb < w.heap.size) (o : Obj) : RwSt P T z w rb mv s l st A c ys (W.alloc o) := h.touched hP (h.rdy.alloc o) (Touched.alloc _ _ _) hlt
theorem RwSt.more (hP : Keep1 P) {w W w6 : World} {l l' : List α} {st st0 : FS} {A : Option Addr} {c : Nat} {ys news : List Value} {rv : Value} (h0 : Rdy w rb mv s st0) (h : RwSt P T z w rb mv s l st A c ys W) (hlen : news.length = l'.length) (hf : ∀ i (hi : i < news.length), ∃ a : Array Value, news[i] = .agg a ∧ a.size = z)
    (hx : ∀ j (hj : j < l'.length), P W (fun b => w.heap.size ≤ b ∧ (Value.slice A l.length c).ownBlock ≠ some b) l'[j] (news[j]'(by omega)))
    (hown : w6.ownsRow w.heap.size T z rv (l.length + l'.length) (flat ys ++ flat news)) (hgr : W.grownBy w6 (Value.slice A l.length c).ownBlock) (hpl : rv.ownBlock = (Value.slice A l.length c).ownBlock ∨ rv.ownBlock = some W.heap.size) :
    ∃ A6 c6, rv = .slice A6 (l.length + l'.length) c6 ∧ RwSt P T z w rb mv s (l ++ l') st A6 c6 (ys ++ news) w6 := by
  have hlt := h0.lt
  have hz := h.old.size
  have h1 : GRow (KL P (l ++ l')) W T z 0 w.heap.size l.length (.slice A l.length c) ys := h.row.imp fun S j v hj ⟨hj', hv⟩ => ⟨by simp; omega, by rw [List.getElem_append_left hj']; exact hv⟩
  have hG := GRow.more (KL.keeps hP _) h1 hf (fun j hj => ⟨by simp; omega, by
    have e1 : (l ++ l')[l.length + j]'(by simp; omega) = l'[j] := by rw [List.getElem_append_right (by omega)]; simp
    rw [e1]
    exact hx j (by omega)⟩) (by rw [hlen]; exact hown) hgr hpl
  obtain ⟨A6, c6, hv6⟩ := own_row_slice hown
  subst hv6
  refine ⟨A6, c6, rfl, ?_⟩
  have hT6 : Touched w rb w6 := by
    refine ⟨hgr.os.trans h.old.os, hgr.tape.trans h.old.tape, hgr.output.trans h.old.output, Nat.le_trans hz hgr.size, fun b hb hne => ?_⟩
    rw [hgr.block b (by omega) (fun e => by have := (h.row.own.lt _ e.symm).1; omega)]
    exact h.old.block b hb hne
  refine ⟨by have := hG; rw [hlen] at this; simpa using this, h0.next (h.rdy.rd.of_block ?_) h.rdy.ok hT6, hT6⟩
  exact hgr.block rb h.rdy.lt (fun e => by have := (h.row.own.lt _ e.symm).1; omega)
end

/-- A binder's cells. -/
abbrev bcs (nm : ByteArray) (im : Bool) (xv : Array Value) (a : Int) : Array Value := #[.string nm, .bool im] ++ xv ++ #[.int .i64 a]
/-- A binder lies there. -/
def BdP (W : World) (S : Nat → Prop) (b : Bd) (v : Value) : Prop := ∃ xv, InX W S b.ty xv ∧ v = .agg (bcs b.nm b.im xv (b.at_ : Nat))
theorem keep_BdP : Keep1 BdP := fun _ _ _ _ _ _ h ⟨xv, hx, e⟩ => ⟨xv, hx.keep h, e⟩
/-- Binders lie there. -/
def BdsIn (w : World) (S : Nat → Prop) (A : Option Addr) (l : List Bd) : Prop := ∀ i (h : i < l.length), ∃ b xv, A = some ⟨b, 0, none⟩ ∧ S b ∧ InX w S l[i].ty xv ∧ ∀ q, q < 12 → w.cell? ⟨b, i * 12 + q, none⟩ = (bcs l[i].nm l[i].im xv (l[i].at_ : Nat))[q]?
theorem GRow.bds {W : World} {T n0 : Nat} {l : List Bd} {rv : Value} {ys : List Value} (h : GRow (KL BdP l) W T 12 0 n0 l.length rv ys) : ∃ A c, rv = .slice A l.length c ∧ BdsIn W (fun b => n0 ≤ b) A l := by
  obtain ⟨A, c, e, hp⟩ := h.out (KL.keeps keep_BdP _)
  refine ⟨A, c, e, fun i hi => ?_⟩
  obtain ⟨g, a, ea, hg, hz, hc, hin⟩ := hp i hi
  obtain ⟨_, xv, hx, hv⟩ := hin
  have hv' : a = bcs l[i].nm l[i].im xv (l[i].at_ : Nat) := by injection hv
  subst hv'
  exact ⟨g, xv, ea, hg, hx.mono fun b hb => by rcases hb with hb | hb; omega; exact hb, hc⟩
theorem BdsIn.keep {w w' : World} {S S' : Nat → Prop} {A : Option Addr} {l : List Bd} (h : BdsIn w S A l) (hk : ∀ b, b < w.heap.size → S b → S' b ∧ w'.heap[b]? = w.heap[b]?) : BdsIn w' S' A l := fun i hi => by
  obtain ⟨b, xv, e, hs, hx, hc⟩ := h i hi
  have hz := hx.size
  have hb : b < w.heap.size := World.block_lt_of_cell? _ ⟨b, i * 12 + 0, none⟩ ((hc 0 (by omega)).trans (Array.getElem?_eq_getElem (by simp; omega)))
  have h1 := hk b hb hs
  exact ⟨b, xv, e, h1.1, hx.keep hk, fun q hq => (World.cell?_of_block h1.2).trans (hc q hq)⟩

/-- No list that is read is long. -/
theorem ExFit.mono {N M : Nat} (h : N ≤ M) {x : Ex} (hx : ExFit N x) : ExFit M x := by
  induction hx with
  | mk hl hx3 _ ih => exact ExFit.mk (Nat.le_trans hl h) hx3 ih
theorem ExFit.zero (N : Nat) (kd a : Nat) (nm : ByteArray) (ex gi inf im : Bool) : ExFit N (.node kd a nm ex gi inf im [] []) := ExFit.mk (by simp) (by simp) (fun i hi => absurd hi (by simp))
theorem ExFit.two {N kd a : Nat} {nm : ByteArray} {ex gi inf im : Bool} {x y : Ex} (hx : ExFit N x) (hy : ExFit N y) : ExFit N (.node kd a nm ex gi inf im [] [x, y]) := ExFit.mk (by simp) (by simp) (fun i hi => by
  match i, hi with
  | 0, _ => exact hx
  | 1, _ => exact hy)
theorem ExFit.three {N kd a : Nat} {nm : ByteArray} {ex gi inf im : Bool} {x y u : Ex} (hx : ExFit N x) (hy : ExFit N y) (hu : ExFit N u) : ExFit N (.node kd a nm ex gi inf im [] [x, y, u]) := ExFit.mk (by simp) (by simp) (fun i hi => by
  match i, hi with
  | 0, _ => exact hx
  | 1, _ => exact hy
  | 2, _ => exact hu)
theorem levelsN_len (s : ByteArray) (n : Nat) : ∀ (m : Nat) (ls : List LvB) (st : FS), (levelsN s n m ls st).1.length ≤ ls.length + m
  | 0, ls, st => Nat.le_refl _
  | m + 1, ls, st => by
    simp only [levelsN]
    split
    · have := levelsN_len s n m (ls ++ [(levelN s n (st.step s)).1]) (levelN s n (st.step s)).2
      simp at this
      omega
    · simp
section
variable {s : ByteArray} {n N : Nat} {E : FS → Ex × FS}
theorem nameX_fit (hn : n + 1 ≤ N) (a : Nat) (ex : Bool) (st : FS) : ExFit N (nameX s n a ex st).1 := by
  unfold nameX
  simp only
  split
  · refine ExFit.mk ?_ (by simp) (fun i hi => absurd hi (by simp))
    have := levelsN_len s n n [(levelN s n ((st.name s).2.step s)).1] (levelN s n ((st.name s).2.step s)).2
    simp at this
    omega
  · exact ExFit.zero _ _ _ _ _ _ _ _
theorem sortX_fit (hn : n + 1 ≤ N) (a : Nat) (l : LvB) : ExFit N (sortX a l) := ExFit.mk (by simp; omega) (by simp) (fun i hi => absurd hi (by simp))
theorem atomF_fit (hn : n + 1 ≤ N) (hE : ∀ st, ExFit N (E st).1) (st : FS) : ExFit N (atomF s n E st).1 := by
  unfold atomF
  split
  · exact nameX_fit hn _ _ _
  split
  · exact nameX_fit hn _ _ _
  split
  · exact ExFit.zero _ _ _ _ _ _ _ _
  split
  · exact sortX_fit hn _ _
  split
  · split
    · exact sortX_fit hn _ _
    · exact sortX_fit hn _ _
  split
  · exact sortX_fit hn _ _
  split
  · unfold bracketX
    simp only
    split
    · exact ExFit.two (hE _) (hE _)
    · exact hE _
  · exact ExFit.zero _ _ _ _ _ _ _ _
theorem applyN_fit (hn : n + 1 ≤ N) (hE : ∀ st, ExFit N (E st).1) : ∀ (m : Nat) (e : Ex) (st : FS), ExFit N e → ExFit N (applyN s n E m e st).1
  | 0, _, _, h => h
  | m + 1, e, st, h => by
    simp only [applyN]
    split
    · exact applyN_fit hn hE m _ _ (ExFit.two h (atomF_fit hn hE _))
    · exact h
theorem applyF_fit (hn : n + 1 ≤ N) (hE : ∀ st, ExFit N (E st).1) (st : FS) : ExFit N (applyF s n E st).1 := applyN_fit hn hE _ _ _ (atomF_fit hn hE _)
theorem equalF_fit (hn : n + 1 ≤ N) (hE : ∀ st, ExFit N (E st).1) (st : FS) : ExFit N (equalF s n E st).1 := by
  unfold equalF
  simp only
  split
  · exact ExFit.two (ExFit.two (ExFit.zero _ _ _ _ _ _ _ _) (applyF_fit hn hE _)) (applyF_fit hn hE _)
  · exact applyF_fit hn hE _
theorem groupF_fit (hE : ∀ st, ExFit N (E st).1) (st : FS) : ∀ b ∈ (groupF s n E st).1, ExFit N b.ty := fun b hb => by
  unfold groupF at hb
  simp only [List.mem_map] at hb
  obtain ⟨x, _, rfl⟩ := hb
  exact hE _
theorem groupsN_fit (hE : ∀ st, ExFit N (E st).1) : ∀ (m : Nat) (l : List Bd) (st : FS), (∀ b ∈ l, ExFit N b.ty) → ∀ b ∈ (groupsN s n E m l st).1, ExFit N b.ty
  | 0, _, _, h => h
  | m + 1, l, st, h => by
    simp only [groupsN]
    split
    · exact groupsN_fit hE m _ _ (fun b hb => by rcases List.mem_append.1 hb with hb | hb; exact h b hb; exact groupF_fit hE _ b hb)
    · exact h
theorem funsN_fit (hE : ∀ st, ExFit N (E st).1) : ∀ (m : Nat) (l : List Bd) (st : FS), (∀ b ∈ l, ExFit N b.ty) → ∀ b ∈ (funsN s n E m l st).1, ExFit N b.ty
  | 0, _, _, h => h
  | m + 1, l, st, h => by
    simp only [funsN]
    split
    · refine funsN_fit hE m _ _ (fun b hb => ?_)
      rcases List.mem_append.1 hb with hb | hb
      · exact h b hb
      · rw [List.mem_singleton] at hb
        subst hb
        exact ExFit.zero _ _ _ _ _ _ _ _
    · split
      · exact funsN_fit hE m _ _ (fun b hb => by rcases List.mem_append.1 hb with hb | hb; exact h b hb; exact groupF_fit hE _ b hb)
      · exact h
theorem underX_fit (k : Nat) : ∀ (l : List Bd) (e : Ex), (∀ b ∈ l, ExFit N b.ty) → ExFit N e → ExFit N (underX k l e)
  | [], _, _, h => h
  | b :: l, e, hl, h => ExFit.two (hl b (by simp)) (underX_fit k l e (fun b hb => hl b (by simp [hb])) h)
theorem some1_fst (p : List Bd × FS) : (some1 p).1 = p.1 := by unfold some1; split <;> rfl
theorem exprF_fit (hn : n + 1 ≤ N) (hE : ∀ st, ExFit N (E st).1) (st : FS) : ExFit N (exprF s n E st).1 := by
  unfold exprF
  simp only
  split
  · exact underX_fit _ _ _ (by rw [some1_fst]; exact funsN_fit hE _ _ _ (fun b hb => by cases hb)) (hE _)
  split
  · exact underX_fit _ _ _ (by rw [some1_fst]; exact groupsN_fit hE _ _ _ (fun b hb => by cases hb)) (hE _)
  split
  · unfold letX
    exact ExFit.three (hE _) (hE _) (hE _)
  split
  · exact ExFit.two (equalF_fit hn hE _) (hE _)
  · exact equalF_fit hn hE _
end
theorem exprN_fit (s : ByteArray) : ∀ (n : Nat) (st : FS), ExFit (n + 1) (exprN s n st).1
  | 0, _ => ExFit.zero _ _ _ _ _ _ _ _
  | n + 1, st => exprF_fit (by omega) (fun st => (exprN_fit s n st).mono (by omega)) st

theorem Tryz.info103' : (Tryz.prog.info? 103).map (fun i => (i.zero, i.size, i.bytes)) = some (some (.agg #[.string ⟨#[]⟩, .bool false, .int .i64 0, .int .i64 0, .string ⟨#[]⟩, .bool false, .bool false, .bool false, .bool false, .slice none 0 0, .slice none 0 0, .int .i64 0]), 12, 120) := by kernel_rfl
theorem Tryz.size64 : (Tryz.prog.info? 64).map (·.size) = some 11 := by kernel_rfl

end Go.Proofs.YtekfledccpeblaaGreatDoor
