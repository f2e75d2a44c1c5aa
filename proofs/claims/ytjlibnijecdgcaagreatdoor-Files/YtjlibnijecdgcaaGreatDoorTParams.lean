/- The contract of among: whether a name stands in a list. -/
import Derived.Test.YtjlibnijecdgcaaGreatDoorTok
import Derived.Test.YtjlibnijecdgcaaGreatDoorParse
import Derived.Test.YtjlibnijecdgcaaGreatDoorKin

namespace Go.Proofs.YtjlibnijecdgcaaGreatDoor
open Go.RowKit

end Go.Proofs.YtjlibnijecdgcaaGreatDoor

/- The contract of the document's Params: the parameters of a level behind those that are there. -/
namespace Go.Proofs.YtjlibnijecdgcaaGreatDoor
open Go.RowKit

/-- The parameters of a level behind those that are there. -/
def Lv.addP : LvB → List ByteArray → List ByteArray
  | .zero, ns => ns
  | .succ a, ns => Lv.addP a ns
  | .max a b, ns => Lv.addP b (Lv.addP a ns)
  | .imax a b, ns => Lv.addP b (Lv.addP a ns)
  | .param p, ns => if hasB p ns then ns else ns ++ [p]

theorem Lv.addP_len : ∀ (l : LvB) (ns : List ByteArray), (l.addP ns).length ≤ ns.length + l.nodes
  | .zero, ns => by simp [addP]
  | .succ a, ns => by have := Lv.addP_len a ns; simp only [addP, nodes]; omega
  | .max a b, ns => by have := Lv.addP_len a ns; have := Lv.addP_len b (a.addP ns); simp only [addP, nodes]; omega
  | .imax a b, ns => by have := Lv.addP_len a ns; have := Lv.addP_len b (a.addP ns); simp only [addP, nodes]; omega
  | .param p, ns => by simp only [addP, nodes]; split <;> simp

/-- .. of its first parts. -/
def Lv.addKids (l : LvB) (k : Nat) (ns : List ByteArray) : List ByteArray := (l.kids.take k).foldl (fun ms a => Lv.addP a ms) ns

theorem Lv.addKids_snoc (l : LvB) (k : Nat) (ns : List ByteArray) (h : k < l.kids.length) : l.addKids (k + 1) ns = Lv.addP l.kids[k] (l.addKids k ns) := by
  unfold addKids; rw [List.take_succ_eq_append_getElem h, List.foldl_append]; rfl
theorem Lv.addKids_all (l : LvB) (ns : List ByteArray) (h : l.kind ≠ 4) : l.addKids l.kids.length ns = l.addP ns := by
  cases l <;> simp [addKids, kids, addP, kind] at h ⊢
theorem Lv.addKids_len (l : LvB) (k : Nat) (ns : List ByteArray) (h : k < l.kids.length) : (l.addKids k ns).length + (l.kids[k]).nodes ≤ ns.length + l.nodes := by
  cases l with
  | zero => simp [kids] at h
  | param => simp [kids] at h
  | succ a => match k, h with | 0, _ => simp [kids, nodes, addKids]
  | max a b => match k, h with | 0, _ => simp [kids, nodes, addKids]; omega | 1, _ => have := Lv.addP_len a ns; simp [kids, nodes, addKids]; omega
  | imax a b => match k, h with | 0, _ => simp [kids, nodes, addKids]; omega | 1, _ => have := Lv.addP_len a ns; simp [kids, nodes, addKids]; omega

theorem Tryz.info9 : (Tryz.prog.info? 9).map (fun i => (i.zero, i.size, i.bytes)) = some (some (.string ⟨#[]⟩), 1, 16) := by kernel_rfl

theorem one_new (w : World) (s : ByteArray) (t : TypeId) : ∀ j u, [Value.string s][j]? = some u → (w.alloc (.cells #[.string s] t)).cell? ((⟨w.heap.size, 0, none⟩ : Addr).add j) = some u := cell_one_new w (.string s) t

end Go.Proofs.YtjlibnijecdgcaaGreatDoor

/- Plain mathematics: the numbers that the document's Leq tries, and that they decide. No walk. -/
namespace Go.Proofs.YtjlibnijecdgcaaGreatDoor
open Go.RowKit

/-- a is worth at most what b is, under all numbers. -/
def Leq (a b : LvB) : Prop := ∀ σ : ByteArray → Nat, a.worth σ ≤ b.worth σ

open Classical in
noncomputable def leB (a b : LvB) : Bool := decide (Leq a b)
theorem leB_true {a b : LvB} (h : Leq a b) : leB a b = true := by simp [leB, h]
theorem leB_false {a b : LvB} (h : ¬ Leq a b) : leB a b = false := by simp [leB, h]

/-- 0, 1, a great one. -/
def vals (G : Nat) : Nat → Nat
  | 0 => 0
  | 1 => 1
  | _ => G

def digs (G : Nat) : Nat → Nat → List Nat
  | 0, _ => []
  | n + 1, k => vals G (k % 3) :: digs G n (k / 3)

theorem digs_len (G : Nat) : ∀ n k, (digs G n k).length = n
  | 0, _ => rfl
  | n + 1, k => by simp [digs, digs_len G n]

theorem digs_snoc (G : Nat) : ∀ n k, digs G (n + 1) k = digs G n k ++ [vals G (k / 3 ^ n % 3)]
  | 0, k => by simp [digs]
  | n + 1, k => by
    rw [digs, digs_snoc G n (k / 3), digs, List.cons_append, Nat.div_div_eq_div_mul, Nat.pow_succ, Nat.mul_comm 3]

theorem digs_le {G m : Nat} (h : G ≤ m) (h1 : 1 ≤ m) : ∀ n k, ∀ x ∈ digs G n k, x ≤ m
  | 0, _, x, hx => by simp [digs] at hx
  | n + 1, k, x, hx => by
    simp only [digs, List.mem_cons] at hx
    rcases hx with rfl | hx
    · unfold vals; split <;> omega
    · exact digs_le h h1 n _ x hx

/-- Whatever each place holds, there is a number that has it. -/
theorem digs_all (G : Nat) : ∀ (ps : List ByteArray) (f : ByteArray → Nat), (∀ p, f p < 3) → ∃ k, k < 3 ^ ps.length ∧ digs G ps.length k = ps.map fun p => vals G (f p)
  | [], _, _ => ⟨0, by simp, rfl⟩
  | p :: ps, f, hf => by
    obtain ⟨k, hk, hd⟩ := digs_all G ps f hf
    have h3 := hf p
    refine ⟨k * 3 + f p, ?_, ?_⟩
    · simp only [List.length_cons, Nat.pow_succ]; omega
    · simp only [List.length_cons, digs, List.map_cons]
      rw [show (k * 3 + f p) % 3 = f p by omega, show (k * 3 + f p) / 3 = k by omega, hd]

theorem look_map (g : ByteArray → Nat) : ∀ (ps : List ByteArray) (q : ByteArray), q ∈ ps → look ps (ps.map g) q = g q
  | p :: ps, q, h => by
    simp only [List.map_cons, look]
    split
    · rename_i e; rw [e]
    · rename_i e
      refine look_map g ps q ?_
      simp only [List.mem_cons] at h
      exact h.resolve_left fun e' => e e'.symm

/-- Every parameter of a level stands in the list; what stood there stands there still. -/
theorem Lv.addP_sub : ∀ (l : LvB) (ns : List ByteArray) (p : ByteArray), p ∈ ns → p ∈ l.addP ns
  | .zero, _, _, h => h
  | .succ a, ns, p, h => Lv.addP_sub a ns p h
  | .max a b, ns, p, h => Lv.addP_sub b _ p (Lv.addP_sub a ns p h)
  | .imax a b, ns, p, h => Lv.addP_sub b _ p (Lv.addP_sub a ns p h)
  | .param q, ns, p, h => by simp only [addP]; split; exact h; simp [h]

theorem Lv.addP_has : ∀ (l : LvB) (ns : List ByteArray) (p : ByteArray), Lv.has p l → p ∈ l.addP ns
  | .succ a, ns, p, h => Lv.addP_has a ns p h
  | .max a b, ns, p, h => by
    simp only [addP]
    rcases h with h | h
    · exact Lv.addP_sub b _ p (Lv.addP_has a ns p h)
    · exact Lv.addP_has b _ p h
  | .imax a b, ns, p, h => by
    simp only [addP]
    rcases h with h | h
    · exact Lv.addP_sub b _ p (Lv.addP_has a ns p h)
    · exact Lv.addP_has b _ p h
  | .param q, ns, p, h => by
    simp only [has] at h
    subst h
    simp only [addP]
    split
    · rename_i e; exact hasB_iff.1 e
    · simp

theorem Lv.addP_mem : ∀ (l : LvB) (ns : List ByteArray) (p : ByteArray), p ∈ l.addP ns → p ∈ ns ∨ Lv.has p l
  | .zero, _, _, h => .inl h
  | .succ a, ns, p, h => Lv.addP_mem a ns p h
  | .max a b, ns, p, h => by
    rcases Lv.addP_mem b _ p h with h | h
    · exact (Lv.addP_mem a ns p h).imp id .inl
    · exact .inr (.inr h)
  | .imax a b, ns, p, h => by
    rcases Lv.addP_mem b _ p h with h | h
    · exact (Lv.addP_mem a ns p h).imp id .inl
    · exact .inr (.inr h)
  | .param q, ns, p, h => by
    simp only [addP] at h
    split at h
    · exact .inl h
    · simp only [List.mem_append, List.mem_singleton] at h
      exact h.imp id fun e => e.symm

theorem Lv.addP_nodup : ∀ (l : LvB) (ns : List ByteArray), ns.Nodup → (l.addP ns).Nodup
  | .zero, _, h => h
  | .succ a, ns, h => Lv.addP_nodup a ns h
  | .max a b, ns, h => Lv.addP_nodup b _ (Lv.addP_nodup a ns h)
  | .imax a b, ns, h => Lv.addP_nodup b _ (Lv.addP_nodup a ns h)
  | .param p, ns, h => by
    simp only [addP]
    split
    · exact h
    · rename_i e
      rw [List.nodup_append]
      refine ⟨h, by simp, ?_⟩
      intro x hx y hy
      simp only [List.mem_singleton] at hy
      subst hy
      rintro rfl
      exact e (hasB_iff.2 hx)

/-- WHAT THE DOCUMENT's Leq TRIES DECIDES. -/
theorem tried_all {a b : LvB} {ps : List ByteArray} {G : Nat} (hps : ∀ p, a.has p ∨ b.has p → p ∈ ps) (hG : G = 2 + a.succs + b.succs)
    (h : ∀ k, k < 3 ^ ps.length → a.worth (look ps (digs G ps.length k)) ≤ b.worth (look ps (digs G ps.length k))) : Leq a b := by
  have key : ∀ τ : ByteArray → Nat, (∀ p, τ p = 0 ∨ τ p = 1 ∨ τ p = G) → a.worth τ ≤ b.worth τ := by
    intro τ hτ
    have hf : ∃ f : ByteArray → Nat, (∀ p, f p < 3) ∧ ∀ p, vals G (f p) = τ p := by
      refine ⟨fun p => if τ p = 0 then 0 else if τ p = 1 then 1 else 2, fun p => ?_, fun p => ?_⟩
      · simp only []; split <;> (try split) <;> omega
      · simp only []
        rcases hτ p with e | e | e
        · rw [if_pos e, e]; rfl
        · rw [if_neg (by omega), if_pos e, e]; rfl
        · split
          · rename_i e0; rw [e0]; rfl
          · split
            · rename_i e1; rw [e1]; rfl
            · rw [e]; rfl
    obtain ⟨f, hf3, hfv⟩ := hf
    obtain ⟨k, hk, hd⟩ := digs_all G ps f hf3
    have hl : ∀ p, a.has p ∨ b.has p → look ps (digs G ps.length k) p = τ p := by
      intro p hp
      rw [hd, look_map _ ps p (hps p hp), hfv]
    have := h k hk
    rwa [Lv.worth_congr (l := a) fun p hp => hl p (.inl hp), Lv.worth_congr (l := b) fun p hp => hl p (.inr hp)] at this
  intro σ
  refine decides a b (fun _ => true) G (fun _ _ => rfl) (fun _ _ => rfl) ?_ ?_ ?_ σ
  · intro τ hτ
    have := Lv.worth_le (σ := τ) (n := 1) b fun p _ => hτ p
    omega
  · intro σ
    exact key _ fun p => by simp only [least]; split <;> omega
  · intro σ p _
    exact key _ fun q => by show _ ∨ _ ∨ _; split; exact .inr (.inr rfl); simp only [least]; split <;> omega

end Go.Proofs.YtjlibnijecdgcaaGreatDoor

/- The contract of the document's TermParams. -/
namespace Go.Proofs.YtjlibnijecdgcaaGreatDoor
open Go.RowKit

def addLs (ls : List LvB) (ns : List ByteArray) : List ByteArray := ls.foldl (fun ms l => l.addP ms) ns
/-- The parameters of all levels of a term, behind those of a list. -/
def addT : Nat → Tm → List ByteArray → List ByteArray
  | 0, _, ns => ns
  | d + 1, t, ns => t.ts.foldl (fun ms x => addT d x ms) (addLs t.ls ns)

theorem addLs_succ (ls : List LvB) (k : Nat) (h : k < ls.length) (ns : List ByteArray) : addLs (ls.take (k + 1)) ns = (ls[k]).addP (addLs (ls.take k) ns) := by
  unfold addLs
  rw [List.take_succ_eq_append_getElem h, List.foldl_append]
  rfl
theorem addTs_succ (d : Nat) (ts : List Tm) (k : Nat) (h : k < ts.length) (ns : List ByteArray) : (ts.take (k + 1)).foldl (fun ms x => addT d x ms) ns = addT d ts[k] ((ts.take k).foldl (fun ms x => addT d x ms) ns) := by
  rw [List.take_succ_eq_append_getElem h, List.foldl_append]
  rfl
theorem addLs_len : ∀ (ls : List LvB) (ns : List ByteArray), (addLs ls ns).length ≤ ns.length + (ls.map Lv.nodes).sum
  | [], ns => by simp [addLs]
  | l :: ls, ns => by
    have h1 := addLs_len ls (l.addP ns)
    have h2 := Lv.addP_len l ns
    have e : addLs (l :: ls) ns = addLs ls (l.addP ns) := rfl
    rw [e]
    simp only [List.map_cons, List.sum_cons]
    omega
theorem InP.inLvBel {w : World} {B : Nat} : ∀ {l : LvB} {v : Value}, InP w (fun b => b < B) l v → InLv w B l v
  | .zero, _, h => h
  | .param _, _, h => h
  | .succ a, _, ⟨b, cap, x, e, hb, h3, ha⟩ => ⟨b, cap, x, e, hb, h3, InP.inLvBel (l := a) ha⟩
  | .max a c, _, ⟨b, cap, x, y, e, hb, h3, h4, ha, hc⟩ => ⟨b, cap, x, y, e, hb, h3, h4, InP.inLvBel (l := a) ha, InP.inLvBel (l := c) hc⟩
  | .imax a c, _, ⟨b, cap, x, y, e, hb, h3, h4, ha, hc⟩ => ⟨b, cap, x, y, e, hb, h3, h4, InP.inLvBel (l := a) ha, InP.inLvBel (l := c) hc⟩
theorem addT_len : ∀ (d : Nat) (t : Tm) (ns : List ByteArray), (addT d t ns).length ≤ ns.length + partsT d t
  | 0, _, ns => by simp [addT]
  | d + 1, t, ns => by
    have h1 := addLs_len t.ls ns
    have h2 : ∀ (ts : List Tm) (ns : List ByteArray), (ts.foldl (fun ms x => addT d x ms) ns).length ≤ ns.length + (ts.map (partsT d)).sum := fun ts => by
      induction ts with
      | nil => intro ns; simp
      | cons a ts ih =>
        intro ns
        have h3 := ih (addT d a ns)
        have h4 := addT_len d a ns
        simp only [List.foldl_cons, List.map_cons, List.sum_cons]
        omega
    have h3 := h2 t.ts (addLs t.ls ns)
    simp only [addT, partsT]
    omega
theorem addTs_len (d : Nat) : ∀ (ts : List Tm) (ns : List ByteArray), (ts.foldl (fun ms x => addT d x ms) ns).length ≤ ns.length + (ts.map (partsT d)).sum
  | [], ns => by simp
  | a :: ts, ns => by
    have h3 := addTs_len d ts (addT d a ns)
    have h4 := addT_len d a ns
    simp only [List.foldl_cons, List.map_cons, List.sum_cons]
    omega

/-- All parameters of a term stand in a list. -/
def ParT (L : List ByteArray) : Nat → Tm → Prop
  | 0, _ => True
  | d + 1, t => (∀ l ∈ t.ls, ∀ p, Lv.has p l → p ∈ L) ∧ ∀ i (hi : i < t.ts.length), ParT L d t.ts[i]
theorem ParT.mono {L L' : List ByteArray} (h : ∀ p ∈ L, p ∈ L') : ∀ {d : Nat} {t : Tm}, ParT L d t → ParT L' d t
  | 0, _, _ => trivial
  | _ + 1, _, ⟨h1, h2⟩ => ⟨fun l hl p hp => h p (h1 l hl p hp), fun i hi => (h2 i hi).mono h⟩
theorem addLs_sub : ∀ (ls : List LvB) (ns : List ByteArray) (p : ByteArray), p ∈ ns → p ∈ addLs ls ns
  | [], _, _, h => h
  | l :: ls, ns, p, h => addLs_sub ls (l.addP ns) p (Lv.addP_sub l ns p h)
theorem addLs_has : ∀ (ls : List LvB) (ns : List ByteArray) (l : LvB) (p : ByteArray), l ∈ ls → Lv.has p l → p ∈ addLs ls ns
  | [], _, _, _, h, _ => absurd h (by simp)
  | m :: ls, ns, l, p, h, hp => by
    rcases List.mem_cons.1 h with rfl | h
    · exact addLs_sub ls _ p (Lv.addP_has l ns p hp)
    · exact addLs_has ls (m.addP ns) l p h hp
theorem addT_sub : ∀ (d : Nat) (t : Tm) (ns : List ByteArray) (p : ByteArray), p ∈ ns → p ∈ addT d t ns
  | 0, _, _, _, h => h
  | d + 1, t, ns, p, h => by
    have h2 : ∀ (ts : List Tm) (ns : List ByteArray), p ∈ ns → p ∈ ts.foldl (fun ms x => addT d x ms) ns := fun ts => by
      induction ts with
      | nil => intro ns h; exact h
      | cons a ts ih => intro ns h; exact ih _ (addT_sub d a ns p h)
    exact h2 _ _ (addLs_sub _ _ _ h)
theorem addTs_sub (d : Nat) : ∀ (ts : List Tm) (ns : List ByteArray) (p : ByteArray), p ∈ ns → p ∈ ts.foldl (fun ms x => addT d x ms) ns
  | [], _, _, h => h
  | a :: ts, ns, p, h => addTs_sub d ts (addT d a ns) p (addT_sub d a ns p h)
theorem addT_par : ∀ (d : Nat) (t : Tm) (ns : List ByteArray), ParT (addT d t ns) d t
  | 0, _, _ => trivial
  | d + 1, t, ns => by
    refine ⟨fun l hl p hp => addTs_sub d _ _ _ (addLs_has _ _ _ _ hl hp), fun i hi => ?_⟩
    have h2 : ∀ (ts : List Tm) (ns : List ByteArray) (x : Tm), x ∈ ts → ParT (ts.foldl (fun ms x => addT d x ms) ns) d x := fun ts => by
      induction ts with
      | nil => intro ns x h; exact absurd h (by simp)
      | cons a ts ih =>
        intro ns x h
        rcases List.mem_cons.1 h with rfl | h
        · exact (addT_par d x ns).mono fun p hp => addTs_sub d _ _ _ hp
        · exact ih _ x h
    exact h2 _ _ _ (List.getElem_mem hi)

end Go.Proofs.YtjlibnijecdgcaaGreatDoor
