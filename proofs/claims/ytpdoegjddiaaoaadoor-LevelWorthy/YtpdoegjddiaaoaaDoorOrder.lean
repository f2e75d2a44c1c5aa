/- Plain mathematics: the numbers that the document's Leq tries, and that they decide. No walk. -/
import Derived.Test.YtpdoegjddiaaoaaDoorRefParams
namespace Go.Proofs.YtpdoegjddiaaoaaDoor
open Go.RowKit

/-- a is worth at most what b is, under all numbers. -/
def Leq (a b : LvB) : Prop := ∀ σ : ByteArray → Nat, a.worth σ ≤ b.worth σ

open Classical in
noncomputable def leB (a b : LvB) : Bool := decide (Leq a b)
theorem leB_true {a b : LvB} (h : Leq a b) : leB a b = true := by simp [leB, h]
theorem leB_false {a b : LvB} (h : ¬ Leq a b) : leB a b = false := by simp [leB, h]

/-- 0, 1, a great one. -/
def vals (G : Nat) : Nat → Nat
  | 0 => 0
  | 1 => 1
  | _ => G

def digs (G : Nat) : Nat → Nat → List Nat
  | 0, _ => []
  | n + 1, k => vals G (k % 3) :: digs G n (k / 3)

theorem digs_len (G : Nat) : ∀ n k, (digs G n k).length = n
  | 0, _ => rfl
  | n + 1, k => by simp [digs, digs_len G n]

theorem digs_snoc (G : Nat) : ∀ n k, digs G (n + 1) k = digs G n k ++ [vals G (k / 3 ^ n % 3)]
  | 0, k => by simp [digs]
  | n + 1, k => by
    rw [digs, digs_snoc G n (k / 3), digs, List.cons_append, Nat.div_div_eq_div_mul, Nat.pow_succ, Nat.mul_comm 3]

theorem digs_le {G m : Nat} (h : G ≤ m) (h1 : 1 ≤ m) : ∀ n k, ∀ x ∈ digs G n k, x ≤ m
  | 0, _, x, hx => by simp [digs] at hx
  | n + 1, k, x, hx => by
    simp only [digs, List.mem_cons] at hx
    rcases hx with rfl | hx
    · unfold vals; split <;> omega
    · exact digs_le h h1 n _ x hx

/-- Whatever each place holds, there is a number that has it. -/
theorem digs_all (G : Nat) : ∀ (ps : List ByteArray) (f : ByteArray → Nat), (∀ p, f p < 3) → ∃ k, k < 3 ^ ps.length ∧ digs G ps.length k = ps.map fun p => vals G (f p)
  | [], _, _ => ⟨0, by simp, rfl⟩
  | p :: ps, f, hf => by
    obtain ⟨k, hk, hd⟩ := digs_all G ps f hf
    have h3 := hf p
    refine ⟨k * 3 + f p, ?_, ?_⟩
    · simp only [List.length_cons, Nat.pow_succ]; omega
    · simp only [List.length_cons, digs, List.map_cons]
      rw [show (k * 3 + f p) % 3 = f p by omega, show (k * 3 + f p) / 3 = k by omega, hd]

theorem look_map (g : ByteArray → Nat) : ∀ (ps : List ByteArray) (q : ByteArray), q ∈ ps → look ps (ps.map g) q = g q
  | p :: ps, q, h => by
    simp only [List.map_cons, look]
    split
    · rename_i e; rw [e]
    · rename_i e
      refine look_map g ps q ?_
      simp only [List.mem_cons] at h
      exact h.resolve_left fun e' => e e'.symm

/-- Every parameter of a level stands in the list; what stood there stands there still. -/
theorem Lv.addP_sub : ∀ (l : LvB) (ns : List ByteArray) (p : ByteArray), p ∈ ns → p ∈ l.addP ns
  | .zero, _, _, h => h
  | .succ a, ns, p, h => Lv.addP_sub a ns p h
  | .max a b, ns, p, h => Lv.addP_sub b _ p (Lv.addP_sub a ns p h)
  | .imax a b, ns, p, h => Lv.addP_sub b _ p (Lv.addP_sub a ns p h)
  | .param q, ns, p, h => by simp only [addP]; split; exact h; simp [h]

theorem Lv.addP_has : ∀ (l : LvB) (ns : List ByteArray) (p : ByteArray), Lv.has p l → p ∈ l.addP ns
  | .succ a, ns, p, h => Lv.addP_has a ns p h
  | .max a b, ns, p, h => by
    simp only [addP]
    rcases h with h | h
    · exact Lv.addP_sub b _ p (Lv.addP_has a ns p h)
    · exact Lv.addP_has b _ p h
  | .imax a b, ns, p, h => by
    simp only [addP]
    rcases h with h | h
    · exact Lv.addP_sub b _ p (Lv.addP_has a ns p h)
    · exact Lv.addP_has b _ p h
  | .param q, ns, p, h => by
    simp only [has] at h
    subst h
    simp only [addP]
    split
    · rename_i e; exact hasB_iff.1 e
    · simp

theorem Lv.addP_mem : ∀ (l : LvB) (ns : List ByteArray) (p : ByteArray), p ∈ l.addP ns → p ∈ ns ∨ Lv.has p l
  | .zero, _, _, h => .inl h
  | .succ a, ns, p, h => Lv.addP_mem a ns p h
  | .max a b, ns, p, h => by
    rcases Lv.addP_mem b _ p h with h | h
    · exact (Lv.addP_mem a ns p h).imp id .inl
    · exact .inr (.inr h)
  | .imax a b, ns, p, h => by
    rcases Lv.addP_mem b _ p h with h | h
    · exact (Lv.addP_mem a ns p h).imp id .inl
    · exact .inr (.inr h)
  | .param q, ns, p, h => by
    simp only [addP] at h
    split at h
    · exact .inl h
    · simp only [List.mem_append, List.mem_singleton] at h
      exact h.imp id fun e => e.symm

theorem Lv.addP_nodup : ∀ (l : LvB) (ns : List ByteArray), ns.Nodup → (l.addP ns).Nodup
  | .zero, _, h => h
  | .succ a, ns, h => Lv.addP_nodup a ns h
  | .max a b, ns, h => Lv.addP_nodup b _ (Lv.addP_nodup a ns h)
  | .imax a b, ns, h => Lv.addP_nodup b _ (Lv.addP_nodup a ns h)
  | .param p, ns, h => by
    simp only [addP]
    split
    · exact h
    · rename_i e
      rw [List.nodup_append]
      refine ⟨h, by simp, ?_⟩
      intro x hx y hy
      simp only [List.mem_singleton] at hy
      subst hy
      rintro rfl
      exact e (hasB_iff.2 hx)

/-- WHAT THE DOCUMENT's Leq TRIES DECIDES. -/
theorem tried_all {a b : LvB} {ps : List ByteArray} {G : Nat} (hps : ∀ p, a.has p ∨ b.has p → p ∈ ps) (hG : G = 2 + a.succs + b.succs)
    (h : ∀ k, k < 3 ^ ps.length → a.worth (look ps (digs G ps.length k)) ≤ b.worth (look ps (digs G ps.length k))) : Leq a b := by
  have key : ∀ τ : ByteArray → Nat, (∀ p, τ p = 0 ∨ τ p = 1 ∨ τ p = G) → a.worth τ ≤ b.worth τ := by
    intro τ hτ
    have hf : ∃ f : ByteArray → Nat, (∀ p, f p < 3) ∧ ∀ p, vals G (f p) = τ p := by
      refine ⟨fun p => if τ p = 0 then 0 else if τ p = 1 then 1 else 2, fun p => ?_, fun p => ?_⟩
      · simp only []; split <;> (try split) <;> omega
      · simp only []
        rcases hτ p with e | e | e
        · rw [if_pos e, e]; rfl
        · rw [if_neg (by omega), if_pos e, e]; rfl
        · split
          · rename_i e0; rw [e0]; rfl
          · split
            · rename_i e1; rw [e1]; rfl
            · rw [e]; rfl
    obtain ⟨f, hf3, hfv⟩ := hf
    obtain ⟨k, hk, hd⟩ := digs_all G ps f hf3
    have hl : ∀ p, a.has p ∨ b.has p → look ps (digs G ps.length k) p = τ p := by
      intro p hp
      rw [hd, look_map _ ps p (hps p hp), hfv]
    have := h k hk
    rwa [Lv.worth_congr (l := a) fun p hp => hl p (.inl hp), Lv.worth_congr (l := b) fun p hp => hl p (.inr hp)] at this
  intro σ
  refine decides a b (fun _ => true) G (fun _ _ => rfl) (fun _ _ => rfl) ?_ ?_ ?_ σ
  · intro τ hτ
    have := Lv.worth_le (σ := τ) (n := 1) b fun p _ => hτ p
    omega
  · intro σ
    exact key _ fun p => by simp only [least]; split <;> omega
  · intro σ p _
    exact key _ fun q => by show _ ∨ _ ∨ _; split; exact .inr (.inr rfl); simp only [least]; split <;> omega

end Go.Proofs.YtpdoegjddiaaoaaDoor
