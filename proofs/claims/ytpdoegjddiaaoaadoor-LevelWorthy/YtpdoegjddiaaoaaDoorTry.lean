/- What the closure 'try' of always tells, as a function; the memory that it stands on; no walk. -/
import Derived.Test.YtpdoegjddiaaoaaDoorGatesAll
import Derived.Test.YtpdoegjddiaaoaaDoorGreat
import Derived.Test.YtpdoegjddiaaoaaDoorOrder
namespace Go.Proofs.YtpdoegjddiaaoaaDoor
open Go.RowKit Go.Maps

def up (σ : ByteArray → Nat) (p : ByteArray) (c : Nat) (q : ByteArray) : Nat := if q = p then c else σ q

def tryB (hold : Nat → Nat → Bool) (a b : LvB) (g : ByteArray → Bool) (G : Nat) : List ByteArray → Bool → (ByteArray → Nat) → Bool
  | [], _, σ => hold (a.worth σ) (b.worth σ)
  | p :: ps, may, σ => tryB hold a b g G ps may (up σ p 0) && (!g p || tryB hold a b g G ps may (up σ p 1)) && (!may || tryB hold a b g G ps false (up σ p G))

theorem tryB_congr {hold : Nat → Nat → Bool} {a b : LvB} {g : ByteArray → Bool} {G : Nat} : ∀ (ps : List ByteArray) (may : Bool) (σ σ' : ByteArray → Nat), (∀ q, q ∉ ps → σ q = σ' q) → tryB hold a b g G ps may σ = tryB hold a b g G ps may σ'
  | [], _, σ, σ', h => by have e : σ = σ' := funext fun q => h q (by simp); rw [e]
  | p :: ps, may, σ, σ', h => by
    have key : ∀ c, ∀ q, q ∉ ps → up σ p c q = up σ' p c q := fun c q hq => by
      unfold up
      by_cases e : q = p
      · simp [e]
      · simp only [if_neg e]; exact h q (by simp [e, hq])
    simp only [tryB, tryB_congr ps may _ _ (key 0), tryB_congr ps may _ _ (key 1), tryB_congr ps false _ _ (key G)]

/-- What is tried: numbers 0, 1 (gates alone) and, where may, one great one. -/
inductive Tried (g : ByteArray → Bool) (G : Nat) : List ByteArray → Bool → (ByteArray → Nat) → (ByteArray → Nat) → Prop
  | nil (may : Bool) (σ : ByteArray → Nat) : Tried g G [] may σ σ
  | zero {p : ByteArray} {ps : List ByteArray} {may : Bool} {σ τ : ByteArray → Nat} (h : Tried g G ps may (up σ p 0) τ) : Tried g G (p :: ps) may σ τ
  | one {p : ByteArray} {ps : List ByteArray} {may : Bool} {σ τ : ByteArray → Nat} (hg : g p = true) (h : Tried g G ps may (up σ p 1) τ) : Tried g G (p :: ps) may σ τ
  | great {p : ByteArray} {ps : List ByteArray} {σ τ : ByteArray → Nat} (h : Tried g G ps false (up σ p G) τ) : Tried g G (p :: ps) true σ τ

theorem tryB_tried {hold : Nat → Nat → Bool} {a b : LvB} {g : ByteArray → Bool} {G : Nat} : ∀ {ps : List ByteArray} {may : Bool} {σ τ : ByteArray → Nat}, tryB hold a b g G ps may σ = true → Tried g G ps may σ τ → hold (a.worth τ) (b.worth τ) = true
  | _, _, _, _, h, .nil _ _ => h
  | _, _, _, _, h, .zero ht => by simp only [tryB, Bool.and_eq_true] at h; exact tryB_tried h.1.1 ht
  | _, _, _, _, h, .one hg ht => by simp only [tryB, hg, Bool.and_eq_true] at h; exact tryB_tried (by simpa using h.1.2) ht
  | _, _, _, _, h, .great ht => by simp only [tryB, Bool.and_eq_true] at h; exact tryB_tried (by simpa using h.2) ht

/-- Where it holds of all numbers, it is told. -/
theorem tryB_all {hold : Nat → Nat → Bool} {a b : LvB} {g : ByteArray → Bool} {G : Nat} (h : ∀ τ : ByteArray → Nat, hold (a.worth τ) (b.worth τ) = true) : ∀ (ps : List ByteArray) (may : Bool) (σ : ByteArray → Nat), tryB hold a b g G ps may σ = true
  | [], _, σ => h σ
  | p :: ps, may, σ => by simp [tryB, tryB_all h ps]

/-- The least numbers of a pattern are tried. -/
theorem Tried.least {g : ByteArray → Bool} {G : Nat} (ρ : ByteArray → Nat) : ∀ (ps : List ByteArray) (may : Bool) (σ : ByteArray → Nat), ps.Nodup → ∃ τ, Tried g G ps may σ τ ∧ (∀ q, q ∈ ps → τ q = Go.Proofs.YtpdoegjddiaaoaaDoor.least g ρ q) ∧ ∀ q, q ∉ ps → τ q = σ q
  | [], may, σ, _ => ⟨σ, .nil _ _, by simp, fun _ _ => rfl⟩
  | p :: ps, may, σ, hnd => by
    have hp : p ∉ ps := (List.nodup_cons.1 hnd).1
    have hps := (List.nodup_cons.1 hnd).2
    by_cases hg : g p = true ∧ ρ p ≠ 0
    · obtain ⟨τ, ht, h1, h2⟩ := Tried.least ρ ps may (up σ p 1) hps
      refine ⟨τ, .one hg.1 ht, fun q hq => ?_, fun q hq => ?_⟩
      · rcases List.mem_cons.1 hq with rfl | hq
        · rw [h2 _ hp]; simp [up, Go.Proofs.YtpdoegjddiaaoaaDoor.least, hg.1, hg.2]
        · exact h1 q hq
      · simp only [List.mem_cons, not_or] at hq
        rw [h2 q hq.2]; simp [up, hq.1]
    · obtain ⟨τ, ht, h1, h2⟩ := Tried.least ρ ps may (up σ p 0) hps
      refine ⟨τ, .zero ht, fun q hq => ?_, fun q hq => ?_⟩
      · rcases List.mem_cons.1 hq with rfl | hq
        · rw [h2 _ hp]; simp only [up, Go.Proofs.YtpdoegjddiaaoaaDoor.least, if_true, if_neg hg]
        · exact h1 q hq
      · simp only [List.mem_cons, not_or] at hq
        rw [h2 q hq.2]; simp [up, hq.1]

/-- .. and these with one parameter great. -/
theorem Tried.oneGreat {g : ByteArray → Bool} {G : Nat} (ρ : ByteArray → Nat) (r : ByteArray) : ∀ (ps : List ByteArray) (σ : ByteArray → Nat), ps.Nodup → r ∈ ps → ∃ τ, Tried g G ps true σ τ ∧ (∀ q, q ∈ ps → τ q = if q = r then G else Go.Proofs.YtpdoegjddiaaoaaDoor.least g ρ q) ∧ ∀ q, q ∉ ps → τ q = σ q
  | p :: ps, σ, hnd, hr => by
    have hp : p ∉ ps := (List.nodup_cons.1 hnd).1
    have hps := (List.nodup_cons.1 hnd).2
    by_cases e : p = r
    · subst e
      obtain ⟨τ, ht, h1, h2⟩ := Tried.least (G := G) ρ ps false (up σ p G) hps
      refine ⟨τ, .great ht, fun q hq => ?_, fun q hq => ?_⟩
      · rcases List.mem_cons.1 hq with rfl | hq
        · rw [h2 _ hp]; simp [up]
        · rw [if_neg (fun e' : q = p => hp (by rw [← e']; exact hq))]; exact h1 q hq
      · simp only [List.mem_cons, not_or] at hq
        rw [h2 q hq.2]; simp [up, hq.1]
    · have hr' : r ∈ ps := (List.mem_cons.1 hr).resolve_left fun e' => e e'.symm
      by_cases hg : g p = true ∧ ρ p ≠ 0
      · obtain ⟨τ, ht, h1, h2⟩ := Tried.oneGreat ρ r ps (up σ p 1) hps hr'
        refine ⟨τ, .one hg.1 ht, fun q hq => ?_, fun q hq => ?_⟩
        · rcases List.mem_cons.1 hq with rfl | hq
          · rw [h2 _ hp, if_neg e]; simp [up, Go.Proofs.YtpdoegjddiaaoaaDoor.least, hg.1, hg.2]
          · exact h1 q hq
        · simp only [List.mem_cons, not_or] at hq
          rw [h2 q hq.2]; simp [up, hq.1]
      · obtain ⟨τ, ht, h1, h2⟩ := Tried.oneGreat ρ r ps (up σ p 0) hps hr'
        refine ⟨τ, .zero ht, fun q hq => ?_, fun q hq => ?_⟩
        · rcases List.mem_cons.1 hq with rfl | hq
          · rw [h2 _ hp, if_neg e]; simp only [up, Go.Proofs.YtpdoegjddiaaoaaDoor.least, if_true, if_neg hg]
          · exact h1 q hq
        · simp only [List.mem_cons, not_or] at hq
          rw [h2 q hq.2]; simp [up, hq.1]

/-- WHAT always TRIES DECIDES: a is worth at most what b is. -/
theorem tried_decides {a b : LvB} {g : ByteArray → Bool} {G : Nat} {ps : List ByteArray} {σ : ByteArray → Nat} (hps : ∀ p, a.has p ∨ b.has p → p ∈ ps) (hnd : ps.Nodup)
    (hga : ∀ p, a.gate p false → g p = true) (hgb : ∀ p, b.gate p false → g p = true) (hG : ∀ τ : ByteArray → Nat, (∀ p, τ p ≤ 1) → b.worth τ < G)
    (h : ∀ τ, Tried g G ps true σ τ → a.worth τ ≤ b.worth τ) : Leq a b := by
  intro ρ
  refine decides a b g G hga hgb hG ?_ ?_ ρ
  · intro ρ
    obtain ⟨τ, ht, h1, _⟩ := Tried.least (g := g) (G := G) ρ ps true σ hnd
    have := h τ ht
    rwa [Lv.worth_congr (l := a) fun p hp => h1 p (hps p (.inl hp)), Lv.worth_congr (l := b) fun p hp => h1 p (hps p (.inr hp))] at this
  · intro ρ r hr
    obtain ⟨τ, ht, h1, _⟩ := Tried.oneGreat (g := g) (G := G) ρ r ps σ hnd (hps r (.inl hr))
    have := h τ ht
    rwa [Lv.worth_congr (l := a) fun p hp => h1 p (hps p (.inl hp)), Lv.worth_congr (l := b) fun p hp => h1 p (hps p (.inr hp))] at this

end Go.Proofs.YtpdoegjddiaaoaaDoor
