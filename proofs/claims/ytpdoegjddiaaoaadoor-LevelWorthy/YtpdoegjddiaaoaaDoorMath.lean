/- Plain mathematics of levels: what a level is worth, and that three numbers (0, 1 and a great one) decide whether one level is at most another under all numbers. It speaks of no program. -/
namespace Go.Proofs.YtpdoegjddiaaoaaDoor

/-- A level. -/
inductive Lv (α : Type) where
  | zero
  | succ (a : Lv α)
  | max (a b : Lv α)
  | imax (a b : Lv α)
  | param (p : α)

variable {α : Type}

/-- What a level is worth. -/
def Lv.worth (σ : α → Nat) : Lv α → Nat
  | .zero => 0
  | .succ a => a.worth σ + 1
  | .max a b => Max.max (a.worth σ) (b.worth σ)
  | .imax a b => if b.worth σ = 0 then 0 else Max.max (a.worth σ) (b.worth σ)
  | .param p => σ p

/-- How many successors stand in it. -/
def Lv.succs : Lv α → Nat
  | .zero => 0
  | .succ a => a.succs + 1
  | .max a b => a.succs + b.succs
  | .imax a b => a.succs + b.succs
  | .param _ => 0

/-- p stands in it. -/
def Lv.has (p : α) : Lv α → Prop
  | .zero => False
  | .succ a => a.has p
  | .max a b => a.has p ∨ b.has p
  | .imax a b => a.has p ∨ b.has p
  | .param q => q = p

/-- p stands in it where it may decide an imax (d: all of it stands so). -/
def Lv.gate (p : α) : Bool → Lv α → Prop
  | _, .zero => False
  | d, .succ a => a.gate p d
  | d, .max a b => a.gate p d ∨ b.gate p d
  | d, .imax a b => a.gate p d ∨ b.gate p true
  | d, .param q => d = true ∧ q = p

theorem Lv.gate_mono {p : α} : ∀ {l : Lv α} {d : Bool}, l.gate p d → l.gate p true
  | .zero, _, h => h
  | .succ a, _, h => Lv.gate_mono (l := a) h
  | .max a b, _, h => h.elim (fun h => .inl (Lv.gate_mono (l := a) h)) (fun h => .inr (Lv.gate_mono (l := b) h))
  | .imax a _, _, h => h.elim (fun h => .inl (Lv.gate_mono (l := a) h)) .inr
  | .param _, _, h => ⟨rfl, h.2⟩

theorem Lv.worth_congr {σ τ : α → Nat} : ∀ {l : Lv α}, (∀ p, l.has p → σ p = τ p) → l.worth σ = l.worth τ
  | .zero, _ => rfl
  | .succ a, h => by simp only [worth]; rw [Lv.worth_congr (l := a) h]
  | .max a b, h => by simp only [worth]; rw [Lv.worth_congr (l := a) fun p hp => h p (.inl hp), Lv.worth_congr (l := b) fun p hp => h p (.inr hp)]
  | .imax a b, h => by simp only [worth]; rw [Lv.worth_congr (l := a) fun p hp => h p (.inl hp), Lv.worth_congr (l := b) fun p hp => h p (.inr hp)]
  | .param p, h => h p rfl

theorem Lv.worth_mono {σ τ : α → Nat} (h : ∀ p, σ p ≤ τ p) : ∀ (l : Lv α), l.worth σ ≤ l.worth τ
  | .zero => Nat.le_refl _
  | .succ a => Nat.succ_le_succ (Lv.worth_mono h a)
  | .max a b => by have := Lv.worth_mono h a; have := Lv.worth_mono h b; simp only [worth]; omega
  | .imax a b => by have := Lv.worth_mono h a; have := Lv.worth_mono h b; simp only [worth]; split <;> split <;> omega
  | .param p => h p

/-- Under numbers of at most n a level is worth at most n and its successors. -/
theorem Lv.worth_le {σ : α → Nat} {n : Nat} : ∀ (l : Lv α), (∀ p, l.has p → σ p ≤ n) → l.worth σ ≤ n + l.succs
  | .zero, _ => Nat.zero_le _
  | .succ a, h => by have := Lv.worth_le a h; simp only [worth, succs]; omega
  | .max a b, h => by have := Lv.worth_le a fun p hp => h p (.inl hp); have := Lv.worth_le b fun p hp => h p (.inr hp); simp only [worth, succs]; omega
  | .imax a b, h => by have := Lv.worth_le a fun p hp => h p (.inl hp); have := Lv.worth_le b fun p hp => h p (.inr hp); simp only [worth, succs]; split <;> omega
  | .param p, h => by have := h p rfl; simp only [worth, succs]; omega

/-- Is it worth 0, where z tells which parameters are 0? -/
def Lv.isZero (z : α → Bool) : Lv α → Bool
  | .zero => true
  | .succ _ => false
  | .max a b => a.isZero z && b.isZero z
  | .imax _ b => b.isZero z
  | .param p => z p

theorem Lv.isZero_iff {z : α → Bool} {τ : α → Nat} : ∀ (l : Lv α), (∀ p, l.gate p true → (z p = true ↔ τ p = 0)) → (l.isZero z = true ↔ l.worth τ = 0)
  | .zero, _ => by simp [isZero, worth]
  | .succ a, _ => by simp [isZero, worth]
  | .max a b, h => by
    have ha := Lv.isZero_iff a fun p hp => h p (.inl hp)
    have hb := Lv.isZero_iff b fun p hp => h p (.inr hp)
    simp only [isZero, worth, Bool.and_eq_true, ha, hb]; omega
  | .imax a b, h => by
    have hb := Lv.isZero_iff b fun p hp => h p (.inr hp)
    simp only [isZero, worth, hb]; split <;> omega
  | .param p, h => h p ⟨rfl, rfl⟩

/-- The greatest of a number and of some p + k. -/
structure Nf (α : Type) where
  c : Nat
  ks : List (α × Nat)

def Lv.nf (z : α → Bool) : Lv α → Nf α
  | .zero => ⟨0, []⟩
  | .succ a => ⟨(a.nf z).c + 1, (a.nf z).ks.map fun x => (x.1, x.2 + 1)⟩
  | .max a b => ⟨Max.max (a.nf z).c (b.nf z).c, (a.nf z).ks ++ (b.nf z).ks⟩
  | .imax a b => if b.isZero z then ⟨0, []⟩ else ⟨Max.max (a.nf z).c (b.nf z).c, (a.nf z).ks ++ (b.nf z).ks⟩
  | .param p => ⟨0, [(p, 0)]⟩

def Nf.le (τ : α → Nat) (f : Nf α) (n : Nat) : Prop := f.c ≤ n ∧ ∀ x ∈ f.ks, τ x.1 + x.2 ≤ n

theorem Lv.nf_le {z : α → Bool} {τ : α → Nat} : ∀ (l : Lv α) (n : Nat), (∀ p, l.gate p false → (z p = true ↔ τ p = 0)) → (l.worth τ ≤ n ↔ (l.nf z).le τ n)
  | .zero, n, _ => by simp [worth, nf, Nf.le]
  | .succ a, n, h => by
    have ha := Lv.nf_le a (n - 1) h
    simp only [worth, nf, Nf.le]
    constructor
    · intro hn
      have h2 := ha.1 (by omega)
      refine ⟨by have := h2.1; omega, fun x hx => ?_⟩
      obtain ⟨y, hy, rfl⟩ := List.mem_map.1 hx
      have := h2.2 y hy
      simp only []
      omega
    · intro hn
      have h2 := ha.2 ⟨by have := hn.1; omega, fun y hy => by have := hn.2 _ (List.mem_map.2 ⟨y, hy, rfl⟩); simp only [] at this; omega⟩
      have := hn.1
      omega
  | .max a b, n, h => by
    have ha := Lv.nf_le a n fun p hp => h p (.inl hp)
    have hb := Lv.nf_le b n fun p hp => h p (.inr hp)
    simp only [worth, nf, Nf.le] at *
    constructor
    · intro hn
      have h1 := ha.1 (by omega)
      have h2 := hb.1 (by omega)
      refine ⟨by omega, fun x hx => ?_⟩
      rcases List.mem_append.1 hx with hx | hx
      · exact h1.2 x hx
      · exact h2.2 x hx
    · intro hn
      have h1 := ha.2 ⟨by have := hn.1; omega, fun x hx => hn.2 x (List.mem_append.2 (.inl hx))⟩
      have h2 := hb.2 ⟨by have := hn.1; omega, fun x hx => hn.2 x (List.mem_append.2 (.inr hx))⟩
      omega
  | .imax a b, n, h => by
    have ha := Lv.nf_le a n fun p hp => h p (.inl hp)
    have hb := Lv.nf_le b n fun p hp => h p (.inr (Lv.gate_mono hp))
    have hz := Lv.isZero_iff b fun p hp => h p (.inr hp)
    simp only [worth, nf]
    by_cases h0 : b.worth τ = 0
    · rw [if_pos h0, if_pos (hz.2 h0)]
      simp [Nf.le]
    · rw [if_neg h0, if_neg (fun e => h0 (hz.1 e))]
      simp only [Nf.le] at *
      constructor
      · intro hn
        have h1 := ha.1 (by omega)
        have h2 := hb.1 (by omega)
        refine ⟨by omega, fun x hx => ?_⟩
        rcases List.mem_append.1 hx with hx | hx
        · exact h1.2 x hx
        · exact h2.2 x hx
      · intro hn
        have h1 := ha.2 ⟨by have := hn.1; omega, fun x hx => hn.2 x (List.mem_append.2 (.inl hx))⟩
        have h2 := hb.2 ⟨by have := hn.1; omega, fun x hx => hn.2 x (List.mem_append.2 (.inr hx))⟩
        omega
  | .param p, n, _ => by simp [worth, nf, Nf.le]

/-- Every name of the greatest's form stands in the level. -/
theorem Lv.nf_has {z : α → Bool} : ∀ (l : Lv α) (x : α × Nat), x ∈ (l.nf z).ks → l.has x.1
  | .zero, x, h => by simp [nf] at h
  | .succ a, x, h => by
    simp only [nf, List.mem_map] at h
    obtain ⟨y, hy, rfl⟩ := h
    exact Lv.nf_has a y hy
  | .max a b, x, h => by
    simp only [nf, List.mem_append] at h
    exact h.elim (fun h => .inl (Lv.nf_has a x h)) fun h => .inr (Lv.nf_has b x h)
  | .imax a b, x, h => by
    simp only [nf] at h
    split at h
    · simp at h
    · simp only [List.mem_append] at h
      exact h.elim (fun h => .inl (Lv.nf_has a x h)) fun h => .inr (Lv.nf_has b x h)
  | .param p, x, h => by simp [nf] at h; simp [has, h]

/-- The least numbers that have a pattern: a gate that is not 0: 1; all else 0. -/
noncomputable def least [DecidableEq α] (g : α → Bool) (σ : α → Nat) (p : α) : Nat := if g p = true ∧ σ p ≠ 0 then 1 else 0

/-- WHAT DECIDES: g: the gates (at least); G outweighs b under numbers 0 and 1; where the least numbers of each pattern, and these with one parameter at G, tell a ≤ b, it is so under all numbers. -/
theorem decides [DecidableEq α] (a b : Lv α) (g : α → Bool) (G : Nat) (hga : ∀ p, a.gate p false → g p = true) (hgb : ∀ p, b.gate p false → g p = true)
    (hG : ∀ τ : α → Nat, (∀ p, τ p ≤ 1) → b.worth τ < G)
    (h0 : ∀ σ : α → Nat, a.worth (least g σ) ≤ b.worth (least g σ))
    (h1 : ∀ (σ : α → Nat) (p : α), a.has p → a.worth (fun q => if q = p then G else least g σ q) ≤ b.worth (fun q => if q = p then G else least g σ q))
    (σ : α → Nat) : a.worth σ ≤ b.worth σ := by
  let z : α → Bool := fun p => decide (σ p = 0)
  let μ := least g σ
  have hG0 : 0 < G := by have := hG (fun _ => 0) (fun _ => by omega); omega
  have hz : ∀ p, z p = true ↔ σ p = 0 := fun p => by simp [z]
  have hμz : ∀ p, g p = true → (z p = true ↔ μ p = 0) := by
    intro p hp
    simp only [z, μ, least, hp, true_and, decide_eq_true_eq]
    split <;> omega
  have hμσ : ∀ p, μ p ≤ σ p := by intro p; simp only [μ, least]; split <;> omega
  have hμ1 : ∀ p, μ p ≤ 1 := by intro p; simp only [μ, least]; split <;> omega
  have hbs : b.worth μ ≤ b.worth σ := Lv.worth_mono hμσ b
  refine (Lv.nf_le (z := z) a _ fun p _ => hz p).2 ⟨?_, ?_⟩
  · have := (Lv.nf_le (z := z) (τ := μ) a (a.worth μ) fun p hp => hμz p (hga p hp)).1 (Nat.le_refl _)
    have := this.1
    have : a.worth μ ≤ b.worth μ := h0 σ
    omega
  · rintro ⟨p, k⟩ hx
    simp only []
    have hAμ := ((Lv.nf_le (z := z) (τ := μ) a (a.worth μ) fun p hp => hμz p (hga p hp)).1 (Nat.le_refl _)).2 _ hx
    simp only [] at hAμ
    by_cases hp : g p = true ∧ σ p = 0
    · have : a.worth μ ≤ b.worth μ := h0 σ
      have : σ p = 0 := hp.2
      omega
    · let τ : α → Nat := fun q => if q = p then G else μ q
      have hτz : ∀ q, g q = true → (z q = true ↔ τ q = 0) := by
        intro q hq
        by_cases e : q = p
        · subst e
          simp only [τ, if_pos rfl, z, decide_eq_true_eq]
          constructor
          · intro h; exact absurd ⟨hq, h⟩ hp
          · intro h; omega
        · simp only [τ, if_neg e]
          exact hμz q hq
      have hA := ((Lv.nf_le (z := z) (τ := τ) a (a.worth τ) fun p hp => hτz p (hga p hp)).1 (Nat.le_refl _)).2 _ hx
      have hAB : a.worth τ ≤ b.worth τ := h1 σ p (Lv.nf_has a _ hx)
      have hτp : τ p = G := by simp [τ]
      simp only [hτp] at hA
      have hBn : ¬ b.worth τ ≤ G + k - 1 := by omega
      rw [Lv.nf_le (z := z) (τ := τ) b _ fun p hp => hτz p (hgb p hp)] at hBn
      have hBμ := (Lv.nf_le (z := z) (τ := μ) b (b.worth μ) fun p hp => hμz p (hgb p hp)).1 (Nat.le_refl _)
      have hlt := hG μ hμ1
      have : ∃ x ∈ (b.nf z).ks, ¬ τ x.1 + x.2 ≤ G + k - 1 := by
        apply Classical.byContradiction
        intro hno
        apply hBn
        refine ⟨by have := hBμ.1; omega, fun x hx => ?_⟩
        apply Classical.byContradiction
        intro h
        exact hno ⟨x, hx, h⟩
      obtain ⟨⟨q, k'⟩, hq, hn⟩ := this
      simp only [] at hn
      have hqμ := hBμ.2 _ hq
      simp only [] at hqμ
      by_cases e : q = p
      · subst e
        rw [hτp] at hn
        have hσ := ((Lv.nf_le (z := z) (τ := σ) b (b.worth σ) fun p _ => hz p).1 (Nat.le_refl _)).2 _ hq
        simp only [] at hσ
        omega
      · have : τ q = μ q := by simp [τ, e]
        omega

end Go.Proofs.YtpdoegjddiaaoaaDoor
