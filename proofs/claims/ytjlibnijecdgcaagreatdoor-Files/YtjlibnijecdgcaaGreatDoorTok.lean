/- Plain mathematics of levels: what a level is worth, and that three numbers (0, 1 and a great one) decide whether one level is at most another under all numbers. It speaks of no program. -/
import Derived.WalkKit
import Derived.WalkSpells
import Derived.Test.YtjlibnijecdgcaaGreatDoorRows
import Derived.WalkLawsBesides
import Derived.WideShapes
import Derived.Deep.LoopGhost
import Derived.Deep.QuietTactic
import Derived.BigQuiet
import Derived.WalkSmall
import Derived.Deep.RegionWith

namespace Go.Proofs.YtjlibnijecdgcaaGreatDoor

/-- A level. -/
inductive Lv (α : Type) where
  | zero
  | succ (a : Lv α)
  | max (a b : Lv α)
  | imax (a b : Lv α)
  | param (p : α)

variable {α : Type}

/-- What a level is worth. -/
def Lv.worth (σ : α → Nat) : Lv α → Nat
  | .zero => 0
  | .succ a => a.worth σ + 1
  | .max a b => Max.max (a.worth σ) (b.worth σ)
  | .imax a b => if b.worth σ = 0 then 0 else Max.max (a.worth σ) (b.worth σ)
  | .param p => σ p

/-- How many successors stand in it. -/
def Lv.succs : Lv α → Nat
  | .zero => 0
  | .succ a => a.succs + 1
  | .max a b => a.succs + b.succs
  | .imax a b => a.succs + b.succs
  | .param _ => 0

/-- p stands in it. -/
def Lv.has (p : α) : Lv α → Prop
  | .zero => False
  | .succ a => a.has p
  | .max a b => a.has p ∨ b.has p
  | .imax a b => a.has p ∨ b.has p
  | .param q => q = p

/-- p stands in it where it may decide an imax (d: all of it stands so). -/
def Lv.gate (p : α) : Bool → Lv α → Prop
  | _, .zero => False
  | d, .succ a => a.gate p d
  | d, .max a b => a.gate p d ∨ b.gate p d
  | d, .imax a b => a.gate p d ∨ b.gate p true
  | d, .param q => d = true ∧ q = p

theorem Lv.gate_mono {p : α} : ∀ {l : Lv α} {d : Bool}, l.gate p d → l.gate p true
  | .zero, _, h => h
  | .succ a, _, h => Lv.gate_mono (l := a) h
  | .max a b, _, h => h.elim (fun h => .inl (Lv.gate_mono (l := a) h)) (fun h => .inr (Lv.gate_mono (l := b) h))
  | .imax a _, _, h => h.elim (fun h => .inl (Lv.gate_mono (l := a) h)) .inr
  | .param _, _, h => ⟨rfl, h.2⟩

theorem Lv.worth_congr {σ τ : α → Nat} : ∀ {l : Lv α}, (∀ p, l.has p → σ p = τ p) → l.worth σ = l.worth τ
  | .zero, _ => rfl
  | .succ a, h => by simp only [worth]; rw [Lv.worth_congr (l := a) h]
  | .max a b, h => by simp only [worth]; rw [Lv.worth_congr (l := a) fun p hp => h p (.inl hp), Lv.worth_congr (l := b) fun p hp => h p (.inr hp)]
  | .imax a b, h => by simp only [worth]; rw [Lv.worth_congr (l := a) fun p hp => h p (.inl hp), Lv.worth_congr (l := b) fun p hp => h p (.inr hp)]
  | .param p, h => h p rfl

theorem Lv.worth_mono {σ τ : α → Nat} (h : ∀ p, σ p ≤ τ p) : ∀ (l : Lv α), l.worth σ ≤ l.worth τ
  | .zero => Nat.le_refl _
  | .succ a => Nat.succ_le_succ (Lv.worth_mono h a)
  | .max a b => by have := Lv.worth_mono h a; have := Lv.worth_mono h b; simp only [worth]; omega
  | .imax a b => by have := Lv.worth_mono h a; have := Lv.worth_mono h b; simp only [worth]; split <;> split <;> omega
  | .param p => h p

/-- Under numbers of at most n a level is worth at most n and its successors. -/
theorem Lv.worth_le {σ : α → Nat} {n : Nat} : ∀ (l : Lv α), (∀ p, l.has p → σ p ≤ n) → l.worth σ ≤ n + l.succs
  | .zero, _ => Nat.zero_le _
  | .succ a, h => by have := Lv.worth_le a h; simp only [worth, succs]; omega
  | .max a b, h => by have := Lv.worth_le a fun p hp => h p (.inl hp); have := Lv.worth_le b fun p hp => h p (.inr hp); simp only [worth, succs]; omega
  | .imax a b, h => by have := Lv.worth_le a fun p hp => h p (.inl hp); have := Lv.worth_le b fun p hp => h p (.inr hp); simp only [worth, succs]; split <;> omega
  | .param p, h => by have := h p rfl; simp only [worth, succs]; omega

/-- Is it worth 0, where z tells which parameters are 0? -/
def Lv.isZero (z : α → Bool) : Lv α → Bool
  | .zero => true
  | .succ _ => false
  | .max a b => a.isZero z && b.isZero z
  | .imax _ b => b.isZero z
  | .param p => z p

theorem Lv.isZero_iff {z : α → Bool} {τ : α → Nat} : ∀ (l : Lv α), (∀ p, l.gate p true → (z p = true ↔ τ p = 0)) → (l.isZero z = true ↔ l.worth τ = 0)
  | .zero, _ => by simp [isZero, worth]
  | .succ a, _ => by simp [isZero, worth]
  | .max a b, h => by
    have ha := Lv.isZero_iff a fun p hp => h p (.inl hp)
    have hb := Lv.isZero_iff b fun p hp => h p (.inr hp)
    simp only [isZero, worth, Bool.and_eq_true, ha, hb]; omega
  | .imax a b, h => by
    have hb := Lv.isZero_iff b fun p hp => h p (.inr hp)
    simp only [isZero, worth, hb]; split <;> omega
  | .param p, h => h p ⟨rfl, rfl⟩

/-- The greatest of a number and of some p + k. -/
structure Nf (α : Type) where
  c : Nat
  ks : List (α × Nat)

def Lv.nf (z : α → Bool) : Lv α → Nf α
  | .zero => ⟨0, []⟩
  | .succ a => ⟨(a.nf z).c + 1, (a.nf z).ks.map fun x => (x.1, x.2 + 1)⟩
  | .max a b => ⟨Max.max (a.nf z).c (b.nf z).c, (a.nf z).ks ++ (b.nf z).ks⟩
  | .imax a b => if b.isZero z then ⟨0, []⟩ else ⟨Max.max (a.nf z).c (b.nf z).c, (a.nf z).ks ++ (b.nf z).ks⟩
  | .param p => ⟨0, [(p, 0)]⟩

def Nf.le (τ : α → Nat) (f : Nf α) (n : Nat) : Prop := f.c ≤ n ∧ ∀ x ∈ f.ks, τ x.1 + x.2 ≤ n

theorem Lv.nf_le {z : α → Bool} {τ : α → Nat} : ∀ (l : Lv α) (n : Nat), (∀ p, l.gate p false → (z p = true ↔ τ p = 0)) → (l.worth τ ≤ n ↔ (l.nf z).le τ n)
  | .zero, n, _ => by simp [worth, nf, Nf.le]
  | .succ a, n, h => by
    have ha := Lv.nf_le a (n - 1) h
    simp only [worth, nf, Nf.le]
    constructor
    · intro hn
      have h2 := ha.1 (by omega)
      refine ⟨by have := h2.1; omega, fun x hx => ?_⟩
      obtain ⟨y, hy, rfl⟩ := List.mem_map.1 hx
      have := h2.2 y hy
      simp only []
      omega
    · intro hn
      have h2 := ha.2 ⟨by have := hn.1; omega, fun y hy => by have := hn.2 _ (List.mem_map.2 ⟨y, hy, rfl⟩); simp only [] at this; omega⟩
      have := hn.1
      omega
  | .max a b, n, h => by
    have ha := Lv.nf_le a n fun p hp => h p (.inl hp)
    have hb := Lv.nf_le b n fun p hp => h p (.inr hp)
    simp only [worth, nf, Nf.le] at *
    constructor
    · intro hn
      have h1 := ha.1 (by omega)
      have h2 := hb.1 (by omega)
      refine ⟨by omega, fun x hx => ?_⟩
      rcases List.mem_append.1 hx with hx | hx
      · exact h1.2 x hx
      · exact h2.2 x hx
    · intro hn
      have h1 := ha.2 ⟨by have := hn.1; omega, fun x hx => hn.2 x (List.mem_append.2 (.inl hx))⟩
      have h2 := hb.2 ⟨by have := hn.1; omega, fun x hx => hn.2 x (List.mem_append.2 (.inr hx))⟩
      omega
  | .imax a b, n, h => by
    have ha := Lv.nf_le a n fun p hp => h p (.inl hp)
    have hb := Lv.nf_le b n fun p hp => h p (.inr (Lv.gate_mono hp))
    have hz := Lv.isZero_iff b fun p hp => h p (.inr hp)
    simp only [worth, nf]
    by_cases h0 : b.worth τ = 0
    · rw [if_pos h0, if_pos (hz.2 h0)]
      simp [Nf.le]
    · rw [if_neg h0, if_neg (fun e => h0 (hz.1 e))]
      simp only [Nf.le] at *
      constructor
      · intro hn
        have h1 := ha.1 (by omega)
        have h2 := hb.1 (by omega)
        refine ⟨by omega, fun x hx => ?_⟩
        rcases List.mem_append.1 hx with hx | hx
        · exact h1.2 x hx
        · exact h2.2 x hx
      · intro hn
        have h1 := ha.2 ⟨by have := hn.1; omega, fun x hx => hn.2 x (List.mem_append.2 (.inl hx))⟩
        have h2 := hb.2 ⟨by have := hn.1; omega, fun x hx => hn.2 x (List.mem_append.2 (.inr hx))⟩
        omega
  | .param p, n, _ => by simp [worth, nf, Nf.le]

/-- Every name of the greatest's form stands in the level. -/
theorem Lv.nf_has {z : α → Bool} : ∀ (l : Lv α) (x : α × Nat), x ∈ (l.nf z).ks → l.has x.1
  | .zero, x, h => by simp [nf] at h
  | .succ a, x, h => by
    simp only [nf, List.mem_map] at h
    obtain ⟨y, hy, rfl⟩ := h
    exact Lv.nf_has a y hy
  | .max a b, x, h => by
    simp only [nf, List.mem_append] at h
    exact h.elim (fun h => .inl (Lv.nf_has a x h)) fun h => .inr (Lv.nf_has b x h)
  | .imax a b, x, h => by
    simp only [nf] at h
    split at h
    · simp at h
    · simp only [List.mem_append] at h
      exact h.elim (fun h => .inl (Lv.nf_has a x h)) fun h => .inr (Lv.nf_has b x h)
  | .param p, x, h => by simp [nf] at h; simp [has, h]

/-- The least numbers that have a pattern: a gate that is not 0: 1; all else 0. -/
noncomputable def least [DecidableEq α] (g : α → Bool) (σ : α → Nat) (p : α) : Nat := if g p = true ∧ σ p ≠ 0 then 1 else 0

/-- WHAT DECIDES: g: the gates (at least); G outweighs b under numbers 0 and 1; where the least numbers of each pattern, and these with one parameter at G, tell a ≤ b, it is so under all numbers. -/
theorem decides [DecidableEq α] (a b : Lv α) (g : α → Bool) (G : Nat) (hga : ∀ p, a.gate p false → g p = true) (hgb : ∀ p, b.gate p false → g p = true)
    (hG : ∀ τ : α → Nat, (∀ p, τ p ≤ 1) → b.worth τ < G)
    (h0 : ∀ σ : α → Nat, a.worth (least g σ) ≤ b.worth (least g σ))
    (h1 : ∀ (σ : α → Nat) (p : α), a.has p → a.worth (fun q => if q = p then G else least g σ q) ≤ b.worth (fun q => if q = p then G else least g σ q))
    (σ : α → Nat) : a.worth σ ≤ b.worth σ := by
  let z : α → Bool := fun p => decide (σ p = 0)
  let μ := least g σ
  have hG0 : 0 < G := by have := hG (fun _ => 0) (fun _ => by omega); omega
  have hz : ∀ p, z p = true ↔ σ p = 0 := fun p => by simp [z]
  have hμz : ∀ p, g p = true → (z p = true ↔ μ p = 0) := by
    intro p hp
    simp only [z, μ, least, hp, true_and, decide_eq_true_eq]
    split <;> omega
  have hμσ : ∀ p, μ p ≤ σ p := by intro p; simp only [μ, least]; split <;> omega
  have hμ1 : ∀ p, μ p ≤ 1 := by intro p; simp only [μ, least]; split <;> omega
  have hbs : b.worth μ ≤ b.worth σ := Lv.worth_mono hμσ b
  refine (Lv.nf_le (z := z) a _ fun p _ => hz p).2 ⟨?_, ?_⟩
  · have := (Lv.nf_le (z := z) (τ := μ) a (a.worth μ) fun p hp => hμz p (hga p hp)).1 (Nat.le_refl _)
    have := this.1
    have : a.worth μ ≤ b.worth μ := h0 σ
    omega
  · rintro ⟨p, k⟩ hx
    simp only []
    have hAμ := ((Lv.nf_le (z := z) (τ := μ) a (a.worth μ) fun p hp => hμz p (hga p hp)).1 (Nat.le_refl _)).2 _ hx
    simp only [] at hAμ
    by_cases hp : g p = true ∧ σ p = 0
    · have : a.worth μ ≤ b.worth μ := h0 σ
      have : σ p = 0 := hp.2
      omega
    · let τ : α → Nat := fun q => if q = p then G else μ q
      have hτz : ∀ q, g q = true → (z q = true ↔ τ q = 0) := by
        intro q hq
        by_cases e : q = p
        · subst e
          simp only [τ, if_pos rfl, z, decide_eq_true_eq]
          constructor
          · intro h; exact absurd ⟨hq, h⟩ hp
          · intro h; omega
        · simp only [τ, if_neg e]
          exact hμz q hq
      have hA := ((Lv.nf_le (z := z) (τ := τ) a (a.worth τ) fun p hp => hτz p (hga p hp)).1 (Nat.le_refl _)).2 _ hx
      have hAB : a.worth τ ≤ b.worth τ := h1 σ p (Lv.nf_has a _ hx)
      have hτp : τ p = G := by simp [τ]
      simp only [hτp] at hA
      have hBn : ¬ b.worth τ ≤ G + k - 1 := by omega
      rw [Lv.nf_le (z := z) (τ := τ) b _ fun p hp => hτz p (hgb p hp)] at hBn
      have hBμ := (Lv.nf_le (z := z) (τ := μ) b (b.worth μ) fun p hp => hμz p (hgb p hp)).1 (Nat.le_refl _)
      have hlt := hG μ hμ1
      have : ∃ x ∈ (b.nf z).ks, ¬ τ x.1 + x.2 ≤ G + k - 1 := by
        apply Classical.byContradiction
        intro hno
        apply hBn
        refine ⟨by have := hBμ.1; omega, fun x hx => ?_⟩
        apply Classical.byContradiction
        intro h
        exact hno ⟨x, hx, h⟩
      obtain ⟨⟨q, k'⟩, hq, hn⟩ := this
      simp only [] at hn
      have hqμ := hBμ.2 _ hq
      simp only [] at hqμ
      by_cases e : q = p
      · subst e
        rw [hτp] at hn
        have hσ := ((Lv.nf_le (z := z) (τ := σ) b (b.worth σ) fun p _ => hz p).1 (Nat.le_refl _)).2 _ hq
        simp only [] at hσ
        omega
      · have : τ q = μ q := by simp [τ, e]
        omega

end Go.Proofs.YtjlibnijecdgcaaGreatDoor

/- How a level, a list of names and a list of numbers lie in memory: no walk. -/
namespace Go.Proofs.YtjlibnijecdgcaaGreatDoor
open Go.RowKit

abbrev LvB := Lv ByteArray

theorem ret_bool {a b : Bool} (h : a = b) : Ending.returned (.bool a) = .returned (.bool b) := by rw [h]
theorem ret_int {k : IntKind} {a b : Int} (h : a = b) : Ending.returned (.int k a) = .returned (.int k b) := by rw [h]

def Lv.kind {α : Type} : Lv α → Nat
  | .zero => 0
  | .succ _ => 1
  | .max _ _ => 2
  | .imax _ _ => 3
  | .param _ => 4

def Lv.nm : LvB → ByteArray
  | .param p => p
  | _ => ⟨#[]⟩

def Lv.kids {α : Type} : Lv α → List (Lv α)
  | .zero => []
  | .succ a => [a]
  | .max a b => [a, b]
  | .imax a b => [a, b]
  | .param _ => []

def Lv.nodes {α : Type} : Lv α → Nat
  | .zero => 1
  | .succ a => a.nodes + 1
  | .max a b => a.nodes + b.nodes + 1
  | .imax a b => a.nodes + b.nodes + 1
  | .param _ => 1

theorem Lv.succs_le {α : Type} : ∀ l : Lv α, l.succs ≤ l.nodes
  | .zero => by simp [succs]
  | .succ a => by have := Lv.succs_le a; simp only [succs, nodes]; omega
  | .max a b => by have := Lv.succs_le a; have := Lv.succs_le b; simp only [succs, nodes]; omega
  | .imax a b => by have := Lv.succs_le a; have := Lv.succs_le b; simp only [succs, nodes]; omega
  | .param _ => by simp [succs]

/-- Three cells of a block are a level's value. -/
def Three (w : World) (b o : Nat) (x : Value) : Prop := ∃ (k : Int) (nm : ByteArray) (A : Option Addr) (n cap : Nat), x = .agg #[.int .i64 k, .string nm, .slice A n cap] ∧
  w.cell? ⟨b, o, none⟩ = some (.int .i64 k) ∧ w.cell? ⟨b, o + 1, none⟩ = some (.string nm) ∧ w.cell? ⟨b, o + 2, none⟩ = some (.slice A n cap)

/-- The value is that level, all its parts in blocks below B. -/
def InLv (w : World) (B : Nat) : LvB → Value → Prop
  | .zero, v => v = .agg #[.int .i64 0, .string ⟨#[]⟩, .slice none 0 0]
  | .param p, v => v = .agg #[.int .i64 4, .string p, .slice none 0 0]
  | .succ a, v => ∃ b cap x, v = .agg #[.int .i64 1, .string ⟨#[]⟩, .slice (some ⟨b, 0, none⟩) 1 cap] ∧ b < B ∧ Three w b 0 x ∧ InLv w B a x
  | .max a c, v => ∃ b cap x y, v = .agg #[.int .i64 2, .string ⟨#[]⟩, .slice (some ⟨b, 0, none⟩) 2 cap] ∧ b < B ∧ Three w b 0 x ∧ Three w b 3 y ∧ InLv w B a x ∧ InLv w B c y
  | .imax a c, v => ∃ b cap x y, v = .agg #[.int .i64 3, .string ⟨#[]⟩, .slice (some ⟨b, 0, none⟩) 2 cap] ∧ b < B ∧ Three w b 0 x ∧ Three w b 3 y ∧ InLv w B a x ∧ InLv w B c y

theorem Three.below {w w' : World} {B b o : Nat} {x : Value} (h : Below B w w') (hb : b < B) (ht : Three w b o x) : Three w' b o x := by
  obtain ⟨k, nm, A, n, cap, e, h0, h1, h2⟩ := ht
  exact ⟨k, nm, A, n, cap, e, by rw [h.cell hb]; exact h0, by rw [h.cell hb]; exact h1, by rw [h.cell hb]; exact h2⟩

theorem InLv.below {w w' : World} {B : Nat} (h : Below B w w') : ∀ {l : LvB} {v : Value}, InLv w B l v → InLv w' B l v
  | .zero, _, hl => hl
  | .param _, _, hl => hl
  | .succ a, _, ⟨b, cap, x, e, hb, h3, ha⟩ => ⟨b, cap, x, e, hb, h3.below h hb, InLv.below h (l := a) ha⟩
  | .max a c, _, ⟨b, cap, x, y, e, hb, h3, h4, ha, hc⟩ => ⟨b, cap, x, y, e, hb, h3.below h hb, h4.below h hb, InLv.below h (l := a) ha, InLv.below h (l := c) hc⟩
  | .imax a c, _, ⟨b, cap, x, y, e, hb, h3, h4, ha, hc⟩ => ⟨b, cap, x, y, e, hb, h3.below h hb, h4.below h hb, InLv.below h (l := a) ha, InLv.below h (l := c) hc⟩

theorem InLv.mono {w : World} {B B' : Nat} (h : B ≤ B') : ∀ {l : LvB} {v : Value}, InLv w B l v → InLv w B' l v
  | .zero, _, hl => hl
  | .param _, _, hl => hl
  | .succ a, _, ⟨b, cap, x, e, hb, h3, ha⟩ => ⟨b, cap, x, e, Nat.lt_of_lt_of_le hb h, h3, InLv.mono h (l := a) ha⟩
  | .max a c, _, ⟨b, cap, x, y, e, hb, h3, h4, ha, hc⟩ => ⟨b, cap, x, y, e, Nat.lt_of_lt_of_le hb h, h3, h4, InLv.mono h (l := a) ha, InLv.mono h (l := c) hc⟩
  | .imax a c, _, ⟨b, cap, x, y, e, hb, h3, h4, ha, hc⟩ => ⟨b, cap, x, y, e, Nat.lt_of_lt_of_le hb h, h3, h4, InLv.mono h (l := a) ha, InLv.mono h (l := c) hc⟩

/-- Its value's shape, and where its parts lie. -/
theorem InLv.shape {w : World} {B : Nat} : ∀ {l : LvB} {v : Value}, InLv w B l v → ∃ (A : Option Addr) (cap : Nat), v = .agg #[.int .i64 l.kind, .string l.nm, .slice A l.kids.length cap] ∧
    ∀ i (hi : i < l.kids.length), ∃ b x, A = some ⟨b, 0, none⟩ ∧ b < B ∧ Three w b (i * 3) x ∧ InLv w B l.kids[i] x
  | .zero, _, hl => ⟨none, 0, hl, fun i hi => absurd hi (by simp [Lv.kids])⟩
  | .param _, _, hl => ⟨none, 0, hl, fun i hi => absurd hi (by simp [Lv.kids])⟩
  | .succ a, _, ⟨b, cap, x, e, hb, h3, ha⟩ => ⟨some ⟨b, 0, none⟩, cap, e, fun i hi => by
      match i, hi with
      | 0, _ => exact ⟨b, x, rfl, hb, h3, ha⟩
      | i + 1, hi => exact absurd hi (by simp [Lv.kids])⟩
  | .max a c, _, ⟨b, cap, x, y, e, hb, h3, h4, ha, hc⟩ => ⟨some ⟨b, 0, none⟩, cap, e, fun i hi => by
      match i, hi with
      | 0, _ => exact ⟨b, x, rfl, hb, h3, ha⟩
      | 1, _ => exact ⟨b, y, rfl, hb, h4, hc⟩
      | i + 2, hi => exact absurd hi (by simp [Lv.kids])⟩
  | .imax a c, _, ⟨b, cap, x, y, e, hb, h3, h4, ha, hc⟩ => ⟨some ⟨b, 0, none⟩, cap, e, fun i hi => by
      match i, hi with
      | 0, _ => exact ⟨b, x, rfl, hb, h3, ha⟩
      | 1, _ => exact ⟨b, y, rfl, hb, h4, hc⟩
      | i + 2, hi => exact absurd hi (by simp [Lv.kids])⟩

/-- A level's value, whatever it is. -/
theorem InLv.form {w : World} {B : Nat} {l : LvB} {v : Value} (h : InLv w B l v) : ∃ (A : Option Addr) (cap : Nat), v = .agg #[.int .i64 l.kind, .string l.nm, .slice A l.kids.length cap] := by
  obtain ⟨A, cap, e, _⟩ := h.shape
  exact ⟨A, cap, e⟩

/-- A slice of strings, read alone. -/
def InStrs (w : World) (B : Nat) (v : Value) (ns : List ByteArray) : Prop := ns.length ≤ maxLen ∧ ∃ (A : Option Addr) (cap : Nat), v = .slice A ns.length cap ∧
  ∀ i (hi : i < ns.length), ∃ b o, A = some ⟨b, o, none⟩ ∧ b < B ∧ w.cell? ⟨b, o + i, none⟩ = some (.string ns[i])

theorem InStrs.below {w w' : World} {B : Nat} (h : Below B w w') {v : Value} {ns : List ByteArray} (hs : InStrs w B v ns) : InStrs w' B v ns := by
  obtain ⟨hm, A, cap, e, hc⟩ := hs
  refine ⟨hm, A, cap, e, fun i hi => ?_⟩
  obtain ⟨b, o, ea, hb, hcell⟩ := hc i hi
  exact ⟨b, o, ea, hb, by rw [h.cell hb]; exact hcell⟩

theorem InStrs.mono {w : World} {B B' : Nat} (h : B ≤ B') {v : Value} {ns : List ByteArray} (hs : InStrs w B v ns) : InStrs w B' v ns := by
  obtain ⟨hm, A, cap, e, hc⟩ := hs
  refine ⟨hm, A, cap, e, fun i hi => ?_⟩
  obtain ⟨b, o, ea, hb, hcell⟩ := hc i hi
  exact ⟨b, o, ea, Nat.lt_of_lt_of_le hb h, hcell⟩

/-- Out of a row that the call owns. -/
theorem InStrs.of_owns {w : World} {base : Nat} {v : Value} {ns : List ByteArray} (h : w.ownsRow base 9 1 v ns.length (ns.map .string)) (hm : ns.length ≤ maxLen) : InStrs w w.heap.size v ns := by
  refine ⟨hm, ?_⟩
  have hlt := h.lt
  have hcells := fun g hg => h.cells (g := g) hg
  rcases h.2 with ⟨rfl, hn⟩ | ⟨g, cap, cur, rfl, hb, hg, _⟩
  · exact ⟨none, 0, by rw [hn], fun i hi => absurd hi (by omega)⟩
  · refine ⟨some ⟨g, 0, none⟩, cap, rfl, fun i hi => ⟨g, 0, rfl, (hlt g rfl).2, ?_⟩⟩
    have := hcells g rfl i (.string ns[i]) (by simp [hi])
    rwa [Addr.add_lit] at this

/-- A slice of numbers, read alone. -/
def InInts (w : World) (B : Nat) (v : Value) (ns : List Nat) : Prop := ∃ (A : Option Addr) (cap : Nat), v = .slice A ns.length cap ∧
  ∀ i (hi : i < ns.length), ∃ b o, A = some ⟨b, o, none⟩ ∧ b < B ∧ w.cell? ⟨b, o + i, none⟩ = some (.int .i64 (ns[i] : Nat))

theorem InInts.below {w w' : World} {B : Nat} (h : Below B w w') {v : Value} {ns : List Nat} (hs : InInts w B v ns) : InInts w' B v ns := by
  obtain ⟨A, cap, e, hc⟩ := hs
  refine ⟨A, cap, e, fun i hi => ?_⟩
  obtain ⟨b, o, ea, hb, hcell⟩ := hc i hi
  exact ⟨b, o, ea, hb, by rw [h.cell hb]; exact hcell⟩

theorem InInts.mono {w : World} {B B' : Nat} (h : B ≤ B') {v : Value} {ns : List Nat} (hs : InInts w B v ns) : InInts w B' v ns := by
  obtain ⟨A, cap, e, hc⟩ := hs
  refine ⟨A, cap, e, fun i hi => ?_⟩
  obtain ⟨b, o, ea, hb, hcell⟩ := hc i hi
  exact ⟨b, o, ea, Nat.lt_of_lt_of_le hb h, hcell⟩

theorem InInts.of_owns {w : World} {base : Nat} {v : Value} {ns : List Nat} (h : w.ownsRow base 3 1 v ns.length (ns.map fun n => .int .i64 (n : Nat))) : InInts w w.heap.size v ns := by
  have hlt := h.lt
  have hcells := fun g hg => h.cells (g := g) hg
  rcases h.2 with ⟨rfl, hn⟩ | ⟨g, cap, cur, rfl, hb, hg, _⟩
  · exact ⟨none, 0, by rw [hn], fun i hi => absurd hi (by omega)⟩
  · refine ⟨some ⟨g, 0, none⟩, cap, rfl, fun i hi => ⟨g, 0, rfl, (hlt g rfl).2, ?_⟩⟩
    have := hcells g rfl i (.int .i64 (ns[i] : Nat)) (by simp [hi])
    rwa [Addr.add_lit] at this

/-- All old cells and marks read as before. -/
theorem bcell {W w1 : World} (hb : Below W.heap.size W w1) : (∀ b o, b < W.heap.size → w1.cell? ⟨b, o, none⟩ = W.cell? ⟨b, o, none⟩) ∧ (∀ b o, b < W.heap.size → w1.frozen? ⟨b, o, none⟩ = W.frozen? ⟨b, o, none⟩) :=
  ⟨fun b o h => hb.cell (p := ⟨b, o, none⟩) h, fun b o h => hb.frozen (p := ⟨b, o, none⟩) h⟩

/-- The number at a name's first place; 0 where it has none. -/
def look : List ByteArray → List Nat → ByteArray → Nat
  | p :: ps, n :: ns, q => if p = q then n else look ps ns q
  | _, _, _ => 0

end Go.Proofs.YtjlibnijecdgcaaGreatDoor

/- Small facts that the walks use: strings told apart, a box of three cells, the number at a name. -/
namespace Go.Proofs.YtjlibnijecdgcaaGreatDoor
open Go.RowKit

theorem hide {p : Prop} (h : p) : Hid p := h

theorem sameStr (a b : ByteArray) : (a.toList == b.toList) = decide (a = b) := by
  rw [Bool.eq_iff_iff, beq_iff_eq, decide_eq_true_eq]
  constructor
  · intro h
    rw [ByteArray.toList_eq, ByteArray.toList_eq] at h
    exact WideShapes.bytes_inj h
  · rintro rfl; rfl
theorem sameStr_pos {a b : ByteArray} (h : a = b) : (a.toList == b.toList) = true := by rw [sameStr]; simp [h]
theorem sameStr_neg {a b : ByteArray} (h : a ≠ b) : (a.toList == b.toList) = false := by rw [sameStr]; simp [h]

def hasB (q : ByteArray) (ns : List ByteArray) : Bool := ns.any fun p => decide (p = q)
theorem hasB_true {q : ByteArray} {ns : List ByteArray} {k : Nat} (h : k < ns.length) (e : ns[k] = q) : hasB q ns = true := by
  unfold hasB; rw [List.any_eq_true]; exact ⟨ns[k], List.getElem_mem h, by simp [e]⟩
theorem hasB_false {q : ByteArray} {ns : List ByteArray} (h : ∀ j (h : j < ns.length), ns[j] ≠ q) : hasB q ns = false := by
  unfold hasB; rw [List.any_eq_false]; intro x hx; obtain ⟨j, hj, rfl⟩ := List.getElem_of_mem hx; simp [h j hj]
theorem hasB_iff {q : ByteArray} {ns : List ByteArray} : hasB q ns = true ↔ q ∈ ns := by
  unfold hasB; rw [List.any_eq_true]; constructor
  · rintro ⟨x, hx, e⟩; simp at e; exact e ▸ hx
  · intro h; exact ⟨q, h, by simp⟩

theorem nodes_pos {α : Type} (l : Lv α) : 0 < l.nodes := by cases l <;> simp [Lv.nodes]

/-- Behind a box of three cells nothing old has turned. -/
def Box (w : World) (c0 c1 c2 : Value) (W : World) : Prop := Below (w.heap.size + 1) (w.alloc (.cells #[c0, c1, c2] 94)) W

theorem Box.start (w : World) (c0 c1 c2 : Value) : Box w c0 c1 c2 (w.alloc (.cells #[c0, c1, c2] 94)) := Below.refl _ _
theorem Box.old {w W : World} {c0 c1 c2 : Value} (h : Box w c0 c1 c2 W) : Below w.heap.size w W := ((Below.refl _ _).alloc (Nat.le_refl _) _).trans (h.mono (by omega))
theorem Box.size {w W : World} {c0 c1 c2 : Value} (h : Box w c0 c1 c2 W) : w.heap.size + 1 ≤ W.heap.size := by have := Below.size h; simpa using this
theorem Box.then {w W W' : World} {c0 c1 c2 : Value} (h : Box w c0 c1 c2 W) (h' : Below W.heap.size W W') : Box w c0 c1 c2 W' := Below.trans h (h'.mono h.size)
theorem Box.drew {w W : World} {c0 c1 c2 : Value} (h : Box w c0 c1 c2 W) : Box w c0 c1 c2 W.drew := Below.drew h
theorem Box.drewN {w W : World} {c0 c1 c2 : Value} (h : Box w c0 c1 c2 W) (n : Nat) : Box w c0 c1 c2 (W.drewN n) := below_drewN h n
theorem Box.cells {w W : World} {c0 c1 c2 : Value} (h : Box w c0 c1 c2 W) : W.cell? ⟨w.heap.size, 0, none⟩ = some c0 ∧ W.cell? ⟨w.heap.size, 1, none⟩ = some c1 ∧ W.cell? ⟨w.heap.size, 2, none⟩ = some c2 := by
  refine ⟨?_, ?_, ?_⟩ <;> (rw [Below.cell h (by simp)]; simp)
/-- A contract that tells 'Below', as one over a box. -/
theorem Box.calls {w : World} {c0 c1 c2 : Value} {f : FuncId} {args : Array Value} {r : Value} (h : ∀ W, Below w.heap.size w W → Calls Tryz.prog f args W fun e w' => e = .returned r ∧ Below W.heap.size W w')
    (W : World) (hW : Box w c0 c1 c2 W) : Calls Tryz.prog f args W fun e w' => e = .returned r ∧ Hid (Box w c0 c1 c2 w') ∧ w'.cell? ⟨w.heap.size, 0, none⟩ = some c0 ∧ w'.cell? ⟨w.heap.size, 1, none⟩ = some c1 ∧ w'.cell? ⟨w.heap.size, 2, none⟩ = some c2 :=
  (h W hW.old).mono fun _ _ ⟨he, hb⟩ => ⟨he, hW.then hb, (hW.then hb).cells⟩

theorem look_le {n : Nat} : ∀ (ps : List ByteArray) (ns : List Nat) (q : ByteArray), (∀ x ∈ ns, x ≤ n) → look ps ns q ≤ n
  | [], _, _, _ => by simp [look]
  | _ :: _, [], _, _ => by simp [look]
  | p :: ps, m :: ns, q, h => by
    simp only [look]
    split
    · exact h m (by simp)
    · exact look_le ps ns q fun x hx => h x (by simp [hx])

theorem look_at : ∀ (ps : List ByteArray) (ns : List Nat) (q : ByteArray) (k : Nat) (h : k < ps.length) (h' : k < ns.length), (∀ j (hj : j < ps.length), j < k → ps[j] ≠ q) → ps[k] = q → look ps ns q = ns[k]
  | p :: ps, m :: ns, q, 0, _, _, _, e => by simp only [look]; rw [if_pos (by simpa using e)]; simp
  | p :: ps, m :: ns, q, k + 1, h, h', hno, e => by
    simp only [look]
    rw [if_neg (by have := hno 0 (by simp) (by omega); simp only [List.getElem_cons_zero] at this; exact this)]
    have := look_at ps ns q k (by simpa using h) (by simpa using h') (fun j hj hjk => by have := hno (j + 1) (by simp; omega) (by omega); simp only [List.getElem_cons_succ] at this; exact this) (by simpa using e)
    simpa using this

theorem look_none : ∀ (ps : List ByteArray) (ns : List Nat) (q : ByteArray), (∀ j (hj : j < ps.length), ps[j] ≠ q) → look ps ns q = 0
  | [], _, _, _ => by simp [look]
  | _ :: _, [], _, _ => by simp [look]
  | p :: ps, m :: ns, q, h => by
    simp only [look]
    rw [if_neg (by have := h 0 (by simp); simp only [List.getElem_cons_zero] at this; exact this)]
    exact look_none ps ns q fun j hj => by have := h (j + 1) (by simp; omega); simp only [List.getElem_cons_succ] at this; exact this

theorem worth_bd {σ : ByteArray → Nat} (hle : ∀ p, σ p ≤ 1000000) (l : LvB) (h : l.nodes ≤ 1000000) : l.worth σ ≤ 2000000 := by
  have hw := Lv.worth_le (σ := σ) (n := 1000000) l fun p _ => hle p
  have := Lv.succs_le l
  omega

theorem Lv.kid_nodes {l : LvB} {k : Nat} (h : k < l.kids.length) : (l.kids[k]).nodes < l.nodes := by
  cases l with
  | zero => simp [kids] at h
  | param => simp [kids] at h
  | succ a => match k, h with | 0, _ => simp [kids, nodes]
  | max a b => match k, h with | 0, _ => simp [kids, nodes]; omega | 1, _ => simp [kids, nodes]; omega
  | imax a b => match k, h with | 0, _ => simp [kids, nodes]; omega | 1, _ => simp [kids, nodes]; omega

theorem Lv.kids_le (l : LvB) : l.kids.length ≤ 2 := by cases l <;> simp [kids]
theorem Lv.kind_le (l : LvB) : l.kind ≤ 4 := by cases l <;> simp [kind]

end Go.Proofs.YtjlibnijecdgcaaGreatDoor

/- The contract of nameByte: whether a byte may stand in a name. -/
namespace Go.Proofs.YtjlibnijecdgcaaGreatDoor
open Go.RowKit

def letterB (c : Nat) : Bool := (97 ≤ c && c ≤ 122) || (65 ≤ c && c ≤ 90) || c == 95
def nameB (c : Nat) (first : Bool) : Bool := letterB c || (!first && ((48 ≤ c && c ≤ 57) || c == 46 || c == 39))

end Go.Proofs.YtjlibnijecdgcaaGreatDoor

/- Tokens of a level's text, as a function of the text and a place: no walk. -/
namespace Go.Proofs.YtjlibnijecdgcaaGreatDoor
open Go.RowKit

/-- The byte at a place; 0 behind the end. -/
def at_ (s : ByteArray) (k : Nat) : Nat := if h : k < s.size then (s[k]).toNat else 0
theorem at_eq {s : ByteArray} {k : Nat} (h : k < s.size) : (s[k]).toNat = at_ s k := by simp [at_, h]
theorem at_lt (s : ByteArray) (k : Nat) : at_ s k < 256 := by unfold at_; split; exact (s[k]).toNat_lt; omega

/-- How far a run of bytes goes. -/
def run (f : Nat → Bool) (s : ByteArray) : Nat → Nat → Nat
  | 0, k => k
  | n + 1, k => if k < s.size ∧ f (at_ s k) = true then run f s n (k + 1) else k
def runTo (f : Nat → Bool) (s : ByteArray) (k : Nat) : Nat := run f s (s.size - k) k

theorem run_ge (f : Nat → Bool) (s : ByteArray) : ∀ n k, k ≤ run f s n k
  | 0, k => Nat.le_refl _
  | n + 1, k => by simp only [run]; split; have := run_ge f s n (k + 1); omega; omega
theorem run_le (f : Nat → Bool) (s : ByteArray) : ∀ n k, k ≤ s.size → run f s n k ≤ s.size
  | 0, k, h => h
  | n + 1, k, h => by simp only [run]; split; rename_i h'; exact run_le f s n (k + 1) (by omega); exact h
theorem runTo_ge (f : Nat → Bool) (s : ByteArray) (k : Nat) : k ≤ runTo f s k := run_ge f s _ k
theorem runTo_le (f : Nat → Bool) (s : ByteArray) {k : Nat} (h : k ≤ s.size) : runTo f s k ≤ s.size := run_le f s _ k h
theorem runTo_step {f : Nat → Bool} {s : ByteArray} {k : Nat} (h : k < s.size) (hf : f (at_ s k) = true) : runTo f s k = runTo f s (k + 1) := by
  unfold runTo
  rw [show s.size - k = (s.size - (k + 1)) + 1 by omega]
  simp [run, h, hf]
theorem runTo_stop {f : Nat → Bool} {s : ByteArray} {k : Nat} (hf : f (at_ s k) = false) : runTo f s k = k := by
  unfold runTo
  cases s.size - k with
  | zero => rfl
  | succ n => simp [run, hf]
theorem runTo_end {f : Nat → Bool} {s : ByteArray} {k : Nat} (h : s.size ≤ k) : runTo f s k = k := by
  unfold runTo
  rw [show s.size - k = 0 by omega]
  rfl

def blankB (c : Nat) : Bool := c == 32 || c == 9 || c == 10
def digitB (c : Nat) : Bool := 48 ≤ c && c ≤ 57

structure Token where
  t : ByteArray
  at_ : Nat
  ok : Bool

/-- The token that begins at a place that is no blank. -/
def tokAt (s : ByteArray) (k : Nat) : Token :=
  if at_ s k = 40 ∨ at_ s k = 41 then ⟨s.extract k (k + 1), k, true⟩
  else if nameB (at_ s k) true = true then
    if 40 < runTo (fun c => nameB c false) s (k + 1) - k then ⟨⟨#[]⟩, k, false⟩ else ⟨s.extract k (runTo (fun c => nameB c false) s (k + 1)), k, true⟩
  else if at_ s k = 35 ∨ digitB (at_ s k) = true then
    let q := runTo digitB s (k + 1)
    let d := if at_ s k = 35 then k + 1 else k
    if q = d ∨ 5 < q - d ∨ (1 < q - d ∧ at_ s d = 48) then ⟨⟨#[]⟩, k, false⟩ else ⟨s.extract k q, k, true⟩
  else ⟨⟨#[]⟩, k, false⟩

def tok (s : ByteArray) (p : Nat) : Token :=
  if runTo blankB s p = s.size then ⟨⟨#[]⟩, runTo blankB s p, true⟩ else tokAt s (runTo blankB s p)

theorem tokAt_facts {s : ByteArray} {k : Nat} (h : k < s.size) : (tokAt s k).at_ = k ∧ k + (tokAt s k).t.size ≤ s.size ∧ (tokAt s k).t.size ≤ 40 ∧ ((tokAt s k).ok = false → (tokAt s k).t = ⟨#[]⟩) ∧ ((tokAt s k).ok = true → 0 < (tokAt s k).t.size) := by
  have h1 := runTo_ge (fun c => nameB c false) s (k + 1)
  have h2 := runTo_le (fun c => nameB c false) s (k := k + 1) (by omega)
  have h3 := runTo_ge digitB s (k + 1)
  have h4 := runTo_le digitB s (k := k + 1) (by omega)
  have he : (⟨#[]⟩ : ByteArray).size = 0 := rfl
  unfold tokAt
  split
  · simp only [ByteArray.size_extract]; simp; omega
  · split
    · split
      · simp only [he]; simp; omega
      · simp only [ByteArray.size_extract]; simp; omega
    · split
      · dsimp only
        have hd : (if at_ s k = 35 then k + 1 else k) = k + 1 ∨ (if at_ s k = 35 then k + 1 else k) = k := by split <;> simp
        generalize (if at_ s k = 35 then k + 1 else k) = d at hd ⊢
        split
        · refine ⟨rfl, ?_, ?_, fun _ => rfl, fun h => by cases h⟩
          · show k + 0 ≤ s.size; omega
          · show 0 ≤ 40; omega
        · rename_i hn
          simp only [not_or] at hn
          simp only [ByteArray.size_extract]
          simp
          omega
      · simp only [he]; simp; omega

theorem tok_facts {s : ByteArray} {p : Nat} (h : p ≤ s.size) : p ≤ (tok s p).at_ ∧ (tok s p).at_ + (tok s p).t.size ≤ s.size ∧ (tok s p).t.size ≤ 40 ∧ ((tok s p).ok = false → (tok s p).t = ⟨#[]⟩) := by
  have h1 := runTo_ge blankB s p
  have h2 := runTo_le blankB s h
  unfold tok
  split
  · rename_i e
    refine ⟨h1, ?_, ?_, fun h => by cases h⟩
    · show runTo blankB s p + 0 ≤ s.size; omega
    · show 0 ≤ 40; omega
  · rename_i e
    obtain ⟨f1, f2, f3, f4, f5⟩ := tokAt_facts (s := s) (k := runTo blankB s p) (by omega)
    exact ⟨by rw [f1]; exact h1, by rw [f1]; exact f2, f3, f4⟩

end Go.Proofs.YtjlibnijecdgcaaGreatDoor
