/- What a level's text says is said once: a level that stands there is the only one; where none stands, the fault has one place. Plain Lean. -/
import Derived.Test.YtmpepnckfghepaaDoorExact
namespace Go.Proofs.YtmpepnckfghepaaDoor
open Go.RowKit

theorem one_byte {s : ByteArray} {k : Nat} (hk : k < s.size) (c : UInt8) (hc : at_ s k = c.toNat) : s.extract k (k + 1) = ⟨#[c]⟩ := by
  have e3 : s[k] = c := UInt8.toNat_inj.1 (by rw [at_eq hk]; exact hc)
  rw [ByteArray.ext_iff]
  apply Array.ext'
  apply List.ext_getElem
  · simp; omega
  · intro i h1' h2'
    simp at h2'
    subst h2'
    simp
    exact e3

theorem tok_at {s : ByteArray} {p : Nat} (hk : runTo blankB s p < s.size) : tok s p = tokAt s (runTo blankB s p) := by unfold tok; rw [if_neg (by omega)]

theorem sign_tok {s : ByteArray} {p p1 : Nat} (h : SignAt s 40 p p1) : (tok s p).t = ⟨#[40]⟩ := by
  obtain ⟨hk, hc, _⟩ := h
  rw [tok_at hk]
  generalize runTo blankB s p = k at *
  rcases tokAt_cases s k with ⟨_, e⟩ | ⟨x, _⟩ | ⟨x, _⟩ | ⟨x, _⟩ | ⟨x, _⟩ | ⟨x, _⟩ | ⟨x, _⟩ | ⟨x, _⟩ | ⟨x, _⟩
  · rw [e]; exact one_byte hk 40 hc
  all_goals first | omega | (rw [hc] at x; simp [nameB, letterB, digitB] at x)

theorem shut_tok {s : ByteArray} {p p1 : Nat} (h : SignAt s 41 p p1) : (tok s p).t = ⟨#[41]⟩ := by
  obtain ⟨hk, hc, _⟩ := h
  rw [tok_at hk]
  generalize runTo blankB s p = k at *
  rcases tokAt_cases s k with ⟨x, _⟩ | ⟨_, e⟩ | ⟨x, _⟩ | ⟨x, _⟩ | ⟨x, _⟩ | ⟨x, _⟩ | ⟨x, _⟩ | ⟨x, _⟩ | ⟨_, x, _⟩
  · omega
  · rw [e]; exact one_byte hk 41 hc
  all_goals first | omega | (rw [hc] at x; simp [nameB, letterB, digitB] at x)

theorem zero_tok {s : ByteArray} {p p1 : Nat} (h : ZeroAt s p p1) : (tok s p).t = ⟨#[48]⟩ := by
  obtain ⟨hk, hc, hd, _⟩ := h
  rw [tok_at hk]
  generalize runTo blankB s p = k at *
  have hd' : digitEnd s k = k + 1 := hd
  have hb : digitB (at_ s k) = true := by rw [hc]; decide
  rcases tokAt_cases s k with ⟨x, _⟩ | ⟨x, _⟩ | ⟨x, _⟩ | ⟨x, _⟩ | ⟨_, x, _⟩ | ⟨_, _, e⟩ | ⟨x, _⟩ | ⟨x, _⟩ | ⟨_, _, _, x, _⟩
  · omega
  · omega
  · rw [hc] at x; simp [nameB, letterB] at x
  · rw [hc] at x; simp [nameB, letterB] at x
  · omega
  · rw [e, hd']; exact one_byte hk 48 hc
  · omega
  · omega
  · rw [hb] at x; cases x

theorem word_tok {s q : ByteArray} {p p1 : Nat} (h : WordAt s q p p1) : (tok s p).t = q ∧ isNameB q = true := by
  obtain ⟨hk, hc, he, h40, hq⟩ := h
  rw [tok_at hk]
  generalize runTo blankB s p = k at *
  have he' : p1 = nameEnd s k := he
  have hge := nameEnd_ge s k
  have hle := nameEnd_le hk
  have hn : isNameB q = true := by
    have hne : q ≠ ⟨#[]⟩ := by
      rw [hq]; intro e
      have := congrArg ByteArray.size e
      rw [ByteArray.size_extract] at this
      have e0 : (⟨#[]⟩ : ByteArray).size = 0 := rfl
      rw [e0] at this
      omega
    unfold isNameB
    rw [hq, extract_first (by omega) (by omega), hc]
    rw [hq] at hne
    simp [hne]
  refine ⟨?_, hn⟩
  rcases tokAt_cases s k with ⟨x, e⟩ | ⟨x, _⟩ | ⟨_, x, _⟩ | ⟨_, _, e⟩ | ⟨x, _⟩ | ⟨x, _⟩ | ⟨x, _⟩ | ⟨x, _⟩ | ⟨_, _, x, _⟩
  · rw [x] at hc; simp [nameB, letterB] at hc
  · rw [x] at hc; simp [nameB, letterB] at hc
  · omega
  · rw [e, hq, he']
  · simp [nameB, letterB] at hc; simp [digitB] at x; omega
  · simp [nameB, letterB] at hc; simp [digitB] at x; omega
  · rw [x] at hc; simp [nameB, letterB] at hc
  · rw [x] at hc; simp [nameB, letterB] at hc
  · rw [x] at hc; simp at hc

theorem SignAt.same {s : ByteArray} {c p p1 p2 : Nat} (h : SignAt s c p p1) (h' : SignAt s c p p2) : p1 = p2 := by rw [h.2.2, h'.2.2]
theorem WordAt.same {s q q' : ByteArray} {p p1 p2 : Nat} (h : WordAt s q p p1) (h' : WordAt s q' p p2) : q = q' ∧ p1 = p2 := by
  have e : p1 = p2 := by rw [h.2.2.1, h'.2.2.1]
  exact ⟨by rw [h.2.2.2.2, h'.2.2.2.2, e], e⟩

/-- The first token of a level. -/
theorem Reads.first {s : ByteArray} {l : LvB} {p p' : Nat} (h : Reads s l p p') : (l.kind = 0 ∧ (tok s p).t = ⟨#[48]⟩) ∨ (l.kind = 4 ∧ isNameB (tok s p).t = true) ∨ (l.kind ≠ 0 ∧ l.kind ≠ 4 ∧ (tok s p).t = ⟨#[40]⟩) := by
  cases l with
  | zero => exact .inl ⟨rfl, zero_tok h⟩
  | param q => exact .inr (.inl ⟨rfl, by have := word_tok h; rw [this.1]; exact this.2⟩)
  | succ a => obtain ⟨p1, _, _, h1, _⟩ := h; exact .inr (.inr ⟨by simp [Lv.kind], by simp [Lv.kind], sign_tok h1⟩)
  | max a b => obtain ⟨p1, _, _, _, h1, _⟩ := h; exact .inr (.inr ⟨by simp [Lv.kind], by simp [Lv.kind], sign_tok h1⟩)
  | imax a b => obtain ⟨p1, _, _, _, h1, _⟩ := h; exact .inr (.inr ⟨by simp [Lv.kind], by simp [Lv.kind], sign_tok h1⟩)

theorem lit_ne : (⟨#[48]⟩ : ByteArray) ≠ ⟨#[40]⟩ := by decide
theorem name48 : isNameB ⟨#[48]⟩ = false := by decide
theorem name40 : isNameB ⟨#[40]⟩ = false := by decide

theorem Reads.kinds {s : ByteArray} {l l2 : LvB} {p p' p2 : Nat} (h : Reads s l p p') (h2 : Reads s l2 p p2) : (l.kind = 0 ∧ l2.kind = 0) ∨ (l.kind = 4 ∧ l2.kind = 4) ∨ (l.kind ≠ 0 ∧ l.kind ≠ 4 ∧ l2.kind ≠ 0 ∧ l2.kind ≠ 4) := by
  rcases h.first with ⟨a, e⟩ | ⟨a, e⟩ | ⟨a, b, e⟩ <;> rcases h2.first with ⟨a', e'⟩ | ⟨a', e'⟩ | ⟨a', b', e'⟩
  · exact .inl ⟨a, a'⟩
  · rw [e, name48] at e'; cases e'
  · exact absurd (e.symm.trans e') lit_ne
  · rw [e', name48] at e; cases e
  · exact .inr (.inl ⟨a, a'⟩)
  · rw [e', name40] at e; cases e
  · exact absurd (e'.symm.trans e) lit_ne
  · rw [e, name40] at e'; cases e'
  · exact .inr (.inr ⟨a, b, a', b'⟩)

/-- A level that stands there is the only one. -/
theorem Reads.unique {s : ByteArray} : ∀ {l l2 : LvB} {p p' p2 : Nat}, Reads s l p p' → Reads s l2 p p2 → l = l2 ∧ p' = p2
  | .zero, l2, p, p', p2, h, h2 => by
    have hk := h.kinds h2
    cases l2 <;> simp [Lv.kind] at hk
    exact ⟨rfl, by rw [h.2.2.2, h2.2.2.2]⟩
  | .param q, l2, p, p', p2, h, h2 => by
    have hk := h.kinds h2
    cases l2 <;> simp [Lv.kind] at hk
    have := WordAt.same h h2
    exact ⟨by rw [this.1], this.2⟩
  | .succ a, l2, p, p', p2, h, h2 => by
    have hk := h.kinds h2
    obtain ⟨x1, x2, x3, g1, g2, g3, g4⟩ := h
    cases l2 with
    | zero => simp [Lv.kind] at hk
    | param => simp [Lv.kind] at hk
    | succ b =>
      obtain ⟨y1, y2, y3, k1, k2, k3, k4⟩ := h2
      obtain rfl := g1.same k1
      obtain ⟨_, rfl⟩ := g2.same k2
      obtain ⟨rfl, rfl⟩ := Reads.unique g3 k3
      exact ⟨rfl, g4.same k4⟩
    | max b c =>
      obtain ⟨y1, y2, y3, y4, k1, k2, _⟩ := h2
      obtain rfl := g1.same k1
      exact absurd (g2.same k2).1 (by decide)
    | imax b c =>
      obtain ⟨y1, y2, y3, y4, k1, k2, _⟩ := h2
      obtain rfl := g1.same k1
      exact absurd (g2.same k2).1 (by decide)
  | .max a a', l2, p, p', p2, h, h2 => by
    have hk := h.kinds h2
    obtain ⟨x1, x2, x3, x4, g1, g2, g3, g4, g5⟩ := h
    cases l2 with
    | zero => simp [Lv.kind] at hk
    | param => simp [Lv.kind] at hk
    | succ b =>
      obtain ⟨y1, y2, y3, k1, k2, _⟩ := h2
      obtain rfl := g1.same k1
      exact absurd (g2.same k2).1 (by decide)
    | max b c =>
      obtain ⟨y1, y2, y3, y4, k1, k2, k3, k4, k5⟩ := h2
      obtain rfl := g1.same k1
      obtain ⟨_, rfl⟩ := g2.same k2
      obtain ⟨rfl, rfl⟩ := Reads.unique g3 k3
      obtain ⟨rfl, rfl⟩ := Reads.unique g4 k4
      exact ⟨rfl, g5.same k5⟩
    | imax b c =>
      obtain ⟨y1, y2, y3, y4, k1, k2, _⟩ := h2
      obtain rfl := g1.same k1
      exact absurd (g2.same k2).1 (by decide)
  | .imax a a', l2, p, p', p2, h, h2 => by
    have hk := h.kinds h2
    obtain ⟨x1, x2, x3, x4, g1, g2, g3, g4, g5⟩ := h
    cases l2 with
    | zero => simp [Lv.kind] at hk
    | param => simp [Lv.kind] at hk
    | succ b =>
      obtain ⟨y1, y2, y3, k1, k2, _⟩ := h2
      obtain rfl := g1.same k1
      exact absurd (g2.same k2).1 (by decide)
    | max b c =>
      obtain ⟨y1, y2, y3, y4, k1, k2, _⟩ := h2
      obtain rfl := g1.same k1
      exact absurd (g2.same k2).1 (by decide)
    | imax b c =>
      obtain ⟨y1, y2, y3, y4, k1, k2, k3, k4, k5⟩ := h2
      obtain rfl := g1.same k1
      obtain ⟨_, rfl⟩ := g2.same k2
      obtain ⟨rfl, rfl⟩ := Reads.unique g3 k3
      obtain ⟨rfl, rfl⟩ := Reads.unique g4 k4
      exact ⟨rfl, g5.same k5⟩

theorem ReadsAll.same {s : ByteArray} : ∀ {ls ls2 : List LvB} {p p1 p2 : Nat}, ReadsAll s ls p p1 → ReadsAll s ls2 p p2 → (ls.length = ls2.length → p1 = p2) ∧ (ls.length < ls2.length → ∃ l p', Reads s l p1 p')
  | [], [], _, _, _, h, h2 => ⟨fun _ => by rw [show _ = _ from h, show _ = _ from h2], fun h => absurd h (by simp)⟩
  | [], b :: bs, _, _, _, h, ⟨x, h2, _⟩ => ⟨fun h => by simp at h, fun _ => ⟨b, x, by rw [show _ = _ from h]; exact h2⟩⟩
  | a :: us, [], _, _, _, _, _ => ⟨fun h => by simp at h, fun h => by simp at h⟩
  | a :: us, b :: bs, _, _, _, ⟨x, h, h'⟩, ⟨y, h2, h2'⟩ => by
    obtain ⟨rfl, rfl⟩ := h.unique h2
    have := ReadsAll.same h' h2'
    exact ⟨fun e => this.1 (by simpa using e), fun e => this.2 (by simpa using e)⟩

theorem ReadsAll.stop {s : ByteArray} {ls ls2 : List LvB} {p p1 p2 : Nat} (h : ReadsAll s ls p p1) (h2 : ReadsAll s ls2 p p2) (hf : ∀ l x, ¬ Reads s l p1 x) (hf2 : ∀ l x, ¬ Reads s l p2 x) : p1 = p2 := by
  rcases Nat.lt_trichotomy ls.length ls2.length with hlt | heq | hgt
  · obtain ⟨l, x, hx⟩ := (h.same h2).2 hlt; exact absurd hx (hf l x)
  · exact (h.same h2).1 heq
  · obtain ⟨l, x, hx⟩ := (h2.same h).2 hgt; exact absurd hx (hf2 l x)

theorem KindOf.same {q q' : ByteArray} {kd kd' : Nat} (h : KindOf q kd) (h' : KindOf q' kd') (e : q = q') : kd = kd' := by
  subst e
  rcases h with ⟨rfl, rfl⟩ | ⟨rfl, rfl⟩ | ⟨rfl, rfl⟩ <;> rcases h' with ⟨e, rfl⟩ | ⟨e, rfl⟩ | ⟨e, rfl⟩ <;> first | rfl | exact absurd e (by decide)

/-- What stands behind a level's bracket. -/
theorem Reads.behind {s : ByteArray} {l : LvB} {p p1 p' : Nat} (h : Reads s l p p') (hs : SignAt s 40 p p1) : ∃ q kd p2 p3 ls, WordAt s q p1 p2 ∧ KindOf q kd ∧ ReadsAll s ls p2 p3 ∧ ls.length = partsOf kd ∧ SignAt s 41 p3 p' := by
  cases l with
  | zero => exact absurd ((zero_tok h).symm.trans (sign_tok hs)) lit_ne
  | param q => have := word_tok h; rw [← this.1, sign_tok hs, name40] at this; cases this.2
  | succ a => obtain ⟨x1, x2, x3, g1, g2, g3, g4⟩ := h; obtain rfl := g1.same hs; exact ⟨_, 1, x2, x3, [a], g2, .inl ⟨rfl, rfl⟩, ⟨x3, g3, rfl⟩, rfl, g4⟩
  | max a b => obtain ⟨x1, x2, x3, x4, g1, g2, g3, g4, g5⟩ := h; obtain rfl := g1.same hs; exact ⟨_, 2, x2, x4, [a, b], g2, .inr (.inl ⟨rfl, rfl⟩), ⟨x3, g3, x4, g4, rfl⟩, rfl, g5⟩
  | imax a b => obtain ⟨x1, x2, x3, x4, g1, g2, g3, g4, g5⟩ := h; obtain rfl := g1.same hs; exact ⟨_, 3, x2, x4, [a, b], g2, .inr (.inr ⟨rfl, rfl⟩), ⟨x3, g3, x4, g4, rfl⟩, rfl, g5⟩

/-- Where the reading fails no level stands. -/
theorem Fails.no {s : ByteArray} {p a : Nat} (hf : Fails s p a) : ∀ (l : LvB) (p' : Nat), ¬ Reads s l p p' := by
  induction hf with
  | none h0 hn ho =>
    intro l p' h
    rcases h.first with ⟨_, e⟩ | ⟨_, e⟩ | ⟨_, _, e⟩
    · exact h0 e
    · rw [hn] at e; cases e
    · exact ho e
  | word h1 w1 w2 w3 =>
    intro l p' h
    obtain ⟨q, kd, p2, p3, ls, g1, g2, _⟩ := h.behind h1
    have := (word_tok g1).1
    rcases g2 with ⟨rfl, _⟩ | ⟨rfl, _⟩ | ⟨rfl, _⟩
    · exact w1 this
    · exact w2 this
    · exact w3 this
  | part h1 h2 h3 h4 h5 _ ih =>
    intro l p' h
    obtain ⟨q, kd, p2, p3, ls, g1, g2, g3, g4, _⟩ := h.behind h1
    obtain ⟨e, rfl⟩ := h2.same g1
    obtain rfl := h3.same g2 e
    obtain ⟨l', x, hx⟩ := (h4.same g3).2 (by omega)
    exact ih l' x hx
  | close h1 h2 h3 h4 h5 h6 =>
    intro l p' h
    obtain ⟨q, kd, p2, p3, ls, g1, g2, g3, g4, g5⟩ := h.behind h1
    obtain ⟨e, rfl⟩ := h2.same g1
    obtain rfl := h3.same g2 e
    obtain rfl := (h4.same g3).1 (by omega)
    exact h6 (shut_tok g5)

/-- The fault has one place. -/
theorem Fails.unique {s : ByteArray} {p a : Nat} (hf : Fails s p a) : ∀ {a' : Nat}, Fails s p a' → a = a' := by
  induction hf with
  | none h0 hn ho =>
    intro a' h
    cases h with
    | none => rfl
    | word g1 => exact absurd (sign_tok g1) ho
    | part g1 => exact absurd (sign_tok g1) ho
    | close g1 => exact absurd (sign_tok g1) ho
  | word h1 w1 w2 w3 =>
    intro a' h
    have hno : ∀ {q : ByteArray} {kd p2 : Nat}, WordAt s q _ p2 → KindOf q kd → False := fun g1 g2 => by
      have := (word_tok g1).1
      rcases g2 with ⟨rfl, _⟩ | ⟨rfl, _⟩ | ⟨rfl, _⟩
      · exact w1 this
      · exact w2 this
      · exact w3 this
    cases h with
    | none _ _ ho => exact absurd (sign_tok h1) ho
    | word g1 => rw [h1.same g1]
    | part g1 g2 g3 => obtain rfl := h1.same g1; exact (hno g2 g3).elim
    | close g1 g2 g3 => obtain rfl := h1.same g1; exact (hno g2 g3).elim
  | part h1 h2 h3 h4 h5 hf' ih =>
    intro a' h
    cases h with
    | none _ _ ho => exact absurd (sign_tok h1) ho
    | word g1 w1 w2 w3 =>
      obtain rfl := h1.same g1
      have := (word_tok h2).1
      rcases h3 with ⟨rfl, _⟩ | ⟨rfl, _⟩ | ⟨rfl, _⟩
      · exact absurd this w1
      · exact absurd this w2
      · exact absurd this w3
    | part g1 g2 g3 g4 g5 g6 =>
      obtain rfl := h1.same g1
      obtain ⟨e, rfl⟩ := h2.same g2
      obtain rfl := h4.stop g4 hf'.no g6.no
      exact ih g6
    | close g1 g2 g3 g4 g5 g6 =>
      obtain rfl := h1.same g1
      obtain ⟨e, rfl⟩ := h2.same g2
      obtain rfl := h3.same g3 e
      obtain ⟨l, x, hx⟩ := (h4.same g4).2 (by omega)
      exact absurd hx (hf'.no l x)
  | close h1 h2 h3 h4 h5 h6 =>
    intro a' h
    cases h with
    | none _ _ ho => exact absurd (sign_tok h1) ho
    | word g1 w1 w2 w3 =>
      obtain rfl := h1.same g1
      have := (word_tok h2).1
      rcases h3 with ⟨rfl, _⟩ | ⟨rfl, _⟩ | ⟨rfl, _⟩
      · exact absurd this w1
      · exact absurd this w2
      · exact absurd this w3
    | part g1 g2 g3 g4 g5 g6 =>
      obtain rfl := h1.same g1
      obtain ⟨e, rfl⟩ := h2.same g2
      obtain rfl := h3.same g3 e
      obtain ⟨l, x, hx⟩ := (g4.same h4).2 (by omega)
      exact absurd hx (g6.no l x)
    | close g1 g2 g3 g4 g5 g6 =>
      obtain rfl := h1.same g1
      obtain ⟨e, rfl⟩ := h2.same g2
      obtain rfl := h3.same g3 e
      rw [(h4.same g4).1 (by omega)]

/-- The whole text is a level. -/
def Right (s : ByteArray) (l : LvB) : Prop := ∃ p', Reads s l 0 p' ∧ runTo blankB s p' = s.size
theorem Right.unique {s : ByteArray} {l l' : LvB} (h : Right s l) (h' : Right s l') : l = l' := by
  obtain ⟨p, h, _⟩ := h
  obtain ⟨p', h', _⟩ := h'
  exact (h.unique h').1
theorem Right.no {s : ByteArray} {l : LvB} {a : Nat} (h : Right s l) : ¬ Wrong s a := by
  obtain ⟨p, h, he⟩ := h
  rintro (hf | ⟨l', p', h', hne, _⟩)
  · exact hf.no l p h
  · obtain ⟨_, rfl⟩ := h.unique h'; exact hne he
theorem Wrong.unique {s : ByteArray} {a a' : Nat} (h : Wrong s a) (h' : Wrong s a') : a = a' := by
  rcases h with hf | ⟨l, p, h, hne, e⟩ <;> rcases h' with hf' | ⟨l', p', h', hne', e'⟩
  · exact hf.unique hf'
  · exact absurd h' (hf.no l' p')
  · exact absurd h (hf'.no l p)
  · obtain ⟨_, rfl⟩ := h.unique h'; rw [e, e']

end Go.Proofs.YtmpepnckfghepaaDoor
