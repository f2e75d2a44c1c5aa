/- How a term stands in a text, and where its reading fails; what stands there is said once. Plain Lean. -/
import Derived.Test.YtahcgpnjlmpkpaaGreatDoorUnique
import Derived.Test.YtahcgpnjlmpkpaaGreatDoorTakeAll
import Derived.Test.YtahcgpnjlmpkpaaGreatDoorTm
namespace Go.Proofs.YtahcgpnjlmpkpaaGreatDoor
open Go.RowKit

/-- What digits mean. -/
def decF : Nat → List UInt8 → Nat
  | acc, [] => acc
  | acc, c :: r => decF (acc * 10 + (c.toNat - 48)) r
def decV (d : ByteArray) : Nat := decF 0 d.data.toList

theorem pow_move (a P : Nat) : a * (P * 10) = a * 10 * P := by rw [Nat.mul_comm P 10, Nat.mul_assoc]

theorem decF_ge : ∀ (l : List UInt8) (acc : Nat), acc * 10 ^ l.length ≤ decF acc l
  | [], acc => by rw [List.length_nil, Nat.pow_zero, Nat.mul_one]; exact Nat.le_refl _
  | c :: r, acc => by
    have ih := decF_ge r (acc * 10 + (c.toNat - 48))
    rw [List.length_cons, Nat.pow_succ]
    show acc * (10 ^ r.length * 10) ≤ decF (acc * 10 + (c.toNat - 48)) r
    generalize decF (acc * 10 + (c.toNat - 48)) r = D at *
    generalize 10 ^ r.length = P at *
    rw [pow_move]
    exact Nat.le_trans (Nat.mul_le_mul_right P (Nat.le_add_right _ _)) ih

theorem decF_lt : ∀ (l : List UInt8) (acc : Nat), (∀ c ∈ l, 48 ≤ c.toNat ∧ c.toNat ≤ 57) → decF acc l < (acc + 1) * 10 ^ l.length
  | [], acc, _ => by rw [List.length_nil, Nat.pow_zero, Nat.mul_one]; exact Nat.lt_succ_self _
  | c :: r, acc, h => by
    have ih := decF_lt r (acc * 10 + (c.toNat - 48)) fun x hx => h x (by simp [hx])
    have hc := h c (by simp)
    rw [List.length_cons, Nat.pow_succ]
    show decF (acc * 10 + (c.toNat - 48)) r < (acc + 1) * (10 ^ r.length * 10)
    have hx : acc * 10 + (c.toNat - 48) + 1 ≤ (acc + 1) * 10 := by omega
    generalize acc * 10 + (c.toNat - 48) = x at *
    generalize decF x r = D at *
    generalize 10 ^ r.length = P at *
    rw [pow_move]
    exact Nat.lt_of_lt_of_le ih (Nat.mul_le_mul_right P hx)

theorem uint_step (acc : Nat) (c : UInt8) (r : List UInt8) : ∃ z, Lib.parseUint10 acc (c :: r) = if 48 ≤ c.toNat ∧ c.toNat ≤ 57 then if 1844674407370955162 ≤ acc then .range else if 18446744073709551616 ≤ acc * 10 + (c.toNat - 48) then .range else Lib.parseUint10 (acc * 10 + (c.toNat - 48)) r else z := ⟨_, rfl⟩

theorem small_step {acc x B : Nat} (hB : B ≤ 1000000000000) (h : (acc + 1) * 10 ≤ B) (hx : x ≤ 9) : ¬ 1844674407370955162 ≤ acc ∧ ¬ 18446744073709551616 ≤ acc * 10 + x := by omega

theorem uint_ok (l : List UInt8) : ∀ (acc B : Nat), (∀ c ∈ l, 48 ≤ c.toNat ∧ c.toNat ≤ 57) → B ≤ 1000000000000 → (acc + 1) * 10 ^ l.length ≤ B → Lib.parseUint10 acc l = .ok (decF acc l) := by
  induction l with
  | nil => intro acc B _ _ _; rfl
  | cons c r ih =>
    intro acc B h hB hb
    have hc := h c (by simp)
    rw [List.length_cons, Nat.pow_succ, pow_move] at hb
    have hp : 0 < 10 ^ r.length := Nat.pow_pos (by decide)
    have hx : acc * 10 + (c.toNat - 48) + 1 ≤ (acc + 1) * 10 := by clear hb hB ih h; omega
    have h2 : (acc + 1) * 10 ≤ B := Nat.le_trans (Nat.le_mul_of_pos_right _ hp) hb
    obtain ⟨c1, c2⟩ := small_step (x := c.toNat - 48) hB h2 (by clear hb hB ih h h2 hx hp; omega)
    have h3 := ih (acc * 10 + (c.toNat - 48)) B (fun x hx => h x (by simp [hx])) hB (Nat.le_trans (Nat.mul_le_mul_right (10 ^ r.length) hx) hb)
    obtain ⟨z, e⟩ := uint_step acc c r
    rw [if_pos hc, if_neg c1, if_neg c2, h3] at e
    exact e

theorem uint_is (l : List UInt8) : ∀ (acc u : Nat), (∀ c ∈ l, 48 ≤ c.toNat ∧ c.toNat ≤ 57) → Lib.parseUint10 acc l = .ok u → u = decF acc l := by
  induction l with
  | nil => intro acc u _ h; injection h with h; exact h.symm
  | cons c r ih =>
    intro acc u h hu
    have hc := h c (by simp)
    obtain ⟨z, e⟩ := uint_step acc c r
    rw [if_pos hc] at e
    by_cases c1 : 1844674407370955162 ≤ acc
    · rw [if_pos c1, hu] at e; cases e
    · rw [if_neg c1] at e
      by_cases c2 : 18446744073709551616 ≤ acc * 10 + (c.toNat - 48)
      · rw [if_pos c2, hu] at e; cases e
      · rw [if_neg c2, hu] at e
        exact ih _ u (fun x hx => h x (by simp [hx])) e.symm

theorem numOf_digits {d : ByteArray} (hg : Digs d) : numOf d 99999 = if d.size = 0 ∨ 5 < d.size ∨ (1 < d.size ∧ at_ d 0 = 48) then none else some ((decV d : Nat) : Int) := by
  have hlen : d.data.toList.length = d.size := by rw [Array.length_toList]; rfl
  unfold numOf decV
  by_cases h0 : 1 < d.size ∧ at_ d 0 = 48
  · rw [if_pos h0, if_pos (.inr (.inr h0))]
  rw [if_neg h0]
  have hfirst : 0 < d.size → d.data.toList[0]?.map (·.toNat) = some (at_ d 0) := fun h => by
    rw [at_data d 0 h, List.getElem?_eq_getElem (by rw [hlen]; exact h)]
    rfl
  unfold Digs at hg
  generalize hl : d.data.toList = l at *
  cases l with
  | nil =>
    have : d.size = 0 := by rw [← hlen]; rfl
    rw [if_pos (.inl this)]
    rfl
  | cons c r =>
    have hc := hg c (by simp)
    have hs : d.size = r.length + 1 := by rw [← hlen]; rfl
    rw [Lib.atoiAll_plain c r (by omega) (by omega)]
    have hm : Lib.parseMag (c :: r) = Lib.parseUint10 0 (c :: r) := by unfold Lib.parseMag; rw [if_neg (by simp)]
    rw [hm]
    by_cases h5 : 5 < d.size
    · rw [if_pos (.inr (.inl h5))]
      rcases digits_uint (c :: r) 0 hg with ⟨u, e⟩ | e
      · have e2 := uint_is _ 0 u hg e
        rw [e]
        unfold Lib.signless
        dsimp only
        have hat : at_ d 0 = c.toNat := by have := hfirst (by omega); simp at this; exact this.symm
        have hne : c.toNat ≠ 48 := fun e => h0 ⟨by omega, by rw [hat]; exact e⟩
        have hge := decF_ge r (c.toNat - 48)
        have h10 : 10 ^ 5 ≤ 10 ^ r.length := Nat.pow_le_pow_right (by decide) (by omega)
        have hc1 : 1 ≤ c.toNat - 48 := by omega
        have h11 : 1 * 10 ^ r.length ≤ (c.toNat - 48) * 10 ^ r.length := Nat.mul_le_mul_right _ hc1
        have e3 : decF 0 (c :: r) = decF (c.toNat - 48) r := by show decF (0 * 10 + (c.toNat - 48)) r = _; rw [Nat.zero_mul, Nat.zero_add]
        have h12 : 100000 ≤ u := by
          rw [e2, e3]
          rw [Nat.one_mul] at h11
          exact Nat.le_trans (Nat.le_trans (show 100000 ≤ 10 ^ 5 by decide) h10) (Nat.le_trans h11 hge)
        have hbig : 99999 < u := h12
        clear h10 h11 hge h12
        split
        · rename_i v hv
          split at hv
          · cases hv
          · injection hv with hv
            rw [if_pos (by omega)]
        · rfl
      · rw [e]; rfl
    · have hlt := decF_lt (c :: r) 0 hg
      have h10 : 10 ^ (c :: r).length ≤ 10 ^ 5 := Nat.pow_le_pow_right (by omega) (by simp; omega)
      have hok := uint_ok _ 0 (10 ^ 5) hg (by decide) (by rw [Nat.zero_add, Nat.one_mul]; exact h10)
      rw [hok, if_neg (by omega)]
      unfold Lib.signless
      dsimp only
      rw [if_neg (by omega)]
      dsimp only
      rw [if_neg (by omega)]

/-- A sharp with its number stands there, behind blanks. -/
def IdxAt (s : ByteArray) (n p p' : Nat) : Prop := runTo blankB s p < s.size ∧ at_ s (runTo blankB s p) = 35 ∧ p' = digitEnd s (runTo blankB s p) ∧ ¬ (p' = runTo blankB s p + 1 ∨ 5 < p' - (runTo blankB s p + 1) ∨ (1 < p' - (runTo blankB s p + 1) ∧ at_ s (runTo blankB s p + 1) = 48)) ∧ n = decV (s.extract (runTo blankB s p + 1) p')

theorem IdxAt.le {s : ByteArray} {n p p' : Nat} (h : IdxAt s n p p') : p' ≤ s.size := by rw [h.2.2.1]; exact digitEnd_le h.1

theorem idx_tok {s : ByteArray} {n p p' : Nat} (h : IdxAt s n p p') : (tok s p).t = s.extract (runTo blankB s p) p' ∧ at_ (tok s p).t 0 = 35 := by
  obtain ⟨hk, hc, he, hg, _⟩ := h
  rw [tok_at hk]
  have hle := digitEnd_le hk
  have hge := digitEnd_ge s (runTo blankB s p)
  rw [← he] at hle hge
  generalize runTo blankB s p = k at *
  have ht : (tokAt s k).t = s.extract k p' := by
    rcases tokAt_cases s k with ⟨x, _⟩ | ⟨x, _⟩ | ⟨x, _⟩ | ⟨x, _⟩ | ⟨x, _⟩ | ⟨x, _⟩ | ⟨_, x, _⟩ | ⟨_, _, e⟩ | ⟨_, _, _, _, x, _⟩
    · omega
    · omega
    · rw [hc] at x; simp [nameB, letterB] at x
    · rw [hc] at x; simp [nameB, letterB] at x
    · rw [hc] at x; simp [digitB] at x
    · rw [hc] at x; simp [digitB] at x
    · rw [← he] at x; exact absurd x hg
    · rw [e, ← he]
    · exact absurd hc x
  exact ⟨ht, by rw [ht, extract_first (by omega) hle]; exact hc⟩

theorem tok_idx {s : ByteArray} {p : Nat} (hp : p ≤ s.size) (hne : (tok s p).t ≠ ⟨#[]⟩) (h : at_ (tok s p).t 0 = 35) : IdxAt s (decV (s.extract (runTo blankB s p + 1) ((tok s p).at_ + (tok s p).t.size))) p ((tok s p).at_ + (tok s p).t.size) ∧ (tok s p).t = s.extract (runTo blankB s p) ((tok s p).at_ + (tok s p).t.size) := by
  obtain ⟨hk, e⟩ := tok_in hp hne
  rw [tok_place s p hp]
  rw [e] at hne h ⊢
  rw [tokAt_first hk hne] at h
  have hle := digitEnd_le hk
  have hge := digitEnd_ge s (runTo blankB s p)
  unfold IdxAt
  generalize runTo blankB s p = k at *
  rcases tokAt_cases s k with ⟨x, _⟩ | ⟨x, _⟩ | ⟨x, _⟩ | ⟨x, _⟩ | ⟨x, _⟩ | ⟨x, _⟩ | ⟨_, _, x⟩ | ⟨_, hg, e'⟩ | ⟨_, _, _, _, x, _⟩
  · omega
  · omega
  · rw [h] at x; simp [nameB, letterB] at x
  · rw [h] at x; simp [nameB, letterB] at x
  · rw [h] at x; simp [digitB] at x
  · rw [h] at x; simp [digitB] at x
  · rw [x] at hne; exact absurd rfl hne
  · have hsz : (s.extract k (digitEnd s k)).size = digitEnd s k - k := by rw [ByteArray.size_extract]; omega
    rw [e']
    simp only [hsz]
    have e3 : k + (digitEnd s k - k) = digitEnd s k := by omega
    rw [e3]
    exact ⟨⟨hk, h, rfl, hg, trivial⟩, rfl⟩
  · exact absurd h x

/-- A word of terms, and its kind. -/
def TKind (q : ByteArray) (kd : Nat) : Prop := (q = ⟨#[115, 111, 114, 116]⟩ ∧ kd = 1) ∨ (q = ⟨#[99, 111, 110, 115, 116]⟩ ∧ kd = 2) ∨ (q = ⟨#[97, 112, 112]⟩ ∧ kd = 3) ∨ (q = ⟨#[108, 97, 109]⟩ ∧ kd = 4) ∨ (q = ⟨#[112, 105]⟩ ∧ kd = 5) ∨ (q = ⟨#[108, 101, 116]⟩ ∧ kd = 6)
def tparts (kd : Nat) : Nat := if kd = 3 ∨ kd = 4 ∨ kd = 5 then 2 else if kd = 6 then 3 else 0

theorem TKind.same {q q' : ByteArray} {kd kd' : Nat} (h : TKind q kd) (h' : TKind q' kd') (e : q = q') : kd = kd' := by
  subst e
  rcases h with ⟨rfl, rfl⟩ | ⟨rfl, rfl⟩ | ⟨rfl, rfl⟩ | ⟨rfl, rfl⟩ | ⟨rfl, rfl⟩ | ⟨rfl, rfl⟩ <;> rcases h' with ⟨e, rfl⟩ | ⟨e, rfl⟩ | ⟨e, rfl⟩ | ⟨e, rfl⟩ | ⟨e, rfl⟩ | ⟨e, rfl⟩ <;> first | rfl | exact absurd e (by decide)
theorem TKind.pos {q : ByteArray} {kd : Nat} (h : TKind q kd) : 1 ≤ kd ∧ kd ≤ 6 := by
  rcases h with ⟨_, rfl⟩ | ⟨_, rfl⟩ | ⟨_, rfl⟩ | ⟨_, rfl⟩ | ⟨_, rfl⟩ | ⟨_, rfl⟩ <;> omega

/-- The name that a constant has behind its word. -/
def NamePart (s : ByteArray) (kd : Nat) (nm : ByteArray) (p p' : Nat) : Prop := (kd = 2 ∧ WordAt s nm p p') ∨ (kd ≠ 2 ∧ nm = ⟨#[]⟩ ∧ p' = p)
/-- All levels of a sort, of a constant. -/
def LvPart (s : ByteArray) (kd : Nat) (ls : List LvB) (p p' : Nat) : Prop := (kd = 1 ∧ ∃ l, ls = [l] ∧ Reads s l p p') ∨ (kd = 2 ∧ ReadsAll s ls p p' ∧ (tok s p').t = ⟨#[41]⟩) ∨ (kd ≠ 1 ∧ kd ≠ 2 ∧ ls = [] ∧ p' = p)
/-- Some of them; another one must follow. -/
def LvOpen (s : ByteArray) (kd : Nat) (ls : List LvB) (p p' : Nat) : Prop := (kd = 1 ∧ ls = [] ∧ p' = p) ∨ (kd = 2 ∧ ReadsAll s ls p p' ∧ (tok s p').t ≠ ⟨#[41]⟩)

/-- Terms, one behind the other. -/
def Seq (R : Tm → Nat → Nat → Prop) : List Tm → Nat → Nat → Prop
  | [], p, p' => p' = p
  | a :: ts, p, p' => ∃ p1, R a p p1 ∧ Seq R ts p1 p'

/-- A term stands there, of at most that depth. -/
def RT (s : ByteArray) : Nat → Tm → Nat → Nat → Prop
  | 0 => fun _ _ _ => False
  | d + 1 => fun t p p' => (t.kd = 0 ∧ t.nm = ⟨#[]⟩ ∧ t.ls = [] ∧ t.ts = [] ∧ IdxAt s t.n p p') ∨
      ∃ p1 p2 p3 p4 p5 q, SignAt s 40 p p1 ∧ WordAt s q p1 p2 ∧ TKind q t.kd ∧ t.n = 0 ∧ NamePart s t.kd t.nm p2 p3 ∧ LvPart s t.kd t.ls p3 p4 ∧ Seq (RT s d) t.ts p4 p5 ∧ t.ts.length = tparts t.kd ∧ SignAt s 41 p5 p'

/-- No term begins there; no word of terms stands there. -/
def NoTm (s : ByteArray) (p : Nat) : Prop := (tok s p).t ≠ ⟨#[40]⟩ ∧ ((tok s p).t = ⟨#[]⟩ ∨ at_ (tok s p).t 0 ≠ 35)
def NoTW (s : ByteArray) (p : Nat) : Prop := ∀ q kd, TKind q kd → (tok s p).t ≠ q

/-- No term stands there: the place of the first token that can't stand where it does. -/
def FT (s : ByteArray) : Nat → Nat → Nat → Prop
  | 0 => fun _ _ => False
  | d + 1 => fun p a => (NoTm s p ∧ a = runTo blankB s p) ∨ ∃ p1, SignAt s 40 p p1 ∧ ((NoTW s p1 ∧ a = runTo blankB s p1) ∨ ∃ q kd p2, WordAt s q p1 p2 ∧ TKind q kd ∧ ((kd = 2 ∧ isNameB (tok s p2).t = false ∧ a = runTo blankB s p2) ∨
      ∃ nm p3, NamePart s kd nm p2 p3 ∧ ((∃ ls p4, LvOpen s kd ls p3 p4 ∧ Fails s p4 a) ∨ ∃ ls p4, LvPart s kd ls p3 p4 ∧ ∃ ts p5, Seq (RT s d) ts p4 p5 ∧ ((ts.length < tparts kd ∧ FT s d p5 a) ∨ (ts.length = tparts kd ∧ (tok s p5).t ≠ ⟨#[41]⟩ ∧ a = runTo blankB s p5)))))

theorem Seq.mono {R R' : Tm → Nat → Nat → Prop} (h : ∀ t p p', R t p p' → R' t p p') : ∀ {ts : List Tm} {p p' : Nat}, Seq R ts p p' → Seq R' ts p p'
  | [], _, _, e => e
  | _ :: _, _, _, ⟨p1, h1, h2⟩ => ⟨p1, h _ _ _ h1, Seq.mono h h2⟩
theorem Seq.snoc {R : Tm → Nat → Nat → Prop} : ∀ {ts : List Tm} {t : Tm} {p p1 p' : Nat}, Seq R ts p p1 → R t p1 p' → Seq R (ts ++ [t]) p p'
  | [], _, _, _, _, e, h => by rw [show _ = _ from e] at h; exact ⟨_, h, rfl⟩
  | _ :: _, _, _, _, _, ⟨x, h1, h2⟩, h => ⟨x, h1, Seq.snoc h2 h⟩

theorem ReadsAll.snoc {s : ByteArray} : ∀ {ls : List LvB} {l : LvB} {p p1 p' : Nat}, ReadsAll s ls p p1 → Reads s l p1 p' → ReadsAll s (ls ++ [l]) p p'
  | [], _, _, _, _, e, h => by rw [show _ = _ from e] at h; exact ⟨_, h, rfl⟩
  | _ :: _, _, _, _, _, ⟨x, h1, h2⟩, h => ⟨x, h1, ReadsAll.snoc h2 h⟩

theorem RT.step {s : ByteArray} : ∀ {d : Nat} {t : Tm} {p p' : Nat}, RT s d t p p' → RT s (d + 1) t p p'
  | 0, _, _, _, h => absurd h (by simp [RT])
  | _ + 1, _, _, _, .inl h => .inl h
  | _ + 1, _, _, _, .inr ⟨p1, p2, p3, p4, p5, q, h1, h2, h3, h4, h5, h6, h7, h8⟩ => .inr ⟨p1, p2, p3, p4, p5, q, h1, h2, h3, h4, h5, h6, h7.mono fun _ _ _ => RT.step, h8⟩
theorem RT.deeper {s : ByteArray} {d e : Nat} {t : Tm} {p p' : Nat} (h : RT s d t p p') (he : d ≤ e) : RT s e t p p' := by
  induction he with
  | refl => exact h
  | step _ ih => exact ih.step
theorem FT.step {s : ByteArray} : ∀ {d : Nat} {p a : Nat}, FT s d p a → FT s (d + 1) p a
  | 0, _, _, h => absurd h (by simp [FT])
  | d + 1, p, a, h => by
    rcases h with h | ⟨p1, h1, h | ⟨q, kd, p2, h2, h3, h | ⟨nm, p3, h4, h | ⟨ls, p4, h5, ts, p5, h6, h | h⟩⟩⟩⟩
    · exact .inl h
    · exact .inr ⟨p1, h1, .inl h⟩
    · exact .inr ⟨p1, h1, .inr ⟨q, kd, p2, h2, h3, .inl h⟩⟩
    · exact .inr ⟨p1, h1, .inr ⟨q, kd, p2, h2, h3, .inr ⟨nm, p3, h4, .inl h⟩⟩⟩
    · exact .inr ⟨p1, h1, .inr ⟨q, kd, p2, h2, h3, .inr ⟨nm, p3, h4, .inr ⟨ls, p4, h5, ts, p5, h6.mono fun _ _ _ => RT.step, .inl ⟨h.1, FT.step h.2⟩⟩⟩⟩⟩
    · exact .inr ⟨p1, h1, .inr ⟨q, kd, p2, h2, h3, .inr ⟨nm, p3, h4, .inr ⟨ls, p4, h5, ts, p5, h6.mono fun _ _ _ => RT.step, .inr h⟩⟩⟩⟩
theorem FT.deeper {s : ByteArray} {d e : Nat} {p a : Nat} (h : FT s d p a) (he : d ≤ e) : FT s e p a := by
  induction he with
  | refl => exact h
  | step _ ih => exact ih.step

theorem RT.le {s : ByteArray} {d : Nat} {t : Tm} {p p' : Nat} (h : RT s d t p p') : p' ≤ s.size := by
  cases d with
  | zero => exact absurd h (by simp [RT])
  | succ d =>
    rcases h with ⟨_, _, _, _, h⟩ | ⟨p1, p2, p3, p4, p5, q, _, _, _, _, _, _, _, _, h⟩
    · exact h.le
    · obtain ⟨h1, _, rfl⟩ := h; omega

/-- The first token of a term. -/
theorem RT.first {s : ByteArray} {d : Nat} {t : Tm} {p p' : Nat} (h : RT s d t p p') : ¬ NoTm s p := by
  cases d with
  | zero => exact absurd h (by simp [RT])
  | succ d =>
    rintro ⟨h1, h2⟩
    rcases h with ⟨_, _, _, _, h⟩ | ⟨p1, p2, p3, p4, p5, q, h, _⟩
    · obtain ⟨e, e35⟩ := idx_tok h
      rcases h2 with h2 | h2
      · rw [h2] at e35; exact absurd e35 (by decide)
      · exact h2 e35
    · exact h1 (sign_tok h)

theorem close_no_level {s : ByteArray} {p p' : Nat} {l : LvB} (h : Reads s l p p') : (tok s p).t ≠ ⟨#[41]⟩ := by
  intro e
  rcases h.first with ⟨_, x⟩ | ⟨_, x⟩ | ⟨_, _, x⟩
  · rw [e] at x; exact absurd x (by decide)
  · rw [e] at x; exact absurd x (by decide)
  · rw [e] at x; exact absurd x (by decide)

theorem ReadsAll.shut {s : ByteArray} : ∀ {ls ls2 : List LvB} {p p1 p2 : Nat}, ReadsAll s ls p p1 → (tok s p1).t = ⟨#[41]⟩ → ReadsAll s ls2 p p2 → (tok s p2).t = ⟨#[41]⟩ → ls = ls2 ∧ p1 = p2
  | [], [], _, _, _, h, _, h2, _ => ⟨rfl, by rw [show _ = _ from h, show _ = _ from h2]⟩
  | [], b :: bs, _, _, _, h, e, ⟨x, h2, _⟩, _ => by rw [show _ = _ from h] at e; exact absurd e (close_no_level h2)
  | a :: us, [], _, _, _, ⟨x, h, _⟩, _, h2, e => by rw [show _ = _ from h2] at e; exact absurd e (close_no_level h)
  | a :: us, b :: bs, _, _, _, ⟨x, h, h'⟩, e, ⟨y, h2, h2'⟩, e2 => by
    obtain ⟨rfl, rfl⟩ := h.unique h2
    obtain ⟨rfl, rfl⟩ := ReadsAll.shut h' e h2' e2
    exact ⟨rfl, rfl⟩

theorem NamePart.same {s nm nm' : ByteArray} {kd p p1 p2 : Nat} (h : NamePart s kd nm p p1) (h' : NamePart s kd nm' p p2) : nm = nm' ∧ p1 = p2 := by
  rcases h with ⟨_, h⟩ | ⟨e, rfl, rfl⟩ <;> rcases h' with ⟨e', h'⟩ | ⟨_, rfl, rfl⟩
  · exact h.same h'
  · contradiction
  · exact absurd e' e
  · exact ⟨rfl, rfl⟩
theorem LvPart.same {s : ByteArray} {ls ls' : List LvB} {kd p p1 p2 : Nat} (h : LvPart s kd ls p p1) (h' : LvPart s kd ls' p p2) : ls = ls' ∧ p1 = p2 := by
  rcases h with ⟨rfl, l, rfl, h⟩ | ⟨rfl, h, hs⟩ | ⟨e1, e2, rfl, rfl⟩ <;> rcases h' with ⟨e, l', rfl, h'⟩ | ⟨e, h', hs'⟩ | ⟨e1', e2', rfl, rfl⟩
  · obtain ⟨rfl, rfl⟩ := h.unique h'; exact ⟨rfl, rfl⟩
  · omega
  · omega
  · omega
  · exact h.shut hs h' hs'
  · omega
  · omega
  · omega
  · exact ⟨rfl, rfl⟩
theorem LvPart.no {s : ByteArray} {ls ls' : List LvB} {kd p p1 p2 a : Nat} (h : LvPart s kd ls p p1) (h' : LvOpen s kd ls' p p2) (hf : Fails s p2 a) : False := by
  rcases h with ⟨rfl, l, rfl, h⟩ | ⟨rfl, h, hs⟩ | ⟨e1, e2, rfl, rfl⟩ <;> rcases h' with ⟨e, rfl, rfl⟩ | ⟨e, h', hs'⟩
  · exact hf.no l _ h
  · omega
  · omega
  · rcases Nat.lt_trichotomy ls.length ls'.length with hlt | heq | hgt
    · obtain ⟨l, x, hx⟩ := (h.same h').2 hlt; exact close_no_level hx hs
    · rw [(h.same h').1 heq] at hs; exact hs' hs
    · obtain ⟨l, x, hx⟩ := (h'.same h).2 hgt; exact hf.no l x hx
  · omega
  · omega
theorem LvOpen.same {s : ByteArray} {ls ls' : List LvB} {kd p p1 p2 a a' : Nat} (h : LvOpen s kd ls p p1) (hf : Fails s p1 a) (h' : LvOpen s kd ls' p p2) (hf' : Fails s p2 a') : a = a' := by
  rcases h with ⟨rfl, rfl, rfl⟩ | ⟨rfl, h, hs⟩ <;> rcases h' with ⟨e, rfl, rfl⟩ | ⟨e, h', hs'⟩
  · exact hf.unique hf'
  · omega
  · omega
  · obtain rfl := h.stop h' hf.no hf'.no
    exact hf.unique hf'

theorem Seq.same {R R' : Tm → Nat → Nat → Prop} (hu : ∀ t t' p p1 p2, R t p p1 → R' t' p p2 → t = t' ∧ p1 = p2) : ∀ {ts ts2 : List Tm} {p p1 p2 : Nat}, Seq R ts p p1 → Seq R' ts2 p p2 → (ts.length = ts2.length → ts = ts2 ∧ p1 = p2) ∧ (ts.length < ts2.length → ∃ t x, R' t p1 x) ∧ (ts2.length < ts.length → ∃ t x, R t p2 x)
  | [], [], _, _, _, h, h2 => ⟨fun _ => ⟨rfl, by rw [show _ = _ from h, show _ = _ from h2]⟩, fun h => absurd h (by simp), fun h => absurd h (by simp)⟩
  | [], b :: bs, _, _, _, h, ⟨x, h2, _⟩ => ⟨fun h => by simp at h, fun _ => ⟨b, x, by rw [show _ = _ from h]; exact h2⟩, fun h => by simp at h⟩
  | a :: us, [], _, _, _, ⟨x, h, _⟩, h2 => ⟨fun h => by simp at h, fun h => by simp at h, fun _ => ⟨a, x, by rw [show _ = _ from h2]; exact h⟩⟩
  | a :: us, b :: bs, _, _, _, ⟨x, h, h'⟩, ⟨y, h2, h2'⟩ => by
    obtain ⟨rfl, rfl⟩ := hu _ _ _ _ _ h h2
    have := Seq.same hu h' h2'
    exact ⟨fun e => by have := this.1 (by simpa using e); exact ⟨by rw [this.1], this.2⟩, fun e => this.2.1 (by simpa using e), fun e => this.2.2 (by simpa using e)⟩

theorem Tm.ext {t t' : Tm} (h1 : t.kd = t'.kd) (h2 : t.n = t'.n) (h3 : t.nm = t'.nm) (h4 : t.ls = t'.ls) (h5 : t.ts = t'.ts) : t = t' := by
  cases t; cases t'; simp only [Tm.kd, Tm.n, Tm.nm, Tm.ls, Tm.ts] at *; subst h1 h2 h3 h4 h5; rfl

theorem sign_no_idx {s : ByteArray} {n p p1 p2 : Nat} (h : SignAt s 40 p p1) (h' : IdxAt s n p p2) : False := by
  have := h.2.1; have := h'.2.1; omega

theorem RT.unique {s : ByteArray} : ∀ {d e : Nat} {t t' : Tm} {p p1 p2 : Nat}, RT s d t p p1 → RT s e t' p p2 → t = t' ∧ p1 = p2
  | 0, _, _, _, _, _, _, h, _ => absurd h (by simp [RT])
  | _ + 1, 0, _, _, _, _, _, _, h => absurd h (by simp [RT])
  | d + 1, e + 1, t, t', p, p1, p2, h, h' => by
    rcases h with ⟨a1, a2, a3, a4, a5⟩ | ⟨x1, x2, x3, x4, x5, q, a1, a2, a3, a4, a5, a6, a7, a8, a9⟩ <;> rcases h' with ⟨b1, b2, b3, b4, b5⟩ | ⟨y1, y2, y3, y4, y5, q', b1, b2, b3, b4, b5, b6, b7, b8, b9⟩
    · have e1 : p1 = p2 := by rw [a5.2.2.1, b5.2.2.1]
      exact ⟨Tm.ext (by rw [a1, b1]) (by rw [a5.2.2.2.2, b5.2.2.2.2, e1]) (by rw [a2, b2]) (by rw [a3, b3]) (by rw [a4, b4]), e1⟩
    · exact (sign_no_idx b1 a5).elim
    · exact (sign_no_idx a1 b5).elim
    · obtain rfl := a1.same b1
      obtain ⟨rfl, rfl⟩ := a2.same b2
      have hk := a3.same b3 rfl
      rw [← hk] at b5 b6 b8
      obtain ⟨hn, rfl⟩ := a5.same b5
      obtain ⟨hl, rfl⟩ := a6.same b6
      obtain ⟨ht, rfl⟩ := (Seq.same (R := RT s d) (R' := RT s e) (fun _ _ _ _ _ h h' => RT.unique h h') a7 b7).1 (by rw [a8, b8])
      exact ⟨Tm.ext hk (by rw [a4, b4]) hn hl ht, a9.same b9⟩

theorem FT.no {s : ByteArray} : ∀ {d e : Nat} {t : Tm} {p a p1 : Nat}, FT s d p a → RT s e t p p1 → False
  | 0, _, _, _, _, _, h, _ => absurd h (by simp [FT])
  | _ + 1, 0, _, _, _, _, _, h => absurd h (by simp [RT])
  | d + 1, e + 1, t, p, a, p1, h, h' => by
    rcases h with ⟨h, _⟩ | ⟨x1, h1, h⟩
    · exact h'.first h
    rcases h' with ⟨_, _, _, _, b5⟩ | ⟨y1, y2, y3, y4, y5, q', b1, b2, b3, b4, b5, b6, b7, b8, b9⟩
    · exact sign_no_idx h1 b5
    obtain rfl := h1.same b1
    rcases h with ⟨h, _⟩ | ⟨q, kd, x2, h2, h3, h⟩
    · exact h _ _ b3 (word_tok b2).1
    obtain ⟨rfl, rfl⟩ := h2.same b2
    have hk := h3.same b3 rfl
    subst hk
    rcases h with ⟨hk2, hn, _⟩ | ⟨nm, x3, h4, h⟩
    · rcases b5 with ⟨_, b5⟩ | ⟨b5, _⟩
      · have := word_tok b5
        rw [this.1, this.2] at hn
        cases hn
      · exact b5 hk2
    obtain ⟨_, rfl⟩ := h4.same b5
    rcases h with ⟨ls, x4, h5, hf⟩ | ⟨ls, x4, h5, ts, x5, h6, h⟩
    · exact b6.no h5 hf
    obtain ⟨_, rfl⟩ := h5.same b6
    have hq := Seq.same (R := RT s d) (R' := RT s e) (fun _ _ _ _ _ h h' => RT.unique h h') h6 b7
    rcases h with ⟨hl, hf⟩ | ⟨hl, hc, _⟩
    · obtain ⟨t', x, hx⟩ := hq.2.1 (by rw [b8]; exact hl)
      exact FT.no hf hx
    · obtain ⟨_, rfl⟩ := hq.1 (by rw [b8]; exact hl)
      exact hc (shut_tok b9)

theorem FT.unique {s : ByteArray} : ∀ {d e : Nat} {p a a' : Nat}, FT s d p a → FT s e p a' → a = a'
  | 0, _, _, _, _, h, _ => absurd h (by simp [FT])
  | _ + 1, 0, _, _, _, _, h => absurd h (by simp [FT])
  | d + 1, e + 1, p, a, a', h, h' => by
    rcases h with ⟨h, ha⟩ | ⟨x1, h1, h⟩ <;> rcases h' with ⟨h', ha'⟩ | ⟨y1, b1, h'⟩
    · rw [ha, ha']
    · exact absurd (sign_tok b1) h.1
    · exact absurd (sign_tok h1) h'.1
    obtain rfl := h1.same b1
    rcases h with ⟨h, ha⟩ | ⟨q, kd, x2, h2, h3, h⟩ <;> rcases h' with ⟨h', ha'⟩ | ⟨q', kd', y2, b2, b3, h'⟩
    · rw [ha, ha']
    · exact absurd (word_tok b2).1 (h _ _ b3)
    · exact absurd (word_tok h2).1 (h' _ _ h3)
    obtain ⟨rfl, rfl⟩ := h2.same b2
    obtain rfl := h3.same b3 rfl
    have hnm : ∀ {nm : ByteArray} {x : Nat}, kd = 2 → isNameB (tok s x2).t = false → NamePart s kd nm x2 x → False := fun hk hn hp => by
      rcases hp with ⟨_, hp⟩ | ⟨hp, _⟩
      · have := word_tok hp
        rw [this.1, this.2] at hn
        cases hn
      · exact hp hk
    rcases h with ⟨hk2, hn, ha⟩ | ⟨nm, x3, h4, h⟩ <;> rcases h' with ⟨hk2', hn', ha'⟩ | ⟨nm', y3, b4, h'⟩
    · rw [ha, ha']
    · exact (hnm hk2 hn b4).elim
    · exact (hnm hk2' hn' h4).elim
    obtain ⟨_, rfl⟩ := h4.same b4
    rcases h with ⟨ls, x4, h5, hf⟩ | ⟨ls, x4, h5, ts, x5, h6, h⟩ <;> rcases h' with ⟨ls', y4, b5, hf'⟩ | ⟨ls', y4, b5, ts', y5, b6, h'⟩
    · exact h5.same hf b5 hf'
    · exact (b5.no h5 hf).elim
    · exact (h5.no b5 hf').elim
    obtain ⟨_, rfl⟩ := h5.same b5
    have hq := Seq.same (R := RT s d) (R' := RT s e) (fun _ _ _ _ _ h h' => RT.unique h h') h6 b6
    rcases h with ⟨hl, hf⟩ | ⟨hl, hc, ha⟩ <;> rcases h' with ⟨hl', hf'⟩ | ⟨hl', hc', ha'⟩
    · rcases Nat.lt_trichotomy ts.length ts'.length with hlt | heq | hgt
      · obtain ⟨t', x, hx⟩ := hq.2.1 hlt; exact (FT.no hf hx).elim
      · obtain ⟨_, rfl⟩ := hq.1 heq; exact FT.unique hf hf'
      · obtain ⟨t', x, hx⟩ := hq.2.2 hgt; exact (FT.no hf' hx).elim
    · obtain ⟨t', x, hx⟩ := hq.2.1 (by omega); exact (FT.no hf hx).elim
    · obtain ⟨t', x, hx⟩ := hq.2.2 (by omega); exact (FT.no hf' hx).elim
    · obtain ⟨_, rfl⟩ := hq.1 (by omega); rw [ha, ha']

/-- The whole text is a term; it is none: where the first fault stands. -/
def TRight (s : ByteArray) (t : Tm) : Prop := ∃ d p', RT s d t 0 p' ∧ runTo blankB s p' = s.size
def TWrong (s : ByteArray) (a : Nat) : Prop := (∃ d, FT s d 0 a) ∨ ∃ d t p', RT s d t 0 p' ∧ runTo blankB s p' ≠ s.size ∧ a = runTo blankB s p'
theorem TRight.unique {s : ByteArray} {t t' : Tm} (h : TRight s t) (h' : TRight s t') : t = t' := by
  obtain ⟨d, p, h, _⟩ := h
  obtain ⟨e, p', h', _⟩ := h'
  exact (h.unique h').1
theorem TRight.no {s : ByteArray} {t : Tm} {a : Nat} (h : TRight s t) : ¬ TWrong s a := by
  obtain ⟨d, p, h, he⟩ := h
  rintro (⟨e, hf⟩ | ⟨e, t', p', h', hne, _⟩)
  · exact hf.no h
  · obtain ⟨_, rfl⟩ := h.unique h'; exact hne he
theorem TWrong.unique {s : ByteArray} {a a' : Nat} (h : TWrong s a) (h' : TWrong s a') : a = a' := by
  rcases h with ⟨d, hf⟩ | ⟨d, t, p, h, hne, e⟩ <;> rcases h' with ⟨d', hf'⟩ | ⟨d', t', p', h', hne', e'⟩
  · exact hf.unique hf'
  · exact (hf.no h').elim
  · exact (hf'.no h).elim
  · obtain ⟨_, rfl⟩ := h.unique h'; rw [e, e']

end Go.Proofs.YtahcgpnjlmpkpaaGreatDoor
