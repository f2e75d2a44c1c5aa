/- Where a text is no declaration: the place of the fault, told in one way. Plain Lean, no walk. -/
import Derived.Test.YtjlibnijecdgcaaGreatDoorDet
import Derived.Test.YtjlibnijecdgcaaGreatDoorKin
import Derived.Test.YtjlibnijecdgcaaGreatDoorTNum
import Derived.Test.YtjlibnijecdgcaaGreatDoorTParseDoc

namespace Go.Proofs.YtjlibnijecdgcaaGreatDoor
open Go.RowKit

section
variable {α : Type} {A : α → Nat → Nat → Prop} {bA : Nat → Nat → Prop} {bB : α → Nat → Nat → Prop}
/-- What a place reads as, and where it fails: told in one way. -/
structure Det3 (A : α → Nat → Nat → Prop) (bA : Nat → Nat → Prop) : Prop where
  uni : ∀ {x y p p1 p2}, A x p p1 → A y p p2 → x = y ∧ p1 = p2
  no : ∀ {x p p1 a}, A x p p1 → bA p a → False
  one : ∀ {p a b}, bA p a → bA p b → a = b
/-- It fails, or what follows fails. -/
def Then (A : α → Nat → Nat → Prop) (bA : Nat → Nat → Prop) (bB : α → Nat → Nat → Prop) (p a : Nat) : Prop := bA p a ∨ ∃ x p1, A x p p1 ∧ bB x p1 a
theorem Then.no (d : Det3 A bA) {x : α} {p p1 a : Nat} (hA : A x p p1) (h : bB x p1 a → False) : Then A bA bB p a → False := by
  rintro (h1 | ⟨y, p2, h1, h2⟩)
  · exact d.no hA h1
  · obtain ⟨rfl, rfl⟩ := d.uni hA h1
    exact h h2
theorem Then.one (d : Det3 A bA) {p a b : Nat} (hB : ∀ x p1, A x p p1 → bB x p1 a → bB x p1 b → a = b) : Then A bA bB p a → Then A bA bB p b → a = b := by
  rintro (h1 | ⟨y, p2, h1, h2⟩) (h3 | ⟨z, p3, h3, h4⟩)
  · exact d.one h1 h3
  · exact (d.no h3 h1).elim
  · exact (d.no h1 h3).elim
  · obtain ⟨rfl, rfl⟩ := d.uni h1 h3
    exact hB _ _ h1 h2 h4
end

variable {s : ByteArray}
/-- Nothing of that kind stands there; the fault lies where the next token begins. -/
def bSign (s : ByteArray) (c p a : Nat) : Prop := (∀ p', ¬ SignAt s c p p') ∧ a = runTo blankB s p
def bWord (s : ByteArray) (p a : Nat) : Prop := (∀ q p', ¬ WordAt s q p p') ∧ a = runTo blankB s p
def bNum (s : ByteArray) (p a : Nat) : Prop := (∀ n p', ¬ NumAt s n p p') ∧ a = runTo blankB s p
def DwAt (s : ByteArray) (kd p p' : Nat) : Prop := (1 ≤ kd ∧ kd ≤ 3) ∧ WordAt s (dword kd) p p'
def bDw (s : ByteArray) (p a : Nat) : Prop := (∀ kd p', 1 ≤ kd ∧ kd ≤ 3 → ¬ WordAt s (dword kd) p p') ∧ a = runTo blankB s p
def bCw (s : ByteArray) (p a : Nat) : Prop := (∀ p', ¬ WordAt s cword p p') ∧ a = runTo blankB s p
abbrev SignAtU (s : ByteArray) (c : Nat) (_ : Unit) (p p' : Nat) : Prop := SignAt s c p p'
abbrev CwAtU (s : ByteArray) (_ : Unit) (p p' : Nat) : Prop := WordAt s cword p p'
theorem dSign (s : ByteArray) (c : Nat) : Det3 (SignAtU s c) (bSign s c) := ⟨fun h h' => ⟨rfl, h.same h'⟩, fun h h' => h'.1 _ h, fun h h' => h.2.trans h'.2.symm⟩
theorem dWord (s : ByteArray) : Det3 (WordAt s) (bWord s) := ⟨fun h h' => h.same h', fun h h' => h'.1 _ _ h, fun h h' => h.2.trans h'.2.symm⟩
theorem dNum (s : ByteArray) : Det3 (NumAt s) (bNum s) := ⟨fun h h' => h.same h', fun h h' => h'.1 _ _ h, fun h h' => h.2.trans h'.2.symm⟩
theorem dDw (s : ByteArray) : Det3 (DwAt s) (bDw s) := ⟨fun h h' => by obtain ⟨e, e'⟩ := h.2.same h'.2; exact ⟨dword_inj h.1 h'.1 e, e'⟩, fun h h' => h'.1 _ _ h.1 h.2, fun h h' => h.2.trans h'.2.symm⟩
theorem dCw (s : ByteArray) : Det3 (CwAtU s) (bCw s) := ⟨fun h h' => ⟨rfl, (h.same h').2⟩, fun h h' => h'.1 _ h, fun h h' => h.2.trans h'.2.symm⟩
theorem dTerm (s : ByteArray) (D : Nat) : Det3 (RT s D) (FT s D) := ⟨fun h h' => h.unique h', fun h h' => h'.no h, fun h h' => h.unique h'⟩

/-- Names that are not shut. -/
def bNames (s : ByteArray) (p a : Nat) : Prop := ∃ ns pk, SeqG (WordAt s) ns p pk ∧ (∀ q, ¬ SignAt s 41 pk q) ∧ bWord s pk a
/-- Names, then the sign. -/
def NamesShut (s : ByteArray) (ns : List ByteArray) (p p' : Nat) : Prop := ∃ pk, SeqG (WordAt s) ns p pk ∧ SignAt s 41 pk p'
theorem dNames (s : ByteArray) : Det3 (NamesShut s) (bNames s) := by
  refine ⟨?_, ?_, ?_⟩
  · rintro x y p p1 p2 ⟨k, h1, h2⟩ ⟨l, h3, h4⟩
    obtain ⟨rfl, rfl⟩ := SeqG.same word_det h1 h3 (fun _ _ h => shut_no_word h2 h) (fun _ _ h => shut_no_word h4 h)
    exact ⟨rfl, h2.same h4⟩
  · rintro x p p1 a ⟨k, h1, h2⟩ ⟨ns, l, h3, h4, h5⟩
    obtain ⟨rfl, rfl⟩ := SeqG.same word_det h1 h3 (fun _ _ h => shut_no_word h2 h) (fun _ _ h => h5.1 _ _ h)
    exact h4 _ h2
  · rintro p a b ⟨ns, k, h1, h2, h3⟩ ⟨ms, l, h4, h5, h6⟩
    obtain ⟨rfl, rfl⟩ := SeqG.same word_det h1 h4 (fun _ _ h => h3.1 _ _ h) (fun _ _ h => h6.1 _ _ h)
    exact h3.2.trans h6.2.symm
def bParams (s : ByteArray) : Nat → Nat → Prop := Then (SignAtU s 40) (bSign s 40) fun _ => bNames s
theorem dParams (s : ByteArray) : Det3 (ParamsAt s) (bParams s) := by
  refine ⟨fun h h' => h.same h', ?_, ?_⟩
  · rintro x p p1 a ⟨k, l, h1, h2, h3⟩ h
    exact Then.no (dSign s 40) (x := ()) h1 (fun h => (dNames s).no ⟨l, namesAt_iff.1 h2, h3⟩ h) h
  · exact fun h h' => Then.one (dSign s 40) (fun _ _ _ h h' => (dNames s).one h h') h h'

variable (D : Nat)
/-- Where a constructor fails. -/
def bCtor (s : ByteArray) (D : Nat) : Nat → Nat → Prop := Then (SignAtU s 40) (bSign s 40) fun _ => Then (CwAtU s) (bCw s) fun _ => Then (WordAt s) (bWord s) fun _ => Then (RT s D) (FT s D) fun _ => bSign s 41
theorem dCtor (s : ByteArray) (D : Nat) : Det3 (CtorAt s D) (bCtor s D) := by
  refine ⟨fun h h' => ctor_det _ _ _ _ _ h h', ?_, ?_⟩
  · rintro x p p1 a ⟨k1, k2, k3, k4, h1, h2, h3, h4, h5⟩ h
    exact Then.no (dSign s 40) (x := ()) h1 (Then.no (dCw s) (x := ()) h2 (Then.no (dWord s) h3 (Then.no (dTerm s D) h4 fun h => h.1 _ h5))) h
  · exact fun h h' => Then.one (dSign s 40) (fun _ _ _ => Then.one (dCw s) fun _ _ _ => Then.one (dWord s) fun _ _ _ => Then.one (dTerm s D) fun _ _ _ h h' => (dSign s 41).one h h') h h'
/-- Constructors up to a sign; where they fail. -/
def CtsShut (s : ByteArray) (D : Nat) (cs : List (ByteArray × Tm)) (p p' : Nat) : Prop := CtorsAt s D cs p p' ∧ ∃ q, SignAt s 41 p' q
def bCts (s : ByteArray) (D p a : Nat) : Prop := ∃ cs pk, SeqG (CtorAt s D) cs p pk ∧ (∀ q, ¬ SignAt s 41 pk q) ∧ bCtor s D pk a
theorem shut_no_ctor {p q p' : Nat} {c : ByteArray × Tm} (h : SignAt s 41 p q) (h' : CtorAt s D c p p') : False := by obtain ⟨_, _, _, _, h1, _⟩ := h'; exact shut_no_sign h h1
theorem dCts (s : ByteArray) (D : Nat) : Det3 (CtsShut s D) (bCts s D) := by
  refine ⟨?_, ?_, ?_⟩
  · rintro x y p p1 p2 ⟨h1, q, h2⟩ ⟨h3, r, h4⟩
    exact SeqG.same ctor_det (ctorsAt_iff.1 h1) (ctorsAt_iff.1 h3) (fun _ _ h => shut_no_ctor D h2 h) (fun _ _ h => shut_no_ctor D h4 h)
  · rintro x p p1 a ⟨h1, q, h2⟩ ⟨cs, k, h3, h4, h5⟩
    obtain ⟨rfl, rfl⟩ := SeqG.same ctor_det (ctorsAt_iff.1 h1) h3 (fun _ _ h => shut_no_ctor D h2 h) (fun _ _ h => (dCtor s D).no h h5)
    exact h4 _ h2
  · rintro p a b ⟨cs, k, h1, h2, h3⟩ ⟨ds, l, h4, h5, h6⟩
    obtain ⟨rfl, rfl⟩ := SeqG.same ctor_det h1 h4 (fun _ _ h => (dCtor s D).no h h3) (fun _ _ h => (dCtor s D).no h h6)
    exact (dCtor s D).one h3 h6
/-- What stands there if a declaration is of that kind, else nothing. -/
def OnlyIf {α : Type} (c : Prop) (z : α) (A : α → Nat → Nat → Prop) (x : α) (p p' : Nat) : Prop := (c ∧ A x p p') ∨ (¬ c ∧ x = z ∧ p' = p)
def bOnlyIf (c : Prop) (bA : Nat → Nat → Prop) (p a : Nat) : Prop := c ∧ bA p a
theorem dOnlyIf {α : Type} (c : Prop) (z : α) {A : α → Nat → Nat → Prop} {bA : Nat → Nat → Prop} (d : Det3 A bA) : Det3 (OnlyIf c z A) (bOnlyIf c bA) := by
  refine ⟨?_, ?_, ?_⟩
  · rintro x y p p1 p2 (⟨h, h1⟩ | ⟨h, h1, h2⟩) (⟨h', h3⟩ | ⟨h', h3, h4⟩)
    · exact d.uni h1 h3
    · exact absurd h h'
    · exact absurd h' h
    · exact ⟨h1.trans h3.symm, h2.trans h4.symm⟩
  · rintro x p p1 a (⟨h, h1⟩ | ⟨h, h1, h2⟩) ⟨h', h3⟩
    · exact d.no h1 h3
    · exact h h'
  · exact fun h h' => d.one h.2 h'.2
/-- Where a declaration fails. -/
def bDecl (s : ByteArray) (D : Nat) : Nat → Nat → Prop :=
  Then (SignAtU s 40) (bSign s 40) fun _ => Then (DwAt s) (bDw s) fun kd => Then (WordAt s) (bWord s) fun _ => Then (ParamsAt s) (bParams s) fun _ => Then (OnlyIf (kd = 3) 0 (NumAt s)) (bOnlyIf (kd = 3) (bNum s)) fun _ =>
    Then (RT s D) (FT s D) fun _ => Then (OnlyIf (kd = 2) zeroT (RT s D)) (bOnlyIf (kd = 2) (FT s D)) fun _ => Then (OnlyIf (kd = 3) [] (CtsShut s D)) (bOnlyIf (kd = 3) (bCts s D)) fun _ => bSign s 41
theorem dDecl (s : ByteArray) (D : Nat) : Det3 (DeclAt s D) (bDecl s D) := by
  refine ⟨fun h h' => decl_det _ _ _ _ _ h h', ?_, ?_⟩
  · rintro x p p1 a ⟨k1, k2, k3, k4, k5, k6, k7, k8, h1, hk, h2, h3, h4, h5, h6, h7, h8, h9⟩ h
    exact Then.no (dSign s 40) (x := ()) h1 (Then.no (dDw s) ⟨hk, h2⟩ (Then.no (dWord s) h3 (Then.no (dParams s) h4 (Then.no (dOnlyIf _ _ (dNum s)) (x := x.ar) h5 (Then.no (dTerm s D) h6 (Then.no (dOnlyIf _ _ (dTerm s D)) (x := x.vl) h7 (Then.no (dOnlyIf _ _ (dCts s D)) (x := x.cs) (h8.imp (fun h => ⟨h.1, h.2, _, h9⟩) id) fun h => h.1 _ h9))))))) h
  · exact fun h h' => Then.one (dSign s 40) (fun _ _ _ => Then.one (dDw s) fun _ _ _ => Then.one (dWord s) fun _ _ _ => Then.one (dParams s) fun _ _ _ => Then.one (dOnlyIf _ _ (dNum s)) fun _ _ _ => Then.one (dTerm s D) fun _ _ _ => Then.one (dOnlyIf _ _ (dTerm s D)) fun _ _ _ => Then.one (dOnlyIf _ _ (dCts s D)) fun _ _ _ h h' => (dSign s 41).one h h') h h'
/-- Where a file fails. -/
def bDecls (s : ByteArray) (D p a : Nat) : Prop := ∃ ds pk, SeqG (DeclAt s D) ds p pk ∧ runTo blankB s pk ≠ s.size ∧ bDecl s D pk a
/-- Declarations up to the end. -/
def DeclsEnd (s : ByteArray) (D : Nat) (ds : List Dc) (p p' : Nat) : Prop := DeclsAt s D ds p p' ∧ runTo blankB s p' = s.size
theorem end_no_decl' {p p1 : Nat} {d : Dc} (h : runTo blankB s p = s.size) (hd : DeclAt s D d p p1) : False := by
  obtain ⟨_, _, _, _, _, _, _, _, h1, _⟩ := hd
  have := h1.1
  omega
theorem dDecls (s : ByteArray) (D : Nat) : Det3 (DeclsEnd s D) (bDecls s D) := by
  refine ⟨?_, ?_, ?_⟩
  · rintro x y p p1 p2 ⟨h1, h2⟩ ⟨h3, h4⟩
    exact SeqG.same decl_det (declsAt_iff.1 h1) (declsAt_iff.1 h3) (fun _ _ h => end_no_decl' D h2 h) (fun _ _ h => end_no_decl' D h4 h)
  · rintro x p p1 a ⟨h1, h2⟩ ⟨cs, k, h3, h4, h5⟩
    obtain ⟨rfl, rfl⟩ := SeqG.same decl_det (declsAt_iff.1 h1) h3 (fun _ _ h => end_no_decl' D h2 h) (fun _ _ h => (dDecl s D).no h h5)
    exact h4 h2
  · rintro p a b ⟨cs, k, h1, h2, h3⟩ ⟨ds, l, h4, h5, h6⟩
    obtain ⟨rfl, rfl⟩ := SeqG.same decl_det h1 h4 (fun _ _ h => (dDecl s D).no h h3) (fun _ _ h => (dDecl s D).no h h6)
    exact (dDecl s D).one h3 h6

end Go.Proofs.YtjlibnijecdgcaaGreatDoor

/- The document's tokens and what stands at a place; how a reader goes on. Plain Lean, no walk. -/
namespace Go.Proofs.YtjlibnijecdgcaaGreatDoor
open Go.RowKit

/-- How a reader goes on: it had failed, it reads, it fails. -/
def Goes {α : Type} (A : α → Nat → Nat → Prop) (bA : Nat → Nat → Prop) (x : α) (p code a p' c' a' : Nat) : Prop :=
  (code ≠ 0 ∧ c' = code ∧ a' = a) ∨ (code = 0 ∧ c' = 0 ∧ A x p p') ∨ (code = 0 ∧ c' = 1 ∧ bA p a')
theorem Goes.imp {α : Type} {A B : α → Nat → Nat → Prop} {bA bB : Nat → Nat → Prop} {x : α} {p code a p' c' a' : Nat} (h : Goes A bA x p code a p' c' a') (h1 : A x p p' → B x p p') (h2 : bA p a' → bB p a') : Goes B bB x p code a p' c' a' := by
  rcases h with h | ⟨h, h', h''⟩ | ⟨h, h', h''⟩
  · exact .inl h
  · exact .inr (.inl ⟨h, h', h1 h''⟩)
  · exact .inr (.inr ⟨h, h', h2 h''⟩)
/-- The next token is that word. -/
def tokIs (s q : ByteArray) (_ : Unit) (p p' : Nat) : Prop := (tok s p).t = q ∧ p' = (tok s p).at_ + (tok s p).t.size
def tokNot (s q : ByteArray) (p a : Nat) : Prop := (tok s p).t ≠ q ∧ a = (tok s p).at_

theorem dec_three {d : ByteArray} (hd : Digs d) (h0 : ¬ at_ d 0 = 48) (h3 : 3 ≤ d.size) : 100 ≤ decV d := by
  unfold decV
  have hlen : d.data.toList.length = d.size := by rw [Array.length_toList]; rfl
  have hat := at_data d 0 (by omega)
  cases hl : d.data.toList with
  | nil => rw [hl] at hlen; simp at hlen; omega
  | cons c l =>
    have hc := hd c (by rw [hl]; simp)
    have e0 : at_ d 0 = c.toNat := by rw [hat]; simp [hl]
    rw [hl] at hlen
    simp at hlen
    have hge := decF_ge l (0 * 10 + (c.toNat - 48))
    have hpow : 10 ^ 2 ≤ 10 ^ l.length := Nat.pow_le_pow_right (by decide) (by omega)
    show 100 ≤ decF (0 * 10 + (c.toNat - 48)) l
    have h1 : 1 ≤ 0 * 10 + (c.toNat - 48) := by omega
    calc 100 = 1 * 10 ^ 2 := by decide
      _ ≤ (0 * 10 + (c.toNat - 48)) * 10 ^ l.length := Nat.mul_le_mul h1 hpow
      _ ≤ _ := hge
theorem num99 {d : ByteArray} {v : Int} : numOf d 99 = some v ↔ numOf d 99999 = some v ∧ v ≤ 99 := by
  unfold numOf
  by_cases h0 : 1 < d.size ∧ at_ d 0 = 48
  · rw [if_pos h0, if_pos h0]; simp
  · rw [if_neg h0, if_neg h0]
    cases hx : Lib.atoiAll d.data.toList with
    | ok u =>
      simp only []
      constructor
      · intro h
        split at h
        · cases h
        · injection h with h
          subst h
          exact ⟨by rw [if_neg (by omega)], by omega⟩
      · rintro ⟨h, h'⟩
        split at h
        · cases h
        · injection h with h
          subst h
          rw [if_neg (by omega)]
    | _ => simp
section
variable {s : ByteArray} {p p' code a c' a' : Nat} (hp : p ≤ s.size)
include hp
theorem goes_open (h : Goes (tokIs s ⟨#[40]⟩) (tokNot s ⟨#[40]⟩) () p code a p' c' a') : Goes (SignAtU s 40) (bSign s 40) () p code a p' c' a' :=
  h.imp (fun h => by rw [h.2, h.1]; exact tok_open hp h.1) (fun h => ⟨fun _ h' => h.1 (sign_tok h'), by rw [h.2]; exact tok_place s p hp⟩)
theorem goes_shut (h : Goes (tokIs s ⟨#[41]⟩) (tokNot s ⟨#[41]⟩) () p code a p' c' a') : Goes (SignAtU s 41) (bSign s 41) () p code a p' c' a' :=
  h.imp (fun h => by rw [h.2, h.1]; exact tok_shut hp h.1) (fun h => ⟨fun _ h' => h.1 (shut_tok h'), by rw [h.2]; exact tok_place s p hp⟩)
theorem goes_cword (h : Goes (tokIs s cword) (tokNot s cword) () p code a p' c' a') : Goes (CwAtU s) (bCw s) () p code a p' c' a' :=
  h.imp (fun h => by
    have := tok_word hp (by rw [h.1]; decide)
    rw [h.2]
    rw [h.1] at this ⊢
    exact this) (fun h => ⟨fun _ h' => h.1 (word_tok h').1, by rw [h.2]; exact tok_place s p hp⟩)
/-- The word of a declaration, or none. -/
theorem word_kind : (∃ kd, (1 ≤ kd ∧ kd ≤ 3) ∧ (tok s p).t = dword kd ∧ DwAt s kd p ((tok s p).at_ + (tok s p).t.size)) ∨ ((∀ kd, 1 ≤ kd ∧ kd ≤ 3 → (tok s p).t ≠ dword kd) ∧ bDw s p (tok s p).at_) := by
  by_cases h : ∃ kd, (1 ≤ kd ∧ kd ≤ 3) ∧ (tok s p).t = dword kd
  · obtain ⟨kd, hk, e⟩ := h
    have hn : isNameB (tok s p).t = true := by
      rw [e]
      have : kd = 1 ∨ kd = 2 ∨ kd = 3 := by omega
      rcases this with rfl | rfl | rfl <;> decide
    have hw := tok_word hp hn
    refine .inl ⟨kd, hk, e, hk, ?_⟩
    rw [e] at hw ⊢
    exact hw
  · have h1 : ∀ kd, 1 ≤ kd ∧ kd ≤ 3 → (tok s p).t ≠ dword kd := fun kd hk e => h ⟨kd, hk, e⟩
    exact .inr ⟨h1, fun kd p' hk hw => h1 kd hk (word_tok hw).1, tok_place s p hp⟩
/-- A number of at most two digits, or none. -/
theorem num_tok : ((tok s p).t ≠ ⟨#[]⟩ ∧ digitB (at_ (tok s p).t 0) = true ∧ (tok s p).t.size ≤ 2 ∧ Digs (tok s p).t ∧ NumAt s (decV (tok s p).t) p ((tok s p).at_ + (tok s p).t.size)) ∨ (¬ ((tok s p).t ≠ ⟨#[]⟩ ∧ digitB (at_ (tok s p).t 0) = true ∧ (tok s p).t.size ≤ 2) ∧ bNum s p (tok s p).at_) := by
  have hat := tok_place s p hp
  by_cases hk : runTo blankB s p = s.size
  · have ht : (tok s p).t = ⟨#[]⟩ := ((tok_end hp).2 hk).2
    exact .inr ⟨fun h => h.1 ht, fun n p' h => by have := h.1; omega, hat⟩
  have hkl : runTo blankB s p < s.size := by have := runTo_le blankB s hp; omega
  have hto := tok_at hkl
  have no : digitB (at_ s (runTo blankB s p)) = false → bNum s p (tok s p).at_ := fun hd => ⟨fun n p' h => (by rw [h.2.1] at hd; cases hd), hat⟩
  have nofirst : digitB (at_ s (runTo blankB s p)) = false → ¬ ((tok s p).t ≠ ⟨#[]⟩ ∧ digitB (at_ (tok s p).t 0) = true ∧ (tok s p).t.size ≤ 2) := fun hd h => by
    have h1 := h.1
    have h2 := h.2.1
    rw [hto] at h1 h2
    rw [tokAt_first hkl h1, hd] at h2
    cases h2
  by_cases hd : digitB (at_ s (runTo blankB s p)) = true
  rotate_left
  · rw [Bool.not_eq_true] at hd
    exact .inr ⟨nofirst hd, no hd⟩
  have hle := digitEnd_le hkl
  have hge := digitEnd_ge s (runTo blankB s p)
  have hsz : (s.extract (runTo blankB s p) (digitEnd s (runTo blankB s p))).size = digitEnd s (runTo blankB s p) - runTo blankB s p := by rw [ByteArray.size_extract]; omega
  have hdg : Digs (s.extract (runTo blankB s p) (digitEnd s (runTo blankB s p))) := run_digs (s := s) (a := runTo blankB s p) (q := digitEnd s (runTo blankB s p)) (by omega) (runTo_step hkl hd)
  have hnum := numOf_digits hdg
  have h0 : at_ (s.extract (runTo blankB s p) (digitEnd s (runTo blankB s p))) 0 = at_ s (runTo blankB s p) := by
    have := at_extract (s := s) (a := runTo blankB s p) (b := digitEnd s (runTo blankB s p)) (i := 0) hle (by omega)
    simpa using this
  have hnd : digitB (at_ s (runTo blankB s p)) = true → at_ s (runTo blankB s p) ≠ 40 ∧ at_ s (runTo blankB s p) ≠ 41 ∧ at_ s (runTo blankB s p) ≠ 35 ∧ nameB (at_ s (runTo blankB s p)) true = false := by
    generalize at_ s (runTo blankB s p) = c
    intro h
    simp [digitB] at h
    refine ⟨by omega, by omega, by omega, ?_⟩
    simp [nameB, letterB]
    omega
  obtain ⟨n1, n2, n3, n4⟩ := hnd hd
  have hto2 := tokAt_digit (s := s) (k := runTo blankB s p) (by omega) n4 n3 hd
  rw [← hto] at hto2
  change tok s p = if digitEnd s (runTo blankB s p) = runTo blankB s p ∨ 5 < digitEnd s (runTo blankB s p) - runTo blankB s p ∨ (1 < digitEnd s (runTo blankB s p) - runTo blankB s p ∧ at_ s (runTo blankB s p) = 48) then ⟨⟨#[]⟩, runTo blankB s p, false⟩ else ⟨s.extract (runTo blankB s p) (digitEnd s (runTo blankB s p)), runTo blankB s p, true⟩ at hto2
  rw [hsz, h0] at hnum
  by_cases hb : digitEnd s (runTo blankB s p) = runTo blankB s p ∨ 5 < digitEnd s (runTo blankB s p) - runTo blankB s p ∨ (1 < digitEnd s (runTo blankB s p) - runTo blankB s p ∧ at_ s (runTo blankB s p) = 48)
  · rw [if_pos hb] at hto2
    rw [if_pos (hb.imp (fun h => by omega) id)] at hnum
    refine .inr ⟨fun h => h.1 (by rw [hto2]), fun n p' h => ?_, hat⟩
    have h3 := h.2.2.2
    rw [h.2.2.1] at h3
    have := (num99.1 h3).1
    rw [hnum] at this
    cases this
  · rw [if_neg hb] at hto2
    rw [if_neg (fun h => hb (h.imp (fun h => by omega) id))] at hnum
    have ht : (tok s p).t = s.extract (runTo blankB s p) (digitEnd s (runTo blankB s p)) := by rw [hto2]
    rw [hat, ht, hsz, h0, show runTo blankB s p + (digitEnd s (runTo blankB s p) - runTo blankB s p) = digitEnd s (runTo blankB s p) by omega]
    have hne : s.extract (runTo blankB s p) (digitEnd s (runTo blankB s p)) ≠ ⟨#[]⟩ := fun e => by
      have := congrArg ByteArray.size e
      rw [hsz] at this
      have h9 : (⟨#[]⟩ : ByteArray).size = 0 := rfl
      omega
    by_cases h2 : digitEnd s (runTo blankB s p) - runTo blankB s p ≤ 2
    · refine .inl ⟨hne, hd, h2, hdg, hkl, hd, rfl, ?_⟩
      refine num99.2 ⟨hnum, ?_⟩
      have hlt := decF_lt (s.extract (runTo blankB s p) (digitEnd s (runTo blankB s p))).data.toList 0 hdg
      have hlen : (s.extract (runTo blankB s p) (digitEnd s (runTo blankB s p))).data.toList.length = digitEnd s (runTo blankB s p) - runTo blankB s p := by rw [Array.length_toList]; exact hsz
      rw [hlen] at hlt
      have hpow : 10 ^ (digitEnd s (runTo blankB s p) - runTo blankB s p) ≤ 10 ^ 2 := Nat.pow_le_pow_right (by decide) h2
      have : decV (s.extract (runTo blankB s p) (digitEnd s (runTo blankB s p))) < 100 := by unfold decV; omega
      omega
    · refine .inr ⟨fun h => h2 h.2.2, fun n p' h => ?_, rfl⟩
      have h3 := h.2.2.2
      rw [h.2.2.1] at h3
      obtain ⟨h4, h5⟩ := num99.1 h3
      rw [hnum] at h4
      injection h4 with h4
      have h6 := dec_three hdg (by rw [h0]; intro e; exact hb (.inr (.inr ⟨by omega, e⟩))) (by rw [hsz]; omega)
      omega
end

end Go.Proofs.YtjlibnijecdgcaaGreatDoor

/- The document's reader at whatever state: take of any word, next, name, peek. -/
namespace Go.Proofs.YtjlibnijecdgcaaGreatDoor
open Go.RowKit

section
variable (rb : Nat) (s : ByteArray) (p code a : Nat) (w : World) (hs : s.size ≤ 200000) (hp : p ≤ s.size) (h : RdAt w rb s p code a)
include hs hp h

set_option maxHeartbeats 2000000 in
theorem takes_calls (q : ByteArray) (hq : q ≠ ⟨#[]⟩) : Calls Tryz.prog 55 #[.pointer (some ⟨rb, 0, none⟩), .string q] w fun e w' => ∃ p' c' a' : Nat, e = .returned (.tuple #[]) ∧ RdAt w' rb s p' c' a' ∧ Touched w rb w' ∧ p' ≤ s.size ∧ p ≤ p' ∧
      Goes (tokIs s q) (tokNot s q) () p code a p' c' a' := by
  have HT := hide (token_calls s p rb w hs hp h.c0 h.c1)
  obtain ⟨k1, k2, k3, k4⟩ := tok_facts hp
  have c1 := h.c1
  have c2 := h.c2
  have f1 := h.f 1
  have H := hide h
  have HP := hide hp
  by_cases hc : code = 0
  · subst hc
    have HF := hide (fun b => fail_zero rb s p a b w h)
    by_cases ht : (tok s p).t = q
    · have hok : (tok s p).ok = true := by
        cases e : (tok s p).ok
        · exact absurd (ht.symm.trans (k4 e)) hq
        · rfl
      have hb := sameStr_pos ht
      have HE : Hid (∀ p' : Nat, p' = (tok s p).at_ + (tok s p).t.size → p' ≤ s.size ∧ p ≤ p' ∧ Goes (tokIs s q) (tokNot s q) () p 0 a p' 0 a) := fun p' e => ⟨by rw [e]; exact k2, by omega, .inr (.inl ⟨rfl, rfl, ht, e⟩)⟩
      rw [hok] at HT
      clear h ht k4 hok HF hp hq
      generalize (tok s p).t = t at *
      generalize (tok s p).at_ = k at *
      go_enter Tryz.func55, Tryz.ntmps55
      go_wp2_with (go_at_call 33; refine HT.out.mono ?_; rintro e w' ⟨rfl, rfl⟩)
      go_end0
      exact ⟨_, _, _, rfl, H.out.setP (k + t.size), Touched.set _ rb (a := ⟨rb, 1, none⟩) rfl _, HE.out _ rfl⟩
    · have hb := sameStr_neg ht
      have HE : Hid (Goes (tokIs s q) (tokNot s q) () p 0 a p 1 (tok s p).at_) := .inr (.inr ⟨rfl, rfl, ht, rfl⟩)
      clear h ht k4 hp hq
      generalize (tok s p).t = t at *
      generalize (tok s p).at_ = k at *
      cases hok : (tok s p).ok with
      | true =>
        rw [hok] at HT
        clear hok
        go_enter Tryz.func55, Tryz.ntmps55
        go_wp2_with (first
          | (go_at_call 33; refine HT.out.mono ?_; rintro e w' ⟨rfl, rfl⟩)
          | (go_at_call 56; refine (HF.out _).mono ?_; rintro e w2 ⟨rfl, hr, ht⟩; have HR := hide hr; have HTo := hide ht; have c2 := hr.c2; clear hr ht))
        go_end0
        exact ⟨_, _, _, rfl, HR.out, HTo.out, HP.out, Nat.le_refl _, HE.out⟩
      | false =>
        rw [hok] at HT
        clear hok
        go_enter Tryz.func55, Tryz.ntmps55
        go_wp2_with (first
          | (go_at_call 33; refine HT.out.mono ?_; rintro e w' ⟨rfl, rfl⟩)
          | (go_at_call 56; refine (HF.out _).mono ?_; rintro e w2 ⟨rfl, hr, ht⟩; have HR := hide hr; have HTo := hide ht; have c2 := hr.c2; clear hr ht))
        go_end0
        exact ⟨_, _, _, rfl, HR.out, HTo.out, HP.out, Nat.le_refl _, HE.out⟩
  · have HF := hide (fun b => fail_not rb s p code a b w hc h)
    have e1 : ((code : Int) == 0) = false := by simp; omega
    have HE : Hid (Goes (tokIs s q) (tokNot s q) () p code a p code a) := .inl ⟨hc, rfl, rfl⟩
    clear h hp hq k4 hc
    generalize (tok s p).t = t at *
    generalize (tok s p).at_ = k at *
    generalize (tok s p).ok = ok at *
    by_cases ht : t = q
    · have hb := sameStr_pos ht
      have HX := hide ht
      clear ht
      cases ok <;>
      (go_enter Tryz.func55, Tryz.ntmps55
       go_wp2_with (first
        | (go_at_call 33; refine HT.out.mono ?_; rintro e w' ⟨rfl, rfl⟩)
        | (go_at_call 56; refine (HF.out _).mono ?_; rintro e w2 ⟨rfl, rfl⟩))
       go_end0
       exact ⟨_, _, _, rfl, H.out, Touched.refl _ _, HP.out, Nat.le_refl _, HE.out⟩)
    · have hb := sameStr_neg ht
      clear ht
      cases ok <;>
      (go_enter Tryz.func55, Tryz.ntmps55
       go_wp2_with (first
        | (go_at_call 33; refine HT.out.mono ?_; rintro e w' ⟨rfl, rfl⟩)
        | (go_at_call 56; refine (HF.out _).mono ?_; rintro e w2 ⟨rfl, rfl⟩))
       go_end0
       exact ⟨_, _, _, rfl, H.out, Touched.refl _ _, HP.out, Nat.le_refl _, HE.out⟩)

set_option maxHeartbeats 2000000 in
/-- next at a reader that has failed. -/
theorem next_not (hc : code ≠ 0) : Calls Tryz.prog 57 #[.pointer (some ⟨rb, 0, none⟩)] w fun e w' => e = .returned (.string ⟨#[]⟩) ∧ w' = w := by
  have HT := hide (token_calls s p rb w hs hp h.c0 h.c1)
  have c2 := h.c2
  have HF := hide (fun b => fail_not rb s p code a b w hc h)
  have e1 : ((code : Int) == 0) = false := by simp; omega
  have e2 : ((code : Int) != 0) = true := by simp; omega
  clear h hp hc
  generalize (tok s p).t = t at *
  generalize (tok s p).at_ = k at *
  generalize (tok s p).ok = ok at *
  by_cases ht : t = ⟨#[]⟩
  · subst ht
    cases ok <;>
    (go_enter Tryz.func57, Tryz.ntmps57
     go_wp2_with (first
      | (go_at_call 33; refine HT.out.mono ?_; rintro e w' ⟨rfl, rfl⟩)
      | (go_at_call 56; refine (HF.out _).mono ?_; rintro e w2 ⟨rfl, rfl⟩))
     go_ret
     exact ⟨rfl, rfl⟩)
  · have hb := ne_empty ht
    clear ht
    cases ok <;>
    (go_enter Tryz.func57, Tryz.ntmps57
     go_wp2_with (first
      | (go_at_call 33; refine HT.out.mono ?_; rintro e w' ⟨rfl, rfl⟩)
      | (go_at_call 56; refine (HF.out _).mono ?_; rintro e w2 ⟨rfl, rfl⟩))
     go_ret
     exact ⟨rfl, rfl⟩)

set_option maxHeartbeats 2000000 in
/-- name at a reader that has failed. -/
theorem name_not (hc : code ≠ 0) : Calls Tryz.prog 58 #[.pointer (some ⟨rb, 0, none⟩)] w fun e w' => e = .returned (.string ⟨#[]⟩) ∧ w' = w := by
  have HT := hide (token_calls s p rb w hs hp h.c0 h.c1)
  obtain ⟨k1, k2, k3, k4⟩ := tok_facts hp
  have hsz : (tok s p).t.size ≤ 200000 := by omega
  have HN := hide (fun W => isName_calls (tok s p).t W hsz)
  have c2 := h.c2
  have HF := hide (fun b => fail_not rb s p code a b w hc h)
  have e1 : ((code : Int) == 0) = false := by simp; omega
  have e2 : ((code : Int) != 0) = true := by simp; omega
  clear h hp hc k1 k2 k3 k4 hsz
  generalize isNameB (tok s p).t = nb at *
  generalize (tok s p).t = t at *
  generalize (tok s p).at_ = k at *
  generalize (tok s p).ok = ok at *
  cases ok <;> cases nb <;>
    (go_enter Tryz.func58, Tryz.ntmps58
     go_wp2_with (first
      | (go_at_call 33; refine HT.out.mono ?_; rintro e w' ⟨rfl, rfl⟩)
      | (go_at_call 79; refine (HN.out _).mono ?_; rintro e w' ⟨rfl, rfl⟩)
      | (go_at_call 56; refine (HF.out _).mono ?_; rintro e w2 ⟨rfl, rfl⟩))
     go_ret
     exact ⟨rfl, rfl⟩)

/-- next where a token stands, whatever went before. -/
theorem nexts_calls (ht : (tok s p).t ≠ ⟨#[]⟩) : Calls Tryz.prog 57 #[.pointer (some ⟨rb, 0, none⟩)] w fun e w' => ∃ (q : ByteArray) (p' c' a' : Nat), e = .returned (.string q) ∧ RdAt w' rb s p' c' a' ∧ Touched w rb w' ∧ p' ≤ s.size ∧ p ≤ p' ∧ Goes (fun (_ : Unit) p p' => p' = (tok s p).at_ + (tok s p).t.size) (fun _ _ => False) () p code a p' c' a' := by
  obtain ⟨k1, k2, k3, k4⟩ := tok_facts hp
  by_cases hc : code = 0
  · subst hc
    refine (next_calls rb s p a w hs hp h ht).mono ?_
    rintro e w' ⟨rfl, hr, ht⟩
    exact ⟨_, _, _, _, rfl, hr, ht, k2, by omega, .inr (.inl ⟨rfl, rfl, rfl⟩)⟩
  · refine (next_not rb s p code a w hs hp h hc).mono ?_
    rintro e w' ⟨rfl, rfl⟩
    exact ⟨_, _, _, _, rfl, h, Touched.refl _ _, hp, Nat.le_refl _, .inl ⟨hc, rfl, rfl⟩⟩

/-- name, whatever went before. -/
theorem names_calls : Calls Tryz.prog 58 #[.pointer (some ⟨rb, 0, none⟩)] w fun e w' => ∃ (q : ByteArray) (p' c' a' : Nat), e = .returned (.string q) ∧ RdAt w' rb s p' c' a' ∧ Touched w rb w' ∧ p' ≤ s.size ∧ p ≤ p' ∧ Goes (WordAt s) (bWord s) q p code a p' c' a' := by
  obtain ⟨k1, k2, k3, k4⟩ := tok_facts hp
  by_cases hc : code = 0
  · subst hc
    cases hn : isNameB (tok s p).t with
    | true =>
      refine (name_good rb s p a w hs hp h hn).mono ?_
      rintro e w' ⟨rfl, hr, ht⟩
      exact ⟨_, _, _, _, rfl, hr, ht, k2, by omega, .inr (.inl ⟨rfl, rfl, tok_word hp hn⟩)⟩
    | false =>
      refine (name_bad rb s p a w hs hp h hn).mono ?_
      rintro e w' ⟨rfl, hr, ht⟩
      exact ⟨_, _, _, _, rfl, hr, ht, hp, Nat.le_refl _, .inr (.inr ⟨rfl, rfl, fun q p' hw => (by rw [(word_tok hw).1, (word_tok hw).2] at hn; cases hn), tok_place s p hp⟩)⟩
  · refine (name_not rb s p code a w hs hp h hc).mono ?_
    rintro e w' ⟨rfl, rfl⟩
    exact ⟨_, _, _, _, rfl, h, Touched.refl _ _, hp, Nat.le_refl _, .inl ⟨hc, rfl, rfl⟩⟩

/-- term, whatever went before. -/
theorem terms_calls (D wb wo wc : Nat) (hD : 200000 < D) (hr0 : rb ≠ 1) (hr1 : rb ≠ wb) (hw : WordsAt w wb wo wc) :
    Calls Tryz.prog 61 #[.pointer (some ⟨rb, 0, none⟩)] w fun e w' => ∃ (k n : Int) (nm : ByteArray) (A : Option Addr) (la lc : Nat) (A' : Option Addr) (ta tc p' c' a' : Nat) (t : Tm), e = .returned (.agg #[.int .i64 k, .int .i64 n, .string nm, .slice A la lc, .slice A' ta tc]) ∧ RdAt w' rb s p' c' a' ∧ Touched w rb w' ∧ p' ≤ s.size ∧ p ≤ p' ∧
      Goes (RT s D) (FT s D) t p code a p' c' a' ∧ (c' = 0 → InTm w' (fun b => w.heap.size ≤ b) D t (.agg #[.int .i64 k, .int .i64 n, .string nm, .slice A la lc, .slice A' ta tc])) := by
  refine (term_calls rb s wb wo wc hs hr0 hr1 (s.size + 1) p code a w (by omega) hp h hw).mono ?_
  rintro e w' ⟨k, n, nm, A, la, lc, A', ta, tc, p', c', a', rfl, hR, h1, h2, hT, h3, h4⟩
  by_cases hc : c' = 0
  · obtain ⟨h5, h6, d, t, hin, hrt⟩ := h3 hc
    have hD' : RT s D t p p' := by
      rcases term_total hs D p hp (by omega) with ⟨t', p'', hr⟩ | ⟨b, hf⟩
      · obtain ⟨rfl, rfl⟩ := hrt.unique hr
        exact hr
      · exact (hf.no hrt).elim
    have hwf : WfT D t := by
      obtain ⟨_, h7⟩ := RT.some hs D t p p' hD'
      exact (h7 D (by have := hD'.le; omega)).1
    exact ⟨k, n, nm, A, la, lc, A', ta, tc, p', c', a', t, rfl, hR, hT, h2, h1, .inr (.inl ⟨h5, hc, hD'⟩), fun _ => hin.fit hwf⟩
  · refine ⟨k, n, nm, A, la, lc, A', ta, tc, p', c', a', zeroT, rfl, hR, hT, h2, h1, ?_, fun h => absurd h hc⟩
    rcases h4 hc with h5 | ⟨h5, h6, d, hf⟩
    · exact .inl h5
    · refine .inr (.inr ⟨h5, h6, ?_⟩)
      rcases term_total hs D p hp (by omega) with ⟨t', p'', hr⟩ | ⟨b, hf'⟩
      · exact (hf.no hr).elim
      · rw [hf.unique hf']; exact hf'
end

end Go.Proofs.YtjlibnijecdgcaaGreatDoor
