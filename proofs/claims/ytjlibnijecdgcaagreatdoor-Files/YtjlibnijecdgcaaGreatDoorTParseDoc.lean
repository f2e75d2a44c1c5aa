/- The document's reader: what text TParse says of it. -/
import Derived.Test.YtjlibnijecdgcaaGreatDoorDTermDDoc
import Derived.Test.YtjlibnijecdgcaaGreatDoorDTermD

/- The contracts of term and ParseTerm of the document: what is read without a fault is a term that stands there; else the fault and its place. -/
namespace Go.Proofs.YtjlibnijecdgcaaGreatDoor
open Go.RowKit

theorem term_calls (rb : Nat) (s : ByteArray) (wb wo wc : Nat) (hs : s.size ≤ 200000) (hr0 : rb ≠ 1) (hr1 : rb ≠ wb) : ∀ (N p code a : Nat) (w : World), s.size - p < N → p ≤ s.size → RdAt w rb s p code a → WordsAt w wb wo wc → Calls Tryz.prog 61 #[.pointer (some ⟨rb, 0, none⟩)] w fun e w' => TermPost w rb s p code a e w'
  | 0, _, _, _, _, h, _, _, _ => absurd h (by omega)
  | N + 1, p, code, a, w, hN, hp, h, hw => by
    have ih := term_calls rb s wb wo wc hs hr0 hr1 N
    by_cases hc : code = 0
    · subst hc
      by_cases ho : (tok s p).t = ⟨#[40]⟩
      · obtain ⟨kd, hk | ⟨_, hk⟩⟩ := kindNo (tok s ((tok s p).at_ + 1)).t
        · exact term_brack N rb s p a wb wo wc w hs hp h hw hr0 hr1 ho kd hk hN ih
        · exact term_word rb s p a wb wo wc w hs hp h hw hr0 hr1 ho hk
      · by_cases he : (tok s p).t = ⟨#[]⟩
        · exact term_none rb s p a w hs hp h ⟨ho, .inl he⟩
        · by_cases h35 : at_ (tok s p).t 0 = 35
          · exact term_var rb s p a w hs hp h he h35
          · exact term_none rb s p a w hs hp h ⟨ho, .inr h35⟩
    · exact term_not rb s p code a w hs hp hc h

/-- What ParseTerm leaves: a term's value and a fault; where there is none, the term that the text is. -/
def TParsed (w : World) (s : ByteArray) (e : Ending) (w' : World) : Prop :=
  ∃ (k n : Int) (nm : ByteArray) (A : Option Addr) (la lc : Nat) (A' : Option Addr) (ta tc c a : Nat), e = .returned (.tuple #[.agg #[.int .i64 k, .int .i64 n, .string nm, .slice A la lc, .slice A' ta tc], .agg #[.int .i64 (c : Nat), .int .i64 (a : Nat)]]) ∧ Below w.heap.size w w' ∧
    (c = 0 → s.size ≤ 200000 ∧ ∃ (d : Nat) (t : Tm), InTm w' (fun _ => True) d t (.agg #[.int .i64 k, .int .i64 n, .string nm, .slice A la lc, .slice A' ta tc]) ∧ TRight s t) ∧
    (c ≠ 0 → (k = 0 ∧ n = 0 ∧ nm = ⟨#[]⟩ ∧ A = none ∧ la = 0 ∧ lc = 0 ∧ A' = none ∧ ta = 0 ∧ tc = 0) ∧ ((200000 < s.size ∧ c = 2 ∧ a = 0) ∨ (s.size ≤ 200000 ∧ c = 1 ∧ TWrong s a)))

end Go.Proofs.YtjlibnijecdgcaaGreatDoor
