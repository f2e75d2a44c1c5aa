/- The contracts of level and  of the document: what is read without a fault is a level, no greater than its text. -/
import Derived.Test.YtahcgpnjlmpkpaaGreatDoorLevelSucc
import Derived.Test.YtahcgpnjlmpkpaaGreatDoorLevelMax
import Derived.Test.YtahcgpnjlmpkpaaGreatDoorLevelImax
namespace Go.Proofs.YtahcgpnjlmpkpaaGreatDoor
open Go.RowKit

theorem pastB {w : World} {o : Obj} {n i : Nat} (hn : n < w.heap.size) : (w.alloc o).cell? ⟨n, i, none⟩ = w.cell? ⟨n, i, none⟩ := World.cell?_alloc_past o n i hn

theorem level_calls (rb : Nat) (s : ByteArray) (hs : s.size ≤ 20000) : ∀ (N p code a : Nat) (w : World), s.size - p < N → p ≤ s.size → RdAt w rb s p code a → Calls Tryz.prog 25 #[.pointer (some ⟨rb, 0, none⟩)] w fun e w' => LevelPost w rb s p code a e w'
  | 0, _, _, _, _, h, _, _ => absurd h (by omega)
  | N + 1, p, code, a, w, hN, hp, h => by
    have ih := level_calls rb s hs N
    by_cases hc : code = 0
    · subst hc
      by_cases h0 : (tok s p).t = ⟨#[48]⟩
      · exact level_zero rb s p a w hs hp h h0
      · by_cases hn : isNameB (tok s p).t = true
        · exact level_name rb s p a w hs hp h h0 hn
        · by_cases ho : (tok s p).t = ⟨#[40]⟩
          · by_cases h1 : (tok s ((tok s p).at_ + 1)).t = ⟨#[115]⟩
            · exact level_succ N rb s p a w hs hp h ho h1 hN ih
            · by_cases h2 : (tok s ((tok s p).at_ + 1)).t = ⟨#[109, 97, 120]⟩
              · exact level_max N rb s p a w hs hp h ho h2 hN ih
              · by_cases h3 : (tok s ((tok s p).at_ + 1)).t = ⟨#[105, 109, 97, 120]⟩
                · exact level_imax N rb s p a w hs hp h ho h3 hN ih
                · exact level_word rb s p a w hs hp h ho h1 h2 h3
          · exact level_bad rb s p a w hs hp h h0 (by simpa using hn) ho
    · exact level_not rb s p code a w hs hp hc h

end Go.Proofs.YtahcgpnjlmpkpaaGreatDoor
