/- At every place of a text a level stands or a fault does; a term or a fault. Plain Lean, no walk. -/
import Derived.Test.YtjlibnijecdgcaaGreatDoorPTerm
import Derived.Test.YtjlibnijecdgcaaGreatDoorDcl

namespace Go.Proofs.YtjlibnijecdgcaaGreatDoor
open Go.RowKit

theorem ReadsAll.end_ {s : ByteArray} : ∀ {ls : List LvB} {p p' : Nat}, ReadsAll s ls p p' → p ≤ s.size → p ≤ p' ∧ p' ≤ s.size := fun h hp => (ReadsAll.few hp h).2

theorem levels_total {s : ByteArray} {n : Nat} (ih : ∀ p, p ≤ s.size → s.size - p < n → (∃ l p', Reads s l p p') ∨ ∃ a, Fails s p a) : ∀ (k p : Nat), p ≤ s.size → s.size - p < n →
    (∃ ls p', ls.length = k ∧ ReadsAll s ls p p') ∨ ∃ ls pj a, ls.length < k ∧ ReadsAll s ls p pj ∧ Fails s pj a
  | 0, p, _, _ => .inl ⟨[], p, rfl, rfl⟩
  | k + 1, p, hp, hn => by
    rcases ih p hp hn with ⟨l, p1, hr⟩ | ⟨a, hf⟩
    · have h1 := hr.lt
      have h2 := hr.le
      rcases levels_total ih k p1 h2 (by omega) with ⟨ls, p', hl, hs⟩ | ⟨ls, pj, a, hl, hs, hf⟩
      · exact .inl ⟨l :: ls, p', by simp [hl], ⟨p1, hr, hs⟩⟩
      · exact .inr ⟨l :: ls, pj, a, by simp [hl], ⟨p1, hr, hs⟩, hf⟩
    · exact .inr ⟨[], p, a, by simp, rfl, hf⟩

theorem level_total {s : ByteArray} : ∀ (n p : Nat), p ≤ s.size → s.size - p < n → (∃ l p', Reads s l p p') ∨ ∃ a, Fails s p a
  | 0, _, _, h => absurd h (by omega)
  | n + 1, p, hp, hn1 => by
    by_cases h0 : (tok s p).t = ⟨#[48]⟩
    · exact .inl ⟨.zero, _, tok_zero hp h0⟩
    by_cases hn : isNameB (tok s p).t = true
    · exact .inl ⟨.param (tok s p).t, _, tok_word hp hn⟩
    rw [Bool.not_eq_true] at hn
    by_cases ho : (tok s p).t = ⟨#[40]⟩
    · obtain ⟨p1, h1⟩ : ∃ p1, SignAt s 40 p p1 := ⟨_, tok_open hp ho⟩
      have l1 := h1.lt
      have e1 := h1.le
      have done : ∀ q kd, KindOf q kd → isNameB q = true → (tok s p1).t = q → (∃ l p', Reads s l p p') ∨ ∃ a, Fails s p a := fun q kd hk hq hw => by
        obtain ⟨p2, h2⟩ : ∃ p2, WordAt s q p1 p2 := by
          have := tok_word e1 (by rw [hw]; exact hq)
          rw [hw] at this
          exact ⟨_, this⟩
        have l2 := h2.lt.1
        have e2 := h2.le
        rcases levels_total (level_total n) (partsOf kd) p2 e2 (by omega) with ⟨ls, p3, hl, hr⟩ | ⟨ls, pj, a, hl, hr, hf⟩
        · by_cases hc : (tok s p3).t = ⟨#[41]⟩
          · obtain ⟨p', h3⟩ : ∃ p', SignAt s 41 p3 p' := ⟨_, tok_shut (hr.end_ e2).2 hc⟩
            rcases hk with ⟨rfl, rfl⟩ | ⟨rfl, rfl⟩ | ⟨rfl, rfl⟩
            · match ls, hl with
              | [a], _ =>
                obtain ⟨x, ha, hx⟩ := hr
                have hx' : p3 = x := hx
                subst hx'
                exact .inl ⟨.succ a, p', p1, p2, _, h1, h2, ha, h3⟩
            · match ls, hl with
              | [a, b], _ =>
                obtain ⟨x, ha, y, hb, hy⟩ := hr
                have hy' : p3 = y := hy
                subst hy'
                exact .inl ⟨.max a b, p', p1, p2, _, _, h1, h2, ha, hb, h3⟩
            · match ls, hl with
              | [a, b], _ =>
                obtain ⟨x, ha, y, hb, hy⟩ := hr
                have hy' : p3 = y := hy
                subst hy'
                exact .inl ⟨.imax a b, p', p1, p2, _, _, h1, h2, ha, hb, h3⟩
          · exact .inr ⟨_, .close h1 h2 hk hr hl hc⟩
        · exact .inr ⟨a, .part h1 h2 hk hr hl hf⟩
      by_cases w1 : (tok s p1).t = ⟨#[115]⟩
      · exact done _ 1 (.inl ⟨rfl, rfl⟩) (by decide) w1
      by_cases w2 : (tok s p1).t = ⟨#[109, 97, 120]⟩
      · exact done _ 2 (.inr (.inl ⟨rfl, rfl⟩)) (by decide) w2
      by_cases w3 : (tok s p1).t = ⟨#[105, 109, 97, 120]⟩
      · exact done _ 3 (.inr (.inr ⟨rfl, rfl⟩)) (by decide) w3
      exact .inr ⟨_, .word h1 w1 w2 w3⟩
    · exact .inr ⟨_, .none h0 hn ho⟩

/-- Levels up to a closing bracket. -/
theorem list_total {s : ByteArray} : ∀ (n p : Nat), p ≤ s.size → s.size - p < n → (∃ ls p', ReadsAll s ls p p' ∧ (tok s p').t = ⟨#[41]⟩) ∨ ∃ ls p' a, ReadsAll s ls p p' ∧ (tok s p').t ≠ ⟨#[41]⟩ ∧ Fails s p' a
  | 0, _, _, h => absurd h (by omega)
  | n + 1, p, hp, hn => by
    by_cases hc : (tok s p).t = ⟨#[41]⟩
    · exact .inl ⟨[], p, rfl, hc⟩
    rcases level_total (n + 1) p hp hn with ⟨l, p1, hr⟩ | ⟨a, hf⟩
    · have h1 := hr.lt
      have h2 := hr.le
      rcases list_total n p1 h2 (by omega) with ⟨ls, p', hs, ht⟩ | ⟨ls, p', a, hs, ht, hf⟩
      · exact .inl ⟨l :: ls, p', ⟨p1, hr, hs⟩, ht⟩
      · exact .inr ⟨l :: ls, p', a, ⟨p1, hr, hs⟩, ht, hf⟩
    · exact .inr ⟨[], p, a, rfl, hc, hf⟩

theorem TKind.name {q : ByteArray} {kd : Nat} (h : TKind q kd) : isNameB q = true := by
  rcases h with ⟨rfl, _⟩ | ⟨rfl, _⟩ | ⟨rfl, _⟩ | ⟨rfl, _⟩ | ⟨rfl, _⟩ | ⟨rfl, _⟩ <;> decide

theorem RT.lt {s : ByteArray} (hs : s.size ≤ 200000) {d : Nat} {t : Tm} {p p' : Nat} (h : RT s d t p p') : p < p' := (RT.some hs d t p p' h).1

theorem terms_total {s : ByteArray} (hs : s.size ≤ 200000) {n : Nat} (ih : ∀ p, p ≤ s.size → s.size - p < n → (∃ t p', RT s n t p p') ∨ ∃ a, FT s n p a) : ∀ (k p : Nat), p ≤ s.size → s.size - p < n →
    (∃ ts p', ts.length = k ∧ Seq (RT s n) ts p p') ∨ ∃ ts pj a, ts.length < k ∧ Seq (RT s n) ts p pj ∧ FT s n pj a
  | 0, p, _, _ => .inl ⟨[], p, rfl, rfl⟩
  | k + 1, p, hp, hn => by
    rcases ih p hp hn with ⟨t, p1, hr⟩ | ⟨a, hf⟩
    · have h1 := hr.lt hs
      have h2 := hr.le
      rcases terms_total hs ih k p1 h2 (by omega) with ⟨ts, p', hl, hq⟩ | ⟨ts, pj, a, hl, hq, hf⟩
      · exact .inl ⟨t :: ts, p', by simp [hl], ⟨p1, hr, hq⟩⟩
      · exact .inr ⟨t :: ts, pj, a, by simp [hl], ⟨p1, hr, hq⟩, hf⟩
    · exact .inr ⟨[], p, a, by simp, rfl, hf⟩

/-- At every place a term stands, or a fault does. -/
theorem term_total {s : ByteArray} (hs : s.size ≤ 200000) : ∀ (n p : Nat), p ≤ s.size → s.size - p < n → (∃ t p', RT s n t p p') ∨ ∃ a, FT s n p a
  | 0, _, _, h => absurd h (by omega)
  | n + 1, p, hp, hn1 => by
    by_cases ho : (tok s p).t = ⟨#[40]⟩
    · obtain ⟨p1, h1⟩ : ∃ p1, SignAt s 40 p p1 := ⟨_, tok_open hp ho⟩
      have l1 := h1.lt
      have e1 := h1.le
      by_cases hk : ∃ q kd, TKind q kd ∧ (tok s p1).t = q
      · obtain ⟨q, kd, hk, hw⟩ := hk
        obtain ⟨p2, h2⟩ : ∃ p2, WordAt s q p1 p2 := by
          have := tok_word e1 (by rw [hw]; exact hk.name)
          rw [hw] at this
          exact ⟨_, this⟩
        have l2 := h2.lt.1
        have e2 := h2.le
        have fin : ∀ nm p3, NamePart s kd nm p2 p3 → (∃ t p', RT s (n + 1) t p p') ∨ ∃ a, FT s (n + 1) p a := fun nm p3 hN => by
          have e3 := hN.le e2
          have fin2 : ∀ ls p4, LvPart s kd ls p3 p4 → (∃ t p', RT s (n + 1) t p p') ∨ ∃ a, FT s (n + 1) p a := fun ls p4 hL => by
            have e4 := (hL.few e3.2).2
            rcases terms_total hs (term_total hs n) (tparts kd) p4 e4.2 (by omega) with ⟨ts, p5, hl, hq⟩ | ⟨ts, p5, a, hl, hq, hf⟩
            · by_cases hc : (tok s p5).t = ⟨#[41]⟩
              · obtain ⟨p', h5⟩ : ∃ p', SignAt s 41 p5 p' := ⟨_, tok_shut (hq.le e4.2) hc⟩
                exact .inl ⟨.node kd 0 nm ls ts, p', .inr ⟨p1, p2, p3, p4, p5, q, h1, h2, hk, rfl, hN, hL, hq, hl, h5⟩⟩
              · exact .inr ⟨_, .inr ⟨p1, h1, .inr ⟨q, kd, p2, h2, hk, .inr ⟨nm, p3, hN, .inr ⟨ls, p4, hL, ts, p5, hq, .inr ⟨hl, hc, rfl⟩⟩⟩⟩⟩⟩
            · exact .inr ⟨a, .inr ⟨p1, h1, .inr ⟨q, kd, p2, h2, hk, .inr ⟨nm, p3, hN, .inr ⟨ls, p4, hL, ts, p5, hq, .inl ⟨hl, hf⟩⟩⟩⟩⟩⟩
          by_cases k1 : kd = 1
          · rcases level_total (n + 1) p3 e3.2 (by omega) with ⟨l, p4, hr⟩ | ⟨a, hf⟩
            · exact fin2 [l] p4 (.inl ⟨k1, l, rfl, hr⟩)
            · exact .inr ⟨a, .inr ⟨p1, h1, .inr ⟨q, kd, p2, h2, hk, .inr ⟨nm, p3, hN, .inl ⟨[], p3, .inl ⟨k1, rfl, rfl⟩, hf⟩⟩⟩⟩⟩
          by_cases k2 : kd = 2
          · rcases list_total (n + 1) p3 e3.2 (by omega) with ⟨ls, p4, hr, ht⟩ | ⟨ls, p4, a, hr, ht, hf⟩
            · exact fin2 ls p4 (.inr (.inl ⟨k2, hr, ht⟩))
            · exact .inr ⟨a, .inr ⟨p1, h1, .inr ⟨q, kd, p2, h2, hk, .inr ⟨nm, p3, hN, .inl ⟨ls, p4, .inr ⟨k2, hr, ht⟩, hf⟩⟩⟩⟩⟩
          exact fin2 [] p3 (.inr (.inr ⟨k1, k2, rfl, rfl⟩))
        by_cases k2 : kd = 2
        · by_cases hn : isNameB (tok s p2).t = true
          · exact fin _ _ (.inl ⟨k2, tok_word e2 hn⟩)
          · rw [Bool.not_eq_true] at hn
            exact .inr ⟨_, .inr ⟨p1, h1, .inr ⟨q, kd, p2, h2, hk, .inl ⟨k2, hn, rfl⟩⟩⟩⟩
        · exact fin _ _ (.inr ⟨k2, rfl, rfl⟩)
      · exact .inr ⟨_, .inr ⟨p1, h1, .inl ⟨fun q kd h e => hk ⟨q, kd, h, e⟩, rfl⟩⟩⟩
    · by_cases hi : (tok s p).t ≠ ⟨#[]⟩ ∧ at_ (tok s p).t 0 = 35
      · exact .inl ⟨tvar _, _, .inl ⟨rfl, rfl, rfl, rfl, (tok_idx hp hi.1 hi.2).1⟩⟩
      · refine .inr ⟨_, .inl ⟨⟨ho, ?_⟩, rfl⟩⟩
        by_cases he : (tok s p).t = ⟨#[]⟩
        · exact .inl he
        · exact .inr fun h => hi ⟨he, h⟩

end Go.Proofs.YtjlibnijecdgcaaGreatDoor

/- Readings are determined: what stands at a place, stands there alone. Plain Lean, no walk. -/
namespace Go.Proofs.YtjlibnijecdgcaaGreatDoor
open Go.RowKit

/-- One behind the other. -/
def SeqG {α : Type} (R : α → Nat → Nat → Prop) : List α → Nat → Nat → Prop
  | [], p, p' => p' = p
  | x :: xs, p, p' => ∃ p1, R x p p1 ∧ SeqG R xs p1 p'
section
variable {α : Type} {R : α → Nat → Nat → Prop}
theorem SeqG.snoc : ∀ {xs : List α} {x : α} {p p1 p' : Nat}, SeqG R xs p p1 → R x p1 p' → SeqG R (xs ++ [x]) p p'
  | [], _, _, _, _, e, h => by rw [show _ = _ from e] at h; exact ⟨_, h, rfl⟩
  | _ :: _, _, _, _, _, ⟨y, h1, h2⟩, h => ⟨y, h1, SeqG.snoc h2 h⟩
/-- What was read is the beginning of what stands there up to a place where no more does. -/
theorem SeqG.fit (hd : ∀ x y p p1 p2, R x p p1 → R y p p2 → x = y ∧ p1 = p2) : ∀ {xs ys : List α} {p pk pe : Nat}, SeqG R xs p pk → SeqG R ys p pe → (∀ x p1, ¬ R x pe p1) → ∃ zs, ys = xs ++ zs ∧ SeqG R zs pk pe
  | [], ys, p, pk, pe, e, h, _ => by rw [show pk = p from e]; exact ⟨ys, rfl, h⟩
  | x :: xs, [], p, pk, pe, ⟨p1, h1, _⟩, e, hs => by rw [show pe = p from e] at hs; exact absurd h1 (hs x p1)
  | x :: xs, y :: ys, p, pk, pe, ⟨p1, h1, h2⟩, ⟨p2, h3, h4⟩, hs => by
    obtain ⟨rfl, rfl⟩ := hd _ _ _ _ _ h1 h3
    obtain ⟨zs, rfl, h5⟩ := SeqG.fit hd h2 h4 hs
    exact ⟨zs, rfl, h5⟩
theorem SeqG.same (hd : ∀ x y p p1 p2, R x p p1 → R y p p2 → x = y ∧ p1 = p2) : ∀ {xs ys : List α} {p p1 p2 : Nat}, SeqG R xs p p1 → SeqG R ys p p2 → (∀ x q, ¬ R x p1 q) → (∀ x q, ¬ R x p2 q) → xs = ys ∧ p1 = p2
  | [], [], _, _, _, e, e', _, _ => ⟨rfl, by rw [show _ = _ from e, show _ = _ from e']⟩
  | [], y :: ys, _, _, _, e, ⟨q, h, _⟩, hs, _ => by rw [show _ = _ from e] at hs; exact absurd h (hs y q)
  | x :: xs, [], _, _, _, ⟨q, h, _⟩, e, _, hs => by rw [show _ = _ from e] at hs; exact absurd h (hs x q)
  | x :: xs, y :: ys, _, _, _, ⟨_, h1, h2⟩, ⟨_, h3, h4⟩, hs, hs' => by
    obtain ⟨rfl, rfl⟩ := hd _ _ _ _ _ h1 h3
    obtain ⟨rfl, rfl⟩ := SeqG.same hd h2 h4 hs hs'
    exact ⟨rfl, rfl⟩
end
theorem namesAt_iff {s : ByteArray} : ∀ {qs : List ByteArray} {p p' : Nat}, NamesAt s qs p p' ↔ SeqG (WordAt s) qs p p'
  | [], _, _ => Iff.rfl
  | _ :: _, _, _ => exists_congr fun _ => and_congr Iff.rfl namesAt_iff
theorem ctorsAt_iff {s : ByteArray} {D : Nat} : ∀ {cs : List (ByteArray × Tm)} {p p' : Nat}, CtorsAt s D cs p p' ↔ SeqG (CtorAt s D) cs p p'
  | [], _, _ => Iff.rfl
  | _ :: _, _, _ => exists_congr fun _ => and_congr Iff.rfl ctorsAt_iff
theorem declsAt_iff {s : ByteArray} {D : Nat} : ∀ {ds : List Dc} {p p' : Nat}, DeclsAt s D ds p p' ↔ SeqG (DeclAt s D) ds p p'
  | [], _, _ => Iff.rfl
  | _ :: _, _, _ => exists_congr fun _ => and_congr Iff.rfl declsAt_iff

theorem word_det {s : ByteArray} (x y : ByteArray) (p p1 p2 : Nat) (h : WordAt s x p p1) (h' : WordAt s y p p2) : x = y ∧ p1 = p2 := h.same h'
/-- Behind a closing bracket's place no name stands. -/
theorem shut_no_word {s q : ByteArray} {p p1 p2 : Nat} (h : SignAt s 41 p p1) (h' : WordAt s q p p2) : False := by
  have h1 := h'.2.1
  rw [h.2.1] at h1
  simp [nameB, letterB] at h1
theorem shut_no_sign {s : ByteArray} {p p1 p2 : Nat} (h : SignAt s 41 p p1) (h' : SignAt s 40 p p2) : False := by
  have h1 := h'.2.1
  rw [h.2.1] at h1
  omega

theorem ParamsAt.same {s : ByteArray} {xs ys : List ByteArray} {p p1 p2 : Nat} (h : ParamsAt s xs p p1) (h' : ParamsAt s ys p p2) : xs = ys ∧ p1 = p2 := by
  obtain ⟨a, b, h1, h2, h3⟩ := h
  obtain ⟨a', b', h1', h2', h3'⟩ := h'
  have e := h1.same h1'
  subst e
  obtain ⟨rfl, rfl⟩ := SeqG.same word_det (namesAt_iff.1 h2) (namesAt_iff.1 h2') (fun _ _ h => shut_no_word h3 h) (fun _ _ h => shut_no_word h3' h)
  exact ⟨rfl, h3.same h3'⟩
theorem NumAt.same {s : ByteArray} {n m p p1 p2 : Nat} (h : NumAt s n p p1) (h' : NumAt s m p p2) : n = m ∧ p1 = p2 := by
  obtain ⟨_, _, e, h4⟩ := h
  obtain ⟨_, _, e', h4'⟩ := h'
  have ep : p1 = p2 := by rw [e, e']
  subst ep
  rw [h4] at h4'
  injection h4' with h5
  exact ⟨by omega, rfl⟩
theorem ctor_det {s : ByteArray} {D : Nat} (x y : ByteArray × Tm) (p p1 p2 : Nat) (h : CtorAt s D x p p1) (h' : CtorAt s D y p p2) : x = y ∧ p1 = p2 := by
  obtain ⟨a1, a2, a3, a4, h1, h2, h3, h4, h5⟩ := h
  obtain ⟨b1, b2, b3, b4, g1, g2, g3, g4, g5⟩ := h'
  obtain rfl := h1.same g1
  obtain ⟨_, rfl⟩ := h2.same g2
  obtain ⟨e1, rfl⟩ := h3.same g3
  obtain ⟨e2, rfl⟩ := h4.unique g4
  exact ⟨Prod.ext e1 e2, h5.same g5⟩
theorem dword_inj {j k : Nat} (hj : 1 ≤ j ∧ j ≤ 3) (hk : 1 ≤ k ∧ k ≤ 3) (e : dword j = dword k) : j = k := by
  have h1 : j = 1 ∨ j = 2 ∨ j = 3 := by omega
  have h2 : k = 1 ∨ k = 2 ∨ k = 3 := by omega
  rcases h1 with rfl | rfl | rfl <;> rcases h2 with rfl | rfl | rfl <;> first | rfl | exact absurd e (by decide)
theorem Dc.ext {x y : Dc} (h1 : x.kd = y.kd) (h2 : x.nm = y.nm) (h3 : x.ps = y.ps) (h4 : x.ty = y.ty) (h5 : x.vl = y.vl) (h6 : x.ar = y.ar) (h7 : x.cs = y.cs) : x = y := by
  cases x; cases y; simp_all
theorem decl_det {s : ByteArray} {D : Nat} (x y : Dc) (p p1 p2 : Nat) (h : DeclAt s D x p p1) (h' : DeclAt s D y p p2) : x = y ∧ p1 = p2 := by
  obtain ⟨a1, a2, a3, a4, a5, a6, a7, a8, h1, hk, h2, h3, h4, h5, h6, h7, h8, h9⟩ := h
  obtain ⟨b1, b2, b3, b4, b5, b6, b7, b8, g1, gk, g2, g3, g4, g5, g6, g7, g8, g9⟩ := h'
  obtain rfl := h1.same g1
  obtain ⟨ew, rfl⟩ := h2.same g2
  have ek := dword_inj hk gk ew
  obtain ⟨en, rfl⟩ := h3.same g3
  obtain ⟨ep, rfl⟩ := h4.same g4
  have e5 : x.ar = y.ar ∧ a5 = b5 := by
    rcases h5 with ⟨k, h5⟩ | ⟨k, h5, h5'⟩ <;> rcases g5 with ⟨k', g5⟩ | ⟨k', g5, g5'⟩
    · exact h5.same g5
    · omega
    · omega
    · exact ⟨by omega, by omega⟩
  obtain ⟨ea, rfl⟩ := e5
  obtain ⟨et, rfl⟩ := h6.unique g6
  have e7 : x.vl = y.vl ∧ a7 = b7 := by
    rcases h7 with ⟨k, h7⟩ | ⟨k, h7, h7'⟩ <;> rcases g7 with ⟨k', g7⟩ | ⟨k', g7, g7'⟩
    · exact h7.unique g7
    · omega
    · omega
    · exact ⟨by rw [h7, g7], by omega⟩
  obtain ⟨ev, rfl⟩ := e7
  have e8 : x.cs = y.cs ∧ a8 = b8 := by
    rcases h8 with ⟨k, h8⟩ | ⟨k, h8, h8'⟩ <;> rcases g8 with ⟨k', g8⟩ | ⟨k', g8, g8'⟩
    · exact SeqG.same ctor_det (ctorsAt_iff.1 h8) (ctorsAt_iff.1 g8) (fun _ _ ⟨_, _, _, _, h, _⟩ => shut_no_sign h9 h) (fun _ _ ⟨_, _, _, _, h, _⟩ => shut_no_sign g9 h)
    · omega
    · omega
    · exact ⟨by rw [h8, g8], by omega⟩
  obtain ⟨ec, rfl⟩ := e8
  exact ⟨Dc.ext ek en ep et ev ea ec, h9.same g9⟩

end Go.Proofs.YtjlibnijecdgcaaGreatDoor
