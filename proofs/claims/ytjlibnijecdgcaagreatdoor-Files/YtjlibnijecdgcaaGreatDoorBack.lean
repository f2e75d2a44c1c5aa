/- A printed term stands in its text. Plain Lean, no walk. -/
import Derived.Test.YtjlibnijecdgcaaGreatDoorShift
import Derived.Test.YtjlibnijecdgcaaGreatDoorUnique
import Derived.Test.YtjlibnijecdgcaaGreatDoorTokName

namespace Go.Proofs.YtjlibnijecdgcaaGreatDoor
open Go.RowKit

theorem WordAt.nm {s q : ByteArray} {p p' : Nat} (h : WordAt s q p p') : Nm q := by
  obtain ⟨h1, h2⟩ := word_tok h
  have := tok_name (s := s) (p := p) (by have := runTo_ge blankB s p; have := h.1; omega) (by rw [h1]; exact h2)
  rw [h1] at this
  exact this

theorem Reads.nm {s : ByteArray} : ∀ {l : LvB} {p p' : Nat}, Reads s l p p' → ∀ q, Lv.has q l → Nm q
  | .zero, _, _, _, q, hq => absurd hq (by simp [Lv.has])
  | .param r, _, _, h, q, hq => by have e : r = q := hq; rw [← e]; exact WordAt.nm h
  | .succ a, _, _, ⟨_, _, _, _, _, h, _⟩, q, hq => Reads.nm h q hq
  | .max a b, _, _, ⟨_, _, _, _, _, _, h1, h2, _⟩, q, hq => hq.elim (Reads.nm h1 q) (Reads.nm h2 q)
  | .imax a b, _, _, ⟨_, _, _, _, _, _, h1, h2, _⟩, q, hq => hq.elim (Reads.nm h1 q) (Reads.nm h2 q)
theorem ReadsAll.nm {s : ByteArray} : ∀ {ls : List LvB} {p p' : Nat}, ReadsAll s ls p p' → ∀ l ∈ ls, ∀ q, Lv.has q l → Nm q
  | [], _, _, _, _, h, _, _ => absurd h (by simp)
  | a :: ls, _, _, ⟨_, h1, h2⟩, l, hl, q, hq => by
    rcases List.mem_cons.1 hl with rfl | hl
    · exact h1.nm q hq
    · exact ReadsAll.nm h2 l hl q hq

/-- A term as one that was read: its text can be read again. -/
def GoodT : Nat → Tm → Prop
  | 0, _ => False
  | d + 1, t => (t.kd = 0 ∧ t.nm = ⟨#[]⟩ ∧ t.ls = [] ∧ t.ts = [] ∧ t.n ≤ 99999) ∨ (1 ≤ t.kd ∧ t.kd ≤ 6 ∧ t.n = 0 ∧ (t.kd = 2 → Nm t.nm) ∧ (t.kd ≠ 2 → t.nm = ⟨#[]⟩) ∧ (t.kd = 1 → ∃ l, t.ls = [l]) ∧ (t.kd ≠ 1 → t.kd ≠ 2 → t.ls = []) ∧
      (∀ l ∈ t.ls, ∀ q, Lv.has q l → Nm q) ∧ t.ts.length = tparts t.kd ∧ ∀ x ∈ t.ts, GoodT d x)

theorem Seq.each {R : Tm → Nat → Nat → Prop} {P : Tm → Prop} (h : ∀ t p p', R t p p' → P t) : ∀ {ts : List Tm} {p p' : Nat}, Seq R ts p p' → ∀ x ∈ ts, P x
  | [], _, _, _, _, hx => absurd hx (by simp)
  | a :: ts, _, _, ⟨_, h1, h2⟩, x, hx => by
    rcases List.mem_cons.1 hx with rfl | hx
    · exact h _ _ _ h1
    · exact Seq.each h h2 x hx

theorem RT.good {s : ByteArray} : ∀ {d : Nat} {t : Tm} {p p' : Nat}, RT s d t p p' → GoodT d t
  | 0, _, _, _, h => absurd h (by simp [RT])
  | _ + 1, _, _, _, .inl ⟨h1, h2, h3, h4, h5⟩ => .inl ⟨h1, h2, h3, h4, h5.some.2⟩
  | d + 1, t, _, _, .inr ⟨p1, p2, p3, p4, p5, q, h1, h2, h3, h4, h5, h6, h7, h8, h9⟩ => by
    have hk := h3.pos
    refine .inr ⟨hk.1, hk.2, h4, fun h => ?_, fun h => ?_, fun h => ?_, fun ha hb => ?_, ?_, h8, Seq.each (P := GoodT d) (fun _ _ _ h => RT.good h) h7⟩
    · rcases h5 with ⟨_, hw⟩ | ⟨hn, _⟩
      · exact hw.nm
      · exact absurd h hn
    · rcases h5 with ⟨hn, _⟩ | ⟨_, hw, _⟩
      · exact absurd hn h
      · exact hw
    · rcases h6 with ⟨_, l, hl, _⟩ | ⟨hn, _⟩ | ⟨hn, _⟩
      · exact ⟨l, hl⟩
      · omega
      · exact absurd h hn
    · rcases h6 with ⟨hn, _⟩ | ⟨hn, _⟩ | ⟨_, _, hl, _⟩
      · exact absurd hn ha
      · exact absurd hn hb
      · exact hl
    · rcases h6 with ⟨_, l, hl, hr⟩ | ⟨_, hr, _⟩ | ⟨_, _, hl, _⟩
      · intro l' hl' q hq
        rw [hl] at hl'
        rw [List.mem_singleton.1 hl'] at hq
        exact hr.nm q hq
      · exact hr.nm
      · intro l' hl'
        rw [hl] at hl'
        exact absurd hl' (by simp)

theorem GoodT.idx : ∀ {d : Nat} {t : Tm}, GoodT d t → IdxT 99999 d t
  | 0, _, _ => trivial
  | _ + 1, t, .inl ⟨_, _, _, h4, h5⟩ => ⟨h5, fun i hi => absurd hi (by rw [h4]; simp)⟩
  | _ + 1, t, .inr ⟨_, _, h3, _, _, _, _, _, _, h⟩ => ⟨by omega, fun i hi => (h _ (List.getElem_mem hi)).idx⟩
theorem GoodT.bare : ∀ {d : Nat} {t : Tm}, GoodT d t → BareT d t
  | 0, _, _ => trivial
  | _ + 1, t, .inl ⟨h1, _, _, h4, _⟩ => ⟨fun h => by omega, fun i hi => absurd hi (by rw [h4]; simp)⟩
  | _ + 1, t, .inr ⟨_, _, _, _, _, _, h7, _, _, h⟩ => ⟨fun hk => h7 (by omega) (by omega), fun i hi => (h _ (List.getElem_mem hi)).bare⟩
theorem GoodT.mono : ∀ {d e : Nat} {t : Tm}, GoodT d t → d ≤ e → GoodT e t
  | 0, _, _, h, _ => absurd h (by simp [GoodT])
  | _ + 1, 0, _, _, h => absurd h (by omega)
  | _ + 1, _ + 1, _, .inl h, _ => .inl h
  | _ + 1, _ + 1, _, .inr ⟨h1, h2, h3, h4, h5, h6, h7, h8, h9, h⟩, he => .inr ⟨h1, h2, h3, h4, h5, h6, h7, h8, h9, fun x hx => (h x hx).mono (by omega)⟩

theorem decF_snoc (c : UInt8) : ∀ (l : List UInt8) (acc : Nat), decF acc (l ++ [c]) = decF acc l * 10 + (c.toNat - 48)
  | [], _ => rfl
  | _ :: l, _ => decF_snoc c l _
theorem digit_byte {k : Nat} (h : k < 10) : (UInt8.ofNat (48 + k)).toNat = 48 + k := by
  rw [UInt8.toNat_ofNat']
  exact Nat.mod_eq_of_lt (by omega)
theorem dec_back (n : Nat) : decF 0 (Lib.decDigits n) = n := by
  induction n using Nat.strongRecOn with
  | _ n ih =>
    by_cases h : n < 10
    · rw [Lib.decDigits_one h]
      show 0 * 10 + ((UInt8.ofNat (48 + n)).toNat - 48) = n
      rw [digit_byte h]
      omega
    · rw [Lib.decDigits, dif_neg h, decF_snoc, ih (n / 10) (by omega), digit_byte (by omega)]
      omega
theorem dec_digs (n : Nat) : ∀ c ∈ Lib.decDigits n, 48 ≤ c.toNat ∧ c.toNat ≤ 57 := by
  induction n using Nat.strongRecOn with
  | _ n ih =>
    intro c hc
    by_cases h : n < 10
    · rw [Lib.decDigits_one h] at hc
      rw [List.mem_singleton.1 hc, digit_byte h]
      omega
    · rw [Lib.decDigits, dif_neg h] at hc
      rcases List.mem_append.1 hc with hc | hc
      · exact ih (n / 10) (by omega) c hc
      · rw [List.mem_singleton.1 hc, digit_byte (by omega)]
        omega
theorem dec_first (n : Nat) : ∃ c r, Lib.decDigits n = c :: r ∧ (n ≠ 0 → c.toNat ≠ 48) := by
  induction n using Nat.strongRecOn with
  | _ n ih =>
    by_cases h : n < 10
    · exact ⟨_, [], Lib.decDigits_one h, fun hn => by rw [digit_byte h]; omega⟩
    · obtain ⟨c, r, e, hc⟩ := ih (n / 10) (by omega)
      exact ⟨c, r ++ [UInt8.ofNat (48 + n % 10)], by rw [Lib.decDigits, dif_neg h, e]; rfl, fun _ => hc (by omega)⟩

theorem has_extract {s : ByteArray} {p : Nat} {t : List UInt8} (h : Has s p t) : (s.extract p (p + t.length)).data.toList = t := by
  have hl : (s.extract p (p + t.length)).data.toList.length = t.length := by
    have e : (s.extract p (p + t.length)).data.toList.length = (s.extract p (p + t.length)).size := by rw [Array.length_toList]; rfl
    rw [e, ByteArray.size_extract]
    have := h.1
    omega
  refine List.ext_getElem hl fun i h1 h2 => ?_
  have e1 := at_data (s.extract p (p + t.length)) i (by rw [Array.length_toList] at h1; exact h1)
  have e2 := at_extract (s := s) (a := p) (b := p + t.length) (i := i) h.1 (by omega)
  have e3 := h.2 i h2
  rw [e2, e3] at e1
  exact UInt8.toNat_inj.1 e1.symm

theorem has_idx {s : ByteArray} {n p : Nat} (hn : n ≤ 99999) (h : Has s p (35 :: Lib.decDigits n)) (hst : Stop s (p + (35 :: Lib.decDigits n).length)) : IdxAt s n p (p + (35 :: Lib.decDigits n).length) := by
  obtain ⟨h1, h2, h3⟩ := h.head
  have hb : runTo blankB s p = p := runTo_stop (by rw [h2]; decide)
  have hlen : (Lib.decDigits n).length ≤ 5 := digits_len 4 n (by have : (10 : Nat) ^ 5 = 100000 := by decide
                                                                 rw [this]; omega)
  obtain ⟨c, r, ec, hc⟩ := dec_first n
  have hpos : 0 < (Lib.decDigits n).length := by rw [ec]; simp
  have e1 : p + (35 :: Lib.decDigits n).length = p + 1 + (Lib.decDigits n).length := by simp only [List.length_cons]; omega
  rw [e1] at hst ⊢
  have hend : digitEnd s p = p + 1 + (Lib.decDigits n).length := by
    show runTo digitB s (p + 1) = _
    rw [runTo_run (Lib.decDigits n).length (p + 1) h3.1 fun i hi => ?_, runTo_stop hst.2]
    rw [h3.2 i hi]
    have := dec_digs n _ (List.getElem_mem hi)
    simp [digitB]
    omega
  unfold IdxAt
  rw [hb]
  refine ⟨h1, h2, hend.symm, ?_, ?_⟩
  · rintro (h | h | ⟨h, h'⟩)
    · omega
    · omega
    · have h0 := h3.2 0 hpos
      rw [Nat.add_zero, h'] at h0
      by_cases hz : n = 0
      · subst hz
        rw [Lib.decDigits_one (by omega)] at h
        simp at h
      · apply hc hz
        rw [h0]
        simp [ec]
  · unfold decV
    rw [has_extract h3, dec_back]

theorem SignAt.ahead {s : ByteArray} {c p p1 p' : Nat} (h : runTo blankB s p = runTo blankB s p1) (hs : SignAt s c p1 p') : SignAt s c p p' := by unfold SignAt at *; rw [h]; exact hs
theorem WordAt.ahead {s q : ByteArray} {p p1 p' : Nat} (h : runTo blankB s p = runTo blankB s p1) (hs : WordAt s q p1 p') : WordAt s q p p' := by unfold WordAt at *; rw [h]; exact hs
theorem RT.ahead {s : ByteArray} {p p1 : Nat} (h : runTo blankB s p = runTo blankB s p1) {d : Nat} {t : Tm} {p' : Nat} (hr : RT s d t p1 p') : RT s d t p p' := by
  cases d with
  | zero => exact absurd hr (by simp [RT])
  | succ d =>
    rcases hr with ⟨h1, h2, h3, h4, h5⟩ | ⟨p1', p2, p3, p4, p5, q, h1, hr⟩
    · exact .inl ⟨h1, h2, h3, h4, by unfold IdxAt at *; rw [h]; exact h5⟩
    · exact .inr ⟨p1', p2, p3, p4, p5, q, h1.ahead h, hr⟩

theorem spaced_stop {α : Type} {f : α → List UInt8} {s : ByteArray} {p : Nat} : ∀ (xs : List α) {u : List UInt8}, Has s p (spaced f xs ++ u) → (xs = [] → Stop s p) → Stop s p
  | [], _, _, h => h rfl
  | x :: xs, u, h, _ => by
    have : Has s p (32 :: (f x ++ spaced f xs ++ u)) := by simpa [spaced] using h
    exact Stop.of (c := 32) this.head.2.1 (.inl rfl)

theorem spaced_cons {α : Type} (f : α → List UInt8) (x : α) (xs : List α) : spaced f (x :: xs) = 32 :: (f x ++ spaced f xs) := by simp [spaced]

theorem levels_text {s : ByteArray} : ∀ (ls : List LvB) (p : Nat), (∀ l ∈ ls, ∀ q, Lv.has q l → Nm q) → Has s p (spaced Lv.text ls) → Stop s (p + (spaced Lv.text ls).length) → ReadsAll s ls p (p + (spaced Lv.text ls).length)
  | [], _, _, _, _ => rfl
  | l :: ls, p, hn, h, hst => by
    rw [spaced_cons] at h hst ⊢
    have h1 := h.head.2.2
    have h2 := h1.right
    have el : p + (32 :: (l.text ++ spaced Lv.text ls)).length = p + 1 + l.text.length + (spaced Lv.text ls).length := by simp only [List.length_cons, List.length_append]; omega
    rw [el] at hst ⊢
    have hs2 : Stop s (p + 1 + l.text.length) := spaced_stop (f := Lv.text) ls (u := []) (by rw [List.append_nil]; exact h2) (fun e => by subst e; simpa [spaced] using hst)
    exact ⟨p + 1 + l.text.length, Reads.ahead (has_blank h) (text_reads l (p + 1) (hn l (by simp)) h1.left hs2), levels_text ls _ (fun x hx => hn x (by simp [hx])) h2 hst⟩

theorem terms_text {s : ByteArray} {d : Nat} (ih : ∀ (t : Tm) (p : Nat), GoodT d t → Has s p (textT d t) → Stop s (p + (textT d t).length) → RT s d t p (p + (textT d t).length)) :
    ∀ (ts : List Tm) (p : Nat), (∀ x ∈ ts, GoodT d x) → Has s p (spaced (textT d) ts) → Stop s (p + (spaced (textT d) ts).length) → Seq (RT s d) ts p (p + (spaced (textT d) ts).length)
  | [], _, _, _, _ => rfl
  | t :: ts, p, hn, h, hst => by
    rw [spaced_cons] at h hst ⊢
    have h1 := h.head.2.2
    have h2 := h1.right
    have el : p + (32 :: (textT d t ++ spaced (textT d) ts)).length = p + 1 + (textT d t).length + (spaced (textT d) ts).length := by simp only [List.length_cons, List.length_append]; omega
    rw [el] at hst ⊢
    have hs2 : Stop s (p + 1 + (textT d t).length) := spaced_stop (f := textT d) ts (u := []) (by rw [List.append_nil]; exact h2) (fun e => by subst e; simpa [spaced] using hst)
    exact ⟨p + 1 + (textT d t).length, RT.ahead (has_blank h) (ih t (p + 1) (hn t (by simp)) h1.left hs2), terms_text ih ts _ (fun x hx => hn x (by simp [hx])) h2 hst⟩

theorem tword_kind {k : Nat} (h1 : 1 ≤ k) (h2 : k ≤ 6) : TKind (tword k) k ∧ Nm (tword k) := by
  have : k = 1 ∨ k = 2 ∨ k = 3 ∨ k = 4 ∨ k = 5 ∨ k = 6 := by omega
  rcases this with rfl | rfl | rfl | rfl | rfl | rfl
  · exact ⟨.inl ⟨rfl, rfl⟩, by refine ⟨by decide, by decide, by decide, by decide⟩⟩
  · exact ⟨.inr (.inl ⟨rfl, rfl⟩), by refine ⟨by decide, by decide, by decide, by decide⟩⟩
  · exact ⟨.inr (.inr (.inl ⟨rfl, rfl⟩)), by refine ⟨by decide, by decide, by decide, by decide⟩⟩
  · exact ⟨.inr (.inr (.inr (.inl ⟨rfl, rfl⟩))), by refine ⟨by decide, by decide, by decide, by decide⟩⟩
  · exact ⟨.inr (.inr (.inr (.inr (.inl ⟨rfl, rfl⟩)))), by refine ⟨by decide, by decide, by decide, by decide⟩⟩
  · exact ⟨.inr (.inr (.inr (.inr (.inr ⟨rfl, rfl⟩)))), by refine ⟨by decide, by decide, by decide, by decide⟩⟩

/-- A printed term stands there. -/
theorem textT_reads {s : ByteArray} : ∀ (d : Nat) (t : Tm) (p : Nat), GoodT d t → Has s p (textT d t) → Stop s (p + (textT d t).length) → RT s d t p (p + (textT d t).length)
  | 0, _, _, h, _, _ => absurd h (by simp [GoodT])
  | d + 1, t, p, .inl ⟨h1, h2, h3, h4, h5⟩, h, hst => by
    unfold textT at h hst ⊢
    rw [if_pos h1] at h hst ⊢
    exact .inl ⟨h1, h2, h3, h4, has_idx h5 h hst⟩
  | d + 1, t, p, .inr ⟨k1, k2, h3, h4, h5, h6, h7, h8, h9, h10⟩, h, hst => by
    have hk : t.kd ≠ 0 := by omega
    obtain ⟨hkind, hnm⟩ := tword_kind k1 k2
    unfold textT at h hst ⊢
    rw [if_neg hk] at h hst ⊢
    have hx : t.open_ ++ spaced Lv.text t.ls ++ spaced (textT d) t.ts ++ [41] = 40 :: ((tword t.kd).data.toList ++ ((if t.kd = 2 then 32 :: t.nm.data.toList else []) ++ (spaced Lv.text t.ls ++ (spaced (textT d) t.ts ++ [41])))) := by
      unfold Tm.open_
      simp
    rw [hx] at h hst ⊢
    have g1 := h.head.2.2
    have g2 := g1.right
    have g3 := g2.right
    have g4 := g3.right
    have g5 := g4.right
    have ew : (tword t.kd).data.toList.length = (tword t.kd).size := by rw [Array.length_toList]; rfl
    have en : t.nm.data.toList.length = t.nm.size := by rw [Array.length_toList]; rfl
    generalize hN : (if t.kd = 2 then 32 :: t.nm.data.toList else []) = nmt at *
    have el : p + (40 :: ((tword t.kd).data.toList ++ (nmt ++ (spaced Lv.text t.ls ++ (spaced (textT d) t.ts ++ [41]))))).length = p + 1 + (tword t.kd).data.toList.length + nmt.length + (spaced Lv.text t.ls).length + (spaced (textT d) t.ts).length + 1 := by
      simp only [List.length_cons, List.length_append, List.length_nil]; omega
    rw [el]
    have s5 : Stop s (p + 1 + (tword t.kd).data.toList.length + nmt.length + (spaced Lv.text t.ls).length + (spaced (textT d) t.ts).length) := Stop.of (c := 41) g5.head.2.1 (.inr (.inl rfl))
    have s4 : Stop s (p + 1 + (tword t.kd).data.toList.length + nmt.length + (spaced Lv.text t.ls).length) := spaced_stop (f := textT d) t.ts g4 (fun e => by simpa [e, spaced] using s5)
    have s3 : Stop s (p + 1 + (tword t.kd).data.toList.length + nmt.length) := spaced_stop (f := Lv.text) t.ls g3 (fun e => by simpa [e, spaced] using s4)
    have s2 : Stop s (p + 1 + (tword t.kd).data.toList.length) := by
      by_cases h2 : t.kd = 2
      · rw [if_pos h2] at hN
        rw [← hN] at g2
        exact Stop.of (c := 32) (by exact (Has.head (u := t.nm.data.toList ++ (spaced Lv.text t.ls ++ (spaced (textT d) t.ts ++ [41]))) g2).2.1) (.inl rfl)
      · rw [if_neg h2] at hN
        rw [← hN] at s3
        simpa using s3
    have hlev := levels_text t.ls _ h8 g3.left s4
    have hter := terms_text (fun t p => textT_reads d t p) t.ts _ h10 g4.left s5
    have hshut := has_sign g5 (by decide)
    have hword : WordAt s (tword t.kd) (p + 1) (p + 1 + (tword t.kd).data.toList.length) := by
      rw [ew]
      exact has_word hnm g1.left (by rw [← ew]; exact s2)
    refine .inr ⟨p + 1, p + 1 + (tword t.kd).data.toList.length, p + 1 + (tword t.kd).data.toList.length + nmt.length, p + 1 + (tword t.kd).data.toList.length + nmt.length + (spaced Lv.text t.ls).length, p + 1 + (tword t.kd).data.toList.length + nmt.length + (spaced Lv.text t.ls).length + (spaced (textT d) t.ts).length, tword t.kd, has_sign h (by decide), hword, hkind, h3, ?_, ?_, hter, h9, hshut⟩
    · by_cases h2 : t.kd = 2
      · rw [if_pos h2] at hN
        subst hN
        refine .inl ⟨h2, ?_⟩
        have g2' : Has s (p + 1 + (tword t.kd).data.toList.length) (32 :: (t.nm.data.toList ++ (spaced Lv.text t.ls ++ (spaced (textT d) t.ts ++ [41])))) := g2
        have e1 : p + 1 + (tword t.kd).data.toList.length + (32 :: t.nm.data.toList).length = p + 1 + (tword t.kd).data.toList.length + 1 + t.nm.size := by rw [List.length_cons, en]; omega
        rw [e1]
        exact WordAt.ahead (has_blank g2') (has_word (h4 h2) g2'.head.2.2.left (by rw [← e1]; exact s3))
      · rw [if_neg h2] at hN
        subst hN
        exact .inr ⟨h2, h5 h2, by simp⟩
    · by_cases h2 : t.kd = 2
      · refine .inr (.inl ⟨h2, hlev, ?_⟩)
        have ht0 : t.ts = [] := List.length_eq_zero_iff.1 (by rw [h9, h2]; rfl)
        rw [ht0] at g4
        exact shut_tok (has_sign (c := 41) (u := []) (by simpa [spaced] using g4) (by decide))
      · by_cases hk1 : t.kd = 1
        · obtain ⟨l, hl⟩ := h6 hk1
          rw [hl] at hlev ⊢
          obtain ⟨x, hr, hx⟩ := hlev
          have hx' : _ = x := hx
          rw [hx']
          exact .inl ⟨hk1, l, rfl, hr⟩
        · have hl := h7 hk1 h2
          rw [hl]
          exact .inr (.inr ⟨hk1, h2, rfl, by simp [spaced]⟩)

/-- The whole of a printed term's text. -/
theorem textT_right {d : Nat} {t : Tm} (h : GoodT d t) : RT ⟨(textT d t).toArray⟩ d t 0 (textT d t).length ∧ runTo blankB ⟨(textT d t).toArray⟩ (textT d t).length = (⟨(textT d t).toArray⟩ : ByteArray).size := by
  have hsz : (⟨(textT d t).toArray⟩ : ByteArray).size = (textT d t).length := rfl
  have hr := textT_reads (s := ⟨(textT d t).toArray⟩) d t 0 h (has_all _) (Stop.of (c := 0) (at_end (by rw [hsz]; omega)) (.inr (.inr (.inr rfl))))
  rw [Nat.zero_add] at hr
  refine ⟨hr, ?_⟩
  rw [runTo_end (by rw [hsz]; omega), hsz]

end Go.Proofs.YtjlibnijecdgcaaGreatDoor
