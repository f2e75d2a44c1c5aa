/- Declarations: how they stand in a text, their text, and that a printed one is read again. Plain Lean, no walk. -/
import Derived.Test.YtkgkmlikpljbiaaDoorBack
import Derived.Test.YtkgkmlikpljbiaaDoorNumber

namespace Go.Proofs.YtkgkmlikpljbiaaDoor
open Go.RowKit

/-- The zero term. -/
abbrev zeroT : Tm := .node 0 0 ⟨#[]⟩ [] []
/-- A declaration. -/
structure Dc where
  kd : Nat
  nm : ByteArray
  ps : List ByteArray
  ty : Tm
  vl : Tm
  ar : Nat
  cs : List (ByteArray × Tm)

def dword : Nat → ByteArray
  | 1 => ⟨#[97, 120, 105, 111, 109]⟩
  | 2 => ⟨#[100, 101, 102]⟩
  | 3 => ⟨#[105, 110, 100, 117, 99, 116, 105, 118, 101]⟩
  | _ => ⟨#[]⟩
def cword : ByteArray := ⟨#[99, 116, 111, 114]⟩

/-- A word of declarations, and its kind. -/
def DKind (q : ByteArray) (kd : Nat) : Prop := 1 ≤ kd ∧ kd ≤ 3 ∧ q = dword kd

/-- Names stand there, one behind the other. -/
def NamesAt (s : ByteArray) : List ByteArray → Nat → Nat → Prop
  | [], p, p' => p' = p
  | q :: qs, p, p' => ∃ p1, WordAt s q p p1 ∧ NamesAt s qs p1 p'
/-- Names in brackets. -/
def ParamsAt (s : ByteArray) (ps : List ByteArray) (p p' : Nat) : Prop := ∃ p1 p2, SignAt s 40 p p1 ∧ NamesAt s ps p1 p2 ∧ SignAt s 41 p2 p'
/-- A number of at most 99 stands there. -/
def NumAt (s : ByteArray) (n p p' : Nat) : Prop := runTo blankB s p < s.size ∧ digitB (at_ s (runTo blankB s p)) = true ∧ p' = digitEnd s (runTo blankB s p) ∧ numOf (s.extract (runTo blankB s p) p') 99 = some (n : Int)
/-- A constructor stands there. -/
def CtorAt (s : ByteArray) (D : Nat) (c : ByteArray × Tm) (p p' : Nat) : Prop := ∃ p1 p2 p3 p4, SignAt s 40 p p1 ∧ WordAt s cword p1 p2 ∧ WordAt s c.1 p2 p3 ∧ RT s D c.2 p3 p4 ∧ SignAt s 41 p4 p'
def CtorsAt (s : ByteArray) (D : Nat) : List (ByteArray × Tm) → Nat → Nat → Prop
  | [], p, p' => p' = p
  | c :: cs, p, p' => ∃ p1, CtorAt s D c p p1 ∧ CtorsAt s D cs p1 p'
/-- A declaration stands there. -/
def DeclAt (s : ByteArray) (D : Nat) (d : Dc) (p p' : Nat) : Prop := ∃ p1 p2 p3 p4 p5 p6 p7 p8, SignAt s 40 p p1 ∧ (1 ≤ d.kd ∧ d.kd ≤ 3) ∧ WordAt s (dword d.kd) p1 p2 ∧ WordAt s d.nm p2 p3 ∧ ParamsAt s d.ps p3 p4 ∧
  ((d.kd = 3 ∧ NumAt s d.ar p4 p5) ∨ (d.kd ≠ 3 ∧ d.ar = 0 ∧ p5 = p4)) ∧ RT s D d.ty p5 p6 ∧ ((d.kd = 2 ∧ RT s D d.vl p6 p7) ∨ (d.kd ≠ 2 ∧ d.vl = zeroT ∧ p7 = p6)) ∧ ((d.kd = 3 ∧ CtorsAt s D d.cs p7 p8) ∨ (d.kd ≠ 3 ∧ d.cs = [] ∧ p8 = p7)) ∧ SignAt s 41 p8 p'
def DeclsAt (s : ByteArray) (D : Nat) : List Dc → Nat → Nat → Prop
  | [], p, p' => p' = p
  | d :: ds, p, p' => ∃ p1, DeclAt s D d p p1 ∧ DeclsAt s D ds p1 p'

/-- Texts, a blank between two. -/
def joinS : List (List UInt8) → List UInt8
  | [] => []
  | x :: xs => x ++ spaced id xs
def inB (xs : List (List UInt8)) : List UInt8 := 40 :: (joinS xs ++ [41])
def ctext (D : Nat) (c : ByteArray × Tm) : List UInt8 := inB [cword.data.toList, c.1.data.toList, textT D c.2]
def dparts (D : Nat) (d : Dc) : List (List UInt8) := dword d.kd |>.data.toList |> fun w => [w, d.nm.data.toList, inB (d.ps.map fun q => q.data.toList)] ++ ((if d.kd = 3 then [Lib.decDigits d.ar] else []) ++ (textT D d.ty :: ((if d.kd = 2 then [textT D d.vl] else []) ++ (if d.kd = 3 then d.cs.map (ctext D) else []))))
def dtext (D : Nat) (d : Dc) : List UInt8 := inB (dparts D d)
def ftext (D : Nat) (ds : List Dc) : List UInt8 := ds.flatMap fun d => dtext D d ++ [10]

/-- A declaration as one that was read. -/
structure GoodD (D : Nat) (d : Dc) : Prop where
  k1 : 1 ≤ d.kd
  k3 : d.kd ≤ 3
  nm : Nm d.nm
  ps : ∀ q ∈ d.ps, Nm q
  ar : d.ar ≤ 99
  ar0 : d.kd ≠ 3 → d.ar = 0
  ty : GoodT D d.ty
  vl : d.kd = 2 → GoodT D d.vl
  vl0 : d.kd ≠ 2 → d.vl = zeroT
  cs : ∀ c ∈ d.cs, Nm c.1 ∧ GoodT D c.2
  cs0 : d.kd ≠ 3 → d.cs = []

theorem NamesAt.nm {s : ByteArray} : ∀ {qs : List ByteArray} {p p' : Nat}, NamesAt s qs p p' → ∀ q ∈ qs, Nm q
  | [], _, _, _, _, h => absurd h (by simp)
  | a :: qs, _, _, ⟨_, h1, h2⟩, q, hq => by
    rcases List.mem_cons.1 hq with rfl | hq
    · exact h1.nm
    · exact NamesAt.nm h2 q hq
theorem CtorsAt.good {s : ByteArray} {D : Nat} : ∀ {cs : List (ByteArray × Tm)} {p p' : Nat}, CtorsAt s D cs p p' → ∀ c ∈ cs, Nm c.1 ∧ GoodT D c.2
  | [], _, _, _, _, h => absurd h (by simp)
  | a :: cs, _, _, ⟨_, ⟨_, _, _, _, _, _, h3, h4, _⟩, h2⟩, c, hc => by
    rcases List.mem_cons.1 hc with rfl | hc
    · exact ⟨h3.nm, h4.good⟩
    · exact CtorsAt.good h2 c hc
theorem numOf_le {d : ByteArray} {n : Nat} (h : numOf d 99 = some (n : Int)) : n ≤ 99 := by
  unfold numOf at h
  split at h
  · cases h
  · split at h
    · split at h
      · cases h
      · injection h with h; omega
    · cases h
theorem DeclAt.good {s : ByteArray} {D : Nat} {d : Dc} {p p' : Nat} (h : DeclAt s D d p p') : GoodD D d := by
  obtain ⟨p1, p2, p3, p4, p5, p6, p7, p8, h1, ⟨k1, k3⟩, h2, h3, ⟨x, y, _, hp, _⟩, h5, h6, h7, h8, _⟩ := h
  refine ⟨k1, k3, h3.nm, hp.nm, ?_, ?_, h6.good, ?_, ?_, ?_, ?_⟩
  · rcases h5 with ⟨_, h⟩ | ⟨_, h, _⟩
    · exact numOf_le h.2.2.2
    · omega
  · rcases h5 with ⟨hk, _⟩ | ⟨_, h, _⟩
    · exact fun hn => absurd hk hn
    · exact fun _ => h
  · rcases h7 with ⟨_, h⟩ | ⟨hk, _⟩
    · exact fun _ => h.good
    · exact fun hn => absurd hn hk
  · rcases h7 with ⟨hk, _⟩ | ⟨_, h, _⟩
    · exact fun hn => absurd hk hn
    · exact fun _ => h
  · rcases h8 with ⟨_, h⟩ | ⟨_, h, _⟩
    · exact h.good
    · rw [h]; simp
  · rcases h8 with ⟨hk, _⟩ | ⟨_, h, _⟩
    · exact fun hn => absurd hk hn
    · exact fun _ => h

theorem dword_nm {k : Nat} (h1 : 1 ≤ k) (h3 : k ≤ 3) : Nm (dword k) := by
  have : k = 1 ∨ k = 2 ∨ k = 3 := by omega
  rcases this with rfl | rfl | rfl
  · refine ⟨by decide, by decide, by decide, by decide⟩
  · refine ⟨by decide, by decide, by decide, by decide⟩
  · refine ⟨by decide, by decide, by decide, by decide⟩
theorem cword_nm : Nm cword := by refine ⟨by decide, by decide, by decide, by decide⟩

theorem len_data (q : ByteArray) : q.data.toList.length = q.size := by rw [Array.length_toList]; rfl

/-- A name at the head of what stands there. -/
theorem word_here {s q : ByteArray} {p : Nat} {u : List UInt8} (hq : Nm q) (h : Has s p (q.data.toList ++ u)) (hst : Stop s (p + q.data.toList.length)) : WordAt s q p (p + q.data.toList.length) := by
  rw [len_data] at hst ⊢
  exact has_word hq h.left hst

/-- Names behind blanks. -/
theorem names_text {s : ByteArray} : ∀ (qs : List ByteArray) (p : Nat), (∀ q ∈ qs, Nm q) → Has s p (spaced id (qs.map fun q => q.data.toList)) → Stop s (p + (spaced id (qs.map fun q => q.data.toList)).length) → NamesAt s qs p (p + (spaced id (qs.map fun q => q.data.toList)).length)
  | [], _, _, _, _ => rfl
  | q :: qs, p, hn, h, hst => by
    rw [List.map_cons, spaced_cons] at h hst ⊢
    have h1 := h.head.2.2
    have h2 := h1.right
    have el : p + (32 :: (id q.data.toList ++ spaced id (qs.map fun q => q.data.toList))).length = p + 1 + q.data.toList.length + (spaced id (qs.map fun q => q.data.toList)).length := by simp only [List.length_cons, List.length_append, id]; omega
    rw [el] at hst ⊢
    have hs2 : Stop s (p + 1 + q.data.toList.length) := spaced_stop (f := id) (qs.map fun q => q.data.toList) (u := []) (by rw [List.append_nil]; exact h2) (fun e => by simpa [e, spaced] using hst)
    exact ⟨p + 1 + q.data.toList.length, WordAt.ahead (has_blank h) (word_here (hn q (by simp)) h1 hs2), names_text qs _ (fun x hx => hn x (by simp [hx])) h2 hst⟩

theorem NamesAt.of_join {s : ByteArray} : ∀ (qs : List ByteArray) (p : Nat), (∀ q ∈ qs, Nm q) → Has s p (joinS (qs.map fun q => q.data.toList)) → Stop s (p + (joinS (qs.map fun q => q.data.toList)).length) → NamesAt s qs p (p + (joinS (qs.map fun q => q.data.toList)).length)
  | [], _, _, _, _ => rfl
  | q :: qs, p, hn, h, hst => by
    have e : joinS ((q :: qs).map fun q => q.data.toList) = q.data.toList ++ spaced id (qs.map fun q => q.data.toList) := rfl
    rw [e] at h hst ⊢
    have h2 := h.right
    have el : p + (q.data.toList ++ spaced id (qs.map fun q => q.data.toList)).length = p + q.data.toList.length + (spaced id (qs.map fun q => q.data.toList)).length := by simp only [List.length_append]; omega
    rw [el] at hst ⊢
    have hs2 : Stop s (p + q.data.toList.length) := spaced_stop (f := id) (qs.map fun q => q.data.toList) (u := []) (by rw [List.append_nil]; exact h2) (fun e => by simpa [e, spaced] using hst)
    exact ⟨p + q.data.toList.length, word_here (hn q (by simp)) h hs2, names_text qs _ (fun x hx => hn x (by simp [hx])) h2 hst⟩

theorem params_text {s : ByteArray} {qs : List ByteArray} {p : Nat} (hn : ∀ q ∈ qs, Nm q) (h : Has s p (inB (qs.map fun q => q.data.toList))) : ParamsAt s qs p (p + (inB (qs.map fun q => q.data.toList)).length) := by
  unfold inB at h ⊢
  have h1 := h.head.2.2
  have h2 := h1.right
  have el : p + (40 :: (joinS (qs.map fun q => q.data.toList) ++ [41])).length = p + 1 + (joinS (qs.map fun q => q.data.toList)).length + 1 := by simp only [List.length_cons, List.length_append, List.length_nil]; omega
  rw [el]
  exact ⟨p + 1, _, has_sign h (by decide), NamesAt.of_join qs (p + 1) hn h1.left (Stop.of (c := 41) h2.head.2.1 (.inr (.inl rfl))), has_sign h2 (by decide)⟩

theorem ParamsAt.ahead {s : ByteArray} {ps : List ByteArray} {p p1 p' : Nat} (h : runTo blankB s p = runTo blankB s p1) (hs : ParamsAt s ps p1 p') : ParamsAt s ps p p' := by
  obtain ⟨x, y, h1, h2⟩ := hs
  exact ⟨x, y, h1.ahead h, h2⟩
theorem NumAt.ahead {s : ByteArray} {n p p1 p' : Nat} (h : runTo blankB s p = runTo blankB s p1) (hs : NumAt s n p1 p') : NumAt s n p p' := by unfold NumAt at *; rw [h]; exact hs
theorem CtorAt.ahead {s : ByteArray} {D : Nat} {c : ByteArray × Tm} {p p1 p' : Nat} (h : runTo blankB s p = runTo blankB s p1) (hs : CtorAt s D c p1 p') : CtorAt s D c p p' := by
  obtain ⟨x, y, z, u, h1, h2⟩ := hs
  exact ⟨x, y, z, u, h1.ahead h, h2⟩
theorem DeclAt.ahead {s : ByteArray} {D : Nat} {d : Dc} {p p1 p' : Nat} (h : runTo blankB s p = runTo blankB s p1) (hs : DeclAt s D d p1 p') : DeclAt s D d p p' := by
  obtain ⟨x1, x2, x3, x4, x5, x6, x7, x8, h1, h2⟩ := hs
  exact ⟨x1, x2, x3, x4, x5, x6, x7, x8, h1.ahead h, h2⟩

/-- What a small number's digits mean. -/
theorem num_small (n : Nat) (hn : n ≤ 99) : numOf ⟨(Lib.decDigits n).toArray⟩ 99 = some (n : Int) := by
  have : n = 0 ∨ n = 1 ∨ n = 2 ∨ n = 3 ∨ n = 4 ∨ n = 5 ∨ n = 6 ∨ n = 7 ∨ n = 8 ∨ n = 9 ∨ 10 ≤ n := by omega
  by_cases h1 : n < 10
  · rw [Lib.decDigits_one h1]
    rcases this with rfl | rfl | rfl | rfl | rfl | rfl | rfl | rfl | rfl | rfl | h
    all_goals first | (exact absurd h (by omega)) | decide
  · have h2 : n < 100 := by omega
    rw [Lib.decDigits_two h1 h2]
    have key : ∀ k : Fin 100, 10 ≤ k.val → numOf ⟨([UInt8.ofNat (48 + k.val / 10), UInt8.ofNat (48 + k.val % 10)] : List UInt8).toArray⟩ 99 = some ((k.val : Nat) : Int) := by decide
    exact key ⟨n, h2⟩ (by show 10 ≤ n; omega)

theorem num_text {s : ByteArray} {n p : Nat} (hn : n ≤ 99) (h : Has s p (Lib.decDigits n)) (hst : Stop s (p + (Lib.decDigits n).length)) : NumAt s n p (p + (Lib.decDigits n).length) := by
  obtain ⟨c, r, ec, _⟩ := dec_first n
  have hd := dec_digs n
  have h0 : at_ s p = c.toNat := by rw [ec] at h; exact h.head.2.1
  have hc := hd c (by rw [ec]; simp)
  have hlt : p < s.size := by have := h.1; rw [ec] at this; simp at this; omega
  have hb : runTo blankB s p = p := runTo_stop (by rw [h0]; simp [blankB]; omega)
  have hpos : 0 < (Lib.decDigits n).length := by rw [ec]; simp
  have hend : digitEnd s p = p + (Lib.decDigits n).length := by
    show runTo digitB s (p + 1) = _
    have hr := runTo_run (f := digitB) (s := s) ((Lib.decDigits n).length - 1) (p + 1) (by have := h.1; omega) fun i hi => by
      have e : p + 1 + i = p + (i + 1) := by omega
      rw [e, h.2 (i + 1) (by omega)]
      have := hd _ (List.getElem_mem (l := Lib.decDigits n) (n := i + 1) (by omega))
      simp [digitB]
      omega
    rw [hr, show p + 1 + ((Lib.decDigits n).length - 1) = p + (Lib.decDigits n).length by omega, runTo_stop hst.2]
  unfold NumAt
  rw [hb]
  refine ⟨hlt, by rw [h0]; simp [digitB]; omega, hend.symm, ?_⟩
  have hx : s.extract p (p + (Lib.decDigits n).length) = ⟨(Lib.decDigits n).toArray⟩ := by
    rw [ByteArray.ext_iff]
    exact Array.ext' ((has_extract h).trans (by simp))
  rw [hx]
  exact num_small n hn

theorem ctor_text {s : ByteArray} {D : Nat} {c : ByteArray × Tm} {p : Nat} (hn : Nm c.1) (hg : GoodT D c.2) (h : Has s p (ctext D c)) : CtorAt s D c p (p + (ctext D c).length) := by
  have hx : ctext D c = 40 :: (cword.data.toList ++ (32 :: (c.1.data.toList ++ (32 :: (textT D c.2 ++ [41]))))) := by simp [ctext, inB, joinS, spaced]
  rw [hx] at h ⊢
  have g1 := h.head.2.2
  have g2 := g1.right
  have g3 := g2.head.2.2
  have g4 := g3.right
  have g5 := g4.head.2.2
  have g6 := g5.right
  have el : p + (40 :: (cword.data.toList ++ (32 :: (c.1.data.toList ++ (32 :: (textT D c.2 ++ [41])))))).length = p + 1 + cword.data.toList.length + 1 + c.1.data.toList.length + 1 + (textT D c.2).length + 1 := by simp only [List.length_cons, List.length_append, List.length_nil]; omega
  rw [el]
  exact ⟨_, _, _, _, has_sign h (by decide), word_here cword_nm g1 (Stop.of (c := 32) g2.head.2.1 (.inl rfl)), WordAt.ahead (has_blank g2) (word_here hn g3 (Stop.of (c := 32) g4.head.2.1 (.inl rfl))),
    RT.ahead (has_blank g4) (textT_reads D c.2 _ hg g5.left (Stop.of (c := 41) g6.head.2.1 (.inr (.inl rfl)))), has_sign g6 (by decide)⟩

theorem ctors_text {s : ByteArray} {D : Nat} : ∀ (cs : List (ByteArray × Tm)) (p : Nat), (∀ c ∈ cs, Nm c.1 ∧ GoodT D c.2) → Has s p (spaced id (cs.map (ctext D))) → CtorsAt s D cs p (p + (spaced id (cs.map (ctext D))).length)
  | [], _, _, _ => rfl
  | c :: cs, p, hn, h => by
    rw [List.map_cons, spaced_cons] at h ⊢
    have h1 := h.head.2.2
    have h2 := h1.right
    have el : p + (32 :: (id (ctext D c) ++ spaced id (cs.map (ctext D)))).length = p + 1 + (ctext D c).length + (spaced id (cs.map (ctext D))).length := by simp only [List.length_cons, List.length_append, id]; omega
    rw [el]
    exact ⟨_, CtorAt.ahead (has_blank h) (ctor_text (hn c (by simp)).1 (hn c (by simp)).2 h1.left), ctors_text cs _ (fun x hx => hn x (by simp [hx])) h2⟩

theorem spaced_app {α : Type} (f : α → List UInt8) (xs ys : List α) : spaced f (xs ++ ys) = spaced f xs ++ spaced f ys := by unfold spaced; rw [List.flatMap_append]

/-- A printed declaration stands there. -/
theorem decl_text {s : ByteArray} {D : Nat} {d : Dc} {p : Nat} (hg : GoodD D d) (h : Has s p (dtext D d)) : DeclAt s D d p (p + (dtext D d).length) := by
  obtain ⟨A, hA⟩ : ∃ A, A = spaced id (if d.kd = 3 then [Lib.decDigits d.ar] else []) := ⟨_, rfl⟩
  obtain ⟨B, hB⟩ : ∃ B, B = spaced id (if d.kd = 2 then [textT D d.vl] else []) := ⟨_, rfl⟩
  obtain ⟨C, hC⟩ : ∃ C, C = spaced id (if d.kd = 3 then d.cs.map (ctext D) else []) := ⟨_, rfl⟩
  have hx : dtext D d = 40 :: ((dword d.kd).data.toList ++ (32 :: (d.nm.data.toList ++ (32 :: (inB (d.ps.map fun q => q.data.toList) ++ (A ++ (32 :: (textT D d.ty ++ (B ++ (C ++ [41])))))))))) := by
    rw [hA, hB, hC]
    unfold dtext dparts
    have e1 : ∀ w n q : List UInt8, ∀ X Y Z : List (List UInt8), ∀ t : List UInt8, inB ([w, n, q] ++ (X ++ (t :: (Y ++ Z)))) = 40 :: (w ++ (32 :: (n ++ (32 :: (q ++ (spaced id X ++ (32 :: (t ++ (spaced id Y ++ (spaced id Z ++ [41])))))))))) := by
      intro w n q X Y Z t
      show 40 :: ((w ++ spaced id (n :: q :: (X ++ (t :: (Y ++ Z))))) ++ [41]) = _
      rw [spaced_cons, spaced_cons, spaced_app, spaced_cons, spaced_app]
      simp
    exact e1 _ _ _ _ _ _ _
  rw [hx] at h ⊢
  have g1 := h.head.2.2
  have g2 := g1.right
  have g3 := g2.head.2.2
  have g4 := g3.right
  have g5 := g4.head.2.2
  have g6 := g5.right
  have g7 := g6.right
  have g8 := g7.head.2.2
  have g9 := g8.right
  have g10 := g9.right
  have g11 := g10.right
  have el : p + (40 :: ((dword d.kd).data.toList ++ (32 :: (d.nm.data.toList ++ (32 :: (inB (d.ps.map fun q => q.data.toList) ++ (A ++ (32 :: (textT D d.ty ++ (B ++ (C ++ [41]))))))))))).length = p + 1 + (dword d.kd).data.toList.length + 1 + d.nm.data.toList.length + 1 + (inB (d.ps.map fun q => q.data.toList)).length + A.length + 1 + (textT D d.ty).length + B.length + C.length + 1 := by
    simp only [List.length_cons, List.length_append, List.length_nil]; omega
  rw [el]
  have s11 : Stop s (p + 1 + (dword d.kd).data.toList.length + 1 + d.nm.data.toList.length + 1 + (inB (d.ps.map fun q => q.data.toList)).length + A.length + 1 + (textT D d.ty).length + B.length + C.length) := Stop.of (c := 41) g11.head.2.1 (.inr (.inl rfl))
  have s10 : Stop s (p + 1 + (dword d.kd).data.toList.length + 1 + d.nm.data.toList.length + 1 + (inB (d.ps.map fun q => q.data.toList)).length + A.length + 1 + (textT D d.ty).length + B.length) := by
    rw [hC] at g10
    refine spaced_stop (f := id) _ g10 fun e => ?_
    rw [hC, e] at s11
    simpa [spaced] using s11
  have s9 : Stop s (p + 1 + (dword d.kd).data.toList.length + 1 + d.nm.data.toList.length + 1 + (inB (d.ps.map fun q => q.data.toList)).length + A.length + 1 + (textT D d.ty).length) := by
    rw [hB] at g9
    refine spaced_stop (f := id) _ g9 fun e => ?_
    rw [hB, e] at s10
    simpa [spaced] using s10
  have s7 : Stop s (p + 1 + (dword d.kd).data.toList.length + 1 + d.nm.data.toList.length + 1 + (inB (d.ps.map fun q => q.data.toList)).length + A.length) := Stop.of (c := 32) g7.head.2.1 (.inl rfl)
  refine ⟨_, _, _, _, p + 1 + (dword d.kd).data.toList.length + 1 + d.nm.data.toList.length + 1 + (inB (d.ps.map fun q => q.data.toList)).length + A.length, _, p + 1 + (dword d.kd).data.toList.length + 1 + d.nm.data.toList.length + 1 + (inB (d.ps.map fun q => q.data.toList)).length + A.length + 1 + (textT D d.ty).length + B.length, p + 1 + (dword d.kd).data.toList.length + 1 + d.nm.data.toList.length + 1 + (inB (d.ps.map fun q => q.data.toList)).length + A.length + 1 + (textT D d.ty).length + B.length + C.length,
    has_sign h (by decide), ⟨hg.k1, hg.k3⟩, word_here (dword_nm hg.k1 hg.k3) g1 (Stop.of (c := 32) g2.head.2.1 (.inl rfl)), WordAt.ahead (has_blank g2) (word_here hg.nm g3 (Stop.of (c := 32) g4.head.2.1 (.inl rfl))),
    ParamsAt.ahead (has_blank g4) (params_text hg.ps g5.left), ?_, RT.ahead (has_blank g7) (textT_reads D d.ty _ hg.ty g8.left s9), ?_, ?_, has_sign g11 (by decide)⟩
  · by_cases hk : d.kd = 3
    · rw [if_pos hk] at hA
      refine .inl ⟨hk, ?_⟩
      have e : A = 32 :: Lib.decDigits d.ar := by rw [hA]; simp [spaced]
      rw [e] at g6 s7 ⊢
      have g6' : Has s (p + 1 + (dword d.kd).data.toList.length + 1 + d.nm.data.toList.length + 1 + (inB (d.ps.map fun q => q.data.toList)).length) (32 :: (Lib.decDigits d.ar ++ (32 :: (textT D d.ty ++ (B ++ (C ++ [41])))))) := g6
      have e1 : p + 1 + (dword d.kd).data.toList.length + 1 + d.nm.data.toList.length + 1 + (inB (d.ps.map fun q => q.data.toList)).length + (32 :: Lib.decDigits d.ar).length = p + 1 + (dword d.kd).data.toList.length + 1 + d.nm.data.toList.length + 1 + (inB (d.ps.map fun q => q.data.toList)).length + 1 + (Lib.decDigits d.ar).length := by rw [List.length_cons]; omega
      rw [e1] at s7 ⊢
      exact NumAt.ahead (has_blank g6') (num_text hg.ar g6'.head.2.2.left s7)
    · rw [if_neg hk] at hA
      have e : A = [] := by rw [hA]; rfl
      exact .inr ⟨hk, hg.ar0 hk, by rw [e]; rfl⟩
  · by_cases hk : d.kd = 2
    · rw [if_pos hk] at hB
      refine .inl ⟨hk, ?_⟩
      have e : B = 32 :: textT D d.vl := by rw [hB]; simp [spaced]
      rw [e] at g9 s10 ⊢
      have g9' : Has s (p + 1 + (dword d.kd).data.toList.length + 1 + d.nm.data.toList.length + 1 + (inB (d.ps.map fun q => q.data.toList)).length + A.length + 1 + (textT D d.ty).length) (32 :: (textT D d.vl ++ (C ++ [41]))) := g9
      have e1 : p + 1 + (dword d.kd).data.toList.length + 1 + d.nm.data.toList.length + 1 + (inB (d.ps.map fun q => q.data.toList)).length + A.length + 1 + (textT D d.ty).length + (32 :: textT D d.vl).length = p + 1 + (dword d.kd).data.toList.length + 1 + d.nm.data.toList.length + 1 + (inB (d.ps.map fun q => q.data.toList)).length + A.length + 1 + (textT D d.ty).length + 1 + (textT D d.vl).length := by rw [List.length_cons]; omega
      rw [e1] at s10 ⊢
      exact RT.ahead (has_blank g9') (textT_reads D d.vl _ (hg.vl hk) g9'.head.2.2.left s10)
    · rw [if_neg hk] at hB
      have e : B = [] := by rw [hB]; rfl
      exact .inr ⟨hk, hg.vl0 hk, by rw [e]; rfl⟩
  · by_cases hk : d.kd = 3
    · rw [if_pos hk] at hC
      refine .inl ⟨hk, ?_⟩
      rw [hC] at g10 ⊢
      exact ctors_text d.cs _ hg.cs g10.left
    · rw [if_neg hk] at hC
      have e : C = [] := by rw [hC]; rfl
      exact .inr ⟨hk, hg.cs0 hk, by rw [e]; rfl⟩

/-- Printed declarations, each on a line. -/
theorem decls_text {s : ByteArray} {D : Nat} : ∀ (ds : List Dc) (p : Nat), (∀ d ∈ ds, GoodD D d) → Has s p (ftext D ds) → p + (ftext D ds).length = s.size → ∃ p', DeclsAt s D ds p p' ∧ runTo blankB s p' = s.size
  | [], p, _, _, e => ⟨p, rfl, by have e' : p = s.size := e; rw [e', runTo_end (Nat.le_refl _)]⟩
  | d :: ds, p, hg, h, e => by
    have hx : ftext D (d :: ds) = dtext D d ++ (10 :: ftext D ds) := by simp [ftext]
    rw [hx] at h e
    have h1 := decl_text (hg d (by simp)) h.left
    have g2 := h.right
    have hb : runTo blankB s (p + (dtext D d).length) = runTo blankB s (p + (dtext D d).length + 1) := runTo_step g2.head.1 (by rw [g2.head.2.1]; decide)
    obtain ⟨p', h3, h4⟩ := decls_text ds (p + (dtext D d).length + 1) (fun x hx => hg x (by simp [hx])) g2.head.2.2 (by simp only [List.length_append, List.length_cons] at e; omega)
    cases ds with
    | nil =>
      refine ⟨p + (dtext D d).length, ⟨_, h1, rfl⟩, ?_⟩
      have e' : p' = p + (dtext D d).length + 1 := h3
      rw [hb, ← e']
      exact h4
    | cons d2 ds =>
      obtain ⟨p2, h5, h6⟩ := h3
      exact ⟨p', ⟨_, h1, p2, h5.ahead hb, h6⟩, h4⟩

end Go.Proofs.YtkgkmlikpljbiaaDoor
