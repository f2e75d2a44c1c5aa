/- What is printed of the language, as lists of bytes: no walk. Each mirrors the document's. -/
import Derived.Test.YtekfledccpeblaaGreatDoorDn
import Derived.Lib.ItoaNum
import Derived.Test.YtekfledccpeblaaGreatDoorXm
import Derived.Shelf.Small.Strs

namespace Go.Proofs.YtekfledccpeblaaGreatDoor
open Go.RowKit

/-- In brackets. -/
def inBr (l : List UInt8) : List UInt8 := [40] ++ l ++ [41]
/-- A level's text where so many successors stand upon it, and whether it needs no brackets as an atom. -/
def lvGo : LvB → Nat → List UInt8 × Bool
  | .succ a, k => lvGo a (k + 1)
  | .zero, k => (Lib.decDigits k, true)
  | .param q, k => if k = 0 then (q.data.toList, true) else (q.data.toList ++ [43] ++ Lib.decDigits k, false)
  | .max a b, k =>
    let m := [109, 97, 120, 32] ++ (if (lvGo a 0).2 = true then (lvGo a 0).1 else inBr (lvGo a 0).1) ++ [32] ++ (if (lvGo b 0).2 = true then (lvGo b 0).1 else inBr (lvGo b 0).1)
    if k = 0 then (m, false) else (inBr m ++ [43] ++ Lib.decDigits k, false)
  | .imax a b, k =>
    let m := [105, 109, 97, 120, 32] ++ (if (lvGo a 0).2 = true then (lvGo a 0).1 else inBr (lvGo a 0).1) ++ [32] ++ (if (lvGo b 0).2 = true then (lvGo b 0).1 else inBr (lvGo b 0).1)
    if k = 0 then (m, false) else (inBr m ++ [43] ++ Lib.decDigits k, false)
def lvText (l : LvB) : List UInt8 := (lvGo l 0).1
def latText (l : LvB) : List UInt8 := if (lvGo l 0).2 = true then (lvGo l 0).1 else inBr (lvGo l 0).1

namespace Ex
def kd : Ex → Nat | .node k _ _ _ _ _ _ _ _ => k
def nm : Ex → ByteArray | .node _ _ q _ _ _ _ _ _ => q
def ex : Ex → Bool | .node _ _ _ b _ _ _ _ _ => b
def gi : Ex → Bool | .node _ _ _ _ b _ _ _ _ => b
def inf : Ex → Bool | .node _ _ _ _ _ b _ _ _ => b
def im : Ex → Bool | .node _ _ _ _ _ _ b _ _ => b
def ls : Ex → List LvB | .node _ _ _ _ _ _ _ l _ => l
def xs : Ex → List Ex | .node _ _ _ _ _ _ _ _ l => l
def x0 (e : Ex) : Ex := e.xs.getD 0 zeroX
def x1 (e : Ex) : Ex := e.xs.getD 1 zeroX
def x2 (e : Ex) : Ex := e.xs.getD 2 zeroX
end Ex
/-- Is it a = b? -/
def isEq (e : Ex) : Bool := e.kd == 4 && e.x0.kd == 4 && e.x0.x0.kd == 1 && e.x0.x0.inf
/-- How tightly it binds. -/
def tight (e : Ex) : Nat :=
  if isEq e = true then 2 else if e.kd = 4 then 3 else if e.kd = 6 ∧ e.nm.size = 0 then 1 else if e.kd = 5 ∨ e.kd = 6 ∨ e.kd = 7 then 0 else 4
/-- Texts one behind the other, with something between. -/
def joinT (q : List UInt8) : List (List UInt8) → List UInt8
  | [] => []
  | [x] => x
  | x :: y :: l => x ++ q ++ joinT q (y :: l)
def nameText (e : Ex) : List UInt8 := (if e.ex = true then [64] else []) ++ e.nm.data.toList ++ (if e.gi = true then [46, 123] ++ joinT [44, 32] (e.ls.map lvText) ++ [125] else [])
def sortText (l : LvB) : List UInt8 :=
  match l with
  | .zero => [80, 114, 111, 112]
  | .succ .zero => [84, 121, 112, 101]
  | l => [83, 111, 114, 116, 32] ++ latText l
def binderT (q : ByteArray) (im : Bool) (t : List UInt8) : List UInt8 :=
  if im = true then [123] ++ q.data.toList ++ [32, 58, 32] ++ t ++ [125] else [40] ++ q.data.toList ++ [32, 58, 32] ++ t ++ [41]
/-- An expression's text, to that depth. -/
def xtext : Nat → Ex → List UInt8
  | 0, _ => []
  | n + 1, e =>
    let op := fun (x : Ex) (k : Nat) => if tight x < k then inBr (xtext n x) else xtext n x
    if isEq e = true then op e.x0.x1 3 ++ [32, 61, 32] ++ op e.x1 3
    else if e.kd = 1 then nameText e
    else if e.kd = 2 then sortText (e.ls.getD 0 .zero)
    else if e.kd = 3 then [95]
    else if e.kd = 4 then op e.x0 3 ++ [32] ++ op e.x1 4
    else if e.kd = 5 then [102, 117, 110, 32] ++ binderT e.nm e.im (xtext n e.x0) ++ [32, 61, 62, 32] ++ xtext n e.x1
    else if e.kd = 6 then
      (if e.nm.size = 0 then op e.x0 2 ++ [32, 45, 62, 32] ++ xtext n e.x1 else [102, 111, 114, 97, 108, 108, 32] ++ binderT e.nm e.im (xtext n e.x0) ++ [44, 32] ++ xtext n e.x1)
    else if e.kd = 7 then [108, 101, 116, 32] ++ e.nm.data.toList ++ [32, 58, 32] ++ xtext n e.x0 ++ [32, 58, 61, 32] ++ xtext n e.x1 ++ [32, 105, 110, 32] ++ xtext n e.x2
    else [40] ++ xtext n e.x0 ++ [32, 58, 32] ++ xtext n e.x1 ++ [41]
def tacText (n : Nat) (t : Tc) : List UInt8 :=
  (tacWords.getD (t.kd - 1) ⟨#[]⟩).data.toList ++ (t.nms.flatMap fun q => [32] ++ q.data.toList) ++ (if t.kd = 9 then [32, 58] else []) ++ (if t.kd = 10 then [32] ++ Lib.decDigits t.num else []) ++ (t.xs.flatMap fun e => [32] ++ xtext n e)
def commText (n : Nat) (c : Cm) : List UInt8 :=
  (kindWords.getD (c.kd - 1) ⟨#[]⟩).data.toList ++ [32] ++ c.nm.data.toList
    ++ (if c.ps.isEmpty = true then [] else [46, 123] ++ joinT [44, 32] (c.ps.map fun q => q.data.toList) ++ [125])
    ++ (c.bs.flatMap fun b => [32] ++ binderT b.nm b.im (xtext n b.ty)) ++ [32, 58, 32] ++ xtext n c.ty
    ++ (if c.tac = true then (if c.tcs.isEmpty = true then [] else [32, 98, 121, 32] ++ joinT [59, 32] (c.tcs.map (tacText n))) else if c.kd = 2 ∨ c.kd = 3 then [32, 58, 61, 32] ++ xtext n c.vl else [])
    ++ (c.cts.flatMap fun k => [32, 124, 32] ++ k.nm.data.toList ++ [32, 58, 32] ++ xtext n k.ty) ++ [46, 10]
def fileText (n : Nat) (cs : List Cm) : List UInt8 := cs.flatMap (commText n)

end Go.Proofs.YtekfledccpeblaaGreatDoor

/- Tokens of a text in which something was printed: no walk. -/
namespace Go.Proofs.YtekfledccpeblaaGreatDoor
open Go.RowKit

/-- The state whose next token stands at or behind a place. -/
def FS.on (s : ByteArray) (p : Nat) : FS := ⟨(lex s p).1, (lex s p).2, 0, 0⟩
theorem FS.on_step (s : ByteArray) (p : Nat) : (FS.on s p).step s = FS.on s (lex s p).2 := rfl
theorem FS.on_is {s q : ByteArray} {p : Nat} : (FS.on s p).is q = ((lex s p).1.kd == 3 && decide ((lex s p).1.t = q)) := by
  unfold FS.is FS.on
  simp
theorem FS.on_kin {s : ByteArray} {p k : Nat} : (FS.on s p).kin k = ((lex s p).1.kd == k) := by
  unfold FS.kin FS.on
  simp

theorem has_part {s : ByteArray} {p : Nat} {t : List UInt8} (h : Has s p t) : (s.extract p (p + t.length)).data.toList = t := by
  have hl : (s.extract p (p + t.length)).data.toList.length = t.length := by
    have e : (s.extract p (p + t.length)).data.toList.length = (s.extract p (p + t.length)).size := by rw [Array.length_toList]; rfl
    rw [e, ByteArray.size_extract]
    have := h.1
    omega
  refine List.ext_getElem hl fun i h1 h2 => ?_
  have e1 := at_data (s.extract p (p + t.length)) i (by rw [Array.length_toList] at h1; exact h1)
  have e2 := at_extract (s := s) (a := p) (b := p + t.length) (i := i) h.1 (by omega)
  have e3 := h.2 i h2
  rw [e2, e3] at e1
  exact UInt8.toNat_inj.1 e1.symm
theorem lex_blank {s : ByteArray} {p : Nat} (h : p < s.size) (hb : blankB (at_ s p) = true) : lex s p = lex s (p + 1) := by
  unfold lex
  rw [skip_blank h hb]
theorem lex_here {s : ByteArray} {p : Nat} (h : p < s.size) (hb : blankB (at_ s p) = false) (hl : ¬ (p + 1 < s.size ∧ at_ s p = 45 ∧ at_ s (p + 1) = 45)) : lex s p = lexAt s p := by
  unfold lex
  rw [skip_stop hb hl, if_neg (by omega)]
theorem extract1 {s : ByteArray} {p : Nat} {c : UInt8} (h : Has s p [c]) : s.extract p (p + 1) = ⟨#[c]⟩ := by
  have := has_part h
  apply ByteArray.ext
  apply Array.ext'
  simpa using this
theorem extract2 {s : ByteArray} {p : Nat} {c d : UInt8} (h : Has s p [c, d]) : s.extract p (p + 2) = ⟨#[c, d]⟩ := by
  have := has_part h
  apply ByteArray.ext
  apply Array.ext'
  simpa using this
theorem extractL {s : ByteArray} {p : Nat} {q : ByteArray} (h : Has s p q.data.toList) : s.extract p (p + q.size) = q := by
  have := has_part h
  apply ByteArray.ext
  apply Array.ext'
  have e : q.data.toList.length = q.size := by rw [Array.length_toList]; rfl
  rw [e] at this
  exact this
/-- A sign of one byte. -/
theorem lex_one {s : ByteArray} {p : Nat} {c : UInt8} (h : Has s p [c]) (h1 : oneB c.toNat = true) (h2 : ¬ (p + 1 < s.size ∧ twoB c.toNat (at_ s (p + 1)) = true)) : lex s p = (⟨3, ⟨#[c]⟩, p⟩, p + 1) := by
  obtain ⟨hl, hc, _⟩ := h.head
  have h3 : alphaB c.toNat = false ∧ digitB c.toNat = false ∧ blankB c.toNat = false ∧ c.toNat ≠ 45 := by
    simp only [oneB, Bool.or_eq_true, beq_iff_eq] at h1
    simp only [alphaB, digitB, blankB, Bool.or_eq_false_iff, Bool.and_eq_false_iff, decide_eq_false_iff_not, beq_eq_false_iff_ne]
    omega
  rw [lex_here hl (by rw [hc]; exact h3.2.2.1) (by rw [hc]; omega)]
  unfold lexAt
  rw [hc, if_neg (by rw [h3.1]; simp), if_neg (by rw [h3.2.1]; simp), if_neg h2, if_pos h1, extract1 h]
/-- A sign of two bytes. -/
theorem lex_two {s : ByteArray} {p : Nat} {c d : UInt8} (h : Has s p [c, d]) (h1 : twoB c.toNat d.toNat = true) : lex s p = (⟨3, ⟨#[c, d]⟩, p⟩, p + 2) := by
  obtain ⟨hl, hc, h'⟩ := h.head
  obtain ⟨hl2, hd, _⟩ := h'.head
  have h3 : alphaB c.toNat = false ∧ digitB c.toNat = false ∧ blankB c.toNat = false ∧ ¬ (c.toNat = 45 ∧ d.toNat = 45) := by
    simp only [twoB, Bool.or_eq_true, Bool.and_eq_true, beq_iff_eq] at h1
    simp only [alphaB, digitB, blankB, Bool.or_eq_false_iff, Bool.and_eq_false_iff, decide_eq_false_iff_not, beq_eq_false_iff_ne]
    omega
  rw [lex_here hl (by rw [hc]; exact h3.2.2.1) (by rw [hc, hd]; exact fun x => h3.2.2.2 x.2)]
  unfold lexAt
  rw [hc, if_neg (by rw [h3.1]; simp), if_neg (by rw [h3.2.1]; simp), if_pos ⟨hl2, by rw [hd]; exact h1⟩, extract2 h]

theorem at_in {s q : ByteArray} {p i : Nat} (h : Has s p q.data.toList) (hi : i < q.size) : at_ s (p + i) = at_ q i := by
  have e : q.data.toList.length = q.size := by rw [Array.length_toList]; rfl
  have := h.2 i (by rw [e]; exact hi)
  rw [this]
  unfold at_
  rw [dif_pos hi]
  simp [ByteArray.getElem_eq_getElem_data]
theorem has_le {s q : ByteArray} {p : Nat} (h : Has s p q.data.toList) : p + q.size ≤ s.size := by
  have e : q.data.toList.length = q.size := by rw [Array.length_toList]; rfl
  have := h.1
  rw [e] at this
  exact this
/-- A run within what stands there. -/
theorem runTo_in {f : Nat → Bool} {s q : ByteArray} {p : Nat} (h : Has s p q.data.toList) (hb : p + q.size < s.size → f (at_ s (p + q.size)) = false) : ∀ (k i : Nat), q.size - i = k → i ≤ q.size → runTo f s (p + i) = p + runTo f q i
  | 0, i, hk, hi => by
    obtain rfl : i = q.size := by omega
    rw [runTo_end (s := q) (Nat.le_refl _)]
    by_cases hl : p + q.size < s.size
    · exact runTo_stop (hb hl)
    · exact runTo_end (by omega)
  | k + 1, i, hk, hi => by
    have hlt : i < q.size := by omega
    have hle := has_le h
    have ha := at_in h hlt
    cases hf : f (at_ q i) with
    | true => rw [runTo_step (by omega) (by rw [ha]; exact hf), runTo_step hlt hf]; exact runTo_in h hb k (i + 1) (by omega) (by omega)
    | false => rw [runTo_stop (by rw [ha]; exact hf), runTo_stop hf]
/-- A name's parts within what stands there. -/
theorem dots_in {s q : ByteArray} {p : Nat} (h : Has s p q.data.toList) (hb : p + q.size < s.size → partB (at_ s (p + q.size)) = false) (hd : ¬ (p + q.size + 1 < s.size ∧ at_ s (p + q.size) = 46 ∧ alphaB (at_ s (p + q.size + 1)) = true)) :
    ∀ (k i : Nat), q.size - i ≤ k → i ≤ q.size → dots s (p + i) = p + dots q i := by
  intro k
  induction k with
  | zero =>
    intro i hk hi
    obtain rfl : i = q.size := by omega
    rw [dots_stop hd, dots_stop (s := q) (by omega)]
  | succ k ih =>
    intro i hk hi
    by_cases he : i = q.size
    · subst he
      rw [dots_stop hd, dots_stop (s := q) (by omega)]
    have hle := has_le h
    have ha := at_in h (i := i) (by omega)
    by_cases h1 : i + 1 < q.size
    · have ha1 := at_in h h1
      by_cases hc : at_ q i = 46 ∧ alphaB (at_ q (i + 1)) = true
      · rw [dots_step (by omega) (by rw [ha]; exact hc.1) (by rw [show p + i + 1 = p + (i + 1) by omega, ha1]; exact hc.2), dots_step h1 hc.1 hc.2]
        have h2 := runTo_ge partB q (i + 1)
        have h3 := runTo_le partB q (k := i + 1) (by omega)
        rw [show p + i + 1 = p + (i + 1) by omega, runTo_in h hb _ (i + 1) rfl (by omega)]
        exact ih _ (by omega) h3
      · rw [dots_stop (by rw [ha, show p + i + 1 = p + (i + 1) by omega, ha1]; exact fun x => hc x.2), dots_stop (fun x => hc x.2)]
    · have hq : i + 1 = q.size := by omega
      rw [dots_stop (s := q) (by omega), dots_stop]
      rintro ⟨x1, x2, x3⟩
      rw [show p + i + 1 = p + q.size by omega] at x3
      have := hb (by omega)
      simp [partB, x3] at this
/-- A name: what is a token by itself. -/
structure LNm (q : ByteArray) : Prop where
  pos : 0 < q.size
  few : q.size ≤ 40
  first : alphaB (at_ q 0) = true
  whole : lnameEnd q 0 = q.size
  word : isWord q = false
/-- Behind a name: nothing that would make it longer. -/
def Ends (s : ByteArray) (p : Nat) : Prop := (p < s.size → partB (at_ s p) = false) ∧ ¬ (p + 1 < s.size ∧ at_ s p = 46 ∧ alphaB (at_ s (p + 1)) = true)
theorem lex_alpha {s q : ByteArray} {p : Nat} (h : Has s p q.data.toList) (he : Ends s (p + q.size)) (h0 : 0 < q.size) (h1 : q.size ≤ 40) (hf : alphaB (at_ q 0) = true) (hw : lnameEnd q 0 = q.size) :
    lex s p = if isWord q = true then (⟨3, q, p⟩, p + q.size) else (⟨1, q, p⟩, p + q.size) := by
  have hle := has_le h
  have ha : at_ s p = at_ q 0 := at_in h h0
  have h3 : blankB (at_ q 0) = false ∧ at_ q 0 ≠ 45 := by
    simp only [alphaB, Bool.or_eq_true, Bool.and_eq_true, decide_eq_true_eq] at hf
    simp only [blankB, Bool.or_eq_false_iff, beq_eq_false_iff_ne]
    omega
  have hn : lnameEnd s p = p + q.size := by
    unfold lnameEnd at hw ⊢
    have e1 := runTo_in h he.1 _ 0 rfl (Nat.zero_le _)
    rw [Nat.add_zero] at e1
    rw [e1, dots_in h he.1 he.2 _ _ (Nat.le_refl _) (runTo_le partB q (Nat.zero_le _)), hw]
  rw [lex_here (by omega) (by rw [ha]; exact h3.1) (by rw [ha]; exact fun x => h3.2 x.2.1)]
  unfold lexAt
  rw [ha, if_pos hf, hn, if_neg (by omega), extractL h]
theorem lex_name {s q : ByteArray} {p : Nat} (h : Has s p q.data.toList) (he : Ends s (p + q.size)) (hq : LNm q) : lex s p = (⟨1, q, p⟩, p + q.size) := by
  rw [lex_alpha h he hq.pos hq.few hq.first hq.whole, hq.word]
  simp
/-- A number of one or two digits. -/
theorem lex_num {s q : ByteArray} {p : Nat} (h : Has s p q.data.toList) (he : p + q.size < s.size → digitB (at_ s (p + q.size)) = false) (h0 : 0 < q.size) (h2 : q.size ≤ 2) (hd : runTo digitB q 0 = q.size) (hz : q.size = 2 → at_ q 0 ≠ 48) : lex s p = (⟨2, q, p⟩, p + q.size) := by
  have hle := has_le h
  have ha : at_ s p = at_ q 0 := at_in h h0
  have hf : digitB (at_ q 0) = true := by
    cases hx : digitB (at_ q 0) with
    | true => rfl
    | false => rw [runTo_stop hx] at hd; omega
  have h3 : blankB (at_ q 0) = false ∧ at_ q 0 ≠ 45 ∧ alphaB (at_ q 0) = false := by
    simp only [digitB, Bool.and_eq_true, decide_eq_true_eq] at hf
    simp only [blankB, alphaB, Bool.or_eq_false_iff, Bool.and_eq_false_iff, decide_eq_false_iff_not, beq_eq_false_iff_ne]
    omega
  have e1 := runTo_in (f := digitB) h he _ 0 rfl (Nat.zero_le _)
  rw [Nat.add_zero, hd] at e1
  rw [lex_here (by omega) (by rw [ha]; exact h3.1) (by rw [ha]; exact fun x => h3.2.1 x.2.1)]
  unfold lexAt
  rw [ha, if_neg (by rw [h3.2.2]; simp), if_pos hf, e1, if_neg (by omega), extractL h]
theorem lex_eof {s : ByteArray} : lex s s.size = (⟨0, ⟨#[]⟩, s.size⟩, s.size) := by
  unfold lex
  rw [skip_end (Nat.le_refl _), if_pos rfl]

end Go.Proofs.YtekfledccpeblaaGreatDoor

/- The contracts of the scanner's functions of bytes and of texts: isBlank, isLetter, isDigit, continuesName, runLength, nameLength, nameKind, HasPrefix, lineLength. -/
namespace Go.Proofs.YtekfledccpeblaaGreatDoor
open Go.RowKit Go.Shelf

set_option maxHeartbeats 400000 in
theorem isBlank_calls (c : Nat) (w : World) : Calls Tryz.prog 74 #[.int .u8 (c : Nat)] w fun e w' => e = .returned (.bool (blankB c)) ∧ w' = w := by
  go_enter Tryz.func74, Tryz.ntmps74
  go_wp2
  all_goals
    go_ret
    refine ⟨ret_bool ?_, rfl⟩
    rw [Bool.eq_iff_iff]
    simp [blankB]
    try omega

set_option maxHeartbeats 400000 in
theorem isLetter_calls (c : Nat) (w : World) : Calls Tryz.prog 77 #[.int .u8 (c : Nat)] w fun e w' => e = .returned (.bool (alphaB c)) ∧ w' = w := by
  go_enter Tryz.func77, Tryz.ntmps77
  go_wp2
  all_goals
    go_ret
    refine ⟨ret_bool ?_, rfl⟩
    rw [Bool.eq_iff_iff]
    simp [alphaB]
    try omega

set_option maxHeartbeats 400000 in
theorem isDigit_calls (c : Nat) (w : World) : Calls Tryz.prog 80 #[.int .u8 (c : Nat)] w fun e w' => e = .returned (.bool (digitB c)) ∧ w' = w := by
  go_enter Tryz.func80, Tryz.ntmps80
  go_wp2
  all_goals
    go_ret
    refine ⟨ret_bool ?_, rfl⟩
    rw [Bool.eq_iff_iff]
    simp [digitB]
    try omega

set_option maxHeartbeats 400000 in
theorem continuesName_calls (c : Nat) (w : World) : Calls Tryz.prog 92 #[.int .u8 (c : Nat)] w fun e w' => e = .returned (.bool (partB c)) ∧ w' = w := by
  have KL := hide (isLetter_calls c w)
  have KD := hide (isDigit_calls c w)
  have HP : Hid (partB c = (alphaB c || digitB c || c == 95 || c == 39)) := rfl
  generalize alphaB c = a at *
  generalize digitB c = d at *
  cases a <;> cases d <;>
  (go_enter Tryz.func92, Tryz.ntmps92
   go_wp2_with (first | (go_at_call 77; refine KL.out.mono ?_; rintro e w' ⟨rfl, rfl⟩) | (go_at_call 80; refine KD.out.mono ?_; rintro e w' ⟨rfl, rfl⟩))
   all_goals
     go_ret
     refine ⟨ret_bool ?_, rfl⟩
     rw [HP.out, Bool.eq_iff_iff]
     simp
     try omega)

/-- A function tests a byte. -/
structure Tests (F : FuncId) (f : Nat → Bool) : Prop where
  enter : ∀ (args : Array Value) (w' : World), Sem.run Tryz.prog (callFunc F args) w' = .ok (.enter F args) w'
  calls : ∀ (c : Nat) (w : World), Calls Tryz.prog F #[.int .u8 (c : Nat)] w fun e w' => e = .returned (.bool (f c)) ∧ w' = w
theorem digit_tests : Tests 80 digitB := ⟨fun args w' => by simp [go_sem], isDigit_calls⟩
theorem part_tests : Tests 92 partB := ⟨fun args w' => by simp [go_sem], continuesName_calls⟩

set_option maxRecDepth 100000 in
set_option maxHeartbeats 4000000 in
theorem runLength_calls (F : FuncId) (f : Nat → Bool) (hF : Tests F f) (s : ByteArray) (w : World) (hs : s.size ≤ 200000) :
    Calls Tryz.prog 81 #[.string s, .func (.func F) #[] #[]] w fun e w' => e = .returned (.int .i64 (runTo f s 0 : Nat)) ∧ w' = w := by
  have HF := hide hF
  have hen := hF.enter
  clear hF
  go_enter Tryz.func81, Tryz.ntmps81
  go_wp2_with fail
  go_loopg [5] s.size (fun g v wr => ∃ k : Nat, k + g = s.size ∧ v = .int .i64 (k : Nat) ∧ Hid (runTo f s k = runTo f s 0) ∧ wr = w)
  case atStart => exact ⟨0, by omega, rfl, rfl, rfl⟩
  case round =>
    obtain ⟨k, hkg, rfl, HR, rfl⟩ := hrel
    by_cases hk : k < s.size
    · have e1 : decide ((k : Int) < (s.size : Int)) = true := by simp; omega
      have HC := hide (HF.out.calls (at_ s k) wr)
      rw [← at_eq hk] at HC
      by_cases hf : f (at_ s k) = true
      · have HRn := hide ((runTo_step hk hf).symm.trans HR.out)
        rw [at_eq hk, hf, ← at_eq hk] at HC
        go_wp2_with (refine HC.out.mono ?_; rintro e w' ⟨rfl, rfl⟩)
        go_roundg (s.size - (k + 1))
        case measure => omega
        case rel => exact ⟨k + 1, by omega, by go_num, HRn, rfl⟩
      · have hf' : f (at_ s k) = false := by simpa using hf
        have HRn := hide ((runTo_stop (s := s) (k := k) hf').symm.trans HR.out)
        rw [at_eq hk, hf', ← at_eq hk] at HC
        clear hf hf'
        go_wp2_with (refine HC.out.mono ?_; rintro e w' ⟨rfl, rfl⟩)
        go_ret
        exact ⟨ret_int (by rw [← HRn.out]), rfl⟩
    · have hke : k = s.size := by omega
      have HRn := hide ((runTo_end (f := f) (s := s) (k := k) (by omega)).symm.trans HR.out)
      have e1 : decide ((k : Int) < (s.size : Int)) = false := by simp; omega
      go_wp2_with fail
      go_ret
      exact ⟨ret_int (by rw [← HRn.out]), rfl⟩

theorem has_self {s : ByteArray} {p e : Nat} (h : p ≤ e) (he : e ≤ s.size) : Has s p (s.extract p e).data.toList ∧ (s.extract p e).size = e - p := by
  have hz : (s.extract p e).size = e - p := by rw [ByteArray.size_extract]; omega
  have hl : (s.extract p e).data.toList.length = e - p := by rw [Array.length_toList]; exact hz
  refine ⟨⟨by rw [hl]; omega, fun i hi => ?_⟩, hz⟩
  rw [hl] at hi
  have e1 := at_data (s.extract p e) i (by show i < (s.extract p e).size; omega)
  have e2 := at_extract (s := s) (a := p) (b := e) (i := i) he (by omega)
  rw [← e2, e1]
/-- What follows a place: its bytes, its runs. -/
theorem suf_size {s : ByteArray} {p : Nat} : (s.extract p s.size).size = s.size - p := by rw [ByteArray.size_extract]; omega
theorem suf_at {s : ByteArray} {p i : Nat} (h : p + i < s.size) : at_ (s.extract p s.size) i = at_ s (p + i) := at_extract (Nat.le_refl _) h
theorem suf_run {f : Nat → Bool} {s : ByteArray} {p i : Nat} (h : p + i ≤ s.size) : runTo f s (p + i) = p + runTo f (s.extract p s.size) i := by
  have hz := suf_size (s := s) (p := p)
  exact runTo_in (has_self (by omega) (Nat.le_refl _)).1 (fun h2 => by omega) _ i rfl (by omega)
theorem suf_run0 {f : Nat → Bool} {s : ByteArray} {p : Nat} (h : p ≤ s.size) : runTo f s p = p + runTo f (s.extract p s.size) 0 := suf_run (i := 0) (by omega)
theorem suf_name {s : ByteArray} {p : Nat} (h : p ≤ s.size) : lnameEnd s p = p + lnameEnd (s.extract p s.size) 0 := by
  have hz := suf_size (s := s) (p := p)
  unfold lnameEnd
  rw [suf_run0 h, dots_in (has_self (by omega) (Nat.le_refl _)).1 (fun h2 => by omega) (fun h2 => by omega) _ _ (Nat.le_refl _) (runTo_le partB _ (Nat.zero_le _))]

set_option maxRecDepth 100000 in
set_option maxHeartbeats 4000000 in
theorem nameLength_calls (s : ByteArray) (w : World) (hs : s.size ≤ 200000) :
    Calls Tryz.prog 78 #[.string s] w fun e w' => e = .returned (.int .i64 (lnameEnd s 0 : Nat)) ∧ w' = w := by
  have K0 := hide (runLength_calls 92 partB part_tests s w hs)
  have h0 := runTo_le partB s (Nat.zero_le _)
  have HE : Hid (dots s (runTo partB s 0) = lnameEnd s 0) := rfl
  generalize runTo partB s 0 = k0 at *
  go_enter Tryz.func78, Tryz.ntmps78
  go_wp2_with (go_at_call 81; refine K0.out.mono ?_; rintro e w' ⟨rfl, rfl⟩)
  go_loopg [3] (s.size - k0) (fun g v wr => ∃ k : Nat, k + g = s.size ∧ v = .int .i64 (k : Nat) ∧ Hid (dots s k = lnameEnd s 0) ∧ wr = w')
  case atStart => exact ⟨k0, by omega, rfl, HE.out, rfl⟩
  case round =>
    obtain ⟨k, hkg, rfl, HR, rfl⟩ := hrel
    clear HE K0 h0
    by_cases hk : k + 1 < s.size
    · have hk0 : k < s.size := by omega
      have e1 : decide ((k : Int) + 1 < (s.size : Int)) = true := by simp; omega
      have HL := hide (isLetter_calls (at_ s (k + 1)) wr)
      rw [← at_eq hk] at HL
      by_cases hd : at_ s k = 46
      · have d1 : (((s[k]'hk0).toNat : Int) == 46) = true := by rw [at_eq hk0, hd]; rfl
        by_cases ha : alphaB (at_ s (k + 1)) = true
        · have h2 := runTo_ge partB s (k + 1)
          have h3 := runTo_le partB s (k := k + 1) (by omega)
          have HN : Hid (dots s (runTo partB s (k + 1)) = lnameEnd s 0) := (dots_step hk hd ha).symm.trans HR.out
          have KR := hide (runLength_calls 92 partB part_tests (s.extract (k + 1) s.size) wr (by rw [suf_size]; omega))
          have hru := suf_run0 (f := partB) (s := s) (p := k + 1) (by omega)
          generalize runTo partB (s.extract (k + 1) s.size) 0 = r at *
          rw [at_eq hk, ha, ← at_eq hk] at HL
          clear hd ha
          go_wp2_with (first | (go_at_call 77; refine HL.out.mono ?_; rintro e w' ⟨rfl, rfl⟩) | (go_at_call 81; refine KR.out.mono ?_; rintro e w' ⟨rfl, rfl⟩))
          go_roundg (s.size - (k + 1 + r))
          case measure => omega
          case rel => exact ⟨k + 1 + r, by omega, by go_num, by rw [← hru]; exact HN.out, rfl⟩
        · have HN : Hid (k = lnameEnd s 0) := (dots_stop (fun h => ha h.2.2)).symm.trans HR.out
          rw [at_eq hk, show alphaB (at_ s (k + 1)) = false from by simpa using ha, ← at_eq hk] at HL
          clear hd ha
          go_wp2_with (go_at_call 77; refine HL.out.mono ?_; rintro e w' ⟨rfl, rfl⟩)
          go_ret
          exact ⟨ret_int (by rw [← HN.out]), rfl⟩
      · have HN : Hid (k = lnameEnd s 0) := (dots_stop (fun h => hd h.2.1)).symm.trans HR.out
        have d1 : (((s[k]'hk0).toNat : Int) == 46) = false := by rw [at_eq hk0]; simp; omega
        clear hd HL
        go_wp2_with fail
        go_ret
        exact ⟨ret_int (by rw [← HN.out]), rfl⟩
    · have HN : Hid (k = lnameEnd s 0) := (dots_stop (fun h => hk h.1)).symm.trans HR.out
      have e1 : decide ((k : Int) + 1 < (s.size : Int)) = false := by simp; omega
      go_wp2_with fail
      go_ret
      exact ⟨ret_int (by rw [← HN.out]), rfl⟩

end Go.Proofs.YtekfledccpeblaaGreatDoor
