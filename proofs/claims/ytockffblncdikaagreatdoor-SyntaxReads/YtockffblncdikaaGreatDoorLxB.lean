/- Tokens of a text in which something was printed: no walk. -/
import Derived.Test.YtockffblncdikaaGreatDoorFr
import Derived.Lib.ItoaNum
namespace Go.Proofs.YtockffblncdikaaGreatDoor
open Go.RowKit
set_option maxRecDepth 100000
set_option maxHeartbeats 16000000
structure LFit (s : ByteArray) (p : Nat) (x : LTok × Nat) : Prop where
 kd : x.1.kd <= 4
 ge : p <= x.1.at_
 le : x.2 <= s.size
 at_le : x.1.at_ <= x.2
 text : x.1.t.size = x.2 - x.1.at_
 few : x.1.t.size <= 40
 more : 1 <= x.1.kd -> x.1.kd <= 3 -> x.1.at_ < x.2
 fin : x.1.kd = 0 -> x.1.at_ = s.size
 none : x.1.kd = 4 -> x.1.at_ < s.size
theorem runTo_more {f : Nat -> Bool} {s : ByteArray} {p : Nat} (h : p < s.size) (hf : f (at_ s p) = true) : p < runTo f s p := by
 rw [runTo_step h hf]; exact runTo_ge _ _ _
theorem LFit.bad {s : ByteArray} {p : Nat} (h : p < s.size) : LFit s p (⟨4, ⟨#[]⟩, p⟩, p) :=
 ⟨Nat.le_refl _, Nat.le_refl _, Nat.le_of_lt h, Nat.le_refl _, (Nat.sub_self p).symm, Nat.zero_le _, fun _ h => absurd h (by simp), fun h => absurd h (by simp), fun _ => h⟩
theorem LFit.eof {s : ByteArray} {p : Nat} (h : p <= s.size) : LFit s p (⟨0, ⟨#[]⟩, s.size⟩, s.size) :=
 ⟨by simp, h, Nat.le_refl _, Nat.le_refl _, (Nat.sub_self _).symm, Nat.zero_le _, fun h => absurd h (by simp), fun _ => rfl, fun h => absurd h (by simp)⟩
theorem lexAt_fit {s : ByteArray} {p : Nat} (h : p < s.size) : LFit s p (lexAt s p) := by
 have he : (⟨#[]⟩ : ByteArray).size = 0 := rfl; have h1 := lnameEnd_le (s := s) (p := p) (by omega); have h2 := runTo_le digitB s (k := p) (by omega); have h3 := runTo_ge digitB s p; unfold lexAt
 split
 . rename_i ha
   have h4 : p < lnameEnd s p := by
    have h5 := runTo_more (f := partB) h (by simp [partB, ha]); have h6 := (dots_le (s := s) (q := runTo partB s p) (runTo_le partB s (by omega))).1; unfold lnameEnd; omega
   split
   . exact LFit.bad h
   . split
     . exact ⟨by simp, by simp, by simp; omega, by simp; omega, by simp [ByteArray.size_extract]; omega, by simp [ByteArray.size_extract]; omega, fun _ _ => h4, fun h => by simp at h, fun h => by simp at h⟩
     . exact ⟨by simp, by simp, by simp; omega, by simp; omega, by simp [ByteArray.size_extract]; omega, by simp [ByteArray.size_extract]; omega, fun _ _ => h4, fun h => by simp at h, fun h => by simp at h⟩
 . split
   . rename_i ha hd
     have h4 := runTo_more (f := digitB) h hd
     split
     . exact LFit.bad h
     . exact ⟨by simp, by simp, by simp; omega, by simp; omega, by simp [ByteArray.size_extract]; omega, by simp [ByteArray.size_extract]; omega, fun _ _ => h4, fun h => by simp at h, fun h => by simp at h⟩
   . split
     . rename_i ht
       exact ⟨by simp, by simp, by simp; omega, by simp, by simp [ByteArray.size_extract]; omega, by simp [ByteArray.size_extract]; omega, fun _ _ => by simp, fun h => by simp at h, fun h => by simp at h⟩
     . split
       . exact ⟨by simp, by simp, by simp; omega, by simp, by simp [ByteArray.size_extract]; omega, by simp [ByteArray.size_extract]; omega, fun _ _ => by simp, fun h => by simp at h, fun h => by simp at h⟩
       . exact LFit.bad h
theorem lex_fit {s : ByteArray} {p : Nat} (h : p <= s.size) : LFit s p (lex s p) := by
 have h1 := skip_le h; unfold lex
 split
 . exact LFit.eof h
 . have := lexAt_fit (s := s) (p := skip s p) (by omega)
   exact ⟨this.kd, by have := this.ge; omega, this.le, this.at_le, this.text, this.few, this.more, this.fin, this.none⟩
structure FS.Ok (s : ByteArray) (st : FS) : Prop where
 tok : ∃ p, LFit s p (st.t, st.e)
 code : st.code <= 1
theorem FS.Ok.le {s : ByteArray} {st : FS} (h : st.Ok s) : st.e <= s.size := by obtain ⟨p, h⟩ := h.tok; exact h.le
theorem FS.Ok.fail {s : ByteArray} {st : FS} (h : st.Ok s) : st.fail.Ok s := by
 unfold FS.fail
 split
 . exact ⟨h.tok, by simp⟩
 . exact h
theorem FS.Ok.step {s : ByteArray} {st : FS} (h : st.Ok s) : (st.step s).Ok s := by
 unfold FS.step
 split
 . exact ⟨⟨st.e, lex_fit h.le⟩, h.code⟩
 . exact h
theorem FS.Ok.must {s q : ByteArray} {st : FS} (h : st.Ok s) : (st.must s q).Ok s := by
 unfold FS.must
 split
 . exact h.step
 . exact h.fail
theorem FS.Ok.name {s : ByteArray} {st : FS} (h : st.Ok s) : (st.name s).2.Ok s := by
 unfold FS.name
 split
 . exact h.step
 . exact h.fail
def FS.left (s : ByteArray) (st : FS) : Nat := 2 * (s.size - st.t.at_) + (if st.code = 0 then 1 else 0)
theorem FS.fail_left {s : ByteArray} {st : FS} : (st.fail).left s <= st.left s := by
 unfold FS.fail FS.left
 split <;> simp_all
theorem FS.step_left {s : ByteArray} {st : FS} (h : st.Ok s) (hc : st.code = 0) (h1 : 1 <= st.t.kd) (h3 : st.t.kd <= 3) : (st.step s).left s < st.left s := by
 obtain ⟨p, hp⟩ := h.tok; have hm := hp.more h1 h3; have hl := hp.le; have hn := lex_fit (s := s) (p := st.e) hl; have hg := hn.ge; unfold FS.step; rw [if_pos hc]; unfold FS.left
 simp only [hc, if_true]
 have : st.t.at_ < st.e := hm; have : st.e <= (lex s st.e).1.at_ := hg
 have := hn.at_le; have := hn.le; omega
theorem FS.step_le {s : ByteArray} {st : FS} (h : st.Ok s) : (st.step s).left s <= st.left s := by
 obtain ⟨p, hp⟩ := h.tok; have hn := lex_fit (s := s) (p := st.e) hp.le; have h1 := hn.ge; have h2 := hp.at_le; unfold FS.step
 split
 . rename_i hc
   unfold FS.left
   simp only [hc, if_true]
   have : st.t.at_ <= st.e := h2; have : st.e <= (lex s st.e).1.at_ := h1
   omega
 . exact Nat.le_refl _
theorem FS.is_kd {st : FS} {q : ByteArray} (h : st.is q = true) : st.code = 0 /\ st.t.kd = 3 /\ st.t.t = q := by
 unfold FS.is at h
 simpa [and_assoc] using h
theorem FS.kin_kd {st : FS} {k : Nat} (h : st.kin k = true) : st.code = 0 /\ st.t.kd = k := by
 unfold FS.kin at h
 simpa using h
structure Dn (s : ByteArray) (st st' : FS) : Prop where
 ok : st'.Ok s
 left : st'.left s <= st.left s
 code : st.code ≠ 0 -> st' = st
section
variable {s : ByteArray} {st st1 st2 : FS}
theorem Dn.refl (h : st.Ok s) : Dn s st st := ⟨h, Nat.le_refl _, fun _ => rfl⟩
theorem Dn.trans (h : Dn s st st1) (h' : Dn s st1 st2) : Dn s st st2 := ⟨h'.ok, Nat.le_trans h'.left h.left, fun hc => by have e := h.code hc; rw [<- e]; exact h'.code (by rw [e]; exact hc)⟩
theorem Dn.fail (h : Dn s st st1) : Dn s st st1.fail := h.trans ⟨h.ok.fail, FS.fail_left, fun hc => by unfold FS.fail; rw [if_neg hc]⟩
theorem Dn.step (h : Dn s st st1) : Dn s st (st1.step s) := h.trans ⟨h.ok.step, FS.step_le h.ok, fun hc => by unfold FS.step; rw [if_neg hc]⟩
theorem Dn.must {q : ByteArray} (h : Dn s st st1) : Dn s st (st1.must s q) := by
 unfold FS.must
 split
 . exact h.step
 . exact h.fail
theorem Dn.name (h : Dn s st st1) : Dn s st (st1.name s).2 := by
 unfold FS.name
 split
 . exact h.step
 . exact h.fail
theorem Dn.raised {l : LvB} (h : Dn s st st1) : Dn s st (raised s l st1).2 := by
 unfold Proofs.YtockffblncdikaaGreatDoor.raised
 split
 . split
   . exact h.fail
   . exact h.step
 . exact h.fail
end
def Fwd {α : Type} (s : ByteArray) (E : FS -> α × FS) : Prop := ∀ st, st.Ok s -> Dn s st (E st).2
theorem Fwd.dn {α : Type} {s : ByteArray} {E : FS -> α × FS} (h : Fwd s E) {st st1 : FS} (hd : Dn s st st1) : Dn s st (E st1).2 := hd.trans (h st1 hd.ok)
section
variable {s : ByteArray}
theorem latomF_fwd {L : FS -> LvB × FS} (hL : Fwd s L) : Fwd s (latomF s L) := fun st h => by
 unfold latomF
 split
 . exact (Dn.refl h).raised
 . split
   . exact (Dn.refl h).name
   . split
     . exact (hL.dn (Dn.refl h).step).must
     . exact (Dn.refl h).fail
theorem plusN_fwd : ∀ (m : Nat) (l : LvB), Fwd s (plusN s m l)
 | 0, _ => fun st h => Dn.refl h
 | m + 1, l => fun st h => by
   simp only [plusN]
   split
   . exact (plusN_fwd m _).dn (Dn.refl h).step.raised
   . exact Dn.refl h
theorem twoF_fwd {L : FS -> LvB × FS} (hL : Fwd s L) {st st1 : FS} (hd : Dn s st st1) : Dn s st (twoF s L st1).2.2 := (latomF_fwd hL).dn ((latomF_fwd hL).dn hd)
theorem levelF_fwd {L : FS -> LvB × FS} (hL : Fwd s L) (m : Nat) : Fwd s (levelF s L m) := fun st h => by
 unfold levelF
 split
 . exact twoF_fwd hL (Dn.refl h).step
 . split
   . exact twoF_fwd hL (Dn.refl h).step
   . exact (plusN_fwd m _).dn (latomF_fwd hL st h)
theorem levelN_fwd : ∀ n, Fwd s (levelN s n)
 | 0 => fun _ h => Dn.refl h
 | n + 1 => levelF_fwd (levelN_fwd n) (n + 1)
theorem latomN_fwd (n : Nat) : Fwd s (latomN s n) := latomF_fwd (levelN_fwd n)
theorem levelsN_fwd (n : Nat) : ∀ (m : Nat) (ls : List LvB), Fwd s (levelsN s n m ls)
 | 0, _ => fun st h => Dn.refl h
 | m + 1, ls => fun st h => by
   simp only [levelsN]
   split
   . exact (levelsN_fwd n m _).dn ((levelN_fwd n).dn (Dn.refl h).step)
   . exact Dn.refl h
theorem nameX_fwd (n a : Nat) (ex : Bool) : Fwd s (nameX s n a ex) := fun st h => by
 unfold nameX
 simp only
 split
 . exact ((levelsN_fwd n n _).dn ((levelN_fwd n).dn (Dn.refl h).name.step)).must
 . exact (Dn.refl h).name
variable {n : Nat} {E : FS -> Ex × FS}
theorem bracketX_fwd (hE : Fwd s E) (a : Nat) : Fwd s (bracketX s E a) := fun st h => by
 unfold bracketX
 simp only
 split
 . exact (hE.dn (hE.dn (Dn.refl h)).step).must
 . exact (hE.dn (Dn.refl h)).must
theorem atomF_fwd (hE : Fwd s E) : Fwd s (atomF s n E) := fun st h => by
 unfold atomF
 split
 . exact nameX_fwd _ _ _ st h
 split
 . exact (nameX_fwd _ _ _).dn (Dn.refl h).step
 split
 . exact (Dn.refl h).step
 split
 . exact (Dn.refl h).step
 split
 . split
   . exact (Dn.refl h).step.raised
   . exact (Dn.refl h).step
 split
 . exact (latomN_fwd n).dn (Dn.refl h).step
 split
 . exact (bracketX_fwd hE _).dn (Dn.refl h).step
 . exact (Dn.refl h).fail
theorem applyN_fwd (hE : Fwd s E) : ∀ (m : Nat) (e : Ex), Fwd s (applyN s n E m e)
 | 0, _ => fun st h => Dn.refl h
 | m + 1, e => fun st h => by
   simp only [applyN]
   split
   . exact (applyN_fwd hE m _).dn (atomF_fwd hE st h)
   . exact Dn.refl h
theorem applyF_fwd (hE : Fwd s E) : Fwd s (applyF s n E) := fun st h => (applyN_fwd hE n _).dn (atomF_fwd hE st h)
theorem equalF_fwd (hE : Fwd s E) : Fwd s (equalF s n E) := fun st h => by
 unfold equalF
 simp only
 split
 . exact (applyF_fwd hE).dn (applyF_fwd hE st h).step
 . exact applyF_fwd hE st h
theorem namesN_fwd : ∀ (m : Nat) (l : List (ByteArray × Nat)), Fwd s (namesN s m l)
 | 0, _ => fun st h => Dn.refl h
 | m + 1, l => fun st h => by
   simp only [namesN]
   split
   . exact (namesN_fwd m _).dn (Dn.refl h).name
   . exact (Dn.refl h).name
theorem groupF_fwd (hE : Fwd s E) : Fwd s (groupF s n E) := fun st h => by
 unfold groupF
 simp only
 split
 . exact (hE.dn ((namesN_fwd (n + 1) []).dn (Dn.refl h).step).must).must
 . exact (hE.dn ((namesN_fwd (n + 1) []).dn (Dn.refl h).must).must).must
theorem groupsN_fwd (hE : Fwd s E) : ∀ (m : Nat) (l : List Bd), Fwd s (groupsN s n E m l)
 | 0, _ => fun st h => Dn.refl h
 | m + 1, l => fun st h => by
   simp only [groupsN]
   split
   . exact (groupsN_fwd hE m _).dn (groupF_fwd hE st h)
   . exact Dn.refl h
theorem funsN_fwd (hE : Fwd s E) : ∀ (m : Nat) (l : List Bd), Fwd s (funsN s n E m l)
 | 0, _ => fun st h => Dn.refl h
 | m + 1, l => fun st h => by
   simp only [funsN]
   split
   . exact (funsN_fwd hE m _).dn (Dn.refl h).name
   . split
     . exact (funsN_fwd hE m _).dn (groupF_fwd hE st h)
     . exact Dn.refl h
theorem some1_dn {st : FS} {p : List Bd × FS} (h : Dn s st p.2) : Dn s st (some1 p).2 := by
 unfold some1
 split
 . exact h.fail
 . exact h
theorem letX_fwd (hE : Fwd s E) : Fwd s (letX s E) := fun _ h => hE.dn (hE.dn (hE.dn (Dn.refl h).name.must).must).must
theorem exprF_fwd (hE : Fwd s E) : Fwd s (exprF s n E) := fun st h => by
 unfold exprF
 simp only
 split
 . exact hE.dn (some1_dn ((funsN_fwd hE n []).dn (Dn.refl h).step)).must
 split
 . exact hE.dn (some1_dn ((groupsN_fwd hE n []).dn (Dn.refl h).step)).must
 split
 . exact (letX_fwd hE).dn (Dn.refl h).step
 split
 . exact hE.dn (equalF_fwd hE st h).step
 . exact equalF_fwd hE st h
end
theorem exprN_fwd {s : ByteArray} : ∀ n, Fwd s (exprN s n)
 | 0 => fun _ h => Dn.refl h
 | n + 1 => exprF_fwd (exprN_fwd n)
def inBr (l : List UInt8) : List UInt8 := [40] ++ l ++ [41]
def lvGo : LvB -> Nat -> List UInt8 × Bool
 | .succ a, k => lvGo a (k + 1)
 | .zero, k => (Lib.decDigits k, true)
 | .param q, k => if k = 0 then (q.data.toList, true) else (q.data.toList ++ [43] ++ Lib.decDigits k, false)
 | .max a b, k =>
   let m := [109, 97, 120, 32] ++ (if (lvGo a 0).2 = true then (lvGo a 0).1 else inBr (lvGo a 0).1) ++ [32] ++ (if (lvGo b 0).2 = true then (lvGo b 0).1 else inBr (lvGo b 0).1)
   if k = 0 then (m, false) else (inBr m ++ [43] ++ Lib.decDigits k, false)
 | .imax a b, k =>
   let m := [105, 109, 97, 120, 32] ++ (if (lvGo a 0).2 = true then (lvGo a 0).1 else inBr (lvGo a 0).1) ++ [32] ++ (if (lvGo b 0).2 = true then (lvGo b 0).1 else inBr (lvGo b 0).1)
   if k = 0 then (m, false) else (inBr m ++ [43] ++ Lib.decDigits k, false)
def lvText (l : LvB) : List UInt8 := (lvGo l 0).1
def latText (l : LvB) : List UInt8 := if (lvGo l 0).2 = true then (lvGo l 0).1 else inBr (lvGo l 0).1
namespace Ex
def kd : Ex -> Nat | .node k _ _ _ _ _ _ _ _ => k
def nm : Ex -> ByteArray | .node _ _ q _ _ _ _ _ _ => q
def ex : Ex -> Bool | .node _ _ _ b _ _ _ _ _ => b
def gi : Ex -> Bool | .node _ _ _ _ b _ _ _ _ => b
def inf : Ex -> Bool | .node _ _ _ _ _ b _ _ _ => b
def im : Ex -> Bool | .node _ _ _ _ _ _ b _ _ => b
def ls : Ex -> List LvB | .node _ _ _ _ _ _ _ l _ => l
def xs : Ex -> List Ex | .node _ _ _ _ _ _ _ _ l => l
def x0 (e : Ex) : Ex := e.xs.getD 0 zeroX
def x1 (e : Ex) : Ex := e.xs.getD 1 zeroX
def x2 (e : Ex) : Ex := e.xs.getD 2 zeroX
end Ex
def isEq (e : Ex) : Bool := e.kd == 4 && e.x0.kd == 4 && e.x0.x0.kd == 1 && e.x0.x0.inf
def tight (e : Ex) : Nat :=
 if isEq e = true then 2 else if e.kd = 4 then 3 else if e.kd = 6 /\ e.nm.size = 0 then 1 else if e.kd = 5 \/ e.kd = 6 \/ e.kd = 7 then 0 else 4
def joinT (q : List UInt8) : List (List UInt8) -> List UInt8
 | [] => []
 | [x] => x
 | x :: y :: l => x ++ q ++ joinT q (y :: l)
def nameText (e : Ex) : List UInt8 := (if e.ex = true then [64] else []) ++ e.nm.data.toList ++ (if e.gi = true then [46, 123] ++ joinT [44, 32] (e.ls.map lvText) ++ [125] else [])
def sortText (l : LvB) : List UInt8 :=
 match l with
 | .zero => [80, 114, 111, 112]
 | .succ .zero => [84, 121, 112, 101]
 | l => [83, 111, 114, 116, 32] ++ latText l
def binderT (q : ByteArray) (im : Bool) (t : List UInt8) : List UInt8 :=
 if im = true then [123] ++ q.data.toList ++ [32, 58, 32] ++ t ++ [125] else [40] ++ q.data.toList ++ [32, 58, 32] ++ t ++ [41]
def xtext : Nat -> Ex -> List UInt8
 | 0, _ => []
 | n + 1, e =>
   let op := fun (x : Ex) (k : Nat) => if tight x < k then inBr (xtext n x) else xtext n x
   if isEq e = true then op e.x0.x1 3 ++ [32, 61, 32] ++ op e.x1 3
   else if e.kd = 1 then nameText e
   else if e.kd = 2 then sortText (e.ls.getD 0 .zero)
   else if e.kd = 3 then [95]
   else if e.kd = 4 then op e.x0 3 ++ [32] ++ op e.x1 4
   else if e.kd = 5 then [102, 117, 110, 32] ++ binderT e.nm e.im (xtext n e.x0) ++ [32, 61, 62, 32] ++ xtext n e.x1
   else if e.kd = 6 then
    (if e.nm.size = 0 then op e.x0 2 ++ [32, 45, 62, 32] ++ xtext n e.x1 else [102, 111, 114, 97, 108, 108, 32] ++ binderT e.nm e.im (xtext n e.x0) ++ [44, 32] ++ xtext n e.x1)
   else if e.kd = 7 then [108, 101, 116, 32] ++ e.nm.data.toList ++ [32, 58, 32] ++ xtext n e.x0 ++ [32, 58, 61, 32] ++ xtext n e.x1 ++ [32, 105, 110, 32] ++ xtext n e.x2
   else [40] ++ xtext n e.x0 ++ [32, 58, 32] ++ xtext n e.x1 ++ [41]
def tacText (n : Nat) (t : Tc) : List UInt8 :=
 (tacWords.getD (t.kd - 1) ⟨#[]⟩).data.toList ++ (t.nms.flatMap fun q => [32] ++ q.data.toList) ++ (if t.kd = 9 then [32, 58] else []) ++ (if t.kd = 10 then [32] ++ Lib.decDigits t.num else []) ++ (t.xs.flatMap fun e => [32] ++ xtext n e)
def commText (n : Nat) (c : Cm) : List UInt8 :=
 (kindWords.getD (c.kd - 1) ⟨#[]⟩).data.toList ++ [32] ++ c.nm.data.toList
   ++ (if c.ps.isEmpty = true then [] else [46, 123] ++ joinT [44, 32] (c.ps.map fun q => q.data.toList) ++ [125])
   ++ (c.bs.flatMap fun b => [32] ++ binderT b.nm b.im (xtext n b.ty)) ++ [32, 58, 32] ++ xtext n c.ty
   ++ (if c.tac = true then (if c.tcs.isEmpty = true then [] else [32, 98, 121, 32] ++ joinT [59, 32] (c.tcs.map (tacText n))) else if c.kd = 2 \/ c.kd = 3 then [32, 58, 61, 32] ++ xtext n c.vl else [])
   ++ (c.cts.flatMap fun k => [32, 124, 32] ++ k.nm.data.toList ++ [32, 58, 32] ++ xtext n k.ty) ++ [46, 10]
def fileText (n : Nat) (cs : List Cm) : List UInt8 := cs.flatMap (commText n)
def FS.on (s : ByteArray) (p : Nat) : FS := ⟨(lex s p).1, (lex s p).2, 0, 0⟩
theorem FS.on_step (s : ByteArray) (p : Nat) : (FS.on s p).step s = FS.on s (lex s p).2 := rfl
theorem FS.on_is {s q : ByteArray} {p : Nat} : (FS.on s p).is q = ((lex s p).1.kd == 3 && decide ((lex s p).1.t = q)) := by
 unfold FS.is FS.on
 simp
theorem FS.on_kin {s : ByteArray} {p k : Nat} : (FS.on s p).kin k = ((lex s p).1.kd == k) := by
 unfold FS.kin FS.on
 simp
theorem has_part {s : ByteArray} {p : Nat} {t : List UInt8} (h : Has s p t) : (s.extract p (p + t.length)).data.toList = t := by
 have hl : (s.extract p (p + t.length)).data.toList.length = t.length := by
  have e : (s.extract p (p + t.length)).data.toList.length = (s.extract p (p + t.length)).size := by rw [Array.length_toList]; rfl
  rw [e, ByteArray.size_extract]; have := h.1; omega
 refine List.ext_getElem hl fun i h1 h2 => ?_
 have e1 := at_data (s.extract p (p + t.length)) i (by rw [Array.length_toList] at h1; exact h1); have e2 := at_extract (s := s) (a := p) (b := p + t.length) (i := i) h.1 (by omega); have e3 := h.2 i h2
 rw [e2, e3] at e1; exact UInt8.toNat_inj.1 e1.symm
theorem lex_blank {s : ByteArray} {p : Nat} (h : p < s.size) (hb : blankB (at_ s p) = true) : lex s p = lex s (p + 1) := by
 unfold lex; rw [skip_blank h hb]
theorem lex_here {s : ByteArray} {p : Nat} (h : p < s.size) (hb : blankB (at_ s p) = false) (hl : ¬ (p + 1 < s.size /\ at_ s p = 45 /\ at_ s (p + 1) = 45)) : lex s p = lexAt s p := by
 unfold lex; rw [skip_stop hb hl, if_neg (by omega)]
theorem extract1 {s : ByteArray} {p : Nat} {c : UInt8} (h : Has s p [c]) : s.extract p (p + 1) = ⟨#[c]⟩ := by
 have := has_part h
 apply ByteArray.ext
 apply Array.ext'
 simpa using this
theorem extract2 {s : ByteArray} {p : Nat} {c d : UInt8} (h : Has s p [c, d]) : s.extract p (p + 2) = ⟨#[c, d]⟩ := by
 have := has_part h
 apply ByteArray.ext
 apply Array.ext'
 simpa using this
theorem extractL {s : ByteArray} {p : Nat} {q : ByteArray} (h : Has s p q.data.toList) : s.extract p (p + q.size) = q := by
 have := has_part h
 apply ByteArray.ext
 apply Array.ext'
 have e : q.data.toList.length = q.size := by rw [Array.length_toList]; rfl
 rw [e] at this; exact this
theorem lex_one {s : ByteArray} {p : Nat} {c : UInt8} (h : Has s p [c]) (h1 : oneB c.toNat = true) (h2 : ¬ (p + 1 < s.size /\ twoB c.toNat (at_ s (p + 1)) = true)) : lex s p = (⟨3, ⟨#[c]⟩, p⟩, p + 1) := by
 obtain ⟨hl, hc, _⟩ := h.head
 have h3 : alphaB c.toNat = false /\ digitB c.toNat = false /\ blankB c.toNat = false /\ c.toNat ≠ 45 := by
  simp only [oneB, Bool.or_eq_true, beq_iff_eq] at h1
  simp only [alphaB, digitB, blankB, Bool.or_eq_false_iff, Bool.and_eq_false_iff, decide_eq_false_iff_not, beq_eq_false_iff_ne]
  omega
 rw [lex_here hl (by rw [hc]; exact h3.2.2.1) (by rw [hc]; omega)]; unfold lexAt; rw [hc, if_neg (by rw [h3.1]; simp), if_neg (by rw [h3.2.1]; simp), if_neg h2, if_pos h1, extract1 h]
theorem lex_two {s : ByteArray} {p : Nat} {c d : UInt8} (h : Has s p [c, d]) (h1 : twoB c.toNat d.toNat = true) : lex s p = (⟨3, ⟨#[c, d]⟩, p⟩, p + 2) := by
 obtain ⟨hl, hc, h'⟩ := h.head; obtain ⟨hl2, hd, _⟩ := h'.head
 have h3 : alphaB c.toNat = false /\ digitB c.toNat = false /\ blankB c.toNat = false /\ ¬ (c.toNat = 45 /\ d.toNat = 45) := by
  simp only [twoB, Bool.or_eq_true, Bool.and_eq_true, beq_iff_eq] at h1
  simp only [alphaB, digitB, blankB, Bool.or_eq_false_iff, Bool.and_eq_false_iff, decide_eq_false_iff_not, beq_eq_false_iff_ne]
  omega
 rw [lex_here hl (by rw [hc]; exact h3.2.2.1) (by rw [hc, hd]; exact fun x => h3.2.2.2 x.2)]; unfold lexAt
 rw [hc, if_neg (by rw [h3.1]; simp), if_neg (by rw [h3.2.1]; simp), if_pos ⟨hl2, by rw [hd]; exact h1⟩, extract2 h]
theorem at_in {s q : ByteArray} {p i : Nat} (h : Has s p q.data.toList) (hi : i < q.size) : at_ s (p + i) = at_ q i := by
 have e : q.data.toList.length = q.size := by rw [Array.length_toList]; rfl
 have := h.2 i (by rw [e]; exact hi); rw [this]; unfold at_
 rw [dif_pos hi]
 simp [ByteArray.getElem_eq_getElem_data]
theorem has_le {s q : ByteArray} {p : Nat} (h : Has s p q.data.toList) : p + q.size <= s.size := by
 have e : q.data.toList.length = q.size := by rw [Array.length_toList]; rfl
 have := h.1; rw [e] at this; exact this
theorem runTo_in {f : Nat -> Bool} {s q : ByteArray} {p : Nat} (h : Has s p q.data.toList) (hb : p + q.size < s.size -> f (at_ s (p + q.size)) = false) : ∀ (k i : Nat), q.size - i = k -> i <= q.size -> runTo f s (p + i) = p + runTo f q i
 | 0, i, hk, hi => by
   obtain rfl : i = q.size := by omega
   rw [runTo_end (s := q) (Nat.le_refl _)]
   by_cases hl : p + q.size < s.size
   . exact runTo_stop (hb hl)
   . exact runTo_end (by omega)
 | k + 1, i, hk, hi => by
   have hlt : i < q.size := by omega
   have hle := has_le h; have ha := at_in h hlt
   cases hf : f (at_ q i) with
   | true => rw [runTo_step (by omega) (by rw [ha]; exact hf), runTo_step hlt hf]; exact runTo_in h hb k (i + 1) (by omega) (by omega)
   | false => rw [runTo_stop (by rw [ha]; exact hf), runTo_stop hf]
theorem dots_in {s q : ByteArray} {p : Nat} (h : Has s p q.data.toList) (hb : p + q.size < s.size -> partB (at_ s (p + q.size)) = false) (hd : ¬ (p + q.size + 1 < s.size /\ at_ s (p + q.size) = 46 /\ alphaB (at_ s (p + q.size + 1)) = true)) :
 ∀ (k i : Nat), q.size - i <= k -> i <= q.size -> dots s (p + i) = p + dots q i := by
 intro k
 induction k with
 | zero =>
   intro i hk hi; obtain rfl : i = q.size := by omega
   rw [dots_stop hd, dots_stop (s := q) (by omega)]
 | succ k ih =>
   intro i hk hi
   by_cases he : i = q.size
   . subst he
     rw [dots_stop hd, dots_stop (s := q) (by omega)]
   have hle := has_le h; have ha := at_in h (i := i) (by omega)
   by_cases h1 : i + 1 < q.size
   . have ha1 := at_in h h1
     by_cases hc : at_ q i = 46 /\ alphaB (at_ q (i + 1)) = true
     . rw [dots_step (by omega) (by rw [ha]; exact hc.1) (by rw [show p + i + 1 = p + (i + 1) by omega, ha1]; exact hc.2), dots_step h1 hc.1 hc.2]
       have h2 := runTo_ge partB q (i + 1); have h3 := runTo_le partB q (k := i + 1) (by omega); rw [show p + i + 1 = p + (i + 1) by omega, runTo_in h hb _ (i + 1) rfl (by omega)]; exact ih _ (by omega) h3
     . rw [dots_stop (by rw [ha, show p + i + 1 = p + (i + 1) by omega, ha1]; exact fun x => hc x.2), dots_stop (fun x => hc x.2)]
   . have hq : i + 1 = q.size := by omega
     rw [dots_stop (s := q) (by omega), dots_stop]; rintro ⟨x1, x2, x3⟩; rw [show p + i + 1 = p + q.size by omega] at x3; have := hb (by omega)
     simp [partB, x3] at this
structure LNm (q : ByteArray) : Prop where
 pos : 0 < q.size
 few : q.size <= 40
 first : alphaB (at_ q 0) = true
 whole : lnameEnd q 0 = q.size
 word : isWord q = false
def Ends (s : ByteArray) (p : Nat) : Prop := (p < s.size -> partB (at_ s p) = false) /\ ¬ (p + 1 < s.size /\ at_ s p = 46 /\ alphaB (at_ s (p + 1)) = true)
theorem lex_alpha {s q : ByteArray} {p : Nat} (h : Has s p q.data.toList) (he : Ends s (p + q.size)) (h0 : 0 < q.size) (h1 : q.size <= 40) (hf : alphaB (at_ q 0) = true) (hw : lnameEnd q 0 = q.size) :
 lex s p = if isWord q = true then (⟨3, q, p⟩, p + q.size) else (⟨1, q, p⟩, p + q.size) := by
 have hle := has_le h; have ha : at_ s p = at_ q 0 := at_in h h0
 have h3 : blankB (at_ q 0) = false /\ at_ q 0 ≠ 45 := by
  simp only [alphaB, Bool.or_eq_true, Bool.and_eq_true, decide_eq_true_eq] at hf
  simp only [blankB, Bool.or_eq_false_iff, beq_eq_false_iff_ne]
  omega
 have hn : lnameEnd s p = p + q.size := by
  unfold lnameEnd at hw ⊢; have e1 := runTo_in h he.1 _ 0 rfl (Nat.zero_le _); rw [Nat.add_zero] at e1; rw [e1, dots_in h he.1 he.2 _ _ (Nat.le_refl _) (runTo_le partB q (Nat.zero_le _)), hw]
 rw [lex_here (by omega) (by rw [ha]; exact h3.1) (by rw [ha]; exact fun x => h3.2 x.2.1)]; unfold lexAt; rw [ha, if_pos hf, hn, if_neg (by omega), extractL h]
theorem lex_name {s q : ByteArray} {p : Nat} (h : Has s p q.data.toList) (he : Ends s (p + q.size)) (hq : LNm q) : lex s p = (⟨1, q, p⟩, p + q.size) := by
 rw [lex_alpha h he hq.pos hq.few hq.first hq.whole, hq.word]
 simp
theorem lex_num {s q : ByteArray} {p : Nat} (h : Has s p q.data.toList) (he : p + q.size < s.size -> digitB (at_ s (p + q.size)) = false) (h0 : 0 < q.size) (h2 : q.size <= 2) (hd : runTo digitB q 0 = q.size) (hz : q.size = 2 -> at_ q 0 ≠ 48) : lex s p = (⟨2, q, p⟩, p + q.size) := by
 have hle := has_le h; have ha : at_ s p = at_ q 0 := at_in h h0
 have hf : digitB (at_ q 0) = true := by
  cases hx : digitB (at_ q 0) with
  | true => rfl
  | false => rw [runTo_stop hx] at hd; omega
 have h3 : blankB (at_ q 0) = false /\ at_ q 0 ≠ 45 /\ alphaB (at_ q 0) = false := by
  simp only [digitB, Bool.and_eq_true, decide_eq_true_eq] at hf
  simp only [blankB, alphaB, Bool.or_eq_false_iff, Bool.and_eq_false_iff, decide_eq_false_iff_not, beq_eq_false_iff_ne]
  omega
 have e1 := runTo_in (f := digitB) h he _ 0 rfl (Nat.zero_le _); rw [Nat.add_zero, hd] at e1; rw [lex_here (by omega) (by rw [ha]; exact h3.1) (by rw [ha]; exact fun x => h3.2.1 x.2.1)]; unfold lexAt
 rw [ha, if_neg (by rw [h3.2.2]; simp), if_pos hf, e1, if_neg (by omega), extractL h]
theorem lex_eof {s : ByteArray} : lex s s.size = (⟨0, ⟨#[]⟩, s.size⟩, s.size) := by
 unfold lex; rw [skip_end (Nat.le_refl _), if_pos rfl]
end Go.Proofs.YtockffblncdikaaGreatDoor
