/- Nothing of its own. -/
import Derived.Test.YtekfledccpeblaaGreatDoorTok
import Derived.Test.YtekfledccpeblaaGreatDoorLx

namespace Go.Proofs.YtekfledccpeblaaGreatDoor
open Go.RowKit


end Go.Proofs.YtekfledccpeblaaGreatDoor

/- The language's reader, as functions of its state: no walk. Each mirrors a method of the document's reader, in the failed state too. -/
namespace Go.Proofs.YtekfledccpeblaaGreatDoor
open Go.RowKit

/-- The reader's state: the next token, where it ends, the first fault (code 0: none). -/
structure FS where
  t : LTok
  e : Nat
  code : Nat
  fat : Nat
namespace FS
def fail (st : FS) : FS := if st.code = 0 then { st with code := 1, fat := st.t.at_ } else st
def step (s : ByteArray) (st : FS) : FS := if st.code = 0 then { st with t := (lex s st.e).1, e := (lex s st.e).2 } else st
def is (st : FS) (q : ByteArray) : Bool := st.code == 0 && st.t.kd == 3 && decide (st.t.t = q)
/-- A token of that kind comes next, and nothing has failed. -/
def kin (st : FS) (k : Nat) : Bool := st.code == 0 && st.t.kd == k
def accept (s q : ByteArray) (st : FS) : Bool × FS := if st.is q = true then (true, st.step s) else (false, st)
def must (s q : ByteArray) (st : FS) : FS := if st.is q = true then st.step s else st.fail
def name (s : ByteArray) (st : FS) : ByteArray × FS := if st.kin 1 = true then (st.t.t, st.step s) else (⟨#[]⟩, st.fail)
end FS

/-- Words and signs. -/
abbrev wMax : ByteArray := ⟨#[109, 97, 120]⟩
abbrev wImax : ByteArray := ⟨#[105, 109, 97, 120]⟩
abbrev wProp : ByteArray := ⟨#[80, 114, 111, 112]⟩
abbrev wType : ByteArray := ⟨#[84, 121, 112, 101]⟩
abbrev wSort : ByteArray := ⟨#[83, 111, 114, 116]⟩
abbrev wFun : ByteArray := ⟨#[102, 117, 110]⟩
abbrev wForall : ByteArray := ⟨#[102, 111, 114, 97, 108, 108]⟩
abbrev wLet : ByteArray := ⟨#[108, 101, 116]⟩
abbrev wIn : ByteArray := ⟨#[105, 110]⟩
abbrev wBy : ByteArray := ⟨#[98, 121]⟩
abbrev sOpen : ByteArray := ⟨#[40]⟩
abbrev sShut : ByteArray := ⟨#[41]⟩
abbrev sBrace : ByteArray := ⟨#[123]⟩
abbrev sUnbrace : ByteArray := ⟨#[125]⟩
abbrev sLevels : ByteArray := ⟨#[46, 123]⟩
abbrev sComma : ByteArray := ⟨#[44]⟩
abbrev sColon : ByteArray := ⟨#[58]⟩
abbrev sBe : ByteArray := ⟨#[58, 61]⟩
abbrev sTo : ByteArray := ⟨#[61, 62]⟩
abbrev sArrow : ByteArray := ⟨#[45, 62]⟩
abbrev sEq : ByteArray := ⟨#[61]⟩
abbrev sPlus : ByteArray := ⟨#[43]⟩
abbrev sAt : ByteArray := ⟨#[64]⟩
abbrev sHole : ByteArray := ⟨#[95]⟩
abbrev sBar : ByteArray := ⟨#[124]⟩
abbrev sSemi : ByteArray := ⟨#[59]⟩
abbrev sDot : ByteArray := ⟨#[46]⟩
abbrev wEq : ByteArray := ⟨#[69, 113]⟩

/-- How many successors stand one upon another at the top. -/
def chain : LvB → Nat
  | .succ a => chain a + 1
  | _ => 0
def succN : Nat → LvB → LvB
  | 0, l => l
  | n + 1, l => succN n (.succ l)
/-- A level and so many successors as the next token tells. -/
def raised (s : ByteArray) (l : LvB) (st : FS) : LvB × FS :=
  if st.kin 2 = true then (if 99 < chain l + decV st.t.t then (l, st.fail) else (succN (decV st.t.t) l, st.step s)) else (l, st.fail)
section
variable (s : ByteArray) (L : FS → LvB × FS)
def latomF (st : FS) : LvB × FS :=
  if st.kin 2 = true then raised s .zero st
  else if st.kin 1 = true then (.param (st.name s).1, (st.name s).2)
  else if st.is sOpen = true then ((L (st.step s)).1, (L (st.step s)).2.must s sShut)
  else (.zero, st.fail)
def plusN : Nat → LvB → FS → LvB × FS
  | 0, l, st => (l, st)
  | m + 1, l, st => if st.is sPlus = true then plusN m (raised s l (st.step s)).1 (raised s l (st.step s)).2 else (l, st)
def twoF (st : FS) : LvB × LvB × FS := ((latomF s L st).1, (latomF s L (latomF s L st).2).1, (latomF s L (latomF s L st).2).2)
def levelF (m : Nat) (st : FS) : LvB × FS :=
  if st.is wMax = true then (.max (twoF s L (st.step s)).1 (twoF s L (st.step s)).2.1, (twoF s L (st.step s)).2.2)
  else if st.is wImax = true then (.imax (twoF s L (st.step s)).1 (twoF s L (st.step s)).2.1, (twoF s L (st.step s)).2.2)
  else plusN s m (latomF s L st).1 (latomF s L st).2
end
def levelN (s : ByteArray) : Nat → FS → LvB × FS
  | 0, st => (.zero, st)
  | n + 1, st => levelF s (levelN s n) (n + 1) st
def latomN (s : ByteArray) (n : Nat) (st : FS) : LvB × FS := latomF s (levelN s n) st

/-- An expression, with its places. -/
inductive Ex where
  | node (kd at_ : Nat) (nm : ByteArray) (ex gi inf im : Bool) (ls : List LvB) (xs : List Ex)
def Ex.at_ : Ex → Nat
  | .node _ a _ _ _ _ _ _ _ => a
abbrev zeroX : Ex := .node 0 0 ⟨#[]⟩ false false false false [] []
abbrev holeX (a : Nat) : Ex := .node 3 a ⟨#[]⟩ false false false false [] []
abbrev sortX (a : Nat) (l : LvB) : Ex := .node 2 a ⟨#[]⟩ false false false false [l] []
abbrev appX (a : Nat) (f x : Ex) : Ex := .node 4 a ⟨#[]⟩ false false false false [] [f, x]
/-- A binder and where its name stands. -/
structure Bd where
  nm : ByteArray
  im : Bool
  ty : Ex
  at_ : Nat

def begins (st : FS) : Bool := st.kin 1 || st.is sAt || st.is sHole || st.is wProp || st.is wType || st.is wSort || st.is sOpen
/-- Levels behind a name, up to where no comma stands. -/
def levelsN (s : ByteArray) (n : Nat) : Nat → List LvB → FS → List LvB × FS
  | 0, ls, st => (ls, st)
  | m + 1, ls, st => if st.is sComma = true then levelsN s n m (ls ++ [(levelN s n (st.step s)).1]) (levelN s n (st.step s)).2 else (ls, st)
section
variable (s : ByteArray) (n : Nat) (E : FS → Ex × FS)
def nameX (a : Nat) (ex : Bool) (st : FS) : Ex × FS :=
  let q := st.name s
  if q.2.is sLevels = true then
    let l := levelN s n (q.2.step s)
    let ls := levelsN s n n [l.1] l.2
    (.node 1 a q.1 ex true false false ls.1 [], ls.2.must s sUnbrace)
  else (.node 1 a q.1 ex false false false [] [], q.2)
def bracketX (a : Nat) (st : FS) : Ex × FS :=
  let e := E st
  if e.2.is sColon = true then
    let t := E (e.2.step s)
    (.node 8 a ⟨#[]⟩ false false false false [] [e.1, t.1], t.2.must s sShut)
  else (e.1, e.2.must s sShut)
def atomF (st : FS) : Ex × FS :=
  if st.kin 1 = true then nameX s n st.t.at_ false st
  else if st.is sAt = true then nameX s n st.t.at_ true (st.step s)
  else if st.is sHole = true then (holeX st.t.at_, st.step s)
  else if st.is wProp = true then (sortX st.t.at_ .zero, st.step s)
  else if st.is wType = true then
    (if (st.step s).kin 2 = true then (sortX st.t.at_ (raised s (.succ .zero) (st.step s)).1, (raised s (.succ .zero) (st.step s)).2) else (sortX st.t.at_ (.succ .zero), st.step s))
  else if st.is wSort = true then (sortX st.t.at_ (latomN s n (st.step s)).1, (latomN s n (st.step s)).2)
  else if st.is sOpen = true then bracketX s E st.t.at_ (st.step s)
  else (zeroX, st.fail)
def applyN : Nat → Ex → FS → Ex × FS
  | 0, e, st => (e, st)
  | m + 1, e, st => if begins st = true then applyN m (appX e.at_ e (atomF s n E st).1) (atomF s n E st).2 else (e, st)
def applyF (st : FS) : Ex × FS := applyN s n E n (atomF s n E st).1 (atomF s n E st).2
def equalF (st : FS) : Ex × FS :=
  let a := applyF s n E st
  if a.2.is sEq = true then
    let b := applyF s n E (a.2.step s)
    (appX a.2.t.at_ (appX a.2.t.at_ (.node 1 a.2.t.at_ wEq false false true false [] []) a.1) b.1, b.2)
  else a
/-- The names of one group of binders: one at least. -/
def namesN : Nat → List (ByteArray × Nat) → FS → List (ByteArray × Nat) × FS
  | 0, l, st => (l, st)
  | m + 1, l, st =>
    let q := st.name s
    let l' := l ++ [(q.1, st.t.at_)]
    if q.2.kin 1 = true then namesN m l' q.2 else (l', q.2)
def groupF (st : FS) : List Bd × FS :=
  let im := st.is sBrace
  let st1 := if im = true then st.step s else st.must s sOpen
  let ns := namesN s (n + 1) [] st1
  let t := E (ns.2.must s sColon)
  (ns.1.map fun x => ⟨x.1, im, t.1, x.2⟩, t.2.must s (if im = true then sUnbrace else sShut))
def groupsN : Nat → List Bd → FS → List Bd × FS
  | 0, l, st => (l, st)
  | m + 1, l, st => if st.is sOpen = true ∨ st.is sBrace = true then groupsN m (l ++ (groupF s n E st).1) (groupF s n E st).2 else (l, st)
def funsN : Nat → List Bd → FS → List Bd × FS
  | 0, l, st => (l, st)
  | m + 1, l, st =>
    if st.kin 1 = true then funsN m (l ++ [⟨(st.name s).1, false, holeX st.t.at_, st.t.at_⟩]) (st.name s).2
    else if st.is sOpen = true ∨ st.is sBrace = true then funsN m (l ++ (groupF s n E st).1) (groupF s n E st).2 else (l, st)
/-- An expression under binders. -/
def underX (k : Nat) (l : List Bd) (e : Ex) : Ex := l.foldr (fun b e => .node k b.at_ b.nm false false false b.im [] [b.ty, e]) e
/-- No binder is a fault. -/
def some1 (p : List Bd × FS) : List Bd × FS := if p.1.isEmpty = true then (p.1, p.2.fail) else p
def letX (st : FS) : Ex × FS :=
  let q := st.name s
  let t := E (q.2.must s sColon)
  let v := E (t.2.must s sBe)
  let b := E (v.2.must s wIn)
  (.node 7 st.t.at_ q.1 false false false false [] [t.1, v.1, b.1], b.2)
def exprF (st : FS) : Ex × FS :=
  if st.is wFun = true then
    let l := some1 (funsN s n E n [] (st.step s))
    let b := E (l.2.must s sTo)
    (underX 5 l.1 b.1, b.2)
  else if st.is wForall = true then
    let l := some1 (groupsN s n E n [] (st.step s))
    let b := E (l.2.must s sComma)
    (underX 6 l.1 b.1, b.2)
  else if st.is wLet = true then letX s E (st.step s)
  else
    let a := equalF s n E st
    if a.2.is sArrow = true then
      let b := E (a.2.step s)
      (.node 6 a.2.t.at_ ⟨#[]⟩ false false false false [] [a.1, b.1], b.2)
    else a
end
def exprN (s : ByteArray) : Nat → FS → Ex × FS
  | 0, st => (zeroX, st)
  | n + 1, st => exprF s n (exprN s n) st

/-- A tactic; a constructor; a command. -/
structure Tc where
  kd : Nat
  at_ : Nat
  nms : List ByteArray
  num : Nat
  xs : List Ex
structure Ct where
  nm : ByteArray
  at_ : Nat
  ty : Ex
structure Cm where
  kd : Nat
  at_ : Nat
  nm : ByteArray
  ps : List ByteArray
  bs : List Bd
  ty : Ex
  vl : Ex
  tac : Bool
  tcs : List Tc
  cts : List Ct
/-- The tactics' words, from the first on. -/
def tacWords : List ByteArray := [⟨#[105, 110, 116, 114, 111]⟩, ⟨#[101, 120, 97, 99, 116]⟩, ⟨#[97, 112, 112, 108, 121]⟩, ⟨#[97, 115, 115, 117, 109, 112, 116, 105, 111, 110]⟩, ⟨#[114, 101, 102, 108]⟩, ⟨#[105, 110, 100, 117, 99, 116, 105, 111, 110]⟩, ⟨#[99, 97, 115, 101, 115]⟩, ⟨#[114, 101, 119, 114, 105, 116, 101]⟩, ⟨#[104, 97, 118, 101]⟩, ⟨#[99, 111, 110, 115, 116, 114, 117, 99, 116, 111, 114]⟩, ⟨#[101, 120, 105, 115, 116, 115]⟩, ⟨#[115, 105, 109, 112, 108]⟩, ⟨#[115, 121, 109, 109]⟩]
/-- The place of a word in a list, counted from 1; 0: it is none. -/
def wordNo (q : ByteArray) : List ByteArray → Nat → Nat
  | [], _ => 0
  | x :: l, k => if x = q then k else wordNo q l (k + 1)
/-- Names, as long as one comes. -/
def moreN (s : ByteArray) : Nat → List ByteArray → FS → List ByteArray × FS
  | 0, l, st => (l, st)
  | m + 1, l, st => if st.kin 1 = true then moreN s m (l ++ [(st.name s).1]) (st.name s).2 else (l, st)
def tacticF (s : ByteArray) (n : Nat) (st : FS) : Tc × FS :=
  let k := if st.kin 1 = true then wordNo st.t.t tacWords 1 else 0
  let a := st.t.at_
  let st1 := st.step s
  let q := st1.name s
  let x := exprN s n st1
  if k = 0 then (⟨0, a, [], 0, []⟩, st.fail)
  else if k = 1 then (⟨k, a, (moreN s n [q.1] q.2).1, 0, []⟩, (moreN s n [q.1] q.2).2)
  else if k = 6 ∨ k = 7 then (⟨k, a, [q.1], 0, []⟩, q.2)
  else if k = 9 then (⟨k, a, [q.1], 0, [(exprN s n (q.2.must s sColon)).1]⟩, (exprN s n (q.2.must s sColon)).2)
  else if k = 2 ∨ k = 3 ∨ k = 8 ∨ k = 11 then (⟨k, a, [], 0, [x.1]⟩, x.2)
  else if k = 10 then (if st1.kin 2 = true then (⟨k, a, [], decV st1.t.t, []⟩, st1.step s) else (⟨k, a, [], 0, []⟩, st1.fail))
  else (⟨k, a, [], 0, []⟩, st1)
def commasN (s : ByteArray) : Nat → List ByteArray → FS → List ByteArray × FS
  | 0, l, st => (l, st)
  | m + 1, l, st => if st.is sComma = true then commasN s m (l ++ [((st.step s).name s).1]) ((st.step s).name s).2 else (l, st)
def paramsF (s : ByteArray) (n : Nat) (st : FS) : List ByteArray × FS :=
  if st.is sLevels = true then
    let q := (st.step s).name s
    let l := commasN s n [q.1] q.2
    (l.1, l.2.must s sUnbrace)
  else ([], st)
def tacticsN (s : ByteArray) (n : Nat) : Nat → List Tc → FS → List Tc × FS
  | 0, l, st => (l, st)
  | m + 1, l, st => if st.is sSemi = true then tacticsN s n m (l ++ [(tacticF s n (st.step s)).1]) (tacticF s n (st.step s)).2 else (l, st)
def ctorF (s : ByteArray) (n : Nat) (st : FS) : Ct × FS :=
  let q := st.name s
  let t := exprN s n (q.2.must s sColon)
  (⟨q.1, st.t.at_, t.1⟩, t.2)
def ctorsN (s : ByteArray) (n : Nat) : Nat → List Ct → FS → List Ct × FS
  | 0, l, st => (l, st)
  | m + 1, l, st => if st.is sBar = true then ctorsN s n m (l ++ [(ctorF s n (st.step s)).1]) (ctorF s n (st.step s)).2 else (l, st)
def kindWords : List ByteArray := [⟨#[97, 120, 105, 111, 109]⟩, ⟨#[100, 101, 102]⟩, ⟨#[116, 104, 101, 111, 114, 101, 109]⟩, ⟨#[105, 110, 100, 117, 99, 116, 105, 118, 101]⟩]
def zeroC (a : Nat) : Cm := ⟨0, a, ⟨#[]⟩, [], [], zeroX, zeroX, false, [], []⟩
def commandF (s : ByteArray) (n : Nat) (st : FS) : Cm × FS :=
  let k := if st.kin 3 = true then wordNo st.t.t kindWords 1 else 0
  if k = 0 then (zeroC st.t.at_, st.fail)
  else
    let q := (st.step s).name s
    let p := paramsF s n q.2
    let b := groupsN s n (exprN s n) n [] p.2
    let t := exprN s n (b.2.must s sColon)
    let c : Cm := ⟨k, st.t.at_, q.1, p.1, b.1, t.1, zeroX, false, [], []⟩
    if k = 2 ∨ (k = 3 ∧ t.2.is wBy = false) then
      let v := exprN s n (t.2.must s sBe)
      ({ c with vl := v.1 }, v.2.must s sDot)
    else if k = 3 then
      let x := tacticF s n (t.2.step s)
      let l := tacticsN s n n [x.1] x.2
      ({ c with tac := true, tcs := l.1 }, l.2.must s sDot)
    else if k = 4 then
      let l := ctorsN s n n [] t.2
      ({ c with cts := l.1 }, l.2.must s sDot)
    else (c, t.2.must s sDot)
/-- Commands, up to the text's end or to a fault. -/
def commandsN (s : ByteArray) (n : Nat) : Nat → List Cm → FS → List Cm × FS
  | 0, l, st => (l, st)
  | m + 1, l, st => if st.code = 0 ∧ st.t.kd ≠ 0 then commandsN s n m (l ++ [(commandF s n st).1]) (commandF s n st).2 else (l, st)
/-- A text's commands, and the first fault. -/
def textF (s : ByteArray) : List Cm × FS := commandsN s (s.size + 1) (s.size + 1) [] (FS.step s ⟨⟨0, ⟨#[]⟩, 0⟩, 0, 0, 0⟩)

end Go.Proofs.YtekfledccpeblaaGreatDoor

/- Facts of the language's tokens: no walk. -/
namespace Go.Proofs.YtekfledccpeblaaGreatDoor
open Go.RowKit

/-- Where a token lies: its place, its end, its text. -/
structure LFit (s : ByteArray) (p : Nat) (x : LTok × Nat) : Prop where
  kd : x.1.kd ≤ 4
  ge : p ≤ x.1.at_
  le : x.2 ≤ s.size
  at_le : x.1.at_ ≤ x.2
  text : x.1.t.size = x.2 - x.1.at_
  few : x.1.t.size ≤ 40
  more : 1 ≤ x.1.kd → x.1.kd ≤ 3 → x.1.at_ < x.2
  fin : x.1.kd = 0 → x.1.at_ = s.size
  none : x.1.kd = 4 → x.1.at_ < s.size

theorem runTo_more {f : Nat → Bool} {s : ByteArray} {p : Nat} (h : p < s.size) (hf : f (at_ s p) = true) : p < runTo f s p := by
  rw [runTo_step h hf]
  exact runTo_ge _ _ _
theorem LFit.bad {s : ByteArray} {p : Nat} (h : p < s.size) : LFit s p (⟨4, ⟨#[]⟩, p⟩, p) :=
  ⟨Nat.le_refl _, Nat.le_refl _, Nat.le_of_lt h, Nat.le_refl _, (Nat.sub_self p).symm, Nat.zero_le _, fun _ h => absurd h (by simp), fun h => absurd h (by simp), fun _ => h⟩
theorem LFit.eof {s : ByteArray} {p : Nat} (h : p ≤ s.size) : LFit s p (⟨0, ⟨#[]⟩, s.size⟩, s.size) :=
  ⟨by simp, h, Nat.le_refl _, Nat.le_refl _, (Nat.sub_self _).symm, Nat.zero_le _, fun h => absurd h (by simp), fun _ => rfl, fun h => absurd h (by simp)⟩
theorem lexAt_fit {s : ByteArray} {p : Nat} (h : p < s.size) : LFit s p (lexAt s p) := by
  have he : (⟨#[]⟩ : ByteArray).size = 0 := rfl
  have h1 := lnameEnd_le (s := s) (p := p) (by omega)
  have h2 := runTo_le digitB s (k := p) (by omega)
  have h3 := runTo_ge digitB s p
  unfold lexAt
  split
  · rename_i ha
    have h4 : p < lnameEnd s p := by
      have h5 := runTo_more (f := partB) h (by simp [partB, ha])
      have h6 := (dots_le (s := s) (q := runTo partB s p) (runTo_le partB s (by omega))).1
      unfold lnameEnd
      omega
    split
    · exact LFit.bad h
    · split
      · exact ⟨by simp, by simp, by simp; omega, by simp; omega, by simp [ByteArray.size_extract]; omega, by simp [ByteArray.size_extract]; omega, fun _ _ => h4, fun h => by simp at h, fun h => by simp at h⟩
      · exact ⟨by simp, by simp, by simp; omega, by simp; omega, by simp [ByteArray.size_extract]; omega, by simp [ByteArray.size_extract]; omega, fun _ _ => h4, fun h => by simp at h, fun h => by simp at h⟩
  · split
    · rename_i ha hd
      have h4 := runTo_more (f := digitB) h hd
      split
      · exact LFit.bad h
      · exact ⟨by simp, by simp, by simp; omega, by simp; omega, by simp [ByteArray.size_extract]; omega, by simp [ByteArray.size_extract]; omega, fun _ _ => h4, fun h => by simp at h, fun h => by simp at h⟩
    · split
      · rename_i ht
        exact ⟨by simp, by simp, by simp; omega, by simp, by simp [ByteArray.size_extract]; omega, by simp [ByteArray.size_extract]; omega, fun _ _ => by simp, fun h => by simp at h, fun h => by simp at h⟩
      · split
        · exact ⟨by simp, by simp, by simp; omega, by simp, by simp [ByteArray.size_extract]; omega, by simp [ByteArray.size_extract]; omega, fun _ _ => by simp, fun h => by simp at h, fun h => by simp at h⟩
        · exact LFit.bad h
theorem lex_fit {s : ByteArray} {p : Nat} (h : p ≤ s.size) : LFit s p (lex s p) := by
  have h1 := skip_le h
  unfold lex
  split
  · exact LFit.eof h
  · have := lexAt_fit (s := s) (p := skip s p) (by omega)
    exact ⟨this.kd, by have := this.ge; omega, this.le, this.at_le, this.text, this.few, this.more, this.fin, this.none⟩

/-- A state that a text can have: the token lies ahead of its end, within the text. -/
structure FS.Ok (s : ByteArray) (st : FS) : Prop where
  tok : ∃ p, LFit s p (st.t, st.e)
  code : st.code ≤ 1
theorem FS.Ok.le {s : ByteArray} {st : FS} (h : st.Ok s) : st.e ≤ s.size := by obtain ⟨p, h⟩ := h.tok; exact h.le
theorem FS.Ok.fail {s : ByteArray} {st : FS} (h : st.Ok s) : st.fail.Ok s := by
  unfold FS.fail
  split
  · exact ⟨h.tok, by simp⟩
  · exact h
theorem FS.Ok.step {s : ByteArray} {st : FS} (h : st.Ok s) : (st.step s).Ok s := by
  unfold FS.step
  split
  · exact ⟨⟨st.e, lex_fit h.le⟩, h.code⟩
  · exact h
theorem FS.Ok.must {s q : ByteArray} {st : FS} (h : st.Ok s) : (st.must s q).Ok s := by
  unfold FS.must
  split
  · exact h.step
  · exact h.fail
theorem FS.Ok.name {s : ByteArray} {st : FS} (h : st.Ok s) : (st.name s).2.Ok s := by
  unfold FS.name
  split
  · exact h.step
  · exact h.fail
/-- How much is left: what a token that is taken brings down. -/
def FS.left (s : ByteArray) (st : FS) : Nat := 2 * (s.size - st.t.at_) + (if st.code = 0 then 1 else 0)
theorem FS.fail_left {s : ByteArray} {st : FS} : (st.fail).left s ≤ st.left s := by
  unfold FS.fail FS.left
  split <;> simp_all
/-- A token that is taken: less is left. -/
theorem FS.step_left {s : ByteArray} {st : FS} (h : st.Ok s) (hc : st.code = 0) (h1 : 1 ≤ st.t.kd) (h3 : st.t.kd ≤ 3) : (st.step s).left s < st.left s := by
  obtain ⟨p, hp⟩ := h.tok
  have hm := hp.more h1 h3
  have hl := hp.le
  have hn := lex_fit (s := s) (p := st.e) hl
  have hg := hn.ge
  unfold FS.step
  rw [if_pos hc]
  unfold FS.left
  simp only [hc, if_true]
  have : st.t.at_ < st.e := hm
  have : st.e ≤ (lex s st.e).1.at_ := hg
  have := hn.at_le
  have := hn.le
  omega
theorem FS.step_le {s : ByteArray} {st : FS} (h : st.Ok s) : (st.step s).left s ≤ st.left s := by
  obtain ⟨p, hp⟩ := h.tok
  have hn := lex_fit (s := s) (p := st.e) hp.le
  have h1 := hn.ge
  have h2 := hp.at_le
  unfold FS.step
  split
  · rename_i hc
    unfold FS.left
    simp only [hc, if_true]
    have : st.t.at_ ≤ st.e := h2
    have : st.e ≤ (lex s st.e).1.at_ := h1
    omega
  · exact Nat.le_refl _
theorem FS.is_kd {st : FS} {q : ByteArray} (h : st.is q = true) : st.code = 0 ∧ st.t.kd = 3 ∧ st.t.t = q := by
  unfold FS.is at h
  simpa [and_assoc] using h
theorem FS.kin_kd {st : FS} {k : Nat} (h : st.kin k = true) : st.code = 0 ∧ st.t.kd = k := by
  unfold FS.kin at h
  simpa using h

end Go.Proofs.YtekfledccpeblaaGreatDoor

/- The language's reader never goes back: no walk. -/
namespace Go.Proofs.YtekfledccpeblaaGreatDoor
open Go.RowKit

/-- A state that is reached from another: it is a state of the text, and no more is left. -/
structure Dn (s : ByteArray) (st st' : FS) : Prop where
  ok : st'.Ok s
  left : st'.left s ≤ st.left s
  code : st.code ≠ 0 → st' = st
section
variable {s : ByteArray} {st st1 st2 : FS}
theorem Dn.refl (h : st.Ok s) : Dn s st st := ⟨h, Nat.le_refl _, fun _ => rfl⟩
theorem Dn.trans (h : Dn s st st1) (h' : Dn s st1 st2) : Dn s st st2 := ⟨h'.ok, Nat.le_trans h'.left h.left, fun hc => by have e := h.code hc; rw [← e]; exact h'.code (by rw [e]; exact hc)⟩
theorem Dn.fail (h : Dn s st st1) : Dn s st st1.fail := h.trans ⟨h.ok.fail, FS.fail_left, fun hc => by unfold FS.fail; rw [if_neg hc]⟩
theorem Dn.step (h : Dn s st st1) : Dn s st (st1.step s) := h.trans ⟨h.ok.step, FS.step_le h.ok, fun hc => by unfold FS.step; rw [if_neg hc]⟩
theorem Dn.must {q : ByteArray} (h : Dn s st st1) : Dn s st (st1.must s q) := by
  unfold FS.must
  split
  · exact h.step
  · exact h.fail
theorem Dn.name (h : Dn s st st1) : Dn s st (st1.name s).2 := by
  unfold FS.name
  split
  · exact h.step
  · exact h.fail
theorem Dn.raised {l : LvB} (h : Dn s st st1) : Dn s st (raised s l st1).2 := by
  unfold Proofs.YtekfledccpeblaaGreatDoor.raised
  split
  · split
    · exact h.fail
    · exact h.step
  · exact h.fail
end
/-- Whatever is read, the reader does not go back. -/
def Fwd {α : Type} (s : ByteArray) (E : FS → α × FS) : Prop := ∀ st, st.Ok s → Dn s st (E st).2
theorem Fwd.dn {α : Type} {s : ByteArray} {E : FS → α × FS} (h : Fwd s E) {st st1 : FS} (hd : Dn s st st1) : Dn s st (E st1).2 := hd.trans (h st1 hd.ok)
section
variable {s : ByteArray}
theorem latomF_fwd {L : FS → LvB × FS} (hL : Fwd s L) : Fwd s (latomF s L) := fun st h => by
  unfold latomF
  split
  · exact (Dn.refl h).raised
  · split
    · exact (Dn.refl h).name
    · split
      · exact (hL.dn (Dn.refl h).step).must
      · exact (Dn.refl h).fail
theorem plusN_fwd : ∀ (m : Nat) (l : LvB), Fwd s (plusN s m l)
  | 0, _ => fun st h => Dn.refl h
  | m + 1, l => fun st h => by
    simp only [plusN]
    split
    · exact (plusN_fwd m _).dn (Dn.refl h).step.raised
    · exact Dn.refl h
theorem twoF_fwd {L : FS → LvB × FS} (hL : Fwd s L) {st st1 : FS} (hd : Dn s st st1) : Dn s st (twoF s L st1).2.2 := (latomF_fwd hL).dn ((latomF_fwd hL).dn hd)
theorem levelF_fwd {L : FS → LvB × FS} (hL : Fwd s L) (m : Nat) : Fwd s (levelF s L m) := fun st h => by
  unfold levelF
  split
  · exact twoF_fwd hL (Dn.refl h).step
  · split
    · exact twoF_fwd hL (Dn.refl h).step
    · exact (plusN_fwd m _).dn (latomF_fwd hL st h)
theorem levelN_fwd : ∀ n, Fwd s (levelN s n)
  | 0 => fun _ h => Dn.refl h
  | n + 1 => levelF_fwd (levelN_fwd n) (n + 1)
theorem latomN_fwd (n : Nat) : Fwd s (latomN s n) := latomF_fwd (levelN_fwd n)
theorem levelsN_fwd (n : Nat) : ∀ (m : Nat) (ls : List LvB), Fwd s (levelsN s n m ls)
  | 0, _ => fun st h => Dn.refl h
  | m + 1, ls => fun st h => by
    simp only [levelsN]
    split
    · exact (levelsN_fwd n m _).dn ((levelN_fwd n).dn (Dn.refl h).step)
    · exact Dn.refl h
theorem nameX_fwd (n a : Nat) (ex : Bool) : Fwd s (nameX s n a ex) := fun st h => by
  unfold nameX
  simp only
  split
  · exact ((levelsN_fwd n n _).dn ((levelN_fwd n).dn (Dn.refl h).name.step)).must
  · exact (Dn.refl h).name
variable {n : Nat} {E : FS → Ex × FS}
theorem bracketX_fwd (hE : Fwd s E) (a : Nat) : Fwd s (bracketX s E a) := fun st h => by
  unfold bracketX
  simp only
  split
  · exact (hE.dn (hE.dn (Dn.refl h)).step).must
  · exact (hE.dn (Dn.refl h)).must
theorem atomF_fwd (hE : Fwd s E) : Fwd s (atomF s n E) := fun st h => by
  unfold atomF
  split
  · exact nameX_fwd _ _ _ st h
  split
  · exact (nameX_fwd _ _ _).dn (Dn.refl h).step
  split
  · exact (Dn.refl h).step
  split
  · exact (Dn.refl h).step
  split
  · split
    · exact (Dn.refl h).step.raised
    · exact (Dn.refl h).step
  split
  · exact (latomN_fwd n).dn (Dn.refl h).step
  split
  · exact (bracketX_fwd hE _).dn (Dn.refl h).step
  · exact (Dn.refl h).fail
theorem applyN_fwd (hE : Fwd s E) : ∀ (m : Nat) (e : Ex), Fwd s (applyN s n E m e)
  | 0, _ => fun st h => Dn.refl h
  | m + 1, e => fun st h => by
    simp only [applyN]
    split
    · exact (applyN_fwd hE m _).dn (atomF_fwd hE st h)
    · exact Dn.refl h
theorem applyF_fwd (hE : Fwd s E) : Fwd s (applyF s n E) := fun st h => (applyN_fwd hE n _).dn (atomF_fwd hE st h)
theorem equalF_fwd (hE : Fwd s E) : Fwd s (equalF s n E) := fun st h => by
  unfold equalF
  simp only
  split
  · exact (applyF_fwd hE).dn (applyF_fwd hE st h).step
  · exact applyF_fwd hE st h
theorem namesN_fwd : ∀ (m : Nat) (l : List (ByteArray × Nat)), Fwd s (namesN s m l)
  | 0, _ => fun st h => Dn.refl h
  | m + 1, l => fun st h => by
    simp only [namesN]
    split
    · exact (namesN_fwd m _).dn (Dn.refl h).name
    · exact (Dn.refl h).name
theorem groupF_fwd (hE : Fwd s E) : Fwd s (groupF s n E) := fun st h => by
  unfold groupF
  simp only
  split
  · exact (hE.dn ((namesN_fwd (n + 1) []).dn (Dn.refl h).step).must).must
  · exact (hE.dn ((namesN_fwd (n + 1) []).dn (Dn.refl h).must).must).must
theorem groupsN_fwd (hE : Fwd s E) : ∀ (m : Nat) (l : List Bd), Fwd s (groupsN s n E m l)
  | 0, _ => fun st h => Dn.refl h
  | m + 1, l => fun st h => by
    simp only [groupsN]
    split
    · exact (groupsN_fwd hE m _).dn (groupF_fwd hE st h)
    · exact Dn.refl h
theorem funsN_fwd (hE : Fwd s E) : ∀ (m : Nat) (l : List Bd), Fwd s (funsN s n E m l)
  | 0, _ => fun st h => Dn.refl h
  | m + 1, l => fun st h => by
    simp only [funsN]
    split
    · exact (funsN_fwd hE m _).dn (Dn.refl h).name
    · split
      · exact (funsN_fwd hE m _).dn (groupF_fwd hE st h)
      · exact Dn.refl h
theorem some1_dn {st : FS} {p : List Bd × FS} (h : Dn s st p.2) : Dn s st (some1 p).2 := by
  unfold some1
  split
  · exact h.fail
  · exact h
theorem letX_fwd (hE : Fwd s E) : Fwd s (letX s E) := fun _ h => hE.dn (hE.dn (hE.dn (Dn.refl h).name.must).must).must
theorem exprF_fwd (hE : Fwd s E) : Fwd s (exprF s n E) := fun st h => by
  unfold exprF
  simp only
  split
  · exact hE.dn (some1_dn ((funsN_fwd hE n []).dn (Dn.refl h).step)).must
  split
  · exact hE.dn (some1_dn ((groupsN_fwd hE n []).dn (Dn.refl h).step)).must
  split
  · exact (letX_fwd hE).dn (Dn.refl h).step
  split
  · exact hE.dn (equalF_fwd hE st h).step
  · exact equalF_fwd hE st h
end
theorem exprN_fwd {s : ByteArray} : ∀ n, Fwd s (exprN s n)
  | 0 => fun _ h => Dn.refl h
  | n + 1 => exprF_fwd (exprN_fwd n)

end Go.Proofs.YtekfledccpeblaaGreatDoor
