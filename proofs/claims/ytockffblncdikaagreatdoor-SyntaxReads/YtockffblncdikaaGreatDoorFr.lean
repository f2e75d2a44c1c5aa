/- The language's reader, as functions of its state: no walk. Each mirrors a method of the document's reader, in the failed state too. -/
import Derived.Test.YtockffblncdikaaGreatDoorRows
import Derived.WalkKit
import Derived.WalkSpells
import Derived.WalkLawsBesides
import Derived.WideShapes
import Derived.Deep.LoopGhost
import Derived.Deep.QuietTactic
import Derived.BigQuiet
import Derived.WalkSmall
import Derived.Deep.RegionWith
import Derived.Deep.RegionHeld3
import Derived.Deep.MidRow
import Derived.Lib.ItoaNum
namespace Go.Proofs.YtockffblncdikaaGreatDoor
open Go.RowKit
set_option maxRecDepth 100000
set_option maxHeartbeats 16000000
theorem hide {p : Prop} (h : p) : Hid p := h
def at_ (s : ByteArray) (k : Nat) : Nat := if h : k < s.size then (s[k]).toNat else 0
theorem at_eq {s : ByteArray} {k : Nat} (h : k < s.size) : (s[k]).toNat = at_ s k := by simp [at_, h]
def run (f : Nat -> Bool) (s : ByteArray) : Nat -> Nat -> Nat
 | 0, k => k
 | n + 1, k => if k < s.size /\ f (at_ s k) = true then run f s n (k + 1) else k
def runTo (f : Nat -> Bool) (s : ByteArray) (k : Nat) : Nat := run f s (s.size - k) k
theorem run_ge (f : Nat -> Bool) (s : ByteArray) : ∀ n k, k <= run f s n k
 | 0, k => Nat.le_refl _
 | n + 1, k => by simp only [run]; split; have := run_ge f s n (k + 1); omega; omega
theorem run_le (f : Nat -> Bool) (s : ByteArray) : ∀ n k, k <= s.size -> run f s n k <= s.size
 | 0, k, h => h
 | n + 1, k, h => by simp only [run]; split; rename_i h'; exact run_le f s n (k + 1) (by omega); exact h
theorem runTo_ge (f : Nat -> Bool) (s : ByteArray) (k : Nat) : k <= runTo f s k := run_ge f s _ k
theorem runTo_le (f : Nat -> Bool) (s : ByteArray) {k : Nat} (h : k <= s.size) : runTo f s k <= s.size := run_le f s _ k h
theorem runTo_step {f : Nat -> Bool} {s : ByteArray} {k : Nat} (h : k < s.size) (hf : f (at_ s k) = true) : runTo f s k = runTo f s (k + 1) := by
 unfold runTo; rw [show s.size - k = (s.size - (k + 1)) + 1 by omega]
 simp [run, h, hf]
theorem runTo_stop {f : Nat -> Bool} {s : ByteArray} {k : Nat} (hf : f (at_ s k) = false) : runTo f s k = k := by
 unfold runTo
 cases s.size - k with
 | zero => rfl
 | succ n => simp [run, hf]
theorem runTo_end {f : Nat -> Bool} {s : ByteArray} {k : Nat} (h : s.size <= k) : runTo f s k = k := by
 unfold runTo; rw [show s.size - k = 0 by omega]
 rfl
def blankB (c : Nat) : Bool := c == 32 || c == 9 || c == 10
def digitB (c : Nat) : Bool := 48 <= c && c <= 57
def Has (s : ByteArray) (p : Nat) (t : List UInt8) : Prop := p + t.length <= s.size /\ ∀ i (h : i < t.length), at_ s (p + i) = (t[i]).toNat
theorem Has.left {s : ByteArray} {p : Nat} {t u : List UInt8} (h : Has s p (t ++ u)) : Has s p t := by
 refine ⟨by have := h.1; simp at this; omega, fun i hi => ?_⟩; have := h.2 i (by simp; omega)
 rwa [List.getElem_append_left hi] at this
theorem Has.right {s : ByteArray} {p : Nat} {t u : List UInt8} (h : Has s p (t ++ u)) : Has s (p + t.length) u := by
 refine ⟨by have := h.1; simp at this; omega, fun i hi => ?_⟩; have := h.2 (t.length + i) (by simp; omega); rw [List.getElem_append_right (by omega)] at this
 simpa [Nat.add_assoc] using this
theorem Has.head {s : ByteArray} {p : Nat} {c : UInt8} {u : List UInt8} (h : Has s p (c :: u)) : p < s.size /\ at_ s p = c.toNat /\ Has s (p + 1) u := by
 have h1 := h.2 0 (by simp); have hs := h.1
 simp at h1 hs
 exact ⟨by omega, h1, Has.right (t := [c]) h⟩
theorem at_data (q : ByteArray) (i : Nat) (h : i < q.size) : at_ q i = (q.data.toList[i]'(by simpa using h)).toNat := by
 unfold at_; rw [dif_pos h]; rfl
theorem at_extract {s : ByteArray} {a b i : Nat} (hb : b <= s.size) (hi : a + i < b) : at_ (s.extract a b) i = at_ s (a + i) := by
 have h1 : i < (s.extract a b).size := by rw [ByteArray.size_extract]; omega
 unfold at_
 rw [dif_pos h1, dif_pos (by omega)]
 congr 1
 exact ByteArray.getElem_extract ..
theorem run_all {f : Nat -> Bool} {s : ByteArray} : ∀ (n k j : Nat), k <= j -> j < run f s n k -> f (at_ s j) = true
 | 0, k, j, h1, h2 => by simp [run] at h2; omega
 | n + 1, k, j, h1, h2 => by
   simp only [run] at h2
   split at h2
   . rename_i hh
     by_cases e : j = k
     . subst e; exact hh.2
     . exact run_all n (k + 1) j (by omega) h2
   . omega
def decF : Nat -> List UInt8 -> Nat
 | acc, [] => acc
 | acc, c :: r => decF (acc * 10 + (c.toNat - 48)) r
def decV (d : ByteArray) : Nat := decF 0 d.data.toList
theorem pow_move (a P : Nat) : a * (P * 10) = a * 10 * P := by rw [Nat.mul_comm P 10, Nat.mul_assoc]
theorem decF_lt : ∀ (l : List UInt8) (acc : Nat), (∀ c ∈ l, 48 <= c.toNat /\ c.toNat <= 57) -> decF acc l < (acc + 1) * 10 ^ l.length
 | [], acc, _ => by rw [List.length_nil, Nat.pow_zero, Nat.mul_one]; exact Nat.lt_succ_self _
 | c :: r, acc, h => by
   have ih := decF_lt r (acc * 10 + (c.toNat - 48)) fun x hx => h x (by simp [hx])
   have hc := h c (by simp); rw [List.length_cons, Nat.pow_succ]; show decF (acc * 10 + (c.toNat - 48)) r < (acc + 1) * (10 ^ r.length * 10); have hx : acc * 10 + (c.toNat - 48) + 1 <= (acc + 1) * 10 := by omega
   generalize acc * 10 + (c.toNat - 48) = x at *; generalize decF x r = D at *; generalize 10 ^ r.length = P at *; rw [pow_move]; exact Nat.lt_of_lt_of_le ih (Nat.mul_le_mul_right P hx)
def Digs (d : ByteArray) : Prop := ∀ c ∈ d.data.toList, 48 <= c.toNat /\ c.toNat <= 57
theorem run_digs {s : ByteArray} {a q : Nat} (ha : a <= s.size) (hq : runTo digitB s a = q) : Digs (s.extract a q) := by
 have hle := runTo_le digitB s ha; have hge := runTo_ge digitB s a; rw [hq] at hle hge; intro c hc; obtain ⟨i, hi, rfl⟩ := List.getElem_of_mem hc
 have hsz : (s.extract a q).data.toList.length = q - a := by
  have h1 : (s.extract a q).size = q - a := by rw [ByteArray.size_extract]; omega
  have h2 : (s.extract a q).data.toList.length = (s.extract a q).size := by rw [Array.length_toList]; rfl
  rw [h2, h1]
 rw [hsz] at hi; have h1 : at_ (s.extract a q) i = at_ s (a + i) := at_extract hle (by omega)
 rw [at_data _ i (by rw [ByteArray.size_extract]; omega)] at h1; have h2 : digitB (at_ s (a + i)) = true := run_all (f := digitB) _ a (a + i) (by omega) (by have : run digitB s (s.size - a) a = q := hq; rw [this]; omega)
 simp [digitB] at h2
 rw [h1]; exact h2
inductive Lv (α : Type) where
 | zero
 | succ (a : Lv α)
 | max (a b : Lv α)
 | imax (a b : Lv α)
 | param (p : α)
abbrev LvB := Lv ByteArray
def Lv.kind {α : Type} : Lv α -> Nat
 | .zero => 0
 | .succ _ => 1
 | .max _ _ => 2
 | .imax _ _ => 3
 | .param _ => 4
def Lv.nm : LvB -> ByteArray
 | .param p => p
 | _ => ⟨#[]⟩
def Lv.kids {α : Type} : Lv α -> List (Lv α)
 | .zero => []
 | .succ a => [a]
 | .max a b => [a, b]
 | .imax a b => [a, b]
 | .param _ => []
def Lv.nodes {α : Type} : Lv α -> Nat
 | .zero => 1
 | .succ a => a.nodes + 1
 | .max a b => a.nodes + b.nodes + 1
 | .imax a b => a.nodes + b.nodes + 1
 | .param _ => 1
def alphaB (c : Nat) : Bool := (97 <= c && c <= 122) || (65 <= c && c <= 90)
def partB (c : Nat) : Bool := alphaB c || digitB c || c == 95 || c == 39
def lineB (c : Nat) : Bool := c != 10
def skipN (s : ByteArray) : Nat -> Nat -> Nat
 | 0, p => p
 | n + 1, p => if p < s.size /\ blankB (at_ s p) = true then skipN s n (p + 1)
     else if p + 1 < s.size /\ at_ s p = 45 /\ at_ s (p + 1) = 45 then skipN s n (runTo lineB s p) else p
def skip (s : ByteArray) (p : Nat) : Nat := skipN s (s.size - p) p
def dotsN (s : ByteArray) : Nat -> Nat -> Nat
 | 0, q => q
 | n + 1, q => if q + 1 < s.size /\ at_ s q = 46 /\ alphaB (at_ s (q + 1)) = true then dotsN s n (runTo partB s (q + 1)) else q
def dots (s : ByteArray) (q : Nat) : Nat := dotsN s (s.size - q) q
def lnameEnd (s : ByteArray) (p : Nat) : Nat := dots s (runTo partB s p)
theorem runTo_line {s : ByteArray} {p : Nat} (h : p < s.size) (hc : at_ s p = 45) : p + 1 <= runTo lineB s p := by
 rw [runTo_step h (by simp [lineB, hc])]; exact runTo_ge _ _ _
theorem skipN_le (s : ByteArray) : ∀ n p, p <= s.size -> p <= skipN s n p /\ skipN s n p <= s.size
 | 0, p, h => ⟨Nat.le_refl _, h⟩
 | n + 1, p, h => by
   simp only [skipN]
   split
   . rename_i h1
     have := skipN_le s n (p + 1) (by omega); omega
   . split
     . rename_i h1
       have := runTo_line (by omega) h1.2.1; have := runTo_le lineB s h; have := skipN_le s n (runTo lineB s p) (by omega); omega
     . exact ⟨Nat.le_refl _, h⟩
theorem skip_le {s : ByteArray} {p : Nat} (h : p <= s.size) : p <= skip s p /\ skip s p <= s.size := skipN_le s _ p h
theorem skipN_more (s : ByteArray) : ∀ n m p, s.size - p <= n -> s.size - p <= m -> p <= s.size -> skipN s n p = skipN s m p
 | 0, 0, _, _, _, _ => rfl
 | 0, m + 1, p, h, _, hp => by
   simp only [skipN]
   rw [if_neg (by omega), if_neg (by omega)]
 | n + 1, 0, p, _, h, hp => by
   simp only [skipN]
   rw [if_neg (by omega), if_neg (by omega)]
 | n + 1, m + 1, p, h, h', hp => by
   simp only [skipN]
   split
   . rename_i h1
     exact skipN_more s n m (p + 1) (by omega) (by omega) (by omega)
   . split
     . rename_i h1
       have h2 := runTo_line (by omega) h1.2.1; have h3 := runTo_le lineB s hp; exact skipN_more s n m _ (by omega) (by omega) h3
     . rfl
theorem skip_blank {s : ByteArray} {p : Nat} (h : p < s.size) (hb : blankB (at_ s p) = true) : skip s p = skip s (p + 1) := by
 unfold skip; rw [show s.size - p = (s.size - (p + 1)) + 1 by omega]
 simp only [skipN]
 rw [if_pos ⟨h, hb⟩]
theorem skip_line {s : ByteArray} {p : Nat} (h : p + 1 < s.size) (h1 : at_ s p = 45) (h2 : at_ s (p + 1) = 45) : skip s p = skip s (runTo lineB s p) := by
 have h3 := runTo_line (by omega) h1; have h4 := runTo_le lineB s (k := p) (by omega); unfold skip; rw [show s.size - p = (s.size - (p + 1)) + 1 by omega]
 simp only [skipN]
 rw [if_neg (by rw [h1]; simp [blankB]), if_pos ⟨h, h1, h2⟩]; exact skipN_more s _ _ _ (by omega) (by omega) h4
theorem skip_stop {s : ByteArray} {p : Nat} (hb : blankB (at_ s p) = false) (hl : ¬ (p + 1 < s.size /\ at_ s p = 45 /\ at_ s (p + 1) = 45)) : skip s p = p := by
 unfold skip
 cases s.size - p with
 | zero => rfl
 | succ n => simp only [skipN]; rw [if_neg (by rw [hb]; simp), if_neg hl]
theorem skip_end {s : ByteArray} {p : Nat} (h : s.size <= p) : skip s p = p := by
 unfold skip; rw [show s.size - p = 0 by omega]
 rfl
theorem dotsN_le (s : ByteArray) : ∀ n q, q <= s.size -> q <= dotsN s n q /\ dotsN s n q <= s.size
 | 0, q, h => ⟨Nat.le_refl _, h⟩
 | n + 1, q, h => by
   simp only [dotsN]
   split
   . rename_i h1
     have h2 := runTo_ge partB s (q + 1); have h3 := runTo_le partB s (k := q + 1) (by omega); have := dotsN_le s n (runTo partB s (q + 1)) h3; omega
   . exact ⟨Nat.le_refl _, h⟩
theorem dotsN_more (s : ByteArray) : ∀ n m q, s.size - q <= n -> s.size - q <= m -> q <= s.size -> dotsN s n q = dotsN s m q
 | 0, 0, _, _, _, _ => rfl
 | 0, m + 1, q, h, _, hq => by
   simp only [dotsN]
   rw [if_neg (by omega)]
 | n + 1, 0, q, _, h, hq => by
   simp only [dotsN]
   rw [if_neg (by omega)]
 | n + 1, m + 1, q, h, h', hq => by
   simp only [dotsN]
   split
   . rename_i h1
     have h2 := runTo_ge partB s (q + 1); have h3 := runTo_le partB s (k := q + 1) (by omega); exact dotsN_more s n m _ (by omega) (by omega) h3
   . rfl
theorem dots_step {s : ByteArray} {q : Nat} (h : q + 1 < s.size) (h1 : at_ s q = 46) (h2 : alphaB (at_ s (q + 1)) = true) : dots s q = dots s (runTo partB s (q + 1)) := by
 have h3 := runTo_ge partB s (q + 1); have h4 := runTo_le partB s (k := q + 1) (by omega); unfold dots; rw [show s.size - q = (s.size - (q + 1)) + 1 by omega]
 simp only [dotsN]
 rw [if_pos ⟨h, h1, h2⟩]; exact dotsN_more s _ _ _ (by omega) (by omega) h4
theorem dots_stop {s : ByteArray} {q : Nat} (h : ¬ (q + 1 < s.size /\ at_ s q = 46 /\ alphaB (at_ s (q + 1)) = true)) : dots s q = q := by
 unfold dots
 cases s.size - q with
 | zero => rfl
 | succ n => simp only [dotsN]; rw [if_neg h]
theorem dots_le {s : ByteArray} {q : Nat} (h : q <= s.size) : q <= dots s q /\ dots s q <= s.size := dotsN_le s _ q h
theorem lnameEnd_le {s : ByteArray} {p : Nat} (h : p <= s.size) : p <= lnameEnd s p /\ lnameEnd s p <= s.size := by
 have h1 := runTo_ge partB s p; have h2 := runTo_le partB s h; have := dots_le h2; unfold lnameEnd; omega
def lwords : List ByteArray := [⟨#[97, 120, 105, 111, 109]⟩, ⟨#[100, 101, 102]⟩, ⟨#[116, 104, 101, 111, 114, 101, 109]⟩, ⟨#[105, 110, 100, 117, 99, 116, 105, 118, 101]⟩, ⟨#[102, 117, 110]⟩, ⟨#[102, 111, 114, 97, 108, 108]⟩, ⟨#[108, 101, 116]⟩, ⟨#[105, 110]⟩, ⟨#[98, 121]⟩, ⟨#[84, 121, 112, 101]⟩, ⟨#[80, 114, 111, 112]⟩, ⟨#[83, 111, 114, 116]⟩, ⟨#[109, 97, 120]⟩, ⟨#[105, 109, 97, 120]⟩]
def isWord (t : ByteArray) : Bool := lwords.any fun q => decide (t = q)
def twoB (a b : Nat) : Bool := (a == 58 && b == 61) || (a == 61 && b == 62) || (a == 45 && b == 62) || (a == 46 && b == 123)
def oneB (c : Nat) : Bool := c == 40 || c == 41 || c == 123 || c == 125 || c == 58 || c == 44 || c == 46 || c == 124 || c == 64 || c == 95 || c == 61 || c == 59 || c == 43
structure LTok where
 kd : Nat
 t : ByteArray
 at_ : Nat
def lexAt (s : ByteArray) (p : Nat) : LTok × Nat :=
 if alphaB (at_ s p) = true then
  if 40 < lnameEnd s p - p then (⟨4, ⟨#[]⟩, p⟩, p)
  else if isWord (s.extract p (lnameEnd s p)) = true then (⟨3, s.extract p (lnameEnd s p), p⟩, lnameEnd s p) else (⟨1, s.extract p (lnameEnd s p), p⟩, lnameEnd s p)
 else if digitB (at_ s p) = true then
  if 2 < runTo digitB s p - p \/ (runTo digitB s p - p = 2 /\ at_ s p = 48) then (⟨4, ⟨#[]⟩, p⟩, p) else (⟨2, s.extract p (runTo digitB s p), p⟩, runTo digitB s p)
 else if p + 1 < s.size /\ twoB (at_ s p) (at_ s (p + 1)) = true then (⟨3, s.extract p (p + 2), p⟩, p + 2)
 else if oneB (at_ s p) = true then (⟨3, s.extract p (p + 1), p⟩, p + 1)
 else (⟨4, ⟨#[]⟩, p⟩, p)
def lex (s : ByteArray) (p : Nat) : LTok × Nat := if skip s p = s.size then (⟨0, ⟨#[]⟩, s.size⟩, s.size) else lexAt s (skip s p)
structure FS where
 t : LTok
 e : Nat
 code : Nat
 fat : Nat
namespace FS
def fail (st : FS) : FS := if st.code = 0 then { st with code := 1, fat := st.t.at_ } else st
def step (s : ByteArray) (st : FS) : FS := if st.code = 0 then { st with t := (lex s st.e).1, e := (lex s st.e).2 } else st
def is (st : FS) (q : ByteArray) : Bool := st.code == 0 && st.t.kd == 3 && decide (st.t.t = q)
def kin (st : FS) (k : Nat) : Bool := st.code == 0 && st.t.kd == k
def must (s q : ByteArray) (st : FS) : FS := if st.is q = true then st.step s else st.fail
def name (s : ByteArray) (st : FS) : ByteArray × FS := if st.kin 1 = true then (st.t.t, st.step s) else (⟨#[]⟩, st.fail)
end FS
abbrev wMax : ByteArray := ⟨#[109, 97, 120]⟩
abbrev wImax : ByteArray := ⟨#[105, 109, 97, 120]⟩
abbrev wProp : ByteArray := ⟨#[80, 114, 111, 112]⟩
abbrev wType : ByteArray := ⟨#[84, 121, 112, 101]⟩
abbrev wSort : ByteArray := ⟨#[83, 111, 114, 116]⟩
abbrev wFun : ByteArray := ⟨#[102, 117, 110]⟩
abbrev wForall : ByteArray := ⟨#[102, 111, 114, 97, 108, 108]⟩
abbrev wLet : ByteArray := ⟨#[108, 101, 116]⟩
abbrev wIn : ByteArray := ⟨#[105, 110]⟩
abbrev wBy : ByteArray := ⟨#[98, 121]⟩
abbrev sOpen : ByteArray := ⟨#[40]⟩
abbrev sShut : ByteArray := ⟨#[41]⟩
abbrev sBrace : ByteArray := ⟨#[123]⟩
abbrev sUnbrace : ByteArray := ⟨#[125]⟩
abbrev sLevels : ByteArray := ⟨#[46, 123]⟩
abbrev sComma : ByteArray := ⟨#[44]⟩
abbrev sColon : ByteArray := ⟨#[58]⟩
abbrev sBe : ByteArray := ⟨#[58, 61]⟩
abbrev sTo : ByteArray := ⟨#[61, 62]⟩
abbrev sArrow : ByteArray := ⟨#[45, 62]⟩
abbrev sEq : ByteArray := ⟨#[61]⟩
abbrev sPlus : ByteArray := ⟨#[43]⟩
abbrev sAt : ByteArray := ⟨#[64]⟩
abbrev sHole : ByteArray := ⟨#[95]⟩
abbrev sBar : ByteArray := ⟨#[124]⟩
abbrev sSemi : ByteArray := ⟨#[59]⟩
abbrev sDot : ByteArray := ⟨#[46]⟩
abbrev wEq : ByteArray := ⟨#[69, 113]⟩
def chain : LvB -> Nat
 | .succ a => chain a + 1
 | _ => 0
def succN : Nat -> LvB -> LvB
 | 0, l => l
 | n + 1, l => succN n (.succ l)
def raised (s : ByteArray) (l : LvB) (st : FS) : LvB × FS :=
 if st.kin 2 = true then (if 99 < chain l + decV st.t.t then (l, st.fail) else (succN (decV st.t.t) l, st.step s)) else (l, st.fail)
section
variable (s : ByteArray) (L : FS -> LvB × FS)
def latomF (st : FS) : LvB × FS :=
 if st.kin 2 = true then raised s .zero st
 else if st.kin 1 = true then (.param (st.name s).1, (st.name s).2)
 else if st.is sOpen = true then ((L (st.step s)).1, (L (st.step s)).2.must s sShut)
 else (.zero, st.fail)
def plusN : Nat -> LvB -> FS -> LvB × FS
 | 0, l, st => (l, st)
 | m + 1, l, st => if st.is sPlus = true then plusN m (raised s l (st.step s)).1 (raised s l (st.step s)).2 else (l, st)
def twoF (st : FS) : LvB × LvB × FS := ((latomF s L st).1, (latomF s L (latomF s L st).2).1, (latomF s L (latomF s L st).2).2)
def levelF (m : Nat) (st : FS) : LvB × FS :=
 if st.is wMax = true then (.max (twoF s L (st.step s)).1 (twoF s L (st.step s)).2.1, (twoF s L (st.step s)).2.2)
 else if st.is wImax = true then (.imax (twoF s L (st.step s)).1 (twoF s L (st.step s)).2.1, (twoF s L (st.step s)).2.2)
 else plusN s m (latomF s L st).1 (latomF s L st).2
end
def levelN (s : ByteArray) : Nat -> FS -> LvB × FS
 | 0, st => (.zero, st)
 | n + 1, st => levelF s (levelN s n) (n + 1) st
def latomN (s : ByteArray) (n : Nat) (st : FS) : LvB × FS := latomF s (levelN s n) st
inductive Ex where
 | node (kd at_ : Nat) (nm : ByteArray) (ex gi inf im : Bool) (ls : List LvB) (xs : List Ex)
def Ex.at_ : Ex -> Nat
 | .node _ a _ _ _ _ _ _ _ => a
abbrev zeroX : Ex := .node 0 0 ⟨#[]⟩ false false false false [] []
abbrev holeX (a : Nat) : Ex := .node 3 a ⟨#[]⟩ false false false false [] []
abbrev sortX (a : Nat) (l : LvB) : Ex := .node 2 a ⟨#[]⟩ false false false false [l] []
abbrev appX (a : Nat) (f x : Ex) : Ex := .node 4 a ⟨#[]⟩ false false false false [] [f, x]
structure Bd where
 nm : ByteArray
 im : Bool
 ty : Ex
 at_ : Nat
def begins (st : FS) : Bool := st.kin 1 || st.is sAt || st.is sHole || st.is wProp || st.is wType || st.is wSort || st.is sOpen
def levelsN (s : ByteArray) (n : Nat) : Nat -> List LvB -> FS -> List LvB × FS
 | 0, ls, st => (ls, st)
 | m + 1, ls, st => if st.is sComma = true then levelsN s n m (ls ++ [(levelN s n (st.step s)).1]) (levelN s n (st.step s)).2 else (ls, st)
section
variable (s : ByteArray) (n : Nat) (E : FS -> Ex × FS)
def nameX (a : Nat) (ex : Bool) (st : FS) : Ex × FS :=
 let q := st.name s
 if q.2.is sLevels = true then
  let l := levelN s n (q.2.step s)
  let ls := levelsN s n n [l.1] l.2
  (.node 1 a q.1 ex true false false ls.1 [], ls.2.must s sUnbrace)
 else (.node 1 a q.1 ex false false false [] [], q.2)
def bracketX (a : Nat) (st : FS) : Ex × FS :=
 let e := E st
 if e.2.is sColon = true then
  let t := E (e.2.step s)
  (.node 8 a ⟨#[]⟩ false false false false [] [e.1, t.1], t.2.must s sShut)
 else (e.1, e.2.must s sShut)
def atomF (st : FS) : Ex × FS :=
 if st.kin 1 = true then nameX s n st.t.at_ false st
 else if st.is sAt = true then nameX s n st.t.at_ true (st.step s)
 else if st.is sHole = true then (holeX st.t.at_, st.step s)
 else if st.is wProp = true then (sortX st.t.at_ .zero, st.step s)
 else if st.is wType = true then
  (if (st.step s).kin 2 = true then (sortX st.t.at_ (raised s (.succ .zero) (st.step s)).1, (raised s (.succ .zero) (st.step s)).2) else (sortX st.t.at_ (.succ .zero), st.step s))
 else if st.is wSort = true then (sortX st.t.at_ (latomN s n (st.step s)).1, (latomN s n (st.step s)).2)
 else if st.is sOpen = true then bracketX s E st.t.at_ (st.step s)
 else (zeroX, st.fail)
def applyN : Nat -> Ex -> FS -> Ex × FS
 | 0, e, st => (e, st)
 | m + 1, e, st => if begins st = true then applyN m (appX e.at_ e (atomF s n E st).1) (atomF s n E st).2 else (e, st)
def applyF (st : FS) : Ex × FS := applyN s n E n (atomF s n E st).1 (atomF s n E st).2
def equalF (st : FS) : Ex × FS :=
 let a := applyF s n E st
 if a.2.is sEq = true then
  let b := applyF s n E (a.2.step s)
  (appX a.2.t.at_ (appX a.2.t.at_ (.node 1 a.2.t.at_ wEq false false true false [] []) a.1) b.1, b.2)
 else a
def namesN : Nat -> List (ByteArray × Nat) -> FS -> List (ByteArray × Nat) × FS
 | 0, l, st => (l, st)
 | m + 1, l, st =>
   let q := st.name s
   let l' := l ++ [(q.1, st.t.at_)]
   if q.2.kin 1 = true then namesN m l' q.2 else (l', q.2)
def groupF (st : FS) : List Bd × FS :=
 let im := st.is sBrace
 let st1 := if im = true then st.step s else st.must s sOpen
 let ns := namesN s (n + 1) [] st1
 let t := E (ns.2.must s sColon)
 (ns.1.map fun x => ⟨x.1, im, t.1, x.2⟩, t.2.must s (if im = true then sUnbrace else sShut))
def groupsN : Nat -> List Bd -> FS -> List Bd × FS
 | 0, l, st => (l, st)
 | m + 1, l, st => if st.is sOpen = true \/ st.is sBrace = true then groupsN m (l ++ (groupF s n E st).1) (groupF s n E st).2 else (l, st)
def funsN : Nat -> List Bd -> FS -> List Bd × FS
 | 0, l, st => (l, st)
 | m + 1, l, st =>
   if st.kin 1 = true then funsN m (l ++ [⟨(st.name s).1, false, holeX st.t.at_, st.t.at_⟩]) (st.name s).2
   else if st.is sOpen = true \/ st.is sBrace = true then funsN m (l ++ (groupF s n E st).1) (groupF s n E st).2 else (l, st)
def underX (k : Nat) (l : List Bd) (e : Ex) : Ex := l.foldr (fun b e => .node k b.at_ b.nm false false false b.im [] [b.ty, e]) e
def some1 (p : List Bd × FS) : List Bd × FS := if p.1.isEmpty = true then (p.1, p.2.fail) else p
def letX (st : FS) : Ex × FS :=
 let q := st.name s
 let t := E (q.2.must s sColon)
 let v := E (t.2.must s sBe)
 let b := E (v.2.must s wIn)
 (.node 7 st.t.at_ q.1 false false false false [] [t.1, v.1, b.1], b.2)
def exprF (st : FS) : Ex × FS :=
 if st.is wFun = true then
  let l := some1 (funsN s n E n [] (st.step s))
  let b := E (l.2.must s sTo)
  (underX 5 l.1 b.1, b.2)
 else if st.is wForall = true then
  let l := some1 (groupsN s n E n [] (st.step s))
  let b := E (l.2.must s sComma)
  (underX 6 l.1 b.1, b.2)
 else if st.is wLet = true then letX s E (st.step s)
 else
  let a := equalF s n E st
  if a.2.is sArrow = true then
   let b := E (a.2.step s)
   (.node 6 a.2.t.at_ ⟨#[]⟩ false false false false [] [a.1, b.1], b.2)
  else a
end
def exprN (s : ByteArray) : Nat -> FS -> Ex × FS
 | 0, st => (zeroX, st)
 | n + 1, st => exprF s n (exprN s n) st
structure Tc where
 kd : Nat
 at_ : Nat
 nms : List ByteArray
 num : Nat
 xs : List Ex
structure Ct where
 nm : ByteArray
 at_ : Nat
 ty : Ex
structure Cm where
 kd : Nat
 at_ : Nat
 nm : ByteArray
 ps : List ByteArray
 bs : List Bd
 ty : Ex
 vl : Ex
 tac : Bool
 tcs : List Tc
 cts : List Ct
def tacWords : List ByteArray := [⟨#[105, 110, 116, 114, 111]⟩, ⟨#[101, 120, 97, 99, 116]⟩, ⟨#[97, 112, 112, 108, 121]⟩, ⟨#[97, 115, 115, 117, 109, 112, 116, 105, 111, 110]⟩, ⟨#[114, 101, 102, 108]⟩, ⟨#[105, 110, 100, 117, 99, 116, 105, 111, 110]⟩, ⟨#[99, 97, 115, 101, 115]⟩, ⟨#[114, 101, 119, 114, 105, 116, 101]⟩, ⟨#[104, 97, 118, 101]⟩, ⟨#[99, 111, 110, 115, 116, 114, 117, 99, 116, 111, 114]⟩, ⟨#[101, 120, 105, 115, 116, 115]⟩, ⟨#[115, 105, 109, 112, 108]⟩, ⟨#[115, 121, 109, 109]⟩]
def wordNo (q : ByteArray) : List ByteArray -> Nat -> Nat
 | [], _ => 0
 | x :: l, k => if x = q then k else wordNo q l (k + 1)
def moreN (s : ByteArray) : Nat -> List ByteArray -> FS -> List ByteArray × FS
 | 0, l, st => (l, st)
 | m + 1, l, st => if st.kin 1 = true then moreN s m (l ++ [(st.name s).1]) (st.name s).2 else (l, st)
def tacticF (s : ByteArray) (n : Nat) (st : FS) : Tc × FS :=
 let k := if st.kin 1 = true then wordNo st.t.t tacWords 1 else 0
 let a := st.t.at_
 let st1 := st.step s
 let q := st1.name s
 let x := exprN s n st1
 if k = 0 then (⟨0, a, [], 0, []⟩, st.fail)
 else if k = 1 then (⟨k, a, (moreN s n [q.1] q.2).1, 0, []⟩, (moreN s n [q.1] q.2).2)
 else if k = 6 \/ k = 7 then (⟨k, a, [q.1], 0, []⟩, q.2)
 else if k = 9 then (⟨k, a, [q.1], 0, [(exprN s n (q.2.must s sColon)).1]⟩, (exprN s n (q.2.must s sColon)).2)
 else if k = 2 \/ k = 3 \/ k = 8 \/ k = 11 then (⟨k, a, [], 0, [x.1]⟩, x.2)
 else if k = 10 then (if st1.kin 2 = true then (⟨k, a, [], decV st1.t.t, []⟩, st1.step s) else (⟨k, a, [], 0, []⟩, st1.fail))
 else (⟨k, a, [], 0, []⟩, st1)
def commasN (s : ByteArray) : Nat -> List ByteArray -> FS -> List ByteArray × FS
 | 0, l, st => (l, st)
 | m + 1, l, st => if st.is sComma = true then commasN s m (l ++ [((st.step s).name s).1]) ((st.step s).name s).2 else (l, st)
def paramsF (s : ByteArray) (n : Nat) (st : FS) : List ByteArray × FS :=
 if st.is sLevels = true then
  let q := (st.step s).name s
  let l := commasN s n [q.1] q.2
  (l.1, l.2.must s sUnbrace)
 else ([], st)
def tacticsN (s : ByteArray) (n : Nat) : Nat -> List Tc -> FS -> List Tc × FS
 | 0, l, st => (l, st)
 | m + 1, l, st => if st.is sSemi = true then tacticsN s n m (l ++ [(tacticF s n (st.step s)).1]) (tacticF s n (st.step s)).2 else (l, st)
def ctorF (s : ByteArray) (n : Nat) (st : FS) : Ct × FS :=
 let q := st.name s
 let t := exprN s n (q.2.must s sColon)
 (⟨q.1, st.t.at_, t.1⟩, t.2)
def ctorsN (s : ByteArray) (n : Nat) : Nat -> List Ct -> FS -> List Ct × FS
 | 0, l, st => (l, st)
 | m + 1, l, st => if st.is sBar = true then ctorsN s n m (l ++ [(ctorF s n (st.step s)).1]) (ctorF s n (st.step s)).2 else (l, st)
def kindWords : List ByteArray := [⟨#[97, 120, 105, 111, 109]⟩, ⟨#[100, 101, 102]⟩, ⟨#[116, 104, 101, 111, 114, 101, 109]⟩, ⟨#[105, 110, 100, 117, 99, 116, 105, 118, 101]⟩]
def zeroC (a : Nat) : Cm := ⟨0, a, ⟨#[]⟩, [], [], zeroX, zeroX, false, [], []⟩
def commandF (s : ByteArray) (n : Nat) (st : FS) : Cm × FS :=
 let k := if st.kin 3 = true then wordNo st.t.t kindWords 1 else 0
 if k = 0 then (zeroC st.t.at_, st.fail)
 else
  let q := (st.step s).name s
  let p := paramsF s n q.2
  let b := groupsN s n (exprN s n) n [] p.2
  let t := exprN s n (b.2.must s sColon)
  let c : Cm := ⟨k, st.t.at_, q.1, p.1, b.1, t.1, zeroX, false, [], []⟩
  if k = 2 \/ (k = 3 /\ t.2.is wBy = false) then
   let v := exprN s n (t.2.must s sBe)
   ({ c with vl := v.1 }, v.2.must s sDot)
  else if k = 3 then
   let x := tacticF s n (t.2.step s)
   let l := tacticsN s n n [x.1] x.2
   ({ c with tac := true, tcs := l.1 }, l.2.must s sDot)
  else if k = 4 then
   let l := ctorsN s n n [] t.2
   ({ c with cts := l.1 }, l.2.must s sDot)
  else (c, t.2.must s sDot)
def commandsN (s : ByteArray) (n : Nat) : Nat -> List Cm -> FS -> List Cm × FS
 | 0, l, st => (l, st)
 | m + 1, l, st => if st.code = 0 /\ st.t.kd ≠ 0 then commandsN s n m (l ++ [(commandF s n st).1]) (commandF s n st).2 else (l, st)
def textF (s : ByteArray) : List Cm × FS := commandsN s (s.size + 1) (s.size + 1) [] (FS.step s ⟨⟨0, ⟨#[]⟩, 0⟩, 0, 0, 0⟩)
end Go.Proofs.YtockffblncdikaaGreatDoor
