/- The tokens of a printed command. No walk. -/
import Derived.Test.YtockffblncdikaaGreatDoorDd
namespace Go.Proofs.YtockffblncdikaaGreatDoor
open Go.RowKit
set_option maxRecDepth 100000
set_option maxHeartbeats 16000000
def hugL (t : ByteArray) : Bool := decide (t = sShut) || decide (t = sUnbrace) || decide (t = sComma) || decide (t = sDot) || decide (t = sSemi) || decide (t = sLevels) || decide (t = sPlus)
def hugR (t : ByteArray) : Bool := decide (t = sOpen) || decide (t = sBrace) || decide (t = sLevels) || decide (t = sAt) || decide (t = sPlus)
def blT (tg : Bool) : List UInt8 := if tg = true then [] else [32]
def tokT : Bool -> List ByteArray -> List UInt8
 | _, [] => []
 | tg, t :: l => blT (tg || hugL t) ++ t.data.toList ++ tokT (hugR t) l
def tgB : Bool -> List ByteArray -> Bool
 | tg, [] => tg
 | _, t :: l => tgB (hugR t) l
theorem tgB_append : ∀ (a b : List ByteArray) (tg : Bool), tgB tg (a ++ b) = tgB (tgB tg a) b
 | [], _, _ => rfl
 | t :: a, b, _ => tgB_append a b (hugR t)
theorem tokT_append : ∀ (a b : List ByteArray) (tg : Bool), tokT tg (a ++ b) = tokT tg a ++ tokT (tgB tg a) b
 | [], _, _ => rfl
 | t :: a, b, tg => by
   show blT (tg || hugL t) ++ t.data.toList ++ tokT (hugR t) (a ++ b) = (blT (tg || hugL t) ++ t.data.toList ++ tokT (hugR t) a) ++ tokT (tgB (hugR t) a) b; rw [tokT_append a b]
   simp
structure Tx (t : List ByteArray) (l : List UInt8) : Prop where
 txt : ∀ tg, tokT tg t = blT tg ++ l
 beh : ∀ tg, tgB tg t = false
theorem Tx.word {q : ByteArray} (h1 : hugL q = false) (h2 : hugR q = false) : Tx [q] q.data.toList := ⟨fun tg => by simp [tokT, h1], fun _ => h2⟩
theorem Tx.gap {a b : List ByteArray} {l m : List UInt8} (ha : Tx a l) (hb : Tx b m) : Tx (a ++ b) (l ++ [32] ++ m) :=
 ⟨fun tg => by rw [tokT_append, ha.txt, ha.beh, hb.txt]; simp [blT], fun tg => by rw [tgB_append, hb.beh]⟩
theorem Tx.shut {a : List ByteArray} {l : List UInt8} {q : ByteArray} (ha : Tx a l) (h1 : hugL q = true) (h2 : hugR q = false) : Tx (a ++ [q]) (l ++ q.data.toList) :=
 ⟨fun tg => by rw [tokT_append, ha.txt, ha.beh]; simp [tokT, h1, blT], fun tg => by rw [tgB_append]; exact h2⟩
theorem Tx.opens {a : List ByteArray} {l : List UInt8} {q : ByteArray} (ha : Tx a l) (h1 : hugL q = false) (h2 : hugR q = true) : Tx (q :: a) (q.data.toList ++ l) :=
 ⟨fun tg => by simp only [tokT, h1, h2, ha.txt, Bool.or_false]; simp [blT], fun tg => by show tgB (hugR q) a = false; exact ha.beh _⟩
theorem Tx.joins {a b : List ByteArray} {l m : List UInt8} {q : ByteArray} (ha : Tx a l) (hb : Tx b m) (h1 : hugL q = true) (h2 : hugR q = true) : Tx (a ++ q :: b) (l ++ q.data.toList ++ m) :=
 ⟨fun tg => by rw [tokT_append, ha.txt, ha.beh]; simp only [tokT, h1, h2, hb.txt]; simp [blT], fun tg => by rw [tgB_append]; show tgB (hugR q) b = false; exact hb.beh _⟩
theorem Tx.comma {a b : List ByteArray} {l m : List UInt8} {q : ByteArray} (ha : Tx a l) (hb : Tx b m) (h1 : hugL q = true) (h2 : hugR q = false) : Tx (a ++ q :: b) (l ++ q.data.toList ++ [32] ++ m) := by
 have := (ha.shut h1 h2).gap hb
 simpa using this
theorem Tx.mid {a b : List ByteArray} {l m : List UInt8} {q : ByteArray} (ha : Tx a l) (hb : Tx b m) (h1 : hugL q = false) (h2 : hugR q = false) : Tx (a ++ q :: b) (l ++ [32] ++ q.data.toList ++ [32] ++ m) := by
 have := (ha.gap (Tx.word h1 h2)).gap hb
 simpa using this
theorem Tx.first {b : List ByteArray} {m : List UInt8} {q : ByteArray} (hb : Tx b m) (h1 : hugL q = false) (h2 : hugR q = false) : Tx (q :: b) (q.data.toList ++ [32] ++ m) := (Tx.word h1 h2).gap hb
theorem Tx.cast {a : List ByteArray} {l m : List UInt8} (h : Tx a l) (e : l = m) : Tx a m := e ▸ h
def brT (t : List ByteArray) : List ByteArray := sOpen :: (t ++ [sShut])
theorem Tx.br {t : List ByteArray} {l : List UInt8} (h : Tx t l) : Tx (brT t) (inBr l) := ((h.shut (q := sShut) rfl rfl).opens (q := sOpen) rfl rfl).cast (by simp [inBr])
theorem LNm.hugs {q : ByteArray} (h : LNm q) : hugL q = false /\ hugR q = false := by
 have hf := h.first
 have key : ∀ x : ByteArray, alphaB (at_ x 0) = false -> decide (q = x) = false := fun x hx => by
  rw [decide_eq_false_iff_not]; intro e; subst e; rw [hf] at hx
  cases hx
 constructor
 . unfold hugL
   rw [key sShut (by decide), key sUnbrace (by decide), key sComma (by decide), key sDot (by decide), key sSemi (by decide), key sLevels (by decide), key sPlus (by decide)]
   rfl
 . unfold hugR
   rw [key sOpen (by decide), key sBrace (by decide), key sLevels (by decide), key sAt (by decide), key sPlus (by decide)]
   rfl
theorem LNm.tx {q : ByteArray} (h : LNm q) : Tx [q] q.data.toList := Tx.word h.hugs.1 h.hugs.2
theorem num_hugs : ∀ k, k < 100 -> hugL (numB k) = false /\ hugR (numB k) = false := by decide +kernel
theorem num_tx {k : Nat} (h : k < 100) : Tx [numB k] (Lib.decDigits k) := (Tx.word (num_hugs k h).1 (num_hugs k h).2).cast (by simp)
def latK (l : LvB) (t : List ByteArray) : List ByteArray := if (lvGo l 0).2 = true then t else brT t
def lvK : LvB -> Nat -> List ByteArray
 | .succ a, k => lvK a (k + 1)
 | .zero, k => [numB k]
 | .param q, k => if k = 0 then [q] else [q] ++ sPlus :: [numB k]
 | .max a b, k => if k = 0 then wMax :: (latK a (lvK a 0) ++ latK b (lvK b 0)) else brT (wMax :: (latK a (lvK a 0) ++ latK b (lvK b 0))) ++ sPlus :: [numB k]
 | .imax a b, k => if k = 0 then wImax :: (latK a (lvK a 0) ++ latK b (lvK b 0)) else brT (wImax :: (latK a (lvK a 0) ++ latK b (lvK b 0))) ++ sPlus :: [numB k]
theorem latK_tx {l : LvB} (h : Tx (lvK l 0) (lvGo l 0).1) : Tx (latK l (lvK l 0)) (if (lvGo l 0).2 = true then (lvGo l 0).1 else inBr (lvGo l 0).1) := by
 unfold latK
 split
 . exact h
 . exact h.br
theorem lvK_tx : ∀ {l : LvB} {k : Nat}, GoodAt l k -> Tx (lvK l k) (lvGo l k).1
 | .zero, k, h => num_tx h
 | .succ a, k, h => lvK_tx (l := a) (k := k + 1) h
 | .param q, k, h => by
   simp only [lvK, lvGo]
   split
   . exact h.2.tx
   . exact h.2.tx.joins (q := sPlus) (num_tx h.1) rfl rfl
 | .max a b, k, h => by
   have h1 := ((latK_tx (lvK_tx h.2.1)).gap (latK_tx (lvK_tx h.2.2))).first (q := wMax) (by decide) (by decide)
   simp only [lvK, lvGo]
   split
   . exact h1.cast (by simp)
   . exact (h1.br.joins (q := sPlus) (num_tx h.1) rfl rfl).cast (by simp)
 | .imax a b, k, h => by
   have h1 := ((latK_tx (lvK_tx h.2.1)).gap (latK_tx (lvK_tx h.2.2))).first (q := wImax) (by decide) (by decide)
   simp only [lvK, lvGo]
   split
   . exact h1.cast (by simp)
   . exact (h1.br.joins (q := sPlus) (num_tx h.1) rfl rfl).cast (by simp)
inductive Txs : List (List ByteArray) -> List (List UInt8) -> Prop
 | nil : Txs [] []
 | cons {t : List ByteArray} {l : List UInt8} {ts : List (List ByteArray)} {ls : List (List UInt8)} : Tx t l -> Txs ts ls -> Txs (t :: ts) (l :: ls)
def commaK : List (List ByteArray) -> List ByteArray
 | [] => []
 | [t] => t
 | t :: u :: l => t ++ sComma :: commaK (u :: l)
theorem commaK_tx : ∀ {ts : List (List ByteArray)} {ls : List (List UInt8)}, ts ≠ [] -> Txs ts ls -> Tx (commaK ts) (joinT [44, 32] ls)
 | [t], [l], _, .cons h .nil => h
 | t :: u :: ts, l :: m :: ls, _, .cons h hr => (h.comma (q := sComma) (commaK_tx (by simp) hr) rfl rfl).cast (by simp [joinT])
def listK (ts : List (List ByteArray)) : List ByteArray := sLevels :: (commaK ts ++ [sUnbrace])
theorem listK_tx {a : List ByteArray} {l : List UInt8} {ts : List (List ByteArray)} {ls : List (List UInt8)} (ha : Tx a l) (hn : ts ≠ []) (h : Txs ts ls) : Tx (a ++ listK ts) (l ++ ([46, 123] ++ joinT [44, 32] ls ++ [125])) :=
 (ha.joins (q := sLevels) ((commaK_tx hn h).shut (q := sUnbrace) rfl rfl) rfl rfl).cast (by simp)
def rkX (e : Ex) : Nat := if isEq e = true then 1 else if e.kd = 4 then 2 else if e.kd = 5 \/ e.kd = 6 \/ e.kd = 7 then 0 else 3
def brk (b : Bool) (t : List ByteArray) : List ByteArray := if b = true then brT t else t
abbrev inK (e : Ex) (k : Nat) (t : List ByteArray) : List ByteArray := brk (decide (rkX e < k)) t
def sortK (l : LvB) : List ByteArray :=
 match l with
 | .zero => [wProp]
 | .succ .zero => [wType]
 | l => wSort :: latK l (lvK l 0)
def binK (q : ByteArray) (im : Bool) (t : List ByteArray) : List ByteArray := if im = true then sBrace :: (([q] ++ sColon :: t) ++ [sUnbrace]) else sOpen :: (([q] ++ sColon :: t) ++ [sShut])
inductive Sp : Ex -> List ByteArray -> Prop
 | name (a : Nat) (q : ByteArray) (ex : Bool) : LNm q -> Sp (.node 1 a q ex false false false [] []) ((if ex = true then [sAt] else []) ++ [q])
 | given (a : Nat) (q : ByteArray) (ex : Bool) (l : LvB) (ls : List LvB) : LNm q -> (∀ x ∈ l :: ls, GoodAt x 0) -> Sp (.node 1 a q ex true false false (l :: ls) []) ((if ex = true then [sAt] else []) ++ ([q] ++ listK ((l :: ls).map fun l => lvK l 0)))
 | hole (a : Nat) : Sp (holeX a) [sHole]
 | sort (a : Nat) (l : LvB) : GoodAt l 0 -> Sp (sortX a l) (sortK l)
 | app (a : Nat) (f x : Ex) (t u : List ByteArray) : Sp f t -> Sp x u -> isEq (appX a f x) = false -> Sp (appX a f x) (inK f 2 t ++ inK x 3 u)
 | eq (a b c : Nat) (x y : Ex) (t u : List ByteArray) : Sp x t -> Sp y u -> Sp (appX a (appX b (.node 1 c wEq false false true false [] []) x) y) (inK x 2 t ++ sEq :: inK y 2 u)
 | func (a : Nat) (q : ByteArray) (im : Bool) (x e : Ex) (t u : List ByteArray) : LNm q -> Sp x t -> Sp e u -> Sp (.node 5 a q false false false im [] [x, e]) ((wFun :: binK q im t) ++ sTo :: u)
 | all (a : Nat) (q : ByteArray) (im : Bool) (x e : Ex) (t u : List ByteArray) : LNm q -> Sp x t -> Sp e u -> Sp (.node 6 a q false false false im [] [x, e]) ((wForall :: binK q im t) ++ sComma :: u)
 | arrow (a : Nat) (x e : Ex) (t u : List ByteArray) : Sp x t -> Sp e u -> Sp (.node 6 a ⟨#[]⟩ false false false false [] [x, e]) (inK x 1 t ++ sArrow :: u)
 | lets (a : Nat) (q : ByteArray) (x v b : Ex) (t u y : List ByteArray) : LNm q -> Sp x t -> Sp v u -> Sp b y -> Sp (.node 7 a q false false false false [] [x, v, b]) ((((wLet :: [q]) ++ sColon :: t) ++ sBe :: u) ++ wIn :: y)
 | is (a : Nat) (e x : Ex) (t u : List ByteArray) : Sp e t -> Sp x u -> Sp (.node 8 a ⟨#[]⟩ false false false false [] [e, x]) (sOpen :: ((t ++ sColon :: u) ++ [sShut]))
theorem Sp.of {e : Ex} (h : GX e) : ∃ t, Sp e t := by
 induction h with
 | name a q ex hq => exact ⟨_, .name a q ex hq⟩
 | given a q ex l ls hq hg => exact ⟨_, .given a q ex l ls hq hg⟩
 | hole a => exact ⟨_, .hole a⟩
 | sort a l hl => exact ⟨_, .sort a l hl⟩
 | app a f x hf hx ihf ihx =>
   obtain ⟨t, ht⟩ := ihf; obtain ⟨u, hu⟩ := ihx; exact ⟨_, .app a f x t u ht hu (GX.app_eq hf)⟩
 | eq a b c x y hx hy ihx ihy =>
   obtain ⟨t, ht⟩ := ihx; obtain ⟨u, hu⟩ := ihy; exact ⟨_, .eq a b c x y t u ht hu⟩
 | func a q im x e hq hx he ihx ihe =>
   obtain ⟨t, ht⟩ := ihx; obtain ⟨u, hu⟩ := ihe; exact ⟨_, .func a q im x e t u hq ht hu⟩
 | all a q im x e hq hx he ihx ihe =>
   obtain ⟨t, ht⟩ := ihx; obtain ⟨u, hu⟩ := ihe; exact ⟨_, .all a q im x e t u hq ht hu⟩
 | arrow a x e hx he ihx ihe =>
   obtain ⟨t, ht⟩ := ihx; obtain ⟨u, hu⟩ := ihe; exact ⟨_, .arrow a x e t u ht hu⟩
 | lets a q x v b hq hx hv hb ihx ihv ihb =>
   obtain ⟨t, ht⟩ := ihx; obtain ⟨u, hu⟩ := ihv; obtain ⟨y, hy⟩ := ihb; exact ⟨_, .lets a q x v b t u y hq ht hu hy⟩
 | is a e x he hx ihe ihx =>
   obtain ⟨t, ht⟩ := ihe; obtain ⟨u, hu⟩ := ihx; exact ⟨_, .is a e x t u ht hu⟩
theorem in_tx {n : Nat} {e : Ex} {t : List ByteArray} {k j : Nat} (h : Tx t (xtext n e)) (hk : (rkX e < k) ↔ (tight e < j)) : Tx (inK e k t) (opT n e j) := by
 unfold opT inK brk
 by_cases h1 : tight e < j
 . rw [if_pos h1, if_pos (by simpa using hk.2 h1)]
   exact h.br
 . rw [if_neg h1, if_neg (by simpa using fun x => h1 (hk.1 x))]
   exact h
theorem rk_tight (e : Ex) : (rkX e < 1 ↔ tight e < 2) /\ (rkX e < 2 ↔ tight e < 3) /\ (rkX e < 3 ↔ tight e < 4) := by
 unfold rkX tight
 by_cases h1 : isEq e = true
 . simp [h1]
 . rw [if_neg h1, if_neg h1]
   by_cases h2 : e.kd = 4
   . simp [h2]
   . rw [if_neg h2, if_neg h2]
     by_cases h3 : e.kd = 6 /\ e.nm.size = 0
     . rw [if_pos h3, if_pos (by omega)]; simp
     . rw [if_neg h3]
       by_cases h4 : e.kd = 5 \/ e.kd = 6 \/ e.kd = 7
       . rw [if_pos h4, if_pos h4]; simp
       . rw [if_neg h4, if_neg h4]; simp
theorem binK_tx {q : ByteArray} {im : Bool} {t : List ByteArray} {l : List UInt8} (hq : LNm q) (h : Tx t l) : Tx (binK q im t) (binderT q im l) := by
 have h1 := hq.tx.mid (q := sColon) h rfl rfl; unfold binK binderT
 split
 . exact ((h1.shut (q := sUnbrace) rfl rfl).opens (q := sBrace) rfl rfl).cast (by simp)
 . exact ((h1.shut (q := sShut) rfl rfl).opens (q := sOpen) rfl rfl).cast (by simp)
theorem at_tx {ex : Bool} {t : List ByteArray} {l : List UInt8} (h : Tx t l) : Tx ((if ex = true then [sAt] else []) ++ t) ((if ex = true then [64] else []) ++ l) := by
 cases ex with
 | true => exact h.opens (q := sAt) rfl rfl
 | false => exact h
theorem lvs_tx {ls : List LvB} (h : ∀ x ∈ ls, GoodAt x 0) : Txs (ls.map fun l => lvK l 0) (ls.map lvText) := by
 induction ls with
 | nil => exact .nil
 | cons l ls ih => exact .cons (lvK_tx (h l (by simp))) (ih fun x hx => h x (by simp [hx]))
theorem sortK_tx {l : LvB} (h : GoodAt l 0) : Tx (sortK l) (sortText l) := by
 have key : Tx (wSort :: latK l (lvK l 0)) ([83, 111, 114, 116, 32] ++ latText l) := ((latK_tx (lvK_tx h)).first (q := wSort) (by decide) (by decide)).cast (by unfold latText; simp)
 cases l with
 | zero => exact Tx.word (q := wProp) (by decide) (by decide)
 | succ a =>
   cases a with
   | zero => exact Tx.word (q := wType) (by decide) (by decide)
   | _ => exact key
 | _ => exact key
theorem Sp.tx : ∀ {e : Ex} {t : List ByteArray}, Sp e t -> ∃ N, ∀ n, N <= n -> Tx t (xtext n e) := by
 intro e t h
 induction h with
 | name a q ex hq => exact ⟨1, fun n hn => by obtain ⟨k, rfl, _⟩ := split1 (N := 0) hn; exact (at_tx hq.tx).cast (by cases ex <;> simp [xtext, isEq, Ex.kd, nameText, Ex.ex, Ex.nm, Ex.gi])⟩
 | given a q ex l ls hq hg =>
   refine ⟨1, fun n hn => ?_⟩; obtain ⟨k, rfl, _⟩ := split1 (N := 0) hn; exact (at_tx (listK_tx hq.tx (by simp) (lvs_tx hg))).cast (by cases ex <;> simp [xtext, isEq, Ex.kd, nameText, Ex.ex, Ex.nm, Ex.gi, Ex.ls])
 | hole a => exact ⟨1, fun n hn => by obtain ⟨k, rfl, _⟩ := split1 (N := 0) hn; exact Tx.word (q := sHole) rfl rfl⟩
 | sort a l hl => exact ⟨1, fun n hn => by obtain ⟨k, rfl, _⟩ := split1 (N := 0) hn; exact sortK_tx hl⟩
 | app a f x t u hf hx he ihf ihx =>
   obtain ⟨N1, r1⟩ := ihf; obtain ⟨N2, r2⟩ := ihx; refine ⟨N1 + N2 + 1, fun n hn => ?_⟩; obtain ⟨k, rfl, hk⟩ := split1 hn
   refine ((in_tx (r1 k (by omega)) (rk_tight f).2.1).gap (in_tx (r2 k (by omega)) (rk_tight x).2.2)).cast ?_
   simp only [xtext]
   rw [if_neg (by rw [he]; simp)]
   rfl
 | eq a b c x y t u hx hy ihx ihy =>
   obtain ⟨N1, r1⟩ := ihx; obtain ⟨N2, r2⟩ := ihy; refine ⟨N1 + N2 + 1, fun n hn => ?_⟩; obtain ⟨k, rfl, hk⟩ := split1 hn
   refine ((in_tx (r1 k (by omega)) (rk_tight x).2.1).mid (q := sEq) (in_tx (r2 k (by omega)) (rk_tight y).2.1) rfl rfl).cast ?_
   show opT k x 3 ++ [32] ++ [61] ++ [32] ++ opT k y 3 = opT k x 3 ++ [32, 61, 32] ++ opT k y 3
   simp
 | func a q im x e t u hq hx he ihx ihe =>
   obtain ⟨N1, r1⟩ := ihx; obtain ⟨N2, r2⟩ := ihe; refine ⟨N1 + N2 + 1, fun n hn => ?_⟩; obtain ⟨k, rfl, hk⟩ := split1 hn
   refine (((binK_tx hq (r1 k (by omega))).first (q := wFun) (by decide) (by decide)).mid (q := sTo) (r2 k (by omega)) rfl rfl).cast ?_
   show _ = [102, 117, 110, 32] ++ binderT q im (xtext k x) ++ [32, 61, 62, 32] ++ xtext k e
   simp
 | all a q im x e t u hq hx he ihx ihe =>
   obtain ⟨N1, r1⟩ := ihx; obtain ⟨N2, r2⟩ := ihe; have hz : ¬ q.size = 0 := by have := hq.pos; omega
   refine ⟨N1 + N2 + 1, fun n hn => ?_⟩; obtain ⟨k, rfl, hk⟩ := split1 hn; refine (((binK_tx hq (r1 k (by omega))).first (q := wForall) (by decide) (by decide)).comma (q := sComma) (r2 k (by omega)) rfl rfl).cast ?_
   show _ = (if q.size = 0 then _ else [102, 111, 114, 97, 108, 108, 32] ++ binderT q im (xtext k x) ++ [44, 32] ++ xtext k e); rw [if_neg hz]
   simp
 | arrow a x e t u hx he ihx ihe =>
   obtain ⟨N1, r1⟩ := ihx; obtain ⟨N2, r2⟩ := ihe; refine ⟨N1 + N2 + 1, fun n hn => ?_⟩; obtain ⟨k, rfl, hk⟩ := split1 hn
   refine ((in_tx (r1 k (by omega)) (rk_tight x).1).mid (q := sArrow) (r2 k (by omega)) rfl rfl).cast ?_; show _ = opT k x 2 ++ [32, 45, 62, 32] ++ xtext k e
   simp
 | lets a q x v b t u y hq hx hv hb ihx ihv ihb =>
   obtain ⟨N1, r1⟩ := ihx; obtain ⟨N2, r2⟩ := ihv; obtain ⟨N3, r3⟩ := ihb; refine ⟨N1 + N2 + N3 + 1, fun n hn => ?_⟩; obtain ⟨k, rfl, hk⟩ := split1 hn
   refine ((((hq.tx.first (q := wLet) (by decide) (by decide)).mid (q := sColon) (r1 k (by omega)) rfl rfl).mid (q := sBe) (r2 k (by omega)) rfl rfl).mid (q := wIn) (r3 k (by omega)) (by decide) (by decide)).cast ?_
   show _ = [108, 101, 116, 32] ++ q.data.toList ++ [32, 58, 32] ++ xtext k x ++ [32, 58, 61, 32] ++ xtext k v ++ [32, 105, 110, 32] ++ xtext k b
   simp
 | is a e x t u he hx ihe ihx =>
   obtain ⟨N1, r1⟩ := ihe; obtain ⟨N2, r2⟩ := ihx; refine ⟨N1 + N2 + 1, fun n hn => ?_⟩; obtain ⟨k, rfl, hk⟩ := split1 hn
   refine ((((r1 k (by omega)).mid (q := sColon) (r2 k (by omega)) rfl rfl).shut (q := sShut) rfl rfl).opens (q := sOpen) rfl rfl).cast ?_; show _ = [40] ++ xtext k e ++ [32, 58, 32] ++ xtext k x ++ [41]
   simp
theorem Sp.fn : ∃ tf : Ex -> List ByteArray, ∀ e, GX e -> Sp e (tf e) := by
 classical
 exact ⟨fun e => if h : GX e then (Sp.of h).choose else [], fun e h => by simp only [dif_pos h]; exact (Sp.of h).choose_spec⟩
section
variable (tf : Ex -> List ByteArray)
def parK (ps : List ByteArray) : List ByteArray := if ps = [] then [] else listK (ps.map fun q => [q])
def tacK (t : Tc) : List ByteArray := (tacWords.getD (t.kd - 1) ⟨#[]⟩ :: t.nms) ++ (if t.kd = 9 then [sColon] else []) ++ (if t.kd = 10 then [numB t.num] else []) ++ t.xs.flatMap tf
def tacsK : ByteArray -> List Tc -> List ByteArray
 | _, [] => []
 | q, t :: l => (q :: tacK tf t) ++ tacsK sSemi l
def ctorK (k : Ct) : List ByteArray := [sBar, k.nm] ++ sColon :: tf k.ty
def tailK (c : Cm) : List ByteArray := if c.kd = 4 then c.cts.flatMap (ctorK tf) else if c.kd = 3 /\ c.tac = true then tacsK tf wBy c.tcs else if c.kd = 1 then [] else sBe :: tf c.vl
def bindK (b : Bd) : List ByteArray := binK b.nm b.im (tf b.ty)
def comK (c : Cm) : List ByteArray := ((([kindW c.kd, c.nm] ++ parK c.ps) ++ c.bs.flatMap (bindK tf)) ++ sColon :: tf c.ty) ++ tailK tf c ++ [sDot]
end
theorem Tx.gaps {α : Type} {f : α -> List ByteArray} {g : α -> List UInt8} : ∀ {xs : List α} {a : List ByteArray} {l : List UInt8}, Tx a l -> (∀ x ∈ xs, Tx (f x) (g x)) -> Tx (a ++ xs.flatMap f) (l ++ xs.flatMap fun x => [32] ++ g x)
 | [], a, l, ha, _ => by simpa using ha
 | x :: xs, a, l, ha, h => by
   have := Tx.gaps (xs := xs) (ha.gap (h x (by simp))) fun y hy => h y (by simp [hy])
   simpa using this
theorem kind_tx {k : Nat} (h : 1 <= k /\ k <= 4) : Tx [kindW k] (kindW k).data.toList := by
 obtain ⟨h1, h2⟩ := h
 rcases (show k = 1 \/ k = 2 \/ k = 3 \/ k = 4 by omega) with rfl | rfl | rfl | rfl <;> exact Tx.word (by decide) (by decide)
theorem tac_hugs : ∀ k, k < 14 -> 1 <= k -> hugL (tacWords.getD (k - 1) ⟨#[]⟩) = false /\ hugR (tacWords.getD (k - 1) ⟨#[]⟩) = false := by decide +kernel
theorem tac_tx {k : Nat} (h : 1 <= k /\ k < 14) : Tx [tacWords.getD (k - 1) ⟨#[]⟩] (tacWords.getD (k - 1) ⟨#[]⟩).data.toList := Tx.word (tac_hugs k h.2 h.1).1 (tac_hugs k h.2 h.1).2
theorem GTc.kinds {t : Tc} (h : GTc t) : 1 <= t.kd /\ t.kd < 14 := by
 cases h with
 | intro a q l hq hl => exact ⟨Nat.le_refl 1, (by decide : 1 < 14)⟩
 | one k a q hk hq => show 1 <= k /\ k < 14; omega
 | both a q e hq he => exact ⟨(by decide : 1 <= 9), (by decide : 9 < 14)⟩
 | ex k a e hk he => show 1 <= k /\ k < 14; omega
 | num a m hm => exact ⟨(by decide : 1 <= 10), (by decide : 10 < 14)⟩
 | bare k a hk => show 1 <= k /\ k < 14; omega
theorem GTc.nms {t : Tc} (h : GTc t) : ∀ q ∈ t.nms, LNm q := by
 cases h with
 | intro a q l hq hl => intro x hx; rcases List.mem_cons.1 hx with rfl | hx; exact hq; exact hl x hx
 | one k a q hk hq => intro x hx; rw [List.mem_singleton.1 hx]; exact hq
 | both a q e hq he => intro x hx; rw [List.mem_singleton.1 hx]; exact hq
 | ex k a e hk he => intro x hx; simp at hx
 | num a m hm => intro x hx; simp at hx
 | bare k a hk => intro x hx; simp at hx
theorem GTc.num10 {t : Tc} (h : GTc t) : t.kd = 10 -> t.num < 100 := by
 cases h with
 | ex k a e hk he => show k = 10 -> _; omega
 | one k a q hk hq => show k = 10 -> _; omega
 | bare k a hk => show k = 10 -> _; omega
 | num a m hm => exact fun _ => hm
 | intro a q l hq hl => exact fun h => absurd h (by decide : ¬ (1 = 10))
 | both a q e hq he => exact fun h => absurd h (by decide : ¬ (9 = 10))
theorem GTc.shape {t : Tc} (h : GTc t) : (t.kd ≠ 10 -> t.num = 0) /\ (t.xs = [] \/ ∃ e, t.xs = [e] /\ GX e) := by
 cases h with
 | intro a q l hq hl => exact ⟨fun _ => rfl, .inl rfl⟩
 | one k a q hk hq => exact ⟨fun _ => rfl, .inl rfl⟩
 | both a q e hq he => exact ⟨fun _ => rfl, .inr ⟨e, rfl, he⟩⟩
 | ex k a e hk he => exact ⟨fun _ => rfl, .inr ⟨e, rfl, he⟩⟩
 | num a m hm => exact ⟨fun h => absurd rfl h, .inl rfl⟩
 | bare k a hk => exact ⟨fun _ => rfl, .inl rfl⟩
section
variable {tf : Ex -> List ByteArray}
theorem tacsK_tx {n : Nat} : ∀ {l : List Tc} {a : List ByteArray} {m : List UInt8}, Tx a m -> (∀ t ∈ l, Tx (tacK tf t) (tacText n t)) -> Tx (a ++ tacsK tf sSemi l) (m ++ tcsT n l)
 | [], a, m, ha, _ => by simpa [tacsK, tcsT] using ha
 | t :: l, a, m, ha, h => by
   have h1 := ha.comma (q := sSemi) (h t (by simp)) rfl rfl; have := tacsK_tx (l := l) h1 fun x hx => h x (by simp [hx])
   have e1 : a ++ tacsK tf sSemi (t :: l) = a ++ sSemi :: tacK tf t ++ tacsK tf sSemi l := by simp [tacsK]
   rw [e1]; exact this.cast (by simp [tcsT])
theorem joinT_tcs {n : Nat} (t : Tc) (l : List Tc) : joinT [59, 32] ((t :: l).map (tacText n)) = tacText n t ++ tcsT n l := by
 induction l generalizing t with
 | nil => simp [joinT, tcsT]
 | cons u l ih =>
   have := ih u
   simp only [List.map_cons] at this ⊢
   rw [joinT, this]
   simp [tcsT]
theorem parK_tx {a : List ByteArray} {m : List UInt8} {ps : List ByteArray} (ha : Tx a m) (h : ∀ q ∈ ps, LNm q) : Tx (a ++ parK ps) (m ++ (if ps.isEmpty = true then [] else [46, 123] ++ joinT [44, 32] (ps.map fun q => q.data.toList) ++ [125])) := by
 unfold parK
 by_cases hp : ps = []
 . subst hp
   simpa using ha
 . rw [if_neg hp, if_neg (by simpa using hp)]
   refine listK_tx ha (by simpa using hp) ?_; clear ha hp
   induction ps with
   | nil => exact .nil
   | cons q ps ih => exact .cons (h q (by simp)).tx (ih fun x hx => h x (by simp [hx]))
end
section
variable {tf : Ex -> List ByteArray} (htf : ∀ e, GX e -> Sp e (tf e))
include htf
theorem tacK_tx {t : Tc} (h : GTc t) : ∃ N, ∀ n, N <= n -> Tx (tacK tf t) (tacText n t) := by
 obtain ⟨N, M, r⟩ := list_more (P := fun e (_ : ByteArray) n _ => Tx (tf e) (xtext n e)) t.xs fun e he => by
  obtain ⟨N, r⟩ := (htf e (gtc_xs h e he)).tx; exact ⟨N, 0, fun _ n _ hn _ => r n hn⟩
 refine ⟨N, fun n hn => ?_⟩
 have h1 : Tx (tacWords.getD (t.kd - 1) ⟨#[]⟩ :: t.nms) ((tacWords.getD (t.kd - 1) ⟨#[]⟩).data.toList ++ (t.nms.flatMap fun q => [32] ++ q.data.toList)) := by
  have := (tac_tx h.kinds).gaps (xs := t.nms) (f := fun q => [q]) (g := fun q => q.data.toList) fun q hq => (h.nms q hq).tx
  simpa using this
 have h2 : Tx ((tacWords.getD (t.kd - 1) ⟨#[]⟩ :: t.nms) ++ (if t.kd = 9 then [sColon] else [])) (((tacWords.getD (t.kd - 1) ⟨#[]⟩).data.toList ++ (t.nms.flatMap fun q => [32] ++ q.data.toList)) ++ (if t.kd = 9 then [32, 58] else [])) := by
  by_cases h9 : t.kd = 9
  . rw [if_pos h9, if_pos h9]
    exact (h1.gap (Tx.word (q := sColon) rfl rfl)).cast (by simp)
  . rw [if_neg h9, if_neg h9]
    simpa using h1
 have h3 : Tx (((tacWords.getD (t.kd - 1) ⟨#[]⟩ :: t.nms) ++ (if t.kd = 9 then [sColon] else [])) ++ (if t.kd = 10 then [numB t.num] else [])) ((((tacWords.getD (t.kd - 1) ⟨#[]⟩).data.toList ++ (t.nms.flatMap fun q => [32] ++ q.data.toList)) ++ (if t.kd = 9 then [32, 58] else [])) ++ (if t.kd = 10 then [32] ++ Lib.decDigits t.num else [])) := by
  by_cases h10 : t.kd = 10
  . rw [if_pos h10, if_pos h10]
    exact (h2.gap (num_tx (h.num10 h10))).cast (by simp)
  . rw [if_neg h10, if_neg h10]
    simpa using h2
 exact h3.gaps fun e he => r e he ⟨#[]⟩ n M hn (Nat.le_refl _)
theorem comK_text {c : Cm} (h : GCm c) : ∃ N, ∀ n, N <= n -> commText n c = tokT true (comK tf c) ++ [10] := by
 obtain ⟨N1, r1⟩ := (htf c.ty h.ty).tx
 obtain ⟨N2, M2, r2⟩ := list_more (P := fun (b : Bd) (_ : ByteArray) n _ => Tx (bindK tf b) (binderT b.nm b.im (xtext n b.ty))) c.bs fun b hb => by
  obtain ⟨N, r⟩ := (htf b.ty (h.bs b hb).2).tx; exact ⟨N, 0, fun _ n _ hn _ => binK_tx (h.bs b hb).1 (r n hn)⟩
 obtain ⟨N3, M3, r3⟩ := list_more (P := fun (k : Ct) (_ : ByteArray) n _ => Tx (ctorK tf k) ([124, 32] ++ k.nm.data.toList ++ [32, 58, 32] ++ xtext n k.ty)) c.cts fun k hk => by
  obtain ⟨N, r⟩ := (htf k.ty (h.cts k hk).ty).tx; exact ⟨N, 0, fun _ n _ hn _ => (((h.cts k hk).nm.tx.first (q := sBar) rfl rfl).mid (q := sColon) (r n hn) rfl rfl).cast (by simp)⟩
 obtain ⟨N4, M4, r4⟩ := list_more (P := fun (t : Tc) (_ : ByteArray) n _ => Tx (tacK tf t) (tacText n t)) c.tcs fun t ht => by
  obtain ⟨N, r⟩ := tacK_tx htf (h.tcs t ht); exact ⟨N, 0, fun _ n _ hn _ => r n hn⟩
 obtain ⟨N5, r5⟩ : ∃ N, c.kd = 2 \/ (c.kd = 3 /\ c.tac = false) -> ∀ n, N <= n -> Tx (tf c.vl) (xtext n c.vl) := by
  by_cases hv : c.kd = 2 \/ (c.kd = 3 /\ c.tac = false)
  . have := h.vl
    rw [if_pos hv] at this; obtain ⟨N, r⟩ := (htf c.vl this).tx; exact ⟨N, fun _ => r⟩
  . exact ⟨0, fun h1 => absurd h1 hv⟩
 refine ⟨N1 + N2 + N3 + N4 + N5, fun n hn => ?_⟩; have hk := h.kd; have t1 : Tx [kindW c.kd, c.nm] ((kindW c.kd).data.toList ++ [32] ++ c.nm.data.toList) := (kind_tx hk).gap h.nm.tx; have t2 := parK_tx t1 h.ps
 have t3 := t2.gaps (f := bindK tf) (g := fun b : Bd => binderT b.nm b.im (xtext n b.ty)) (xs := c.bs) fun b hb => r2 b hb ⟨#[]⟩ n M2 (by omega) (Nat.le_refl _)
 have t4 := t3.mid (q := sColon) (r1 n (by omega)) rfl rfl
 have c0 : commText n c = (kindW c.kd).data.toList ++ [32] ++ c.nm.data.toList
  ++ (if c.ps.isEmpty = true then [] else [46, 123] ++ joinT [44, 32] (c.ps.map fun q => q.data.toList) ++ [125])
  ++ (c.bs.flatMap fun b => [32] ++ binderT b.nm b.im (xtext n b.ty)) ++ [32, 58, 32] ++ xtext n c.ty
  ++ (if c.tac = true then (if c.tcs.isEmpty = true then [] else [32, 98, 121, 32] ++ joinT [59, 32] (c.tcs.map (tacText n))) else if c.kd = 2 \/ c.kd = 3 then [32, 58, 61, 32] ++ xtext n c.vl else [])
  ++ (c.cts.flatMap fun k => [32, 124, 32] ++ k.nm.data.toList ++ [32, 58, 32] ++ xtext n k.ty) ++ [46, 10] := rfl
 clear t1 t2 t3; generalize (if c.ps.isEmpty = true then ([] : List UInt8) else [46, 123] ++ joinT [44, 32] (c.ps.map fun q => q.data.toList) ++ [125]) = P at *
 have key : ∀ tl : List ByteArray, ∀ tx : List UInt8, (∀ a l, Tx a l -> Tx (a ++ tl) (l ++ tx)) -> tailK tf c = tl -> commText n c = (kindW c.kd).data.toList ++ [32] ++ c.nm.data.toList
  ++ P
  ++ (c.bs.flatMap fun b => [32] ++ binderT b.nm b.im (xtext n b.ty)) ++ [32, 58, 32] ++ xtext n c.ty ++ tx ++ [46, 10] -> commText n c = tokT true (comK tf c) ++ [10] := fun tl tx ht e1 e2 => by
  have t5 := (ht _ _ t4).shut (q := sDot) rfl rfl; rw [e2]; unfold comK; rw [e1, t5.txt]
  simp [blT]
 by_cases h4 : c.kd = 4
 . have hta : c.tac = false := by
    cases e : c.tac with
    | false => rfl
    | true => have := (h.tac e).1; omega
   refine key (c.cts.flatMap (ctorK tf)) (c.cts.flatMap fun k => [32] ++ ([124, 32] ++ k.nm.data.toList ++ [32, 58, 32] ++ xtext n k.ty)) (fun a l ha => ha.gaps fun k hk => r3 k hk ⟨#[]⟩ n M3 (by omega) (Nat.le_refl _)) (by unfold tailK; rw [if_pos h4]) ?_
   rw [c0, if_neg (show ¬ c.tac = true by rw [hta]; simp), if_neg (show ¬ (c.kd = 2 \/ c.kd = 3) by omega)]
   simp
 . have hc : c.cts = [] := Decidable.byContradiction fun x => h4 (h.some x)
   by_cases h3 : c.kd = 3 /\ c.tac = true
   . obtain ⟨t, l, htl⟩ : ∃ t l, c.tcs = t :: l := by
      cases e : c.tcs with
      | nil => exact absurd e (h.tac h3.2).2
      | cons t l => exact ⟨t, l, rfl⟩
     rw [htl] at r4; refine key (tacsK tf wBy c.tcs) ([32, 98, 121, 32] ++ joinT [59, 32] (c.tcs.map (tacText n))) (fun a l' ha => ?_) (by unfold tailK; rw [if_neg h4, if_pos h3]) ?_
     . rw [htl, joinT_tcs]
       have u1 := ha.mid (q := wBy) (r4 t (by simp) ⟨#[]⟩ n M4 (by omega) (Nat.le_refl _)) (by decide) (by decide)
       have u2 := tacsK_tx (l := l) u1 fun x hx => r4 x (by simp [hx]) ⟨#[]⟩ n M4 (by omega) (Nat.le_refl _)
       have e1 : a ++ tacsK tf wBy (t :: l) = a ++ wBy :: tacK tf t ++ tacsK tf sSemi l := by simp [tacsK]
       rw [e1]; exact u2.cast (by simp)
     . rw [c0, if_pos h3.2, if_neg (show ¬ c.tcs.isEmpty = true by rw [htl]; simp), hc]
       simp
   . by_cases h1 : c.kd = 1
     . have hta : c.tac = false := by
        cases e : c.tac with
        | false => rfl
        | true => have := (h.tac e).1; omega
       refine key [] [] (fun a l ha => by simpa using ha) (by unfold tailK; rw [if_neg h4, if_neg h3, if_pos h1]) ?_
       rw [c0, if_neg (show ¬ c.tac = true by rw [hta]; simp), if_neg (show ¬ (c.kd = 2 \/ c.kd = 3) by omega), hc]
       simp
     . have h5 : c.kd = 2 \/ (c.kd = 3 /\ c.tac = false) := by
        rcases (show c.kd = 2 \/ c.kd = 3 by omega) with h6 | h6
        . exact .inl h6
        . exact .inr ⟨h6, by cases e : c.tac with | false => rfl | true => exact absurd ⟨h6, e⟩ h3⟩
       have hta : c.tac = false := by
        cases e : c.tac with
        | false => rfl
        | true =>
          have := (h.tac e).1
          rcases h5 with h6 | h6
          . omega
          . rw [h6.2] at e; cases e
       refine key (sBe :: tf c.vl) ([32, 58, 61, 32] ++ xtext n c.vl) (fun a l ha => (ha.mid (q := sBe) (r5 h5 n (by omega)) rfl rfl).cast (by simp)) (by unfold tailK; rw [if_neg h4, if_neg h3, if_neg h1]) ?_
       rw [c0, if_neg (show ¬ c.tac = true by rw [hta]; simp), if_pos (show c.kd = 2 \/ c.kd = 3 by omega), hc]
       simp
theorem files_text {cs : List Cm} (h : ∀ c ∈ cs, GCm c) : ∃ N, ∀ n, N <= n -> fileText n cs = cs.flatMap fun c => tokT true (comK tf c) ++ [10] := by
 obtain ⟨N, M, r⟩ := list_more (P := fun (c : Cm) (_ : ByteArray) n _ => commText n c = tokT true (comK tf c) ++ [10]) cs fun c hc => by
  obtain ⟨N, r⟩ := comK_text htf (h c hc); exact ⟨N, 0, fun _ n _ hn _ => r n hn⟩
 exact ⟨N, fun n hn => flat_same fun c hc => r c hc ⟨#[]⟩ n M hn (Nat.le_refl _)⟩
end
end Go.Proofs.YtockffblncdikaaGreatDoor
