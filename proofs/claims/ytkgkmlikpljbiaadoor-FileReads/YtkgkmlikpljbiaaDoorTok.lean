/- Small facts that the walks use: strings told apart, a box of three cells, the number at a name. -/
import Derived.Test.YtkgkmlikpljbiaaDoorRows
import Derived.Test.YtkgkmlikpljbiaaDoorRep
import Derived.WalkLawsBesides
import Derived.WideShapes
import Derived.Deep.LoopGhost
import Derived.Deep.QuietTactic
import Derived.BigQuiet
import Derived.WalkSmall
import Derived.Deep.RegionWith

namespace Go.Proofs.YtkgkmlikpljbiaaDoor
open Go.RowKit

theorem hide {p : Prop} (h : p) : Hid p := h

theorem sameStr (a b : ByteArray) : (a.toList == b.toList) = decide (a = b) := by
  rw [Bool.eq_iff_iff, beq_iff_eq, decide_eq_true_eq]
  constructor
  · intro h
    rw [ByteArray.toList_eq, ByteArray.toList_eq] at h
    exact WideShapes.bytes_inj h
  · rintro rfl; rfl
theorem sameStr_pos {a b : ByteArray} (h : a = b) : (a.toList == b.toList) = true := by rw [sameStr]; simp [h]
theorem sameStr_neg {a b : ByteArray} (h : a ≠ b) : (a.toList == b.toList) = false := by rw [sameStr]; simp [h]

def hasB (q : ByteArray) (ns : List ByteArray) : Bool := ns.any fun p => decide (p = q)
theorem hasB_true {q : ByteArray} {ns : List ByteArray} {k : Nat} (h : k < ns.length) (e : ns[k] = q) : hasB q ns = true := by
  unfold hasB; rw [List.any_eq_true]; exact ⟨ns[k], List.getElem_mem h, by simp [e]⟩
theorem hasB_false {q : ByteArray} {ns : List ByteArray} (h : ∀ j (h : j < ns.length), ns[j] ≠ q) : hasB q ns = false := by
  unfold hasB; rw [List.any_eq_false]; intro x hx; obtain ⟨j, hj, rfl⟩ := List.getElem_of_mem hx; simp [h j hj]
theorem hasB_iff {q : ByteArray} {ns : List ByteArray} : hasB q ns = true ↔ q ∈ ns := by
  unfold hasB; rw [List.any_eq_true]; constructor
  · rintro ⟨x, hx, e⟩; simp at e; exact e ▸ hx
  · intro h; exact ⟨q, h, by simp⟩

theorem nodes_pos {α : Type} (l : Lv α) : 0 < l.nodes := by cases l <;> simp [Lv.nodes]

/-- Behind a box of three cells nothing old has turned. -/
def Box (w : World) (c0 c1 c2 : Value) (W : World) : Prop := Below (w.heap.size + 1) (w.alloc (.cells #[c0, c1, c2] 99)) W

theorem Box.start (w : World) (c0 c1 c2 : Value) : Box w c0 c1 c2 (w.alloc (.cells #[c0, c1, c2] 99)) := Below.refl _ _
theorem Box.old {w W : World} {c0 c1 c2 : Value} (h : Box w c0 c1 c2 W) : Below w.heap.size w W := ((Below.refl _ _).alloc (Nat.le_refl _) _).trans (h.mono (by omega))
theorem Box.size {w W : World} {c0 c1 c2 : Value} (h : Box w c0 c1 c2 W) : w.heap.size + 1 ≤ W.heap.size := by have := Below.size h; simpa using this
theorem Box.then {w W W' : World} {c0 c1 c2 : Value} (h : Box w c0 c1 c2 W) (h' : Below W.heap.size W W') : Box w c0 c1 c2 W' := Below.trans h (h'.mono h.size)
theorem Box.drew {w W : World} {c0 c1 c2 : Value} (h : Box w c0 c1 c2 W) : Box w c0 c1 c2 W.drew := Below.drew h
theorem Box.drewN {w W : World} {c0 c1 c2 : Value} (h : Box w c0 c1 c2 W) (n : Nat) : Box w c0 c1 c2 (W.drewN n) := below_drewN h n
theorem Box.cells {w W : World} {c0 c1 c2 : Value} (h : Box w c0 c1 c2 W) : W.cell? ⟨w.heap.size, 0, none⟩ = some c0 ∧ W.cell? ⟨w.heap.size, 1, none⟩ = some c1 ∧ W.cell? ⟨w.heap.size, 2, none⟩ = some c2 := by
  refine ⟨?_, ?_, ?_⟩ <;> (rw [Below.cell h (by simp)]; simp)
/-- A contract that tells 'Below', as one over a box. -/
theorem Box.calls {w : World} {c0 c1 c2 : Value} {f : FuncId} {args : Array Value} {r : Value} (h : ∀ W, Below w.heap.size w W → Calls Tryd.prog f args W fun e w' => e = .returned r ∧ Below W.heap.size W w')
    (W : World) (hW : Box w c0 c1 c2 W) : Calls Tryd.prog f args W fun e w' => e = .returned r ∧ Hid (Box w c0 c1 c2 w') ∧ w'.cell? ⟨w.heap.size, 0, none⟩ = some c0 ∧ w'.cell? ⟨w.heap.size, 1, none⟩ = some c1 ∧ w'.cell? ⟨w.heap.size, 2, none⟩ = some c2 :=
  (h W hW.old).mono fun _ _ ⟨he, hb⟩ => ⟨he, hW.then hb, (hW.then hb).cells⟩

theorem look_le {n : Nat} : ∀ (ps : List ByteArray) (ns : List Nat) (q : ByteArray), (∀ x ∈ ns, x ≤ n) → look ps ns q ≤ n
  | [], _, _, _ => by simp [look]
  | _ :: _, [], _, _ => by simp [look]
  | p :: ps, m :: ns, q, h => by
    simp only [look]
    split
    · exact h m (by simp)
    · exact look_le ps ns q fun x hx => h x (by simp [hx])

theorem look_at : ∀ (ps : List ByteArray) (ns : List Nat) (q : ByteArray) (k : Nat) (h : k < ps.length) (h' : k < ns.length), (∀ j (hj : j < ps.length), j < k → ps[j] ≠ q) → ps[k] = q → look ps ns q = ns[k]
  | p :: ps, m :: ns, q, 0, _, _, _, e => by simp only [look]; rw [if_pos (by simpa using e)]; simp
  | p :: ps, m :: ns, q, k + 1, h, h', hno, e => by
    simp only [look]
    rw [if_neg (by have := hno 0 (by simp) (by omega); simp only [List.getElem_cons_zero] at this; exact this)]
    have := look_at ps ns q k (by simpa using h) (by simpa using h') (fun j hj hjk => by have := hno (j + 1) (by simp; omega) (by omega); simp only [List.getElem_cons_succ] at this; exact this) (by simpa using e)
    simpa using this

theorem look_none : ∀ (ps : List ByteArray) (ns : List Nat) (q : ByteArray), (∀ j (hj : j < ps.length), ps[j] ≠ q) → look ps ns q = 0
  | [], _, _, _ => by simp [look]
  | _ :: _, [], _, _ => by simp [look]
  | p :: ps, m :: ns, q, h => by
    simp only [look]
    rw [if_neg (by have := h 0 (by simp); simp only [List.getElem_cons_zero] at this; exact this)]
    exact look_none ps ns q fun j hj => by have := h (j + 1) (by simp; omega); simp only [List.getElem_cons_succ] at this; exact this

theorem worth_bd {σ : ByteArray → Nat} (hle : ∀ p, σ p ≤ 1000000) (l : LvB) (h : l.nodes ≤ 1000000) : l.worth σ ≤ 2000000 := by
  have hw := Lv.worth_le (σ := σ) (n := 1000000) l fun p _ => hle p
  have := Lv.succs_le l
  omega

theorem Lv.kid_nodes {l : LvB} {k : Nat} (h : k < l.kids.length) : (l.kids[k]).nodes < l.nodes := by
  cases l with
  | zero => simp [kids] at h
  | param => simp [kids] at h
  | succ a => match k, h with | 0, _ => simp [kids, nodes]
  | max a b => match k, h with | 0, _ => simp [kids, nodes]; omega | 1, _ => simp [kids, nodes]; omega
  | imax a b => match k, h with | 0, _ => simp [kids, nodes]; omega | 1, _ => simp [kids, nodes]; omega

theorem Lv.kids_le (l : LvB) : l.kids.length ≤ 2 := by cases l <;> simp [kids]
theorem Lv.kind_le (l : LvB) : l.kind ≤ 4 := by cases l <;> simp [kind]

end Go.Proofs.YtkgkmlikpljbiaaDoor

/- The contract of nameByte: whether a byte may stand in a name. -/
namespace Go.Proofs.YtkgkmlikpljbiaaDoor
open Go.RowKit

def letterB (c : Nat) : Bool := (97 ≤ c && c ≤ 122) || (65 ≤ c && c ≤ 90) || c == 95
def nameB (c : Nat) (first : Bool) : Bool := letterB c || (!first && ((48 ≤ c && c ≤ 57) || c == 46 || c == 39))

end Go.Proofs.YtkgkmlikpljbiaaDoor

/- Tokens of a level's text, as a function of the text and a place: no walk. -/
namespace Go.Proofs.YtkgkmlikpljbiaaDoor
open Go.RowKit

/-- The byte at a place; 0 behind the end. -/
def at_ (s : ByteArray) (k : Nat) : Nat := if h : k < s.size then (s[k]).toNat else 0
theorem at_eq {s : ByteArray} {k : Nat} (h : k < s.size) : (s[k]).toNat = at_ s k := by simp [at_, h]
theorem at_lt (s : ByteArray) (k : Nat) : at_ s k < 256 := by unfold at_; split; exact (s[k]).toNat_lt; omega

/-- How far a run of bytes goes. -/
def run (f : Nat → Bool) (s : ByteArray) : Nat → Nat → Nat
  | 0, k => k
  | n + 1, k => if k < s.size ∧ f (at_ s k) = true then run f s n (k + 1) else k
def runTo (f : Nat → Bool) (s : ByteArray) (k : Nat) : Nat := run f s (s.size - k) k

theorem run_ge (f : Nat → Bool) (s : ByteArray) : ∀ n k, k ≤ run f s n k
  | 0, k => Nat.le_refl _
  | n + 1, k => by simp only [run]; split; have := run_ge f s n (k + 1); omega; omega
theorem run_le (f : Nat → Bool) (s : ByteArray) : ∀ n k, k ≤ s.size → run f s n k ≤ s.size
  | 0, k, h => h
  | n + 1, k, h => by simp only [run]; split; rename_i h'; exact run_le f s n (k + 1) (by omega); exact h
theorem runTo_ge (f : Nat → Bool) (s : ByteArray) (k : Nat) : k ≤ runTo f s k := run_ge f s _ k
theorem runTo_le (f : Nat → Bool) (s : ByteArray) {k : Nat} (h : k ≤ s.size) : runTo f s k ≤ s.size := run_le f s _ k h
theorem runTo_step {f : Nat → Bool} {s : ByteArray} {k : Nat} (h : k < s.size) (hf : f (at_ s k) = true) : runTo f s k = runTo f s (k + 1) := by
  unfold runTo
  rw [show s.size - k = (s.size - (k + 1)) + 1 by omega]
  simp [run, h, hf]
theorem runTo_stop {f : Nat → Bool} {s : ByteArray} {k : Nat} (hf : f (at_ s k) = false) : runTo f s k = k := by
  unfold runTo
  cases s.size - k with
  | zero => rfl
  | succ n => simp [run, hf]
theorem runTo_end {f : Nat → Bool} {s : ByteArray} {k : Nat} (h : s.size ≤ k) : runTo f s k = k := by
  unfold runTo
  rw [show s.size - k = 0 by omega]
  rfl

def blankB (c : Nat) : Bool := c == 32 || c == 9 || c == 10
def digitB (c : Nat) : Bool := 48 ≤ c && c ≤ 57

structure Token where
  t : ByteArray
  at_ : Nat
  ok : Bool

/-- The token that begins at a place that is no blank. -/
def tokAt (s : ByteArray) (k : Nat) : Token :=
  if at_ s k = 40 ∨ at_ s k = 41 then ⟨s.extract k (k + 1), k, true⟩
  else if nameB (at_ s k) true = true then
    if 40 < runTo (fun c => nameB c false) s (k + 1) - k then ⟨⟨#[]⟩, k, false⟩ else ⟨s.extract k (runTo (fun c => nameB c false) s (k + 1)), k, true⟩
  else if at_ s k = 35 ∨ digitB (at_ s k) = true then
    let q := runTo digitB s (k + 1)
    let d := if at_ s k = 35 then k + 1 else k
    if q = d ∨ 5 < q - d ∨ (1 < q - d ∧ at_ s d = 48) then ⟨⟨#[]⟩, k, false⟩ else ⟨s.extract k q, k, true⟩
  else ⟨⟨#[]⟩, k, false⟩

def tok (s : ByteArray) (p : Nat) : Token :=
  if runTo blankB s p = s.size then ⟨⟨#[]⟩, runTo blankB s p, true⟩ else tokAt s (runTo blankB s p)

theorem tokAt_facts {s : ByteArray} {k : Nat} (h : k < s.size) : (tokAt s k).at_ = k ∧ k + (tokAt s k).t.size ≤ s.size ∧ (tokAt s k).t.size ≤ 40 ∧ ((tokAt s k).ok = false → (tokAt s k).t = ⟨#[]⟩) ∧ ((tokAt s k).ok = true → 0 < (tokAt s k).t.size) := by
  have h1 := runTo_ge (fun c => nameB c false) s (k + 1)
  have h2 := runTo_le (fun c => nameB c false) s (k := k + 1) (by omega)
  have h3 := runTo_ge digitB s (k + 1)
  have h4 := runTo_le digitB s (k := k + 1) (by omega)
  have he : (⟨#[]⟩ : ByteArray).size = 0 := rfl
  unfold tokAt
  split
  · simp only [ByteArray.size_extract]; simp; omega
  · split
    · split
      · simp only [he]; simp; omega
      · simp only [ByteArray.size_extract]; simp; omega
    · split
      · dsimp only
        have hd : (if at_ s k = 35 then k + 1 else k) = k + 1 ∨ (if at_ s k = 35 then k + 1 else k) = k := by split <;> simp
        generalize (if at_ s k = 35 then k + 1 else k) = d at hd ⊢
        split
        · refine ⟨rfl, ?_, ?_, fun _ => rfl, fun h => by cases h⟩
          · show k + 0 ≤ s.size; omega
          · show 0 ≤ 40; omega
        · rename_i hn
          simp only [not_or] at hn
          simp only [ByteArray.size_extract]
          simp
          omega
      · simp only [he]; simp; omega

theorem tok_facts {s : ByteArray} {p : Nat} (h : p ≤ s.size) : p ≤ (tok s p).at_ ∧ (tok s p).at_ + (tok s p).t.size ≤ s.size ∧ (tok s p).t.size ≤ 40 ∧ ((tok s p).ok = false → (tok s p).t = ⟨#[]⟩) := by
  have h1 := runTo_ge blankB s p
  have h2 := runTo_le blankB s h
  unfold tok
  split
  · rename_i e
    refine ⟨h1, ?_, ?_, fun h => by cases h⟩
    · show runTo blankB s p + 0 ≤ s.size; omega
    · show 0 ≤ 40; omega
  · rename_i e
    obtain ⟨f1, f2, f3, f4, f5⟩ := tokAt_facts (s := s) (k := runTo blankB s p) (by omega)
    exact ⟨by rw [f1]; exact h1, by rw [f1]; exact f2, f3, f4⟩

end Go.Proofs.YtkgkmlikpljbiaaDoor
