/- Small facts that the walks use: strings told apart, a box of three cells, the number at a name. -/
import Derived.Test.YteepmfhpjanbhaaGreatDoorRows
import Derived.Test.YteepmfhpjanbhaaGreatDoorRep
import Derived.WalkLawsBesides
import Derived.WideShapes
import Derived.Deep.LoopGhost
import Derived.Deep.QuietTactic
import Derived.BigQuiet
import Derived.WalkSmall
import Derived.Deep.RegionWith

namespace Go.Proofs.YteepmfhpjanbhaaGreatDoor
open Go.RowKit

theorem hide {p : Prop} (h : p) : Hid p := h

theorem sameStr (a b : ByteArray) : (a.toList == b.toList) = decide (a = b) := by
  rw [Bool.eq_iff_iff, beq_iff_eq, decide_eq_true_eq]
  constructor
  · intro h
    rw [ByteArray.toList_eq, ByteArray.toList_eq] at h
    exact WideShapes.bytes_inj h
  · rintro rfl; rfl
theorem sameStr_pos {a b : ByteArray} (h : a = b) : (a.toList == b.toList) = true := by rw [sameStr]; simp [h]
theorem sameStr_neg {a b : ByteArray} (h : a ≠ b) : (a.toList == b.toList) = false := by rw [sameStr]; simp [h]

def hasB (q : ByteArray) (ns : List ByteArray) : Bool := ns.any fun p => decide (p = q)
theorem hasB_true {q : ByteArray} {ns : List ByteArray} {k : Nat} (h : k < ns.length) (e : ns[k] = q) : hasB q ns = true := by
  unfold hasB; rw [List.any_eq_true]; exact ⟨ns[k], List.getElem_mem h, by simp [e]⟩
theorem hasB_false {q : ByteArray} {ns : List ByteArray} (h : ∀ j (h : j < ns.length), ns[j] ≠ q) : hasB q ns = false := by
  unfold hasB; rw [List.any_eq_false]; intro x hx; obtain ⟨j, hj, rfl⟩ := List.getElem_of_mem hx; simp [h j hj]
theorem hasB_iff {q : ByteArray} {ns : List ByteArray} : hasB q ns = true ↔ q ∈ ns := by
  unfold hasB; rw [List.any_eq_true]; constructor
  · rintro ⟨x, hx, e⟩; simp at e; exact e ▸ hx
  · intro h; exact ⟨q, h, by simp⟩

theorem nodes_pos {α : Type} (l : Lv α) : 0 < l.nodes := by cases l <;> simp [Lv.nodes]

/-- Behind a box of three cells nothing old has turned. -/
def Box (w : World) (c0 c1 c2 : Value) (W : World) : Prop := Below (w.heap.size + 1) (w.alloc (.cells #[c0, c1, c2] 44)) W

theorem Box.start (w : World) (c0 c1 c2 : Value) : Box w c0 c1 c2 (w.alloc (.cells #[c0, c1, c2] 44)) := Below.refl _ _
theorem Box.old {w W : World} {c0 c1 c2 : Value} (h : Box w c0 c1 c2 W) : Below w.heap.size w W := ((Below.refl _ _).alloc (Nat.le_refl _) _).trans (h.mono (by omega))
theorem Box.size {w W : World} {c0 c1 c2 : Value} (h : Box w c0 c1 c2 W) : w.heap.size + 1 ≤ W.heap.size := by have := Below.size h; simpa using this
theorem Box.then {w W W' : World} {c0 c1 c2 : Value} (h : Box w c0 c1 c2 W) (h' : Below W.heap.size W W') : Box w c0 c1 c2 W' := Below.trans h (h'.mono h.size)
theorem Box.drew {w W : World} {c0 c1 c2 : Value} (h : Box w c0 c1 c2 W) : Box w c0 c1 c2 W.drew := Below.drew h
theorem Box.drewN {w W : World} {c0 c1 c2 : Value} (h : Box w c0 c1 c2 W) (n : Nat) : Box w c0 c1 c2 (W.drewN n) := below_drewN h n
theorem Box.cells {w W : World} {c0 c1 c2 : Value} (h : Box w c0 c1 c2 W) : W.cell? ⟨w.heap.size, 0, none⟩ = some c0 ∧ W.cell? ⟨w.heap.size, 1, none⟩ = some c1 ∧ W.cell? ⟨w.heap.size, 2, none⟩ = some c2 := by
  refine ⟨?_, ?_, ?_⟩ <;> (rw [Below.cell h (by simp)]; simp)
/-- A contract that tells 'Below', as one over a box. -/
theorem Box.calls {w : World} {c0 c1 c2 : Value} {f : FuncId} {args : Array Value} {r : Value} (h : ∀ W, Below w.heap.size w W → Calls Tryz.prog f args W fun e w' => e = .returned r ∧ Below W.heap.size W w')
    (W : World) (hW : Box w c0 c1 c2 W) : Calls Tryz.prog f args W fun e w' => e = .returned r ∧ Hid (Box w c0 c1 c2 w') ∧ w'.cell? ⟨w.heap.size, 0, none⟩ = some c0 ∧ w'.cell? ⟨w.heap.size, 1, none⟩ = some c1 ∧ w'.cell? ⟨w.heap.size, 2, none⟩ = some c2 :=
  (h W hW.old).mono fun _ _ ⟨he, hb⟩ => ⟨he, hW.then hb, (hW.then hb).cells⟩

theorem look_le {n : Nat} : ∀ (ps : List ByteArray) (ns : List Nat) (q : ByteArray), (∀ x ∈ ns, x ≤ n) → look ps ns q ≤ n
  | [], _, _, _ => by simp [look]
  | _ :: _, [], _, _ => by simp [look]
  | p :: ps, m :: ns, q, h => by
    simp only [look]
    split
    · exact h m (by simp)
    · exact look_le ps ns q fun x hx => h x (by simp [hx])

theorem look_at : ∀ (ps : List ByteArray) (ns : List Nat) (q : ByteArray) (k : Nat) (h : k < ps.length) (h' : k < ns.length), (∀ j (hj : j < ps.length), j < k → ps[j] ≠ q) → ps[k] = q → look ps ns q = ns[k]
  | p :: ps, m :: ns, q, 0, _, _, _, e => by simp only [look]; rw [if_pos (by simpa using e)]; simp
  | p :: ps, m :: ns, q, k + 1, h, h', hno, e => by
    simp only [look]
    rw [if_neg (by have := hno 0 (by simp) (by omega); simp only [List.getElem_cons_zero] at this; exact this)]
    have := look_at ps ns q k (by simpa using h) (by simpa using h') (fun j hj hjk => by have := hno (j + 1) (by simp; omega) (by omega); simp only [List.getElem_cons_succ] at this; exact this) (by simpa using e)
    simpa using this

theorem look_none : ∀ (ps : List ByteArray) (ns : List Nat) (q : ByteArray), (∀ j (hj : j < ps.length), ps[j] ≠ q) → look ps ns q = 0
  | [], _, _, _ => by simp [look]
  | _ :: _, [], _, _ => by simp [look]
  | p :: ps, m :: ns, q, h => by
    simp only [look]
    rw [if_neg (by have := h 0 (by simp); simp only [List.getElem_cons_zero] at this; exact this)]
    exact look_none ps ns q fun j hj => by have := h (j + 1) (by simp; omega); simp only [List.getElem_cons_succ] at this; exact this

theorem worth_bd {σ : ByteArray → Nat} (hle : ∀ p, σ p ≤ 1000000) (l : LvB) (h : l.nodes ≤ 1000000) : l.worth σ ≤ 2000000 := by
  have hw := Lv.worth_le (σ := σ) (n := 1000000) l fun p _ => hle p
  have := Lv.succs_le l
  omega

theorem Lv.kid_nodes {l : LvB} {k : Nat} (h : k < l.kids.length) : (l.kids[k]).nodes < l.nodes := by
  cases l with
  | zero => simp [kids] at h
  | param => simp [kids] at h
  | succ a => match k, h with | 0, _ => simp [kids, nodes]
  | max a b => match k, h with | 0, _ => simp [kids, nodes]; omega | 1, _ => simp [kids, nodes]; omega
  | imax a b => match k, h with | 0, _ => simp [kids, nodes]; omega | 1, _ => simp [kids, nodes]; omega

theorem Lv.kids_le (l : LvB) : l.kids.length ≤ 2 := by cases l <;> simp [kids]
theorem Lv.kind_le (l : LvB) : l.kind ≤ 4 := by cases l <;> simp [kind]

end Go.Proofs.YteepmfhpjanbhaaGreatDoor

/- The contract of nameByte: whether a byte may stand in a name. -/
namespace Go.Proofs.YteepmfhpjanbhaaGreatDoor
open Go.RowKit

def letterB (c : Nat) : Bool := (97 ≤ c && c ≤ 122) || (65 ≤ c && c ≤ 90) || c == 95
def nameB (c : Nat) (first : Bool) : Bool := letterB c || (!first && ((48 ≤ c && c ≤ 57) || c == 46 || c == 39))

set_option maxHeartbeats 400000 in
theorem nameByte_calls (c : Nat) (first : Bool) (w : World) (hc : c < 256) :
    Calls Tryz.prog 88 #[.int .u8 c, .bool first] w fun e w' => e = .returned (.bool (nameB c first)) ∧ w' = w := by
  go_enter Tryz.func88, Tryz.ntmps88
  go_wp2
  all_goals
    go_ret
    refine ⟨ret_bool ?_, rfl⟩
    rw [Bool.eq_iff_iff]
    simp [nameB, letterB]
    omega


end Go.Proofs.YteepmfhpjanbhaaGreatDoor

/- Tokens of a level's text, as a function of the text and a place: no walk. -/
namespace Go.Proofs.YteepmfhpjanbhaaGreatDoor
open Go.RowKit

/-- The byte at a place; 0 behind the end. -/
def at_ (s : ByteArray) (k : Nat) : Nat := if h : k < s.size then (s[k]).toNat else 0
theorem at_eq {s : ByteArray} {k : Nat} (h : k < s.size) : (s[k]).toNat = at_ s k := by simp [at_, h]
theorem at_lt (s : ByteArray) (k : Nat) : at_ s k < 256 := by unfold at_; split; exact (s[k]).toNat_lt; omega

/-- How far a run of bytes goes. -/
def run (f : Nat → Bool) (s : ByteArray) : Nat → Nat → Nat
  | 0, k => k
  | n + 1, k => if k < s.size ∧ f (at_ s k) = true then run f s n (k + 1) else k
def runTo (f : Nat → Bool) (s : ByteArray) (k : Nat) : Nat := run f s (s.size - k) k

theorem run_ge (f : Nat → Bool) (s : ByteArray) : ∀ n k, k ≤ run f s n k
  | 0, k => Nat.le_refl _
  | n + 1, k => by simp only [run]; split; have := run_ge f s n (k + 1); omega; omega
theorem run_le (f : Nat → Bool) (s : ByteArray) : ∀ n k, k ≤ s.size → run f s n k ≤ s.size
  | 0, k, h => h
  | n + 1, k, h => by simp only [run]; split; rename_i h'; exact run_le f s n (k + 1) (by omega); exact h
theorem runTo_ge (f : Nat → Bool) (s : ByteArray) (k : Nat) : k ≤ runTo f s k := run_ge f s _ k
theorem runTo_le (f : Nat → Bool) (s : ByteArray) {k : Nat} (h : k ≤ s.size) : runTo f s k ≤ s.size := run_le f s _ k h
theorem runTo_step {f : Nat → Bool} {s : ByteArray} {k : Nat} (h : k < s.size) (hf : f (at_ s k) = true) : runTo f s k = runTo f s (k + 1) := by
  unfold runTo
  rw [show s.size - k = (s.size - (k + 1)) + 1 by omega]
  simp [run, h, hf]
theorem runTo_stop {f : Nat → Bool} {s : ByteArray} {k : Nat} (hf : f (at_ s k) = false) : runTo f s k = k := by
  unfold runTo
  cases s.size - k with
  | zero => rfl
  | succ n => simp [run, hf]
theorem runTo_end {f : Nat → Bool} {s : ByteArray} {k : Nat} (h : s.size ≤ k) : runTo f s k = k := by
  unfold runTo
  rw [show s.size - k = 0 by omega]
  rfl

def blankB (c : Nat) : Bool := c == 32 || c == 9 || c == 10
def digitB (c : Nat) : Bool := 48 ≤ c && c ≤ 57

structure Token where
  t : ByteArray
  at_ : Nat
  ok : Bool

/-- The token that begins at a place that is no blank. -/
def tokAt (s : ByteArray) (k : Nat) : Token :=
  if at_ s k = 40 ∨ at_ s k = 41 then ⟨s.extract k (k + 1), k, true⟩
  else if nameB (at_ s k) true = true then
    if 40 < runTo (fun c => nameB c false) s (k + 1) - k then ⟨⟨#[]⟩, k, false⟩ else ⟨s.extract k (runTo (fun c => nameB c false) s (k + 1)), k, true⟩
  else if at_ s k = 35 ∨ digitB (at_ s k) = true then
    let q := runTo digitB s (k + 1)
    let d := if at_ s k = 35 then k + 1 else k
    if q = d ∨ 5 < q - d ∨ (1 < q - d ∧ at_ s d = 48) then ⟨⟨#[]⟩, k, false⟩ else ⟨s.extract k q, k, true⟩
  else ⟨⟨#[]⟩, k, false⟩

def tok (s : ByteArray) (p : Nat) : Token :=
  if runTo blankB s p = s.size then ⟨⟨#[]⟩, runTo blankB s p, true⟩ else tokAt s (runTo blankB s p)

theorem tokAt_facts {s : ByteArray} {k : Nat} (h : k < s.size) : (tokAt s k).at_ = k ∧ k + (tokAt s k).t.size ≤ s.size ∧ (tokAt s k).t.size ≤ 40 ∧ ((tokAt s k).ok = false → (tokAt s k).t = ⟨#[]⟩) ∧ ((tokAt s k).ok = true → 0 < (tokAt s k).t.size) := by
  have h1 := runTo_ge (fun c => nameB c false) s (k + 1)
  have h2 := runTo_le (fun c => nameB c false) s (k := k + 1) (by omega)
  have h3 := runTo_ge digitB s (k + 1)
  have h4 := runTo_le digitB s (k := k + 1) (by omega)
  have he : (⟨#[]⟩ : ByteArray).size = 0 := rfl
  unfold tokAt
  split
  · simp only [ByteArray.size_extract]; simp; omega
  · split
    · split
      · simp only [he]; simp; omega
      · simp only [ByteArray.size_extract]; simp; omega
    · split
      · dsimp only
        have hd : (if at_ s k = 35 then k + 1 else k) = k + 1 ∨ (if at_ s k = 35 then k + 1 else k) = k := by split <;> simp
        generalize (if at_ s k = 35 then k + 1 else k) = d at hd ⊢
        split
        · refine ⟨rfl, ?_, ?_, fun _ => rfl, fun h => by cases h⟩
          · show k + 0 ≤ s.size; omega
          · show 0 ≤ 40; omega
        · rename_i hn
          simp only [not_or] at hn
          simp only [ByteArray.size_extract]
          simp
          omega
      · simp only [he]; simp; omega

theorem tok_facts {s : ByteArray} {p : Nat} (h : p ≤ s.size) : p ≤ (tok s p).at_ ∧ (tok s p).at_ + (tok s p).t.size ≤ s.size ∧ (tok s p).t.size ≤ 40 ∧ ((tok s p).ok = false → (tok s p).t = ⟨#[]⟩) := by
  have h1 := runTo_ge blankB s p
  have h2 := runTo_le blankB s h
  unfold tok
  split
  · rename_i e
    refine ⟨h1, ?_, ?_, fun h => by cases h⟩
    · show runTo blankB s p + 0 ≤ s.size; omega
    · show 0 ≤ 40; omega
  · rename_i e
    obtain ⟨f1, f2, f3, f4, f5⟩ := tokAt_facts (s := s) (k := runTo blankB s p) (by omega)
    exact ⟨by rw [f1]; exact h1, by rw [f1]; exact f2, f3, f4⟩

end Go.Proofs.YteepmfhpjanbhaaGreatDoor

/- A level's text: plain lists. -/
namespace Go.Proofs.YteepmfhpjanbhaaGreatDoor
open Go.RowKit

/-- A level's text, as it is printed. -/
def Lv.text : LvB → List UInt8
  | .zero => [48]
  | .succ a => [40, 115, 32] ++ Lv.text a ++ [41]
  | .max a b => [40, 109, 97, 120, 32] ++ Lv.text a ++ [32] ++ Lv.text b ++ [41]
  | .imax a b => [40, 105, 109, 97, 120, 32] ++ Lv.text a ++ [32] ++ Lv.text b ++ [41]
  | .param p => p.data.toList

theorem Lv.text_len : ∀ (l : LvB), (∀ p, Lv.has p l → p.size ≤ 1000) → l.text.length ≤ 1000 * l.nodes
  | .zero, _ => by simp [text, nodes]
  | .succ a, h => by have := Lv.text_len a h; simp [text, nodes]; omega
  | .max a b, h => by have := Lv.text_len a (fun p hp => h p (.inl hp)); have := Lv.text_len b (fun p hp => h p (.inr hp)); simp [text, nodes]; omega
  | .imax a b, h => by have := Lv.text_len a (fun p hp => h p (.inl hp)); have := Lv.text_len b (fun p hp => h p (.inr hp)); simp [text, nodes]; omega
  | .param p, h => by have := h p rfl; simp only [text, nodes, Array.length_toList]; show p.data.size ≤ _; have e : p.data.size = p.size := rfl; omega

theorem bytes_append (a b : List UInt8) : (⟨a.toArray⟩ : ByteArray) ++ ⟨b.toArray⟩ = ⟨(a ++ b).toArray⟩ := by
  rw [ByteArray.ext_iff]
  simp

/-- Words of brackets. -/
def Lv.word : LvB → List UInt8
  | .succ _ => [115]
  | .max _ _ => [109, 97, 120]
  | .imax _ _ => [105, 109, 97, 120]
  | _ => []

/-- The text of the first parts, each behind a blank. -/
def Lv.kidsText (l : LvB) (k : Nat) : List UInt8 := (l.kids.take k).flatMap fun a => 32 :: Lv.text a
theorem Lv.kidsText_snoc (l : LvB) (k : Nat) (h : k < l.kids.length) : l.kidsText (k + 1) = l.kidsText k ++ [32] ++ Lv.text l.kids[k] := by
  unfold kidsText; rw [List.take_succ_eq_append_getElem h, List.flatMap_append]; simp
theorem Lv.text_kids (l : LvB) (h4 : l.kind ≠ 4) (h0 : l.kind ≠ 0) : l.text = [40] ++ l.word ++ l.kidsText l.kids.length ++ [41] := by
  cases l <;> simp [kind] at h4 h0 <;> simp [text, word, kidsText, kids]
theorem Lv.kidsText_le (l : LvB) (k : Nat) (h : k ≤ l.kids.length) : (l.kidsText k).length ≤ (l.kidsText l.kids.length).length := by
  cases l with
  | zero => simp [kids] at h; subst h; simp [kidsText]
  | param => simp [kids] at h; subst h; simp [kidsText]
  | succ a => match k, h with | 0, _ => simp [kidsText] | 1, _ => simp [kidsText, kids] | k + 2, h => simp [kids] at h
  | max a b => match k, h with | 0, _ => simp [kidsText] | 1, _ => simp [kidsText, kids] | 2, _ => simp [kidsText, kids] | k + 3, h => simp [kids] at h
  | imax a b => match k, h with | 0, _ => simp [kidsText] | 1, _ => simp [kidsText, kids] | 2, _ => simp [kidsText, kids] | k + 3, h => simp [kids] at h

end Go.Proofs.YteepmfhpjanbhaaGreatDoor

/- How a level stands in a text: by its tokens; and that a printed level stands so. Plain Lean. -/
namespace Go.Proofs.YteepmfhpjanbhaaGreatDoor
open Go.RowKit

/-- A sign stands there, behind blanks. -/
def SignAt (s : ByteArray) (c p p' : Nat) : Prop := runTo blankB s p < s.size ∧ at_ s (runTo blankB s p) = c ∧ p' = runTo blankB s p + 1
/-- A name stands there, behind blanks. -/
def WordAt (s q : ByteArray) (p p' : Nat) : Prop := runTo blankB s p < s.size ∧ nameB (at_ s (runTo blankB s p)) true = true ∧ p' = runTo (fun c => nameB c false) s (runTo blankB s p + 1) ∧ p' - runTo blankB s p ≤ 40 ∧ q = s.extract (runTo blankB s p) p'
/-- A zero stands there, behind blanks. -/
def ZeroAt (s : ByteArray) (p p' : Nat) : Prop := runTo blankB s p < s.size ∧ at_ s (runTo blankB s p) = 48 ∧ runTo digitB s (runTo blankB s p + 1) = runTo blankB s p + 1 ∧ p' = runTo blankB s p + 1

/-- A level stands there. -/
def Reads (s : ByteArray) : LvB → Nat → Nat → Prop
  | .zero, p, p' => ZeroAt s p p'
  | .param q, p, p' => WordAt s q p p'
  | .succ a, p, p' => ∃ p1 p2 p3, SignAt s 40 p p1 ∧ WordAt s ⟨#[115]⟩ p1 p2 ∧ Reads s a p2 p3 ∧ SignAt s 41 p3 p'
  | .max a b, p, p' => ∃ p1 p2 p3 p4, SignAt s 40 p p1 ∧ WordAt s ⟨#[109, 97, 120]⟩ p1 p2 ∧ Reads s a p2 p3 ∧ Reads s b p3 p4 ∧ SignAt s 41 p4 p'
  | .imax a b, p, p' => ∃ p1 p2 p3 p4, SignAt s 40 p p1 ∧ WordAt s ⟨#[105, 109, 97, 120]⟩ p1 p2 ∧ Reads s a p2 p3 ∧ Reads s b p3 p4 ∧ SignAt s 41 p4 p'

/-- These bytes stand at that place. -/
def Has (s : ByteArray) (p : Nat) (t : List UInt8) : Prop := p + t.length ≤ s.size ∧ ∀ i (h : i < t.length), at_ s (p + i) = (t[i]).toNat

theorem Has.left {s : ByteArray} {p : Nat} {t u : List UInt8} (h : Has s p (t ++ u)) : Has s p t := by
  refine ⟨by have := h.1; simp at this; omega, fun i hi => ?_⟩
  have := h.2 i (by simp; omega)
  rwa [List.getElem_append_left hi] at this
theorem Has.right {s : ByteArray} {p : Nat} {t u : List UInt8} (h : Has s p (t ++ u)) : Has s (p + t.length) u := by
  refine ⟨by have := h.1; simp at this; omega, fun i hi => ?_⟩
  have := h.2 (t.length + i) (by simp; omega)
  rw [List.getElem_append_right (by omega)] at this
  simpa [Nat.add_assoc] using this
theorem Has.head {s : ByteArray} {p : Nat} {c : UInt8} {u : List UInt8} (h : Has s p (c :: u)) : p < s.size ∧ at_ s p = c.toNat ∧ Has s (p + 1) u := by
  have h1 := h.2 0 (by simp)
  have hs := h.1
  simp at h1 hs
  exact ⟨by omega, h1, Has.right (t := [c]) h⟩

/-- Neither a name nor a number goes on there. -/
def Stop (s : ByteArray) (p : Nat) : Prop := nameB (at_ s p) false = false ∧ digitB (at_ s p) = false
theorem Stop.of {s : ByteArray} {p c : Nat} (h : at_ s p = c) (hc : c = 32 ∨ c = 41 ∨ c = 40 ∨ c = 0) : Stop s p := by
  unfold Stop; rw [h]; rcases hc with rfl | rfl | rfl | rfl <;> decide
theorem at_end {s : ByteArray} {p : Nat} (h : s.size ≤ p) : at_ s p = 0 := by unfold at_; rw [dif_neg (by omega)]

/-- What a name is. -/
def Nm (q : ByteArray) : Prop := 0 < q.size ∧ q.size ≤ 40 ∧ nameB (at_ q 0) true = true ∧ ∀ i, i < q.size → nameB (at_ q i) false = true

theorem runTo_run {f : Nat → Bool} {s : ByteArray} : ∀ (n k : Nat), k + n ≤ s.size → (∀ i, i < n → f (at_ s (k + i)) = true) → runTo f s k = runTo f s (k + n)
  | 0, k, _, _ => rfl
  | n + 1, k, h, hf => by
    rw [runTo_step (by omega) (by simpa using hf 0 (by omega)), runTo_run n (k + 1) (by omega) fun i hi => by have := hf (i + 1) (by omega); rwa [show k + (i + 1) = k + 1 + i by omega] at this]
    congr 1
    omega

theorem at_data (q : ByteArray) (i : Nat) (h : i < q.size) : at_ q i = (q.data.toList[i]'(by simpa using h)).toNat := by
  unfold at_; rw [dif_pos h]; rfl

theorem has_word {s q : ByteArray} {p : Nat} (hq : Nm q) (h : Has s p q.data.toList) (hst : Stop s (p + q.size)) : WordAt s q p (p + q.size) := by
  obtain ⟨h0, h40, hf, hall⟩ := hq
  have hlen : q.data.toList.length = q.size := by simp
  have hat : ∀ i, i < q.size → at_ s (p + i) = at_ q i := fun i hi => by rw [h.2 i (by omega), at_data q i hi]
  have hsz := h.1
  rw [hlen] at hsz
  have hb : runTo blankB s p = p := runTo_stop (by
    have e := hat 0 h0
    simp at e
    rw [e]
    have := hf
    revert this
    generalize at_ q 0 = c
    intro h'
    simp [nameB, letterB] at h'
    simp [blankB]
    omega)
  have hr : runTo (fun c => nameB c false) s (p + 1) = p + q.size := by
    rw [runTo_run (q.size - 1) (p + 1) (by omega) fun i hi => by rw [show p + 1 + i = p + (i + 1) by omega, hat (i + 1) (by omega)]; exact hall _ (by omega)]
    rw [show p + 1 + (q.size - 1) = p + q.size by omega]
    exact runTo_stop hst.1
  unfold WordAt
  rw [hb]
  refine ⟨by omega, by have e := hat 0 h0; simp at e; rw [e]; exact hf, hr.symm, by omega, ?_⟩
  rw [ByteArray.ext_iff]
  apply Array.ext'
  apply List.ext_getElem
  · simp; omega
  · intro i h1 h2
    have hi : i < q.size := by omega
    have e := hat i hi
    rw [at_data q i hi] at e
    unfold at_ at e
    rw [dif_pos (by omega)] at e
    have e' := UInt8.toNat_inj.1 e
    simp
    simp at e'
    exact e'.symm

theorem Reads.ahead {s : ByteArray} {p p1 : Nat} (h : runTo blankB s p = runTo blankB s p1) : ∀ {l : LvB} {p' : Nat}, Reads s l p1 p' → Reads s l p p'
  | .zero, _, hr => by simp only [Reads, ZeroAt] at hr ⊢; rw [h]; exact hr
  | .param _, _, hr => by simp only [Reads, WordAt] at hr ⊢; rw [h]; exact hr
  | .succ _, _, ⟨a, b, c, h1, h2⟩ => ⟨a, b, c, by unfold SignAt at h1 ⊢; rw [h]; exact h1, h2⟩
  | .max _ _, _, ⟨a, b, c, d, h1, h2⟩ => ⟨a, b, c, d, by unfold SignAt at h1 ⊢; rw [h]; exact h1, h2⟩
  | .imax _ _, _, ⟨a, b, c, d, h1, h2⟩ => ⟨a, b, c, d, by unfold SignAt at h1 ⊢; rw [h]; exact h1, h2⟩

theorem has_sign {s : ByteArray} {p : Nat} {c : UInt8} {u : List UInt8} (h : Has s p (c :: u)) (hc : blankB c.toNat = false) : SignAt s c.toNat p (p + 1) := by
  obtain ⟨h1, h2, _⟩ := h.head
  have hb : runTo blankB s p = p := runTo_stop (by rw [h2]; exact hc)
  unfold SignAt
  rw [hb]
  exact ⟨h1, h2, rfl⟩

theorem has_blank {s : ByteArray} {p : Nat} {u : List UInt8} (h : Has s p (32 :: u)) : runTo blankB s p = runTo blankB s (p + 1) := by
  obtain ⟨h1, h2, _⟩ := h.head
  exact runTo_step h1 (by rw [h2]; decide)

/-- A printed level stands there. -/
theorem text_reads {s : ByteArray} : ∀ (l : LvB) (p : Nat), (∀ q, Lv.has q l → Nm q) → Has s p l.text → Stop s (p + l.text.length) → Reads s l p (p + l.text.length)
  | .zero, p, _, h, hst => by
    obtain ⟨h1, h2, _⟩ := h.head
    have hb : runTo blankB s p = p := runTo_stop (by rw [h2]; decide)
    simp only [Reads, ZeroAt, hb, Lv.text, List.length_singleton] at hst ⊢
    exact ⟨h1, h2, runTo_stop hst.2, trivial⟩
  | .param q, p, hn, h, hst => by
    have e : (Lv.text (.param q)).length = q.size := by simp [Lv.text]
    rw [e] at hst ⊢
    exact has_word (hn q rfl) h hst
  | .succ a, p, hn, h, hst => by
    have hx : Lv.text (.succ a) = (40 :: ([115] ++ (32 :: (Lv.text a ++ [41])))) := by simp [Lv.text]
    have hl : (Lv.text (.succ a)).length = 1 + 1 + 1 + a.text.length + 1 := by rw [hx]; simp; omega
    rw [hx] at h
    have h1 := h.head.2.2
    have h2 := h1.right
    have h3 := h2.head.2.2
    have h4 := h3.right
    refine ⟨p + 1, p + 1 + 1, p + 1 + 1 + 1 + a.text.length, has_sign h (by decide), ?_, ?_, ?_⟩
    · exact has_word (q := ⟨#[115]⟩) (by refine ⟨by decide, by decide, by decide, by decide⟩) h1.left (Stop.of (c := 32) h2.head.2.1 (.inl rfl))
    · refine Reads.ahead (has_blank h2) (text_reads a _ hn h3.left (Stop.of (c := 41) h4.head.2.1 (.inr (.inl rfl))))
    · have := has_sign h4 (by decide)
      rw [hl, show p + (1 + 1 + 1 + a.text.length + 1) = p + 1 + 1 + 1 + a.text.length + 1 by omega]
      exact this
  | .max a b, p, hn, h, hst => by
    have hx : Lv.text (.max a b) = (40 :: ([109, 97, 120] ++ (32 :: (Lv.text a ++ (32 :: (Lv.text b ++ [41])))))) := by simp [Lv.text]
    have hl : (Lv.text (.max a b)).length = 1 + 3 + 1 + a.text.length + 1 + b.text.length + 1 := by rw [hx]; simp; omega
    rw [hx] at h
    have h1 := h.head.2.2
    have h2 := h1.right
    have h3 := h2.head.2.2
    have h4 := h3.right
    have h5 := h4.head.2.2
    have h6 := h5.right
    refine ⟨p + 1, p + 1 + 3, p + 1 + 3 + 1 + a.text.length, p + 1 + 3 + 1 + a.text.length + 1 + b.text.length, has_sign h (by decide), ?_, ?_, ?_, ?_⟩
    · exact has_word (q := ⟨#[109, 97, 120]⟩) (by refine ⟨by decide, by decide, by decide, by decide⟩) h1.left (Stop.of (c := 32) h2.head.2.1 (.inl rfl))
    · exact Reads.ahead (has_blank h2) (text_reads a _ (fun q hq => hn q (.inl hq)) h3.left (Stop.of (c := 32) h4.head.2.1 (.inl rfl)))
    · exact Reads.ahead (has_blank h4) (text_reads b _ (fun q hq => hn q (.inr hq)) h5.left (Stop.of (c := 41) h6.head.2.1 (.inr (.inl rfl))))
    · have := has_sign h6 (by decide)
      rw [hl, show p + (1 + 3 + 1 + a.text.length + 1 + b.text.length + 1) = p + 1 + 3 + 1 + a.text.length + 1 + b.text.length + 1 by omega]
      exact this
  | .imax a b, p, hn, h, hst => by
    have hx : Lv.text (.imax a b) = (40 :: ([105, 109, 97, 120] ++ (32 :: (Lv.text a ++ (32 :: (Lv.text b ++ [41])))))) := by simp [Lv.text]
    have hl : (Lv.text (.imax a b)).length = 1 + 4 + 1 + a.text.length + 1 + b.text.length + 1 := by rw [hx]; simp; omega
    rw [hx] at h
    have h1 := h.head.2.2
    have h2 := h1.right
    have h3 := h2.head.2.2
    have h4 := h3.right
    have h5 := h4.head.2.2
    have h6 := h5.right
    refine ⟨p + 1, p + 1 + 4, p + 1 + 4 + 1 + a.text.length, p + 1 + 4 + 1 + a.text.length + 1 + b.text.length, has_sign h (by decide), ?_, ?_, ?_, ?_⟩
    · exact has_word (q := ⟨#[105, 109, 97, 120]⟩) (by refine ⟨by decide, by decide, by decide, by decide⟩) h1.left (Stop.of (c := 32) h2.head.2.1 (.inl rfl))
    · exact Reads.ahead (has_blank h2) (text_reads a _ (fun q hq => hn q (.inl hq)) h3.left (Stop.of (c := 32) h4.head.2.1 (.inl rfl)))
    · exact Reads.ahead (has_blank h4) (text_reads b _ (fun q hq => hn q (.inr hq)) h5.left (Stop.of (c := 41) h6.head.2.1 (.inr (.inl rfl))))
    · have := has_sign h6 (by decide)
      rw [hl, show p + (1 + 4 + 1 + a.text.length + 1 + b.text.length + 1) = p + 1 + 4 + 1 + a.text.length + 1 + b.text.length + 1 by omega]
      exact this

/-- The whole of a printed level's text. -/
theorem has_all (t : List UInt8) : Has ⟨t.toArray⟩ 0 t := by
  refine ⟨Nat.le_of_eq (by rw [Nat.zero_add]; rfl), fun i hi => ?_⟩
  have hs : (⟨t.toArray⟩ : ByteArray).size = t.length := rfl
  unfold at_
  rw [dif_pos (by rw [hs]; omega)]
  simp
  rfl

end Go.Proofs.YteepmfhpjanbhaaGreatDoor
