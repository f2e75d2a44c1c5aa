/- A map from names to numbers that the call itself makes: what it holds at each name, and the walk's laws for a look-up and a store. -/
import Derived.Test.YtkgkmlikpljbiaaDoorTok
import Derived.Maps.Own
import Derived.Maps.OwnOps
import Derived.Maps.OwnSet
import Derived.Test.YtkgkmlikpljbiaaDoorTokName

namespace Go.Proofs.YtkgkmlikpljbiaaDoor
open Go.RowKit Go.Maps

def key (p : ByteArray) : Lit := .string p.data.toList
theorem key_inj {p q : ByteArray} (h : p ≠ q) : key p ≠ key q := fun e => h (WideShapes.bytes_inj (by injection e))

theorem law : Keyed Tryd.prog 9 := string_keyed Tryd.underlying9
theorem zero3 (w : World) : (zeroValue 3).run Tryd.prog w = .ok (.int .i64 0) w := by kernel_rfl
theorem key_of {p : ByteArray} (h : p.size ≤ maxLen) : keyOf Tryd.prog 9 (.string p) = some (key p) := WideMaps.keyOf_string_mk Tryd.underlying9 h

/-- Block b is a map, of at most n entries, that holds f p at p (0 where there is none); S p: is there an entry at p? -/
def MapIs (w : World) (b n : Nat) (f : ByteArray → Nat) (S : ByteArray → Bool) : Prop :=
  ∃ D : DataW Unit, w.ownsMap Tryd.prog 9 (plainElem Tryd.prog 3) b n D ∧ ∀ p : ByteArray, p.size ≤ maxLen → D.atKey (key p) (.lit (.int .i64 0)) = .lit (.int .i64 (f p : Nat)) ∧ has D (key p) = S p

theorem MapIs.made (w : World) : MapIs (w.alloc (.map #[] 0)) w.heap.size 0 (fun _ => 0) (fun _ => false) :=
  ⟨.map [], World.ownsMap_made _ _ _ _, fun _ _ => ⟨rfl, rfl⟩⟩

theorem MapIs.kept {w w' : World} {row : Option Nat} {b n : Nat} {f : ByteArray → Nat} {S : ByteArray → Bool} (h : MapIs w b n f S) (hg : w.grownBy w' row) (hne : some b ≠ row) : MapIs w' b n f S := by
  obtain ⟨D, ho, hf⟩ := h
  exact ⟨D, ho.kept hg hne, hf⟩

theorem MapIs.lt {w : World} {b n : Nat} {f : ByteArray → Nat} {S : ByteArray → Bool} (h : MapIs w b n f S) : b < w.heap.size := by
  obtain ⟨D, ho, _⟩ := h
  exact ho.lt

theorem MapIs.mono {w : World} {b n n' : Nat} {f : ByteArray → Nat} {S : ByteArray → Bool} (h : MapIs w b n f S) (hn : n ≤ n') : MapIs w b n' f S := by
  obtain ⟨D, ho, hf⟩ := h
  exact ⟨D, ho.mono hn, hf⟩

theorem MapIs.congr {w : World} {b n : Nat} {f f' : ByteArray → Nat} {S S' : ByteArray → Bool} (h : MapIs w b n f S) (hf : ∀ p, f p = f' p) (hS : ∀ p, S p = S' p) : MapIs w b n f' S' := by
  have e1 : f = f' := funext hf
  have e2 : S = S' := funext hS
  rw [← e1, ← e2]
  exact h

theorem MapIs.below {w w' : World} {b n B : Nat} {f : ByteArray → Nat} {S : ByteArray → Bool} (h : MapIs w b n f S) (hb : Below B w w') (hB : b < B) : MapIs w' b n f S := by
  obtain ⟨D, ⟨es, clock, he, r⟩, hf⟩ := h
  exact ⟨D, ⟨es, clock, by rw [hb.block b hB]; exact he, r⟩, hf⟩

theorem MapIs.alloc {w : World} {b n : Nat} {f : ByteArray → Nat} {S : ByteArray → Bool} (h : MapIs w b n f S) (o : Obj) : MapIs (w.alloc o) b n f S := by
  obtain ⟨D, ho, hf⟩ := h
  exact ⟨D, ho.alloc o, hf⟩

theorem MapIs.drew {w : World} {b n : Nat} {f : ByteArray → Nat} {S : ByteArray → Bool} (h : MapIs w b n f S) : MapIs w.drew b n f S := by
  obtain ⟨D, ho, hf⟩ := h
  exact ⟨D, ho.drew, hf⟩

theorem MapIs.setCell {w : World} {b n : Nat} {f : ByteArray → Nat} {S : ByteArray → Bool} (h : MapIs w b n f S) {a : Addr} (ha : b ≠ a.block) (u : Value) : MapIs (w.setCell a u) b n f S := by
  obtain ⟨D, ho, hf⟩ := h
  exact ⟨D, ho.setCell ha u, hf⟩

/-- Block b is a map that holds f p at p (0 where there is none); all its entries stand at names of the list. -/
def MapFor (w : World) (b : Nat) (L : List ByteArray) (f : ByteArray → Nat) : Prop :=
  ∃ es : List (Lit × DataW Unit), w.ownsMap Tryd.prog 9 (plainElem Tryd.prog 3) b es.length (.map es) ∧ (∀ x ∈ es, x.1 ∈ L.map key) ∧ ∀ p : ByteArray, p.size ≤ maxLen → (DataW.map es).atKey (key p) (.lit (.int .i64 0)) = .lit (.int .i64 (f p : Nat))

theorem len_of_sub {α : Type} [DecidableEq α] : ∀ (l m : List α), l.Nodup → (∀ x, x ∈ l → x ∈ m) → l.length ≤ m.length
  | [], _, _, _ => Nat.zero_le _
  | x :: l, m, hn, hs => by
    have hx := (List.nodup_cons.1 hn).1
    have hl := (List.nodup_cons.1 hn).2
    have hm : x ∈ m := hs x (by simp)
    have := len_of_sub l (m.erase x) hl fun y hy => (List.mem_erase_of_ne (fun e => hx (by rw [← e]; exact hy))).2 (hs y (by simp [hy]))
    rw [List.length_erase_of_mem hm] at this
    have := List.length_pos_of_mem hm
    simp only [List.length_cons]
    omega

theorem ownsMap_tight {w : World} {b n : Nat} {es : List (Lit × DataW Unit)} (h : w.ownsMap Tryd.prog 9 (plainElem Tryd.prog 3) b n (.map es)) : w.ownsMap Tryd.prog 9 (plainElem Tryd.prog 3) b es.length (.map es) := by
  obtain ⟨a, clock, he, F, _, e⟩ := h
  refine ⟨a, clock, he, F, ?_, e⟩
  injection e with e
  rw [e, length_read]
  exact Nat.le_refl _

theorem MapFor.len {w : World} {b : Nat} {L : List ByteArray} {es : List (Lit × DataW Unit)} (ho : w.ownsMap Tryd.prog 9 (plainElem Tryd.prog 3) b es.length (.map es)) (hk : ∀ x ∈ es, x.1 ∈ L.map key) : es.length ≤ L.length := by
  obtain ⟨es', e, hp⟩ := ho.tidy law
  injection e with e
  subst e
  have h1 : (es.map Prod.fst).Nodup := by
    unfold List.Nodup
    rw [List.pairwise_map]
    exact hp
  haveI : DecidableEq Lit := fun a b => Classical.propDecidable _
  have h2 := len_of_sub (es.map Prod.fst) (L.map key) h1 fun x hx => by
    obtain ⟨y, hy, rfl⟩ := List.mem_map.1 hx
    exact hk y hy
  simpa using h2

theorem MapFor.is {w : World} {b : Nat} {L : List ByteArray} {f : ByteArray → Nat} (h : MapFor w b L f) : ∃ S, MapIs w b L.length f S := by
  obtain ⟨es, ho, hk, hf⟩ := h
  exact ⟨fun p => has (.map es) (key p), .map es, ho.mono (MapFor.len ho hk), fun p hp => ⟨hf p hp, rfl⟩⟩

theorem MapFor.lt {w : World} {b : Nat} {L : List ByteArray} {f : ByteArray → Nat} (h : MapFor w b L f) : b < w.heap.size := by
  obtain ⟨es, ho, _⟩ := h
  exact ho.lt

theorem MapFor.below {w w' : World} {b B : Nat} {L : List ByteArray} {f : ByteArray → Nat} (h : MapFor w b L f) (hb : Below B w w') (hB : b < B) : MapFor w' b L f := by
  obtain ⟨D, ⟨es, clock, he, r⟩, hf⟩ := h
  exact ⟨D, ⟨es, clock, by rw [hb.block b hB]; exact he, r⟩, hf⟩

theorem MapFor.of_is {w : World} {b : Nat} {L : List ByteArray} (h : MapIs w b 0 (fun _ => 0) (fun _ => false)) : MapFor w b L (fun _ => 0) := by
  obtain ⟨D, ho, hf⟩ := h
  obtain ⟨es, e⟩ := ho.isMap
  subst e
  have h0 : es = [] := by
    have := ho.size_le
    rw [size_eq] at this
    exact List.length_eq_zero_iff.1 (by omega)
  subst h0
  exact ⟨[], ho, fun x hx => absurd hx (by simp), fun p hp => (hf p hp).1⟩

theorem mem_insert {x y : Lit × DataW Unit} : ∀ {l : List (Lit × DataW Unit)}, y ∈ DataW.insert x l → y = x ∨ y ∈ l
  | [], h => by simp [DataW.insert] at h; exact .inl h
  | z :: l, h => by
    unfold DataW.insert at h
    split at h
    · rcases List.mem_cons.1 h with h | h
      · exact .inl h
      · exact .inr h
    · rcases List.mem_cons.1 h with h | h
      · exact .inr (by simp [h])
      · rcases mem_insert h with h | h
        · exact .inl h
        · exact .inr (by simp [h])

section
variable {w : World} {ops : Array Oper} {rest : List Oper} {o : Oper} {a : Act} {Q : Exit → Act → World → Prop}

end

end Go.Proofs.YtkgkmlikpljbiaaDoor

/- The contract of gates: how often each parameter stands where it may decide an imax. -/
namespace Go.Proofs.YtkgkmlikpljbiaaDoor
open Go.RowKit Go.Maps

def Lv.gcount (p : ByteArray) : Bool → LvB → Nat
  | _, .zero => 0
  | d, .succ a => Lv.gcount p d a
  | d, .max a b => Lv.gcount p d a + Lv.gcount p d b
  | d, .imax a b => Lv.gcount p d a + Lv.gcount p true b
  | d, .param q => if d = true ∧ p = q then 1 else 0

theorem Lv.gcount_le (p : ByteArray) : ∀ (d : Bool) (l : LvB), Lv.gcount p d l ≤ l.nodes
  | _, .zero => by simp [gcount]
  | d, .succ a => by have := Lv.gcount_le p d a; simp only [gcount, nodes]; omega
  | d, .max a b => by have := Lv.gcount_le p d a; have := Lv.gcount_le p d b; simp only [gcount, nodes]; omega
  | d, .imax a b => by have := Lv.gcount_le p d a; have := Lv.gcount_le p true b; simp only [gcount, nodes]; omega
  | d, .param q => by simp only [gcount, nodes]; split <;> omega

theorem Lv.gcount_gate (p : ByteArray) : ∀ (d : Bool) (l : LvB), 0 < Lv.gcount p d l ↔ Lv.gate p d l
  | _, .zero => by simp [gcount, gate]
  | d, .succ a => Lv.gcount_gate p d a
  | d, .max a b => by have := Lv.gcount_gate p d a; have := Lv.gcount_gate p d b; simp only [gcount, gate, ← Lv.gcount_gate p d a, ← Lv.gcount_gate p d b]; omega
  | d, .imax a b => by simp only [gcount, gate, ← Lv.gcount_gate p d a, ← Lv.gcount_gate p true b]; omega
  | d, .param q => by
    simp only [gcount, gate]
    split
    · rename_i h; simp [h.1, h.2]
    · rename_i h
      constructor
      · intro h'; omega
      · rintro ⟨h1, h2⟩; exact absurd ⟨h1, h2.symm⟩ h

/-- Whether the k-th part of a level stands where it may decide. -/
def Lv.under (l : LvB) (d : Bool) (k : Nat) : Bool := d || (decide (l.kind = 3) && decide (k = 1))

def Lv.gkids (p : ByteArray) (l : LvB) (d : Bool) : Nat → Nat
  | 0 => 0
  | k + 1 => Lv.gkids p l d k + (match l.kids[k]? with | some a => Lv.gcount p (l.under d k) a | none => 0)

theorem Lv.gkids_succ (p : ByteArray) (l : LvB) (d : Bool) (k : Nat) (h : k < l.kids.length) : Lv.gkids p l d (k + 1) = Lv.gkids p l d k + Lv.gcount p (l.under d k) l.kids[k] := by
  simp [gkids, h]

theorem Lv.gkids_all (p : ByteArray) (l : LvB) (d : Bool) (h : l.kind ≠ 4) : Lv.gkids p l d l.kids.length = Lv.gcount p d l := by
  cases l <;> simp [gkids, kids, gcount, kind, under] at h ⊢

def Lv.nkids (l : LvB) (k : Nat) : Nat := ((l.kids.take k).map Lv.nodes).sum
theorem Lv.nkids_snoc (l : LvB) (k : Nat) (h : k < l.kids.length) : l.nkids (k + 1) = l.nkids k + (l.kids[k]).nodes := by
  unfold nkids; rw [List.take_succ_eq_append_getElem h, List.map_append, List.sum_append]; simp
theorem Lv.nkids_lt (l : LvB) (k : Nat) : l.nkids k < l.nodes := by
  cases l with
  | zero => simp [nkids, kids, nodes]
  | param => simp [nkids, kids, nodes]
  | succ a => simp only [nkids, kids, nodes]; rcases k with _ | k <;> simp
  | max a b => simp only [nkids, kids, nodes]; rcases k with _ | _ | k <;> simp <;> omega
  | imax a b => simp only [nkids, kids, nodes]; rcases k with _ | _ | k <;> simp <;> omega
theorem Lv.gkids_le (p : ByteArray) (l : LvB) (d : Bool) : ∀ k, k ≤ l.kids.length → Lv.gkids p l d k ≤ l.nkids k
  | 0, _ => by simp [gkids]
  | k + 1, h => by
    rw [Lv.gkids_succ p l d k (by omega), Lv.nkids_snoc l k (by omega)]
    have := Lv.gkids_le p l d k (by omega)
    have := Lv.gcount_le p (l.under d k) l.kids[k]
    omega

theorem Lv.kid_has {l : LvB} {k : Nat} (h : k < l.kids.length) {p : ByteArray} (hp : Lv.has p l.kids[k]) : Lv.has p l := by
  cases l with
  | zero => simp [kids] at h
  | param => simp [kids] at h
  | succ a => match k, h with | 0, _ => exact hp
  | max a b => match k, h with | 0, _ => exact .inl hp | 1, _ => exact .inr hp
  | imax a b => match k, h with | 0, _ => exact .inl hp | 1, _ => exact .inr hp

end Go.Proofs.YtkgkmlikpljbiaaDoor
