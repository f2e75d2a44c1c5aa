/- A map from names to numbers that the call itself makes: what it holds at each name, and the walk's laws for a look-up and a store. -/
import Derived.Test.YtafdlaaohglfdaaGreatDoorTouch
import Derived.Maps.Own
import Derived.Maps.OwnOps
import Derived.Maps.OwnSet
import Derived.Test.YtafdlaaohglfdaaGreatDoorText
import Derived.Test.YtafdlaaohglfdaaGreatDoorBld
import Derived.Deep.LoopGhost
import Derived.Test.YtafdlaaohglfdaaGreatDoorBytes
import Derived.Test.YtafdlaaohglfdaaGreatDoorLater

namespace Go.Proofs.YtafdlaaohglfdaaGreatDoor
open Go.RowKit Go.Maps

def key (p : ByteArray) : Lit := .string p.data.toList
theorem key_inj {p q : ByteArray} (h : p ≠ q) : key p ≠ key q := fun e => h (WideShapes.bytes_inj (by injection e))

theorem law : Keyed Tryz.prog 9 := string_keyed Tryz.underlying9
theorem zero3 (w : World) : (zeroValue 3).run Tryz.prog w = .ok (.int .i64 0) w := by kernel_rfl
theorem key_of {p : ByteArray} (h : p.size ≤ maxLen) : keyOf Tryz.prog 9 (.string p) = some (key p) := WideMaps.keyOf_string_mk Tryz.underlying9 h

/-- Block b is a map, of at most n entries, that holds f p at p (0 where there is none); S p: is there an entry at p? -/
def MapIs (w : World) (b n : Nat) (f : ByteArray → Nat) (S : ByteArray → Bool) : Prop :=
  ∃ D : DataW Unit, w.ownsMap Tryz.prog 9 (plainElem Tryz.prog 3) b n D ∧ ∀ p : ByteArray, p.size ≤ maxLen → D.atKey (key p) (.lit (.int .i64 0)) = .lit (.int .i64 (f p : Nat)) ∧ has D (key p) = S p

theorem MapIs.made (w : World) : MapIs (w.alloc (.map #[] 0)) w.heap.size 0 (fun _ => 0) (fun _ => false) :=
  ⟨.map [], World.ownsMap_made _ _ _ _, fun _ _ => ⟨rfl, rfl⟩⟩

theorem MapIs.kept {w w' : World} {row : Option Nat} {b n : Nat} {f : ByteArray → Nat} {S : ByteArray → Bool} (h : MapIs w b n f S) (hg : w.grownBy w' row) (hne : some b ≠ row) : MapIs w' b n f S := by
  obtain ⟨D, ho, hf⟩ := h
  exact ⟨D, ho.kept hg hne, hf⟩

theorem MapIs.lt {w : World} {b n : Nat} {f : ByteArray → Nat} {S : ByteArray → Bool} (h : MapIs w b n f S) : b < w.heap.size := by
  obtain ⟨D, ho, _⟩ := h
  exact ho.lt

theorem MapIs.mono {w : World} {b n n' : Nat} {f : ByteArray → Nat} {S : ByteArray → Bool} (h : MapIs w b n f S) (hn : n ≤ n') : MapIs w b n' f S := by
  obtain ⟨D, ho, hf⟩ := h
  exact ⟨D, ho.mono hn, hf⟩

theorem MapIs.congr {w : World} {b n : Nat} {f f' : ByteArray → Nat} {S S' : ByteArray → Bool} (h : MapIs w b n f S) (hf : ∀ p, f p = f' p) (hS : ∀ p, S p = S' p) : MapIs w b n f' S' := by
  have e1 : f = f' := funext hf
  have e2 : S = S' := funext hS
  rw [← e1, ← e2]
  exact h

theorem MapIs.below {w w' : World} {b n B : Nat} {f : ByteArray → Nat} {S : ByteArray → Bool} (h : MapIs w b n f S) (hb : Below B w w') (hB : b < B) : MapIs w' b n f S := by
  obtain ⟨D, ⟨es, clock, he, r⟩, hf⟩ := h
  exact ⟨D, ⟨es, clock, by rw [hb.block b hB]; exact he, r⟩, hf⟩

theorem MapIs.alloc {w : World} {b n : Nat} {f : ByteArray → Nat} {S : ByteArray → Bool} (h : MapIs w b n f S) (o : Obj) : MapIs (w.alloc o) b n f S := by
  obtain ⟨D, ho, hf⟩ := h
  exact ⟨D, ho.alloc o, hf⟩

theorem MapIs.drew {w : World} {b n : Nat} {f : ByteArray → Nat} {S : ByteArray → Bool} (h : MapIs w b n f S) : MapIs w.drew b n f S := by
  obtain ⟨D, ho, hf⟩ := h
  exact ⟨D, ho.drew, hf⟩

theorem MapIs.setCell {w : World} {b n : Nat} {f : ByteArray → Nat} {S : ByteArray → Bool} (h : MapIs w b n f S) {a : Addr} (ha : b ≠ a.block) (u : Value) : MapIs (w.setCell a u) b n f S := by
  obtain ⟨D, ho, hf⟩ := h
  exact ⟨D, ho.setCell ha u, hf⟩

/-- Block b is a map that holds f p at p (0 where there is none); all its entries stand at names of the list. -/
def MapFor (w : World) (b : Nat) (L : List ByteArray) (f : ByteArray → Nat) : Prop :=
  ∃ es : List (Lit × DataW Unit), w.ownsMap Tryz.prog 9 (plainElem Tryz.prog 3) b es.length (.map es) ∧ (∀ x ∈ es, x.1 ∈ L.map key) ∧ ∀ p : ByteArray, p.size ≤ maxLen → (DataW.map es).atKey (key p) (.lit (.int .i64 0)) = .lit (.int .i64 (f p : Nat))

theorem len_of_sub {α : Type} [DecidableEq α] : ∀ (l m : List α), l.Nodup → (∀ x, x ∈ l → x ∈ m) → l.length ≤ m.length
  | [], _, _, _ => Nat.zero_le _
  | x :: l, m, hn, hs => by
    have hx := (List.nodup_cons.1 hn).1
    have hl := (List.nodup_cons.1 hn).2
    have hm : x ∈ m := hs x (by simp)
    have := len_of_sub l (m.erase x) hl fun y hy => (List.mem_erase_of_ne (fun e => hx (by rw [← e]; exact hy))).2 (hs y (by simp [hy]))
    rw [List.length_erase_of_mem hm] at this
    have := List.length_pos_of_mem hm
    simp only [List.length_cons]
    omega

theorem ownsMap_tight {w : World} {b n : Nat} {es : List (Lit × DataW Unit)} (h : w.ownsMap Tryz.prog 9 (plainElem Tryz.prog 3) b n (.map es)) : w.ownsMap Tryz.prog 9 (plainElem Tryz.prog 3) b es.length (.map es) := by
  obtain ⟨a, clock, he, F, _, e⟩ := h
  refine ⟨a, clock, he, F, ?_, e⟩
  injection e with e
  rw [e, length_read]
  exact Nat.le_refl _

theorem MapFor.len {w : World} {b : Nat} {L : List ByteArray} {es : List (Lit × DataW Unit)} (ho : w.ownsMap Tryz.prog 9 (plainElem Tryz.prog 3) b es.length (.map es)) (hk : ∀ x ∈ es, x.1 ∈ L.map key) : es.length ≤ L.length := by
  obtain ⟨es', e, hp⟩ := ho.tidy law
  injection e with e
  subst e
  have h1 : (es.map Prod.fst).Nodup := by
    unfold List.Nodup
    rw [List.pairwise_map]
    exact hp
  haveI : DecidableEq Lit := fun a b => Classical.propDecidable _
  have h2 := len_of_sub (es.map Prod.fst) (L.map key) h1 fun x hx => by
    obtain ⟨y, hy, rfl⟩ := List.mem_map.1 hx
    exact hk y hy
  simpa using h2

theorem MapFor.is {w : World} {b : Nat} {L : List ByteArray} {f : ByteArray → Nat} (h : MapFor w b L f) : ∃ S, MapIs w b L.length f S := by
  obtain ⟨es, ho, hk, hf⟩ := h
  exact ⟨fun p => has (.map es) (key p), .map es, ho.mono (MapFor.len ho hk), fun p hp => ⟨hf p hp, rfl⟩⟩

theorem MapFor.lt {w : World} {b : Nat} {L : List ByteArray} {f : ByteArray → Nat} (h : MapFor w b L f) : b < w.heap.size := by
  obtain ⟨es, ho, _⟩ := h
  exact ho.lt

theorem MapFor.below {w w' : World} {b B : Nat} {L : List ByteArray} {f : ByteArray → Nat} (h : MapFor w b L f) (hb : Below B w w') (hB : b < B) : MapFor w' b L f := by
  obtain ⟨D, ⟨es, clock, he, r⟩, hf⟩ := h
  exact ⟨D, ⟨es, clock, by rw [hb.block b hB]; exact he, r⟩, hf⟩

theorem MapFor.of_is {w : World} {b : Nat} {L : List ByteArray} (h : MapIs w b 0 (fun _ => 0) (fun _ => false)) : MapFor w b L (fun _ => 0) := by
  obtain ⟨D, ho, hf⟩ := h
  obtain ⟨es, e⟩ := ho.isMap
  subst e
  have h0 : es = [] := by
    have := ho.size_le
    rw [size_eq] at this
    exact List.length_eq_zero_iff.1 (by omega)
  subst h0
  exact ⟨[], ho, fun x hx => absurd hx (by simp), fun p hp => (hf p hp).1⟩

theorem mem_insert {x y : Lit × DataW Unit} : ∀ {l : List (Lit × DataW Unit)}, y ∈ DataW.insert x l → y = x ∨ y ∈ l
  | [], h => by simp [DataW.insert] at h; exact .inl h
  | z :: l, h => by
    unfold DataW.insert at h
    split at h
    · rcases List.mem_cons.1 h with h | h
      · exact .inl h
      · exact .inr h
    · rcases List.mem_cons.1 h with h | h
      · exact .inr (by simp [h])
      · rcases mem_insert h with h | h
        · exact .inl h
        · exact .inr (by simp [h])

section
variable {w : World} {ops : Array Oper} {rest : List Oper} {o : Oper} {a : Act} {Q : Exit → Act → World → Prop}

end

end Go.Proofs.YtafdlaaohglfdaaGreatDoor

/- The contract of gates: how often each parameter stands where it may decide an imax. -/
namespace Go.Proofs.YtafdlaaohglfdaaGreatDoor
open Go.RowKit Go.Maps

def Lv.gcount (p : ByteArray) : Bool → LvB → Nat
  | _, .zero => 0
  | d, .succ a => Lv.gcount p d a
  | d, .max a b => Lv.gcount p d a + Lv.gcount p d b
  | d, .imax a b => Lv.gcount p d a + Lv.gcount p true b
  | d, .param q => if d = true ∧ p = q then 1 else 0

theorem Lv.gcount_le (p : ByteArray) : ∀ (d : Bool) (l : LvB), Lv.gcount p d l ≤ l.nodes
  | _, .zero => by simp [gcount]
  | d, .succ a => by have := Lv.gcount_le p d a; simp only [gcount, nodes]; omega
  | d, .max a b => by have := Lv.gcount_le p d a; have := Lv.gcount_le p d b; simp only [gcount, nodes]; omega
  | d, .imax a b => by have := Lv.gcount_le p d a; have := Lv.gcount_le p true b; simp only [gcount, nodes]; omega
  | d, .param q => by simp only [gcount, nodes]; split <;> omega

theorem Lv.gcount_gate (p : ByteArray) : ∀ (d : Bool) (l : LvB), 0 < Lv.gcount p d l ↔ Lv.gate p d l
  | _, .zero => by simp [gcount, gate]
  | d, .succ a => Lv.gcount_gate p d a
  | d, .max a b => by have := Lv.gcount_gate p d a; have := Lv.gcount_gate p d b; simp only [gcount, gate, ← Lv.gcount_gate p d a, ← Lv.gcount_gate p d b]; omega
  | d, .imax a b => by simp only [gcount, gate, ← Lv.gcount_gate p d a, ← Lv.gcount_gate p true b]; omega
  | d, .param q => by
    simp only [gcount, gate]
    split
    · rename_i h; simp [h.1, h.2]
    · rename_i h
      constructor
      · intro h'; omega
      · rintro ⟨h1, h2⟩; exact absurd ⟨h1, h2.symm⟩ h

/-- Whether the k-th part of a level stands where it may decide. -/
def Lv.under (l : LvB) (d : Bool) (k : Nat) : Bool := d || (decide (l.kind = 3) && decide (k = 1))

def Lv.gkids (p : ByteArray) (l : LvB) (d : Bool) : Nat → Nat
  | 0 => 0
  | k + 1 => Lv.gkids p l d k + (match l.kids[k]? with | some a => Lv.gcount p (l.under d k) a | none => 0)

theorem Lv.gkids_succ (p : ByteArray) (l : LvB) (d : Bool) (k : Nat) (h : k < l.kids.length) : Lv.gkids p l d (k + 1) = Lv.gkids p l d k + Lv.gcount p (l.under d k) l.kids[k] := by
  simp [gkids, h]

theorem Lv.gkids_all (p : ByteArray) (l : LvB) (d : Bool) (h : l.kind ≠ 4) : Lv.gkids p l d l.kids.length = Lv.gcount p d l := by
  cases l <;> simp [gkids, kids, gcount, kind, under] at h ⊢

def Lv.nkids (l : LvB) (k : Nat) : Nat := ((l.kids.take k).map Lv.nodes).sum
theorem Lv.nkids_snoc (l : LvB) (k : Nat) (h : k < l.kids.length) : l.nkids (k + 1) = l.nkids k + (l.kids[k]).nodes := by
  unfold nkids; rw [List.take_succ_eq_append_getElem h, List.map_append, List.sum_append]; simp
theorem Lv.nkids_lt (l : LvB) (k : Nat) : l.nkids k < l.nodes := by
  cases l with
  | zero => simp [nkids, kids, nodes]
  | param => simp [nkids, kids, nodes]
  | succ a => simp only [nkids, kids, nodes]; rcases k with _ | k <;> simp
  | max a b => simp only [nkids, kids, nodes]; rcases k with _ | _ | k <;> simp <;> omega
  | imax a b => simp only [nkids, kids, nodes]; rcases k with _ | _ | k <;> simp <;> omega
theorem Lv.gkids_le (p : ByteArray) (l : LvB) (d : Bool) : ∀ k, k ≤ l.kids.length → Lv.gkids p l d k ≤ l.nkids k
  | 0, _ => by simp [gkids]
  | k + 1, h => by
    rw [Lv.gkids_succ p l d k (by omega), Lv.nkids_snoc l k (by omega)]
    have := Lv.gkids_le p l d k (by omega)
    have := Lv.gcount_le p (l.under d k) l.kids[k]
    omega

theorem Lv.kid_has {l : LvB} {k : Nat} (h : k < l.kids.length) {p : ByteArray} (hp : Lv.has p l.kids[k]) : Lv.has p l := by
  cases l with
  | zero => simp [kids] at h
  | param => simp [kids] at h
  | succ a => match k, h with | 0, _ => exact hp
  | max a b => match k, h with | 0, _ => exact .inl hp | 1, _ => exact .inr hp
  | imax a b => match k, h with | 0, _ => exact .inl hp | 1, _ => exact .inr hp

end Go.Proofs.YtafdlaaohglfdaaGreatDoor

/- The contract of WriteLevel: a level's text is laid behind what the builder holds. -/
namespace Go.Proofs.YtafdlaaohglfdaaGreatDoor
open Go.RowKit

/-- The words of the table of shapes, as they are laid. -/
structure Table (w : World) : Prop where
  t0 : w.cell? ⟨2, 0, none⟩ = some (.string ⟨#[]⟩)
  t1 : w.cell? ⟨2, 2, none⟩ = some (.string ⟨#[115]⟩)
  t2 : w.cell? ⟨2, 4, none⟩ = some (.string ⟨#[109, 97, 120]⟩)
  t3 : w.cell? ⟨2, 6, none⟩ = some (.string ⟨#[105, 109, 97, 120]⟩)
  t4 : w.cell? ⟨2, 8, none⟩ = some (.string ⟨#[]⟩)

theorem Table.below {w w' : World} {b : Nat} (h : Table w) (hb : Below b w w') (h0 : 2 < b) : Table w' :=
  ⟨(hb.cell h0).trans h.t0, (hb.cell h0).trans h.t1, (hb.cell h0).trans h.t2, (hb.cell h0).trans h.t3, (hb.cell h0).trans h.t4⟩

theorem Holds.lt {w : World} {b : Nat} {l : List UInt8} (h : Holds w b l) : b < w.heap.size := by
  rcases h with h | h <;> exact h.lt

theorem Holds.alloc {w : World} {b : Nat} {l : List UInt8} (h : Holds w b l) (o : Obj) : Holds (w.alloc o) b l := Lib.IsBuilderF.alloc h o

set_option maxHeartbeats 2000000 in
theorem write_zero (b : Nat) (acc : List UInt8) (w : World) (h : Holds w b acc) (hl : acc.length ≤ 1000000000000) (ht : Table w) :
    Calls Tryz.prog 45 #[.pointer (some ⟨b, 0, none⟩), .agg #[.int .i64 0, .string ⟨#[]⟩, .slice none 0 0]] w fun e w' => e = .returned (.tuple #[]) ∧ Holds w' b (acc ++ [48]) ∧ Wrote b w w' := by
  have hb := h.lt
  have HB := hide (writeByte_calls b acc 48 _ (h.alloc (.cells #[.int .i64 0, .string ⟨#[]⟩, .slice none 0 0] 79)) hl (by simp; omega))
  have t0 := ht.t0
  have h0 : 2 < w.heap.size := by have := World.block_lt_of_cell? _ _ t0; exact this
  clear h ht
  go_enter Tryz.func45, Tryz.ntmps45
  go_wp2_with (go_at_call 42; refine HB.out.mono ?_)
  rintro e w' ⟨rfl, hh, hw⟩
  have HH := hide hh
  have HW := hide ((Wrote.alloc _ (by omega)).trans hw)
  clear hh hw
  go_wp2_with fail
  go_end0
  exact ⟨rfl, HH.out, HW.out⟩

set_option maxHeartbeats 2000000 in
theorem write_param (b : Nat) (acc : List UInt8) (p : ByteArray) (w : World) (h : Holds w b acc) (hl : acc.length ≤ 1000000000000) (hp : p.size ≤ 1000000) (ht : Table w) :
    Calls Tryz.prog 45 #[.pointer (some ⟨b, 0, none⟩), .agg #[.int .i64 4, .string p, .slice none 0 0]] w fun e w' => e = .returned (.tuple #[]) ∧ Holds w' b (acc ++ p.data.toList) ∧ Wrote b w w' := by
  have hb := h.lt
  have HB := hide (writeString_calls b acc p _ (h.alloc (.cells #[.int .i64 4, .string p, .slice none 0 0] 79)) hl hp (by simp; omega))
  have t0 := ht.t4
  have h0 : 2 < w.heap.size := by have := World.block_lt_of_cell? _ _ t0; exact this
  clear h ht
  go_enter Tryz.func45, Tryz.ntmps45
  go_wp2_with (go_at_call 43; refine HB.out.mono ?_)
  rintro e w' ⟨rfl, hh, hw⟩
  have HH := hide hh
  have HW := hide ((Wrote.alloc _ (by omega)).trans hw)
  clear hh hw
  go_wp2_with fail
  go_end0
  exact ⟨rfl, HH.out, HW.out⟩

/-- A builder that holds so much, and what was there. -/
structure Step (w : World) (b : Nat) (acc : List UInt8) (W : World) : Prop where
  holds : Holds W b acc
  wrote : Wrote b w W
theorem Step.then {w W W' : World} {b : Nat} {acc acc' : List UInt8} (h : Step w b acc W) (hh : Holds W' b acc') (hw : Wrote b W W') : Step w b acc' W' := ⟨hh, h.wrote.trans hw⟩
theorem Step.alloc {w W : World} {b : Nat} {acc : List UInt8} (h : Step w b acc W) (o : Obj) : Step w b acc (W.alloc o) := ⟨h.holds.alloc o, h.wrote.trans (Wrote.alloc o (Nat.le_of_lt h.holds.lt))⟩

theorem step_byte {w : World} {b : Nat} {acc : List UInt8} (c : UInt8) (W : World) (h : Step w b acc W) (hl : acc.length ≤ 1000000000000) :
    Calls Tryz.prog 42 #[.pointer (some ⟨b, 0, none⟩), .int .u8 (c.toNat : Int)] W fun e w' => e = .returned .nilIface ∧ Hid (Step w b (acc ++ [c]) w' ∧ Wrote b W w') :=
  (writeByte_calls b acc c W h.holds hl (Nat.le_of_lt h.holds.lt)).mono fun _ _ ⟨he, hh, hw⟩ => ⟨he, h.then hh hw, hw⟩

theorem step_string {w : World} {b : Nat} {acc : List UInt8} (s : ByteArray) (W : World) (h : Step w b acc W) (hl : acc.length ≤ 1000000000000) (hs : s.size ≤ 1000000) :
    Calls Tryz.prog 43 #[.pointer (some ⟨b, 0, none⟩), .string s] W fun e w' => e = .returned (.tuple #[.int .i64 s.size, .nilIface]) ∧ Hid (Step w b (acc ++ s.data.toList) w' ∧ Wrote b W w') :=
  (writeString_calls b acc s W h.holds hl hs (Nat.le_of_lt h.holds.lt)).mono fun _ _ ⟨he, hh, hw⟩ => ⟨he, h.then hh hw, hw⟩

set_option maxHeartbeats 4000000 in
theorem write_node (kd : Int) (wd : List UInt8) (hkd : (kd = 1 ∧ wd = [115]) ∨ (kd = 2 ∧ wd = [109, 97, 120]) ∨ (kd = 3 ∧ wd = [105, 109, 97, 120])) (l : LvB) (A : Option Addr) (cap b B : Nat) (acc : List UInt8) (w : World)
    (hB : B ≤ b) (h0 : 2 < b) (h : Holds w b acc) (T : Nat) (hT : T = 2 + wd.length + (l.kidsText l.kids.length).length) (hl : acc.length + T ≤ 900000000000) (ht : Table w)
    (hk : ∀ i (hi : i < l.kids.length), ∃ b' x, A = some ⟨b', 0, none⟩ ∧ b' < B ∧ Three w b' (i * 3) x ∧ InLv w B l.kids[i] x)
    (ih : ∀ k (hk : k < l.kids.length) (v : Value) (acc' : List UInt8) (W : World), InLv W B l.kids[k] v → Holds W b acc' → acc'.length + (Lv.text l.kids[k]).length ≤ acc.length + T → Table W → Calls Tryz.prog 45 #[.pointer (some ⟨b, 0, none⟩), v] W fun e w' => e = .returned (.tuple #[]) ∧ Holds w' b (acc' ++ Lv.text l.kids[k]) ∧ Wrote b W w') :
    Calls Tryz.prog 45 #[.pointer (some ⟨b, 0, none⟩), .agg #[.int .i64 kd, .string ⟨#[]⟩, .slice A l.kids.length cap]] w fun e w' => e = .returned (.tuple #[]) ∧ Holds w' b (acc ++ ([40] ++ wd ++ l.kidsText l.kids.length ++ [41])) ∧ Wrote b w w' := by
  have hb := h.lt
  have h00 : 2 < w.heap.size := by omega
  have hk2 := l.kids_le
  have HKL := hide l.kidsText_le
  have HK := hide hk
  have IH := hide ih
  have HT := hide ht
  have t1 := ht.t1
  have t2 := ht.t2
  have t3 := ht.t3
  have H0 := hide (Step.alloc ⟨h, Wrote.refl b w⟩ (.cells #[.int .i64 kd, .string ⟨#[]⟩, .slice A l.kids.length cap] 79))
  have HX := hide (heap_alloc_new w (.cells #[.int .i64 kd, .string ⟨#[]⟩, .slice A l.kids.length cap] 79))
  clear hk ih h ht
  have hwl : wd.length ≤ 4 := by rcases hkd with ⟨_, rfl⟩ | ⟨_, rfl⟩ | ⟨_, rfl⟩ <;> decide
  rcases hkd with ⟨rfl, hwd⟩ | ⟨rfl, hwd⟩ | ⟨rfl, hwd⟩
  all_goals
    go_enter Tryz.func45, Tryz.ntmps45
    go_wp2_with (go_at_call 42; refine (step_byte 40 _ H0.out (by omega)).mono ?_)
    rintro e w1 ⟨rfl, H1⟩
    go_wp2_with (go_at_call 43; refine (step_string _ _ H1.out.1 (by simp; omega) (by decide)).mono ?_)
    intro e w2 he H2
    subst he
    have HX2 := hide (H2.out.2.box (H1.out.2.box HX.out (by omega)) (by omega))
    obtain ⟨g0, g1, g2⟩ := box_cells HX2.out
    have HS : Hid (Step w b (acc ++ [40] ++ wd ++ l.kidsText 0) w2) := by have h9 := H2.out.1; rw [hwd]; simpa [Hid, Lv.kidsText] using h9
    clear H0 H1 H2 hwd
    go_wp2_with fail
    go_loopg [28] (l.kids.length) (fun g i wr => ∃ k : Nat, k + g = l.kids.length ∧ i = .int .i64 k ∧ Hid (Step w b (acc ++ [40] ++ wd ++ l.kidsText k) wr))
    case atStart => exact ⟨0, by omega, rfl, HS⟩
    case round =>
      obtain ⟨k, hkg, rfl, HR⟩ := hrel
      have hlb := HR.out.holds.lt
      have hkl := HKL.out k (by omega)
      have hln : (acc ++ [40] ++ wd ++ l.kidsText k).length = acc.length + 1 + wd.length + (l.kidsText k).length := by simp only [List.length_append, List.length_singleton]
      by_cases hlt : k < l.kids.length
      · obtain ⟨b', x, rfl, hbB, h3, hin⟩ := HK.out k hlt
        obtain ⟨k', nm', A', n', cap', rfl, c0, c1, c2⟩ := h3
        have d0 := (HR.out.wrote.low.cell (p := ⟨b', k * 3, none⟩) (by show b' < b; omega)).trans c0
        have d1 := (HR.out.wrote.low.cell (p := ⟨b', k * 3 + 1, none⟩) (by show b' < b; omega)).trans c1
        have d2 := (HR.out.wrote.low.cell (p := ⟨b', k * 3 + 2, none⟩) (by show b' < b; omega)).trans c2
        have hbw : b' < wr.heap.size := by omega
        have HSn := hide (l.kidsText_snoc k hlt)
        have HA := hide (HR.out.alloc (.cells #[.int .i64 k', .string nm', .slice A' n' cap'] 79))
        have HX3 := hide (heap_alloc_new wr (.cells #[.int .i64 k', .string nm', .slice A' n' cap'] 79))
        have HI := hide hin
        clear c0 c1 c2 hin g0 g1 g2
        go_wp2_with (go_at_call 42; refine (step_byte 32 _ HA.out (by omega)).mono ?_)
        rintro e w3 ⟨rfl, H3⟩
        obtain ⟨p0, p1, p2⟩ := box_cells (H3.out.2.box HX3.out (by omega))
        have hln3 : (acc ++ [40] ++ wd ++ l.kidsText k ++ [32]).length + (Lv.text l.kids[k]).length ≤ acc.length + T := by
          have h1 := HKL.out (k + 1) (by omega)
          rw [HSn.out] at h1
          rw [List.length_append, hln]
          simp only [List.length_append, List.length_singleton] at h1 ⊢
          omega
        have HQ := hide (IH.out k hlt _ _ w3 (HI.out.below (H3.out.1.wrote.low.mono hB)) H3.out.1.holds hln3 (HT.out.below H3.out.1.wrote.low h0))
        clear d0 d1 d2 HA
        go_wp2_with (go_at_call 45; refine HQ.out.mono ?_)
        rintro e w4 ⟨rfl, hh, hw⟩
        have H4 := hide (H3.out.1.then hh hw)
        clear hh hw
        go_wp2_with fail
        go_roundg (l.kids.length - (k + 1))
        case measure => omega
        case rel => exact ⟨k + 1, by omega, by go_num, by rw [HSn.out]; simpa [List.append_assoc] using H4⟩
      · have hke : k = l.kids.length := by omega
        subst hke
        go_wp2_with (go_at_call 42; refine (step_byte 41 _ HR.out (by omega)).mono ?_)
        rintro e w3 ⟨rfl, H3⟩
        go_wp2_with fail
        go_end0
        exact ⟨rfl, by simpa [List.append_assoc] using H3.out.1.holds, H3.out.1.wrote⟩

theorem write_calls (N : Nat) : ∀ (l : LvB) (v : Value) (B b : Nat) (acc : List UInt8) (w : World), l.nodes ≤ N → B ≤ b → 2 < b → InLv w B l v → (∀ p, Lv.has p l → p.size ≤ 1000) → Holds w b acc → acc.length + l.text.length ≤ 900000000000 → Table w →
    Calls Tryz.prog 45 #[.pointer (some ⟨b, 0, none⟩), v] w fun e w' => e = .returned (.tuple #[]) ∧ Holds w' b (acc ++ l.text) ∧ Wrote b w w' := by
  induction N with
  | zero => intro l v B b acc w h; cases l <;> simp [Lv.nodes] at h
  | succ N ih =>
    intro l v B b acc w hN hB h0 hl hm hh hlen ht
    have hik : ∀ k (hk : k < l.kids.length) (v : Value) (acc' : List UInt8) (W : World), InLv W B l.kids[k] v → Holds W b acc' → acc'.length + (Lv.text l.kids[k]).length ≤ acc.length + l.text.length → Table W → Calls Tryz.prog 45 #[.pointer (some ⟨b, 0, none⟩), v] W fun e w' => e = .returned (.tuple #[]) ∧ Holds w' b (acc' ++ Lv.text l.kids[k]) ∧ Wrote b W w' := fun k hk v acc' W hin hho hln htb =>
      ih _ v B b acc' W (by have := Lv.kid_nodes hk; omega) hB h0 hin (fun p hp => hm p (Lv.kid_has hk hp)) hho (by omega) htb
    have hs := hl.shape
    have htx := l.text_kids
    cases l with
    | zero => have e : v = _ := hl; subst e; exact write_zero b acc w hh (by omega) ht
    | param p => have e : v = _ := hl; subst e; exact write_param b acc p w hh (by omega) (by have := hm p rfl; omega) ht
    | succ a =>
      obtain ⟨A, cap, rfl, hk⟩ := hs
      have htx' := htx (by simp [Lv.kind]) (by simp [Lv.kind])
      rw [htx'] at hik hlen ⊢
      exact write_node 1 [115] (.inl ⟨rfl, rfl⟩) (.succ a) A cap b B acc w hB h0 hh _ (by simp [Lv.word]; omega) hlen ht hk hik
    | max a c =>
      obtain ⟨A, cap, rfl, hk⟩ := hs
      have htx' := htx (by simp [Lv.kind]) (by simp [Lv.kind])
      rw [htx'] at hik hlen ⊢
      exact write_node 2 [109, 97, 120] (.inr (.inl ⟨rfl, rfl⟩)) (.max a c) A cap b B acc w hB h0 hh _ (by simp [Lv.word]; omega) hlen ht hk hik
    | imax a c =>
      obtain ⟨A, cap, rfl, hk⟩ := hs
      have htx' := htx (by simp [Lv.kind]) (by simp [Lv.kind])
      rw [htx'] at hik hlen ⊢
      exact write_node 3 [105, 109, 97, 120] (.inr (.inr ⟨rfl, rfl⟩)) (.imax a c) A cap b B acc w hB h0 hh _ (by simp [Lv.word]; omega) hlen ht hk hik

end Go.Proofs.YtafdlaaohglfdaaGreatDoor

/- The contract of the scanner's skip: it moves over a run of bytes. -/
namespace Go.Proofs.YtafdlaaohglfdaaGreatDoor
open Go.RowKit

/-- The scanner of a text, at a place. -/
def ScAt (w : World) (sc : Nat) (s : ByteArray) (p : Nat) : Prop := w.heap[sc]? = some (.cells #[.string s, .int .i64 (p : Nat)] 99 (0, 0))
section
variable {w w' : World} {sc p : Nat} {s : ByteArray}
theorem ScAt.lt (h : ScAt w sc s p) : sc < w.heap.size := (Array.getElem?_eq_some_iff.1 h).1
theorem ScAt.c0 (h : ScAt w sc s p) : w.cell? ⟨sc, 0, none⟩ = some (.string s) := by unfold ScAt at h; simp [World.cell?, h]
theorem ScAt.c1 (h : ScAt w sc s p) : w.cell? ⟨sc, 1, none⟩ = some (.int .i64 (p : Nat)) := by unfold ScAt at h; simp [World.cell?, h]
theorem ScAt.f (h : ScAt w sc s p) (i : Nat) : w.frozen? ⟨sc, i, none⟩ = false := by unfold ScAt at h; simp [World.frozen?, h]
theorem ScAt.set (h : ScAt w sc s p) (q : Nat) : ScAt (w.setCell ⟨sc, 1, none⟩ (.int .i64 (q : Nat))) sc s q := by unfold ScAt at *; simp [World.setCell, Array.getElem?_modify, h]
theorem ScAt.of_block (h : ScAt w sc s p) (he : w'.heap[sc]? = w.heap[sc]?) : ScAt w' sc s p := by unfold ScAt at *; rw [he]; exact h
theorem ScAt.alloc (h : ScAt w sc s p) (o : Obj) : ScAt (w.alloc o) sc s p := h.of_block (Below.heap_alloc _ _ _ h.lt)
theorem ScAt.below (h : ScAt w sc s p) (hb : Below w.heap.size w w') : ScAt w' sc s p := h.of_block (hb.block _ h.lt)
end

theorem Touched.setSelf {w w' : World} {m : Nat} (h : Touched w m w') {a : Addr} (ha : a.block = m) (u : Value) : Touched w m (w'.setCell a u) :=
  ⟨h.os, h.tape, h.output, by simp [World.setCell]; exact h.size, fun k hk hne => by rw [Below.heap_setCell _ _ _ _ (by rw [ha]; intro e; exact hne (by rw [e]))]; exact h.block k hk hne⟩
theorem Touched.later {w w' w'' : World} {m : Nat} (h : Touched w m w') (hb : Below w'.heap.size w' w'') : Touched w m w'' := h.trans (Touched.of_below hb)

/-- The numbers of the table of shapes, as they are laid. -/
structure Parts (w : World) : Prop where
  n0 : w.cell? ⟨2, 1, none⟩ = some (.int .i64 0)
  n1 : w.cell? ⟨2, 3, none⟩ = some (.int .i64 1)
  n2 : w.cell? ⟨2, 5, none⟩ = some (.int .i64 2)
  n3 : w.cell? ⟨2, 7, none⟩ = some (.int .i64 2)
  n4 : w.cell? ⟨2, 9, none⟩ = some (.int .i64 0)

/-- A variable that holds an error, or none. -/
def ErrVar (w : World) (b : Nat) : Prop := ∃ ev, w.cell? ⟨b, 0, none⟩ = some ev ∧ (ev = .nilIface ∨ ∃ te pe, ev = .iface te pe)
theorem ErrVar.of_block {w w' : World} {b : Nat} (h : ErrVar w b) (hb : w'.heap[b]? = w.heap[b]?) : ErrVar w' b := by
  obtain ⟨ev, h1, h2⟩ := h
  exact ⟨ev, (World.cell?_of_block hb).trans h1, h2⟩

/-- The tables and what else is listed, as it is laid. -/
structure Tabs (w : World) : Prop where
  t : Table w
  s : Spans w
  n : Parts w
  es : ErrVar w 5
  er : ErrVar w 6
theorem Tabs.of_blocks {w w' : World} (h : Tabs w) (hb : ∀ k, k ≤ 6 → w'.heap[k]? = w.heap[k]?) : Tabs w' := by
  have h0 := hb 2 (by omega)
  exact ⟨⟨(World.cell?_of_block h0).trans h.t.t0, (World.cell?_of_block h0).trans h.t.t1, (World.cell?_of_block h0).trans h.t.t2, (World.cell?_of_block h0).trans h.t.t3, (World.cell?_of_block h0).trans h.t.t4⟩, h.s.of_block (hb 4 (by omega)), ⟨(World.cell?_of_block h0).trans h.n.n0, (World.cell?_of_block h0).trans h.n.n1, (World.cell?_of_block h0).trans h.n.n2, (World.cell?_of_block h0).trans h.n.n3, (World.cell?_of_block h0).trans h.n.n4⟩,
    h.es.of_block (hb 5 (by omega)), h.er.of_block (hb 6 (by omega))⟩
theorem Tabs.lt {w : World} (h : Tabs w) : 6 < w.heap.size := by obtain ⟨ev, h1, _⟩ := h.er; exact World.block_lt_of_cell? _ _ h1
theorem Tabs.touched {w w' : World} {sc : Nat} (h : Tabs w) (ht : Touched w sc w') (hs : 6 < sc) : Tabs w' :=
  h.of_blocks fun k hk => ht.block k (by have := h.lt; omega) (by simp; omega)
theorem Tabs.below {w w' : World} {B : Nat} (h : Tabs w) (hb : Below B w w') (hs : 6 < B) : Tabs w' := h.of_blocks fun k hk => hb.block k (by omega)

/-- A test of a byte. -/
structure Tests (F : FuncId) (f : Nat → Bool) : Prop where
  enter : ∀ (args : Array Value) (w' : World), Sem.run Tryz.prog (callFunc F args) w' = .ok (.enter F args) w'
  calls : ∀ (c : Nat) (w : World), c < 256 → Tabs w → Calls Tryz.prog F #[.int .u8 c] w fun e w' => e = .returned (.bool (f c)) ∧ Below w.heap.size w w'

theorem digit_tests : Tests 90 digitB := ⟨fun args w' => by simp [go_sem], fun c w hc _ => isDigit_calls c w hc⟩
theorem name_tests : Tests 92 (fun c => nameB c false) := ⟨fun args w' => by simp [go_sem], fun c w hc ht => continuesName_calls c w hc ht.s⟩

set_option maxRecDepth 100000 in
set_option maxHeartbeats 4000000 in
theorem skip_calls (F : FuncId) (f : Nat → Bool) (hF : Tests F f) (sc : Nat) (s : ByteArray) (p : Nat) (w : World) (h : ScAt w sc s p) (hs : s.size ≤ 20000) (hp : p ≤ s.size) (ht : Tabs w) (hsc : 6 < sc) :
    Calls Tryz.prog 77 #[.pointer (some ⟨sc, 0, none⟩), .func (.func F) #[] #[]] w fun e w' => e = .returned (.tuple #[]) ∧ ScAt w' sc s (runTo f s p) ∧ Touched w sc w' := by
  have HF := hide hF
  have HT := hide ht
  have H0 := hide h
  have hen := hF.enter
  clear hF ht h
  go_enter Tryz.func77, Tryz.ntmps77
  go_wp2_with fail
  go_loopg [] (s.size - p) (fun g wr => ∃ k : Nat, k + g = s.size ∧ Hid (runTo f s k = runTo f s p) ∧ Hid (ScAt wr sc s k) ∧ Hid (Touched w sc wr))
  case atStart => exact ⟨p, by omega, rfl, H0, Touched.refl _ _⟩
  case round =>
    obtain ⟨k, hkg, HR, HS, HTo⟩ := hrel
    have c0 := HS.out.c0
    have c1 := HS.out.c1
    have hlt := HS.out.lt
    by_cases hk : k < s.size
    · have e1 : decide ((k : Int) < (s.size : Int)) = true := by simp; omega
      have HC : Hid (∀ W, Below wr.heap.size wr W → Calls Tryz.prog F #[.int .u8 (at_ s k)] W fun e w' => e = .returned (.bool (f (at_ s k))) ∧ Below W.heap.size W w') := fun W hW => HF.out.calls _ W (at_lt s k) ((HT.out.touched HTo.out hsc).below hW (by omega))
      rw [← at_eq hk] at HC
      have q0 : ∀ x : Later wr.heap.size wr, x.W.cell? ⟨sc, 0, none⟩ = some (.string s) := fun x => cell_later x.h c0
      have q1 : ∀ x : Later wr.heap.size wr, x.W.cell? ⟨sc, 1, none⟩ = some (.int .i64 (k : Nat)) := fun x => cell_later x.h c1
      by_cases hf : f (at_ s k) = true
      · have HRn := hide ((runTo_step hk hf).symm.trans HR.out)
        rw [at_eq hk, hf, ← at_eq hk] at HC
        go_wp2_with fail
        refine wp_region_later (by kernel_rfl) (by kernel_rfl) (Below.refl wr.heap.size wr) ?_
        have hst := Later.some wr.heap.size wr
        iterate 21 quiet_step (fail)
        quiet_step (exact Later.calls HC.out (Nat.le_refl _) _)
        quiet_step (fail)
        refine wpQuiet_nil ?_
        intro _ hw'
        obtain ⟨x, rfl⟩ := hw'
        have hSx := HS.out.below x.h
        have y1 := hSx.c1
        have y2 := hSx.f 1
        have y3 := hSx.lt
        have HSx := hide hSx
        have HTx := hide (HTo.out.later x.h)
        clear hSx q0 q1
        go_wp2_with fail
        go_roundg (s.size - (k + 1))
        case measure => omega
        case rel => exact ⟨k + 1, by omega, HRn, by have := HSx.out.set (k + 1); simpa [Hid] using this, HTx.out.setSelf rfl _⟩
      · have hf' : f (at_ s k) = false := by simpa using hf
        have HRn := hide ((runTo_stop (s := s) (k := k) hf').symm.trans HR.out)
        rw [at_eq hk, hf', ← at_eq hk] at HC
        clear hf hf'
        go_wp2_with fail
        refine wp_region_later (by kernel_rfl) (by kernel_rfl) (Below.refl wr.heap.size wr) ?_
        have hst := Later.some wr.heap.size wr
        iterate 21 quiet_step (fail)
        quiet_step (exact Later.calls HC.out (Nat.le_refl _) _)
        quiet_step (fail)
        refine wpQuiet_nil ?_
        intro _ hw'
        obtain ⟨x, rfl⟩ := hw'
        have HSx := hide (HS.out.below x.h)
        have HTx := hide (HTo.out.later x.h)
        clear q0 q1
        go_wp2_with fail
        go_end0
        exact ⟨rfl, by rw [← HRn.out]; exact HSx.out, HTx.out⟩
    · have e1 : decide ((k : Int) < (s.size : Int)) = false := by simp; omega
      have HRn := hide ((runTo_end (f := f) (s := s) (k := k) (by omega)).symm.trans HR.out)
      go_wp2_with fail
      go_quiet (fail)
      go_wp2_with fail
      go_end0
      exact ⟨rfl, by rw [← HRn.out]; exact HS.out.below (below_drewN (Below.refl _ _) _), HTo.out.later (below_drewN (Below.refl _ _) _)⟩

end Go.Proofs.YtafdlaaohglfdaaGreatDoor
