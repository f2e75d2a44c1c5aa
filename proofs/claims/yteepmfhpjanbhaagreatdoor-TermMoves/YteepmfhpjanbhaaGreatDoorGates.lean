/- A map from names to numbers that the call itself makes: what it holds at each name, and the walk's laws for a look-up and a store. -/
import Derived.Test.YteepmfhpjanbhaaGreatDoorReads
import Derived.Maps.Own
import Derived.Maps.OwnOps
import Derived.Maps.OwnSet
import Derived.Test.YteepmfhpjanbhaaGreatDoorExact

namespace Go.Proofs.YteepmfhpjanbhaaGreatDoor
open Go.RowKit Go.Maps

def key (p : ByteArray) : Lit := .string p.data.toList
theorem key_inj {p q : ByteArray} (h : p ≠ q) : key p ≠ key q := fun e => h (WideShapes.bytes_inj (by injection e))

theorem law : Keyed Tryz.prog 9 := string_keyed Tryz.underlying9
theorem zero3 (w : World) : (zeroValue 3).run Tryz.prog w = .ok (.int .i64 0) w := by kernel_rfl
theorem key_of {p : ByteArray} (h : p.size ≤ maxLen) : keyOf Tryz.prog 9 (.string p) = some (key p) := WideMaps.keyOf_string_mk Tryz.underlying9 h

/-- Block b is a map, of at most n entries, that holds f p at p (0 where there is none); S p: is there an entry at p? -/
def MapIs (w : World) (b n : Nat) (f : ByteArray → Nat) (S : ByteArray → Bool) : Prop :=
  ∃ D : DataW Unit, w.ownsMap Tryz.prog 9 (plainElem Tryz.prog 3) b n D ∧ ∀ p : ByteArray, p.size ≤ maxLen → D.atKey (key p) (.lit (.int .i64 0)) = .lit (.int .i64 (f p : Nat)) ∧ has D (key p) = S p

theorem MapIs.made (w : World) : MapIs (w.alloc (.map #[] 0)) w.heap.size 0 (fun _ => 0) (fun _ => false) :=
  ⟨.map [], World.ownsMap_made _ _ _ _, fun _ _ => ⟨rfl, rfl⟩⟩

theorem MapIs.kept {w w' : World} {row : Option Nat} {b n : Nat} {f : ByteArray → Nat} {S : ByteArray → Bool} (h : MapIs w b n f S) (hg : w.grownBy w' row) (hne : some b ≠ row) : MapIs w' b n f S := by
  obtain ⟨D, ho, hf⟩ := h
  exact ⟨D, ho.kept hg hne, hf⟩

theorem MapIs.lt {w : World} {b n : Nat} {f : ByteArray → Nat} {S : ByteArray → Bool} (h : MapIs w b n f S) : b < w.heap.size := by
  obtain ⟨D, ho, _⟩ := h
  exact ho.lt

theorem MapIs.mono {w : World} {b n n' : Nat} {f : ByteArray → Nat} {S : ByteArray → Bool} (h : MapIs w b n f S) (hn : n ≤ n') : MapIs w b n' f S := by
  obtain ⟨D, ho, hf⟩ := h
  exact ⟨D, ho.mono hn, hf⟩

theorem MapIs.congr {w : World} {b n : Nat} {f f' : ByteArray → Nat} {S S' : ByteArray → Bool} (h : MapIs w b n f S) (hf : ∀ p, f p = f' p) (hS : ∀ p, S p = S' p) : MapIs w b n f' S' := by
  have e1 : f = f' := funext hf
  have e2 : S = S' := funext hS
  rw [← e1, ← e2]
  exact h

theorem MapIs.below {w w' : World} {b n B : Nat} {f : ByteArray → Nat} {S : ByteArray → Bool} (h : MapIs w b n f S) (hb : Below B w w') (hB : b < B) : MapIs w' b n f S := by
  obtain ⟨D, ⟨es, clock, he, r⟩, hf⟩ := h
  exact ⟨D, ⟨es, clock, by rw [hb.block b hB]; exact he, r⟩, hf⟩

theorem MapIs.alloc {w : World} {b n : Nat} {f : ByteArray → Nat} {S : ByteArray → Bool} (h : MapIs w b n f S) (o : Obj) : MapIs (w.alloc o) b n f S := by
  obtain ⟨D, ho, hf⟩ := h
  exact ⟨D, ho.alloc o, hf⟩

theorem MapIs.drew {w : World} {b n : Nat} {f : ByteArray → Nat} {S : ByteArray → Bool} (h : MapIs w b n f S) : MapIs w.drew b n f S := by
  obtain ⟨D, ho, hf⟩ := h
  exact ⟨D, ho.drew, hf⟩

theorem MapIs.setCell {w : World} {b n : Nat} {f : ByteArray → Nat} {S : ByteArray → Bool} (h : MapIs w b n f S) {a : Addr} (ha : b ≠ a.block) (u : Value) : MapIs (w.setCell a u) b n f S := by
  obtain ⟨D, ho, hf⟩ := h
  exact ⟨D, ho.setCell ha u, hf⟩

/-- Block b is a map that holds f p at p (0 where there is none); all its entries stand at names of the list. -/
def MapFor (w : World) (b : Nat) (L : List ByteArray) (f : ByteArray → Nat) : Prop :=
  ∃ es : List (Lit × DataW Unit), w.ownsMap Tryz.prog 9 (plainElem Tryz.prog 3) b es.length (.map es) ∧ (∀ x ∈ es, x.1 ∈ L.map key) ∧ ∀ p : ByteArray, p.size ≤ maxLen → (DataW.map es).atKey (key p) (.lit (.int .i64 0)) = .lit (.int .i64 (f p : Nat))

theorem len_of_sub {α : Type} [DecidableEq α] : ∀ (l m : List α), l.Nodup → (∀ x, x ∈ l → x ∈ m) → l.length ≤ m.length
  | [], _, _, _ => Nat.zero_le _
  | x :: l, m, hn, hs => by
    have hx := (List.nodup_cons.1 hn).1
    have hl := (List.nodup_cons.1 hn).2
    have hm : x ∈ m := hs x (by simp)
    have := len_of_sub l (m.erase x) hl fun y hy => (List.mem_erase_of_ne (fun e => hx (by rw [← e]; exact hy))).2 (hs y (by simp [hy]))
    rw [List.length_erase_of_mem hm] at this
    have := List.length_pos_of_mem hm
    simp only [List.length_cons]
    omega

theorem ownsMap_tight {w : World} {b n : Nat} {es : List (Lit × DataW Unit)} (h : w.ownsMap Tryz.prog 9 (plainElem Tryz.prog 3) b n (.map es)) : w.ownsMap Tryz.prog 9 (plainElem Tryz.prog 3) b es.length (.map es) := by
  obtain ⟨a, clock, he, F, _, e⟩ := h
  refine ⟨a, clock, he, F, ?_, e⟩
  injection e with e
  rw [e, length_read]
  exact Nat.le_refl _

theorem MapFor.len {w : World} {b : Nat} {L : List ByteArray} {es : List (Lit × DataW Unit)} (ho : w.ownsMap Tryz.prog 9 (plainElem Tryz.prog 3) b es.length (.map es)) (hk : ∀ x ∈ es, x.1 ∈ L.map key) : es.length ≤ L.length := by
  obtain ⟨es', e, hp⟩ := ho.tidy law
  injection e with e
  subst e
  have h1 : (es.map Prod.fst).Nodup := by
    unfold List.Nodup
    rw [List.pairwise_map]
    exact hp
  haveI : DecidableEq Lit := fun a b => Classical.propDecidable _
  have h2 := len_of_sub (es.map Prod.fst) (L.map key) h1 fun x hx => by
    obtain ⟨y, hy, rfl⟩ := List.mem_map.1 hx
    exact hk y hy
  simpa using h2

theorem MapFor.is {w : World} {b : Nat} {L : List ByteArray} {f : ByteArray → Nat} (h : MapFor w b L f) : ∃ S, MapIs w b L.length f S := by
  obtain ⟨es, ho, hk, hf⟩ := h
  exact ⟨fun p => has (.map es) (key p), .map es, ho.mono (MapFor.len ho hk), fun p hp => ⟨hf p hp, rfl⟩⟩

theorem MapFor.lt {w : World} {b : Nat} {L : List ByteArray} {f : ByteArray → Nat} (h : MapFor w b L f) : b < w.heap.size := by
  obtain ⟨es, ho, _⟩ := h
  exact ho.lt

theorem MapFor.below {w w' : World} {b B : Nat} {L : List ByteArray} {f : ByteArray → Nat} (h : MapFor w b L f) (hb : Below B w w') (hB : b < B) : MapFor w' b L f := by
  obtain ⟨D, ⟨es, clock, he, r⟩, hf⟩ := h
  exact ⟨D, ⟨es, clock, by rw [hb.block b hB]; exact he, r⟩, hf⟩

theorem MapFor.of_is {w : World} {b : Nat} {L : List ByteArray} (h : MapIs w b 0 (fun _ => 0) (fun _ => false)) : MapFor w b L (fun _ => 0) := by
  obtain ⟨D, ho, hf⟩ := h
  obtain ⟨es, e⟩ := ho.isMap
  subst e
  have h0 : es = [] := by
    have := ho.size_le
    rw [size_eq] at this
    exact List.length_eq_zero_iff.1 (by omega)
  subst h0
  exact ⟨[], ho, fun x hx => absurd hx (by simp), fun p hp => (hf p hp).1⟩

theorem mem_insert {x y : Lit × DataW Unit} : ∀ {l : List (Lit × DataW Unit)}, y ∈ DataW.insert x l → y = x ∨ y ∈ l
  | [], h => by simp [DataW.insert] at h; exact .inl h
  | z :: l, h => by
    unfold DataW.insert at h
    split at h
    · rcases List.mem_cons.1 h with h | h
      · exact .inl h
      · exact .inr h
    · rcases List.mem_cons.1 h with h | h
      · exact .inr (by simp [h])
      · rcases mem_insert h with h | h
        · exact .inl h
        · exact .inr (by simp [h])

section
variable {w : World} {ops : Array Oper} {rest : List Oper} {o : Oper} {a : Act} {Q : Exit → Act → World → Prop}

/-- 'm[p]': behind 'at_lookup'. -/
theorem wpList_look (hg : o.guard = none) (m x : Operand) (hop : o.op = Op.lookup 114 m x false) {b n : Nat} {f : ByteArray → Nat} {S : ByteArray → Bool} (hm : a.eval m = .map (some b)) (h : MapIs w b n f S)
    (p : ByteArray) (hx : a.eval x = .string p) (hp : p.size ≤ maxLen) (hK : wpList Tryz.prog ops Q rest (a.put o.dst (.int .i64 (f p : Nat))) w) : wpList Tryz.prog ops Q (o :: rest) a w := by
  obtain ⟨D, ho, hf⟩ := h
  refine wpList_lookup_own_int w hg m x 114 hop 9 3 .i64 law Tryz.underlying114 Tryz.underlying3 (zero3 _) b n D hm ho _ _ hx (key_of hp) ?_
  intro c hc _
  rw [(hf p hp).1] at hc
  injection hc with hc
  injection hc with _ hc
  rw [← hc]
  exact hK

/-- 'v, ok := m[p]'. -/
theorem wpList_lookOk (hg : o.guard = none) (m x : Operand) (hop : o.op = Op.lookup 114 m x true) {b n : Nat} {f : ByteArray → Nat} {S : ByteArray → Bool} (hm : a.eval m = .map (some b)) (h : MapIs w b n f S)
    (p : ByteArray) (hx : a.eval x = .string p) (hp : p.size ≤ maxLen) (hK : wpList Tryz.prog ops Q rest (a.put o.dst (.tuple #[.int .i64 (f p : Nat), .bool (S p)])) w) : wpList Tryz.prog ops Q (o :: rest) a w := by
  obtain ⟨D, ho, hf⟩ := h
  refine wpList_lookup_own_ok_int w hg m x 114 hop 9 3 .i64 law Tryz.underlying114 Tryz.underlying3 (zero3 _) b n D hm ho _ _ hx (key_of hp) ?_
  intro c hc _
  rw [(hf p hp).1] at hc
  injection hc with hc
  injection hc with _ hc
  rw [← hc, (hf p hp).2]
  exact hK

/-- 'm[p] = c': behind 'at_mapUpdate'. -/
theorem wpList_put (hg : o.guard = none) (m x v : Operand) (hop : o.op = Op.mapUpdate 114 m x v) {b n : Nat} {f : ByteArray → Nat} {S : ByteArray → Bool} (hm : a.eval m = .map (some b)) (h : MapIs w b n f S) (hn : n < maxLen)
    (p : ByteArray) (c : Nat) (hx : a.eval x = .string p) (hp : p.size ≤ maxLen) (hv : a.eval v = .int .i64 (c : Nat)) (hc : c ≤ 4000000000)
    (hK : ∀ w', MapIs w' b (n + 1) (fun q => if q = p then c else f q) (fun q => if q = p then true else S q) → w.grownBy w' (some b) → wpList Tryz.prog ops Q rest (a.put o.dst undef) w') : wpList Tryz.prog ops Q (o :: rest) a w := by
  obtain ⟨D, ho, hf⟩ := h
  refine wpList_mapUpdate_own w hg m x v 114 hop 9 3 law Tryz.underlying114 _ b n D hm ho hn _ _ _ hx hv (key_of hp) (.lit (.int .i64 (c : Nat))) [] (plainElem_int Tryz.underlying3 (WalkArith.wf_i64 (n := (c : Int)) (by omega))) ?_
  intro w' ho' hgr
  refine hK w' ⟨_, ho', fun q hq => ?_⟩ hgr
  by_cases e : q = p
  · subst e
    simp only [if_true]
    exact ⟨atKey_put_same ho.isMap (law.key (key_of hp)) _ _, has_put_same ho.isMap (law.key (key_of hp)) _⟩
  · simp only [if_neg e]
    rw [atKey_put_other (key_inj e), has_put_other (key_inj e)]
    exact hf q hq

/-- 'm[p] = c' where p stands in the list. -/
theorem wpList_putFor (hg : o.guard = none) (m x v : Operand) (hop : o.op = Op.mapUpdate 114 m x v) {b : Nat} {L : List ByteArray} {f : ByteArray → Nat} (hm : a.eval m = .map (some b)) (h : MapFor w b L f) (hn : L.length < maxLen)
    (p : ByteArray) (hpL : p ∈ L) (c : Nat) (hx : a.eval x = .string p) (hp : p.size ≤ maxLen) (hv : a.eval v = .int .i64 (c : Nat)) (hc : c ≤ 4000000000)
    (hK : ∀ w', MapFor w' b L (fun q => if q = p then c else f q) → w.grownBy w' (some b) → wpList Tryz.prog ops Q rest (a.put o.dst undef) w') : wpList Tryz.prog ops Q (o :: rest) a w := by
  obtain ⟨es, ho, hk, hf⟩ := h
  have hlen := MapFor.len ho hk
  refine wpList_mapUpdate_own w hg m x v 114 hop 9 3 law Tryz.underlying114 _ b _ _ hm ho (by omega) _ _ _ hx hv (key_of hp) (.lit (.int .i64 (c : Nat))) [] (plainElem_int Tryz.underlying3 (WalkArith.wf_i64 (n := (c : Int)) (by omega))) ?_
  intro w' ho' hgr
  rw [DataW.put_eq] at ho'
  refine hK w' ⟨_, ownsMap_tight ho', fun y hy => ?_, fun q hq => ?_⟩ hgr
  · rcases mem_insert hy with h | h
    · rw [h]; exact List.mem_map.2 ⟨p, hpL, rfl⟩
    · exact hk y (List.mem_filter.1 h).1
  · rw [← DataW.put_eq]
    by_cases e : q = p
    · subst e
      simp only [if_true]
      exact atKey_put_same ho.isMap (law.key (key_of hp)) _ _
    · simp only [if_neg e]
      rw [atKey_put_other (key_inj e)]
      exact hf q hq
end

end Go.Proofs.YteepmfhpjanbhaaGreatDoor

/- The contract of gates: how often each parameter stands where it may decide an imax. -/
namespace Go.Proofs.YteepmfhpjanbhaaGreatDoor
open Go.RowKit Go.Maps

def Lv.gcount (p : ByteArray) : Bool → LvB → Nat
  | _, .zero => 0
  | d, .succ a => Lv.gcount p d a
  | d, .max a b => Lv.gcount p d a + Lv.gcount p d b
  | d, .imax a b => Lv.gcount p d a + Lv.gcount p true b
  | d, .param q => if d = true ∧ p = q then 1 else 0

theorem Lv.gcount_le (p : ByteArray) : ∀ (d : Bool) (l : LvB), Lv.gcount p d l ≤ l.nodes
  | _, .zero => by simp [gcount]
  | d, .succ a => by have := Lv.gcount_le p d a; simp only [gcount, nodes]; omega
  | d, .max a b => by have := Lv.gcount_le p d a; have := Lv.gcount_le p d b; simp only [gcount, nodes]; omega
  | d, .imax a b => by have := Lv.gcount_le p d a; have := Lv.gcount_le p true b; simp only [gcount, nodes]; omega
  | d, .param q => by simp only [gcount, nodes]; split <;> omega

theorem Lv.gcount_gate (p : ByteArray) : ∀ (d : Bool) (l : LvB), 0 < Lv.gcount p d l ↔ Lv.gate p d l
  | _, .zero => by simp [gcount, gate]
  | d, .succ a => Lv.gcount_gate p d a
  | d, .max a b => by have := Lv.gcount_gate p d a; have := Lv.gcount_gate p d b; simp only [gcount, gate, ← Lv.gcount_gate p d a, ← Lv.gcount_gate p d b]; omega
  | d, .imax a b => by simp only [gcount, gate, ← Lv.gcount_gate p d a, ← Lv.gcount_gate p true b]; omega
  | d, .param q => by
    simp only [gcount, gate]
    split
    · rename_i h; simp [h.1, h.2]
    · rename_i h
      constructor
      · intro h'; omega
      · rintro ⟨h1, h2⟩; exact absurd ⟨h1, h2.symm⟩ h

/-- Whether the k-th part of a level stands where it may decide. -/
def Lv.under (l : LvB) (d : Bool) (k : Nat) : Bool := d || (decide (l.kind = 3) && decide (k = 1))

def Lv.gkids (p : ByteArray) (l : LvB) (d : Bool) : Nat → Nat
  | 0 => 0
  | k + 1 => Lv.gkids p l d k + (match l.kids[k]? with | some a => Lv.gcount p (l.under d k) a | none => 0)

theorem Lv.gkids_succ (p : ByteArray) (l : LvB) (d : Bool) (k : Nat) (h : k < l.kids.length) : Lv.gkids p l d (k + 1) = Lv.gkids p l d k + Lv.gcount p (l.under d k) l.kids[k] := by
  simp [gkids, h]

theorem Lv.gkids_all (p : ByteArray) (l : LvB) (d : Bool) (h : l.kind ≠ 4) : Lv.gkids p l d l.kids.length = Lv.gcount p d l := by
  cases l <;> simp [gkids, kids, gcount, kind, under] at h ⊢

def Lv.nkids (l : LvB) (k : Nat) : Nat := ((l.kids.take k).map Lv.nodes).sum
theorem Lv.nkids_snoc (l : LvB) (k : Nat) (h : k < l.kids.length) : l.nkids (k + 1) = l.nkids k + (l.kids[k]).nodes := by
  unfold nkids; rw [List.take_succ_eq_append_getElem h, List.map_append, List.sum_append]; simp
theorem Lv.nkids_lt (l : LvB) (k : Nat) : l.nkids k < l.nodes := by
  cases l with
  | zero => simp [nkids, kids, nodes]
  | param => simp [nkids, kids, nodes]
  | succ a => simp only [nkids, kids, nodes]; rcases k with _ | k <;> simp
  | max a b => simp only [nkids, kids, nodes]; rcases k with _ | _ | k <;> simp <;> omega
  | imax a b => simp only [nkids, kids, nodes]; rcases k with _ | _ | k <;> simp <;> omega
theorem Lv.gkids_le (p : ByteArray) (l : LvB) (d : Bool) : ∀ k, k ≤ l.kids.length → Lv.gkids p l d k ≤ l.nkids k
  | 0, _ => by simp [gkids]
  | k + 1, h => by
    rw [Lv.gkids_succ p l d k (by omega), Lv.nkids_snoc l k (by omega)]
    have := Lv.gkids_le p l d k (by omega)
    have := Lv.gcount_le p (l.under d k) l.kids[k]
    omega

theorem Lv.kid_has {l : LvB} {k : Nat} (h : k < l.kids.length) {p : ByteArray} (hp : Lv.has p l.kids[k]) : Lv.has p l := by
  cases l with
  | zero => simp [kids] at h
  | param => simp [kids] at h
  | succ a => match k, h with | 0, _ => exact hp
  | max a b => match k, h with | 0, _ => exact .inl hp | 1, _ => exact .inr hp
  | imax a b => match k, h with | 0, _ => exact .inl hp | 1, _ => exact .inr hp

set_option maxHeartbeats 1000000 in
theorem gates_param (p : ByteArray) (d : Bool) (f : ByteArray → Nat) (S : ByteArray → Bool) (m cc ck n : Nat) (w : World) (hp : p.size ≤ 1000) (hn : n ≤ 1000000) (hf : f p ≤ 1000000)
    (hcc : w.cell? ⟨cc, 0, none⟩ = some (.map (some m))) (hccb : cc < w.heap.size) (hm : MapIs w m n f S) :
    Calls Tryz.prog 100 #[.agg #[.int .i64 4, .string p, .slice none 0 0], .bool d, .pointer (some ⟨cc, 0, none⟩), .pointer (some ⟨ck, 0, none⟩)] w fun e w' => e = .returned (.tuple #[]) ∧ (∃ S', MapIs w' m (n + 1) (fun q => f q + Lv.gcount q d (.param p)) S') ∧ Touched w m w' := by
  have hpm : p.size ≤ maxLen := by unfold maxLen; omega
  have HM := hide (hm.alloc (.cells #[.int .i64 4, .string p, .slice none 0 0] 44))
  have HL := hide hm.lt
  clear hm
  cases d with
  | false =>
    go_enter Tryz.func100, Tryz.ntmps100
    go_wp2_with fail
    go_loopg [22] 0 (fun _ i wr => i = .int .i64 0 ∧ wr = w.alloc (.cells #[.int .i64 4, .string p, .slice none 0 0] 44))
    case atStart => exact ⟨rfl, rfl⟩
    case round =>
      obtain ⟨rfl, rfl⟩ := hrel
      go_wp2_with fail
      go_end0
      exact ⟨rfl, ⟨S, (HM.out.mono (by omega)).congr (fun q => by simp [Lv.gcount]) fun _ => rfl⟩, Touched.alloc _ _ _⟩
  | true =>
    go_enter Tryz.func100, Tryz.ntmps100
    go_wp2_with (first
      | (at_lookup; refine wpList_look rfl _ _ rfl rfl HM.out p rfl hpm ?_)
      | (at_mapUpdate; refine wpList_put rfl _ _ _ rfl rfl HM.out (by unfold maxLen; omega) p (f p + 1) rfl hpm ?_ (by omega) ?_))
    · rfl
    intro w' hm' hgr
    have hc2 : w'.cell? ⟨w.heap.size, 2, none⟩ = some (.slice none 0 0) := by
      rw [World.cell?_of_block (hgr.block w.heap.size (by simp) (fun e => by injection e with e; have := HL.out; omega))]; simp
    have HM2 := hide hm'
    have HG := hide hgr
    clear hm' hgr
    go_wp2_with fail
    go_loopg [22] 0 (fun _ i wr => i = .int .i64 0 ∧ wr = w')
    case atStart => exact ⟨rfl, rfl⟩
    case round =>
      obtain ⟨rfl, rfl⟩ := hrel
      go_wp2_with fail
      go_end0
      exact ⟨rfl, ⟨_, HM2.out.congr (fun q => by simp only [Lv.gcount, true_and]; split <;> simp_all) fun _ => rfl⟩, (Touched.alloc _ _ _).trans HG.out⟩

set_option maxHeartbeats 1000000 in
theorem gates_walk (N : Nat) : ∀ (l : LvB) (v : Value) (d : Bool) (f : ByteArray → Nat) (S : ByteArray → Bool) (m cc ck n B : Nat) (w : World), l.nodes ≤ N → (∀ p, Lv.has p l → p.size ≤ 1000) → n + l.nodes ≤ 1000000 → (∀ p, f p + l.nodes ≤ 1000000) →
    InLv w B l v → B ≤ m → w.cell? ⟨cc, 0, none⟩ = some (.map (some m)) → w.cell? ⟨ck, 0, none⟩ = some (.func (.func 100) #[] #[.pointer (some ⟨cc, 0, none⟩), .pointer (some ⟨ck, 0, none⟩)]) → cc ≠ m → ck ≠ m → MapIs w m n f S →
    Calls Tryz.prog 100 #[v, .bool d, .pointer (some ⟨cc, 0, none⟩), .pointer (some ⟨ck, 0, none⟩)] w fun e w' => e = .returned (.tuple #[]) ∧ (∃ S', MapIs w' m (n + l.nodes) (fun q => f q + Lv.gcount q d l) S') ∧ Touched w m w' := by
  induction N with
  | zero => intro l v d f S m cc ck n B w h; cases l <;> simp [Lv.nodes] at h
  | succ N ih =>
    intro l v d f S m cc ck n B w hN hnm hn hf hl hBm hcc hck hcm hkm hm
    have hccb := World.block_lt_of_cell? _ _ hcc
    have hckb := World.block_lt_of_cell? _ _ hck
    simp only [] at hccb hckb
    have hmb := hm.lt
    by_cases hp : l.kind = 4
    · cases l <;> simp [Lv.kind] at hp
      rename_i p
      have e : v = _ := hl
      subst e
      simp only [Lv.nodes] at *
      exact gates_param p d f S m cc ck n w (hnm p rfl) (by omega) (by have := hf p; omega) hcc hccb hm
    · obtain ⟨A, cap, rfl, hk⟩ := hl.shape
      have HK := hide hk
      have IH := hide ih
      have HNm := hide hnm
      have HF := hide hf
      have hk2 := l.kids_le
      have hk4 := l.kind_le
      have hq : ((l.kind : Int) == 4) = false := by simp; omega
      have HM := hide (hm.alloc (.cells #[.int .i64 l.kind, .string l.nm, .slice A l.kids.length cap] 44))
      have HP := hide hp
      have HCC := hide hcc
      have HCK := hide hck
      clear hk ih hl hp hm hnm hf hcc hck
      go_enter Tryz.func100, Tryz.ntmps100
      go_wp2_with fail
      go_loopg [22] (l.kids.length) (fun g i wr => ∃ k : Nat, k + g = l.kids.length ∧ i = .int .i64 k ∧ (∃ S', MapIs wr m (n + l.nkids k) (fun q => f q + Lv.gkids q l d k) S') ∧ Touched (w.alloc (.cells #[.int .i64 l.kind, .string l.nm, .slice A l.kids.length cap] 44)) m wr)
      case atStart => exact ⟨0, by omega, rfl, ⟨S, HM.out.congr (fun q => by simp [Lv.gkids]) fun _ => rfl⟩, Touched.refl _ _⟩
      case round =>
        obtain ⟨k, hkg, rfl, ⟨S', hmap⟩, htou⟩ := hrel
        have hz := htou.size
        simp at hz
        have g0 : wr.cell? ⟨w.heap.size, 0, none⟩ = some (.int .i64 l.kind) := by rw [htou.cell (by simp) (by simp; omega)]; simp
        have HMa := hide hmap
        have HT := hide htou
        clear hmap htou
        by_cases hlt : k < l.kids.length
        · obtain ⟨b, x, rfl, hbB, h3, hin⟩ := HK.out k hlt
          obtain ⟨k', nm', A', n', cap', rfl, c0, c1, c2⟩ := h3
          have hwr : Touched w m wr := (Touched.alloc _ _ _).trans HT.out
          have hbw : b < w.heap.size := World.block_lt_of_cell? _ _ c0
          have d0 : wr.cell? ⟨b, k * 3, none⟩ = some (.int .i64 k') := by rw [hwr.cell hbw (by show b ≠ m; omega)]; exact c0
          have d1 : wr.cell? ⟨b, k * 3 + 1, none⟩ = some (.string nm') := by rw [hwr.cell hbw (by show b ≠ m; omega)]; exact c1
          have d2 : wr.cell? ⟨b, k * 3 + 2, none⟩ = some (.slice A' n' cap') := by rw [hwr.cell hbw (by show b ≠ m; omega)]; exact c2
          have d3 : wr.cell? ⟨cc, 0, none⟩ = some (.map (some m)) := by rw [hwr.cell hccb hcm]; exact HCC.out
          have d4 : wr.cell? ⟨ck, 0, none⟩ = some (.func (.func 100) #[] #[.pointer (some ⟨cc, 0, none⟩), .pointer (some ⟨ck, 0, none⟩)]) := by rw [hwr.cell hckb hkm]; exact HCK.out
          have hnk := Lv.kid_nodes hlt
          have HSn := hide (fun q => Lv.gkids_succ q l d k hlt)
          have HSm := hide (l.nkids_snoc k hlt)
          have hlt2 := l.nkids_lt (k + 1)
          have hlt3 := hlt2
          rw [HSm.out] at hlt3
          have HI : Hid (∀ W, Below wr.heap.size wr W → ∀ d', Calls Tryz.prog 100 #[.agg #[.int .i64 k', .string nm', .slice A' n' cap'], .bool d', .pointer (some ⟨cc, 0, none⟩), .pointer (some ⟨ck, 0, none⟩)] W fun e w' => e = .returned (.tuple #[]) ∧ (∃ S', MapIs w' m (n + l.nkids k + (l.kids[k]).nodes) (fun q => f q + Lv.gkids q l d k + Lv.gcount q d' l.kids[k]) S') ∧ Touched W m w') := fun W hW d' => by
            have hb2 : Below B w wr := hwr.below (by omega) hBm
            have hmw : m < wr.heap.size := HMa.out.lt
            refine IH.out _ _ d' _ S' m cc ck _ B W (by omega) (fun p hp => HNm.out p (Lv.kid_has hlt hp)) (by omega) (fun p => by have := Lv.gkids_le p l d k (by omega); have := HF.out p; omega) ((hin.below hb2).below (hW.mono (by omega))) hBm (cell_later hW d3) (cell_later hW d4) hcm hkm (HMa.out.below hW hmw)
          have HW := hide hwr
          have hckw : ck < wr.heap.size := by omega
          have hwwr : w.heap.size < wr.heap.size := by omega
          clear c0 c1 c2 hin hwr d3
          cases d with
          | true =>
            have hund : l.under true k = true := rfl
            go_wp2_with (go_at_call 100; refine (HI.out _ ?_ true).mono ?_)
            · exact (Below.refl _ _).alloc (Nat.le_refl _) _
            rintro e w' ⟨rfl, ⟨S2, hm2⟩, ht2⟩
            have HM2 := hide hm2
            have HT2 := hide ht2
            clear hm2 ht2
            go_wp2_with fail
            go_roundg (l.kids.length - (k + 1))
            case measure => omega
            case rel => exact ⟨k + 1, by omega, by go_num, ⟨S2, by rw [HSm.out, ← Nat.add_assoc]; exact HM2.out.congr (fun q => by rw [HSn.out q, hund, Nat.add_assoc]) fun _ => rfl⟩, HT.out.trans ((Touched.alloc _ _ _).trans HT2.out)⟩
          | false =>
            by_cases h3 : l.kind = 3
            · have hq3 : ((l.kind : Int) == 3) = true := by simp [h3]
              by_cases h1 : k = 1
              · have hq1 : ((k : Int) == 1) = true := by simp [h1]
                have hund : Hid (l.under false k = true) := by simp [Hid, Lv.under, h3, h1]
                have H3 := hide h3
                have H1 := hide h1
                clear h3 h1
                go_wp2_with (go_at_call 100; refine (HI.out _ ?_ true).mono ?_)
                · exact (Below.refl _ _).alloc (Nat.le_refl _) _
                rintro e w' ⟨rfl, ⟨S2, hm2⟩, ht2⟩
                have HM2 := hide hm2
                have HT2 := hide ht2
                clear hm2 ht2
                go_wp2_with fail
                go_roundg (l.kids.length - (k + 1))
                case measure => omega
                case rel => exact ⟨k + 1, by omega, by go_num, ⟨S2, by rw [HSm.out, ← Nat.add_assoc]; exact HM2.out.congr (fun q => by rw [HSn.out q, hund.out, Nat.add_assoc]) fun _ => rfl⟩, HT.out.trans ((Touched.alloc _ _ _).trans HT2.out)⟩
              · have hq1 : ((k : Int) == 1) = false := by simp; omega
                have hund : Hid (l.under false k = false) := by simp [Hid, Lv.under, h1]
                have H3 := hide h3
                clear h3 h1
                go_wp2_with (go_at_call 100; refine (HI.out _ ?_ false).mono ?_)
                · exact (Below.refl _ _).alloc (Nat.le_refl _) _
                rintro e w' ⟨rfl, ⟨S2, hm2⟩, ht2⟩
                have HM2 := hide hm2
                have HT2 := hide ht2
                clear hm2 ht2
                go_wp2_with fail
                go_roundg (l.kids.length - (k + 1))
                case measure => omega
                case rel => exact ⟨k + 1, by omega, by go_num, ⟨S2, by rw [HSm.out, ← Nat.add_assoc]; exact HM2.out.congr (fun q => by rw [HSn.out q, hund.out, Nat.add_assoc]) fun _ => rfl⟩, HT.out.trans ((Touched.alloc _ _ _).trans HT2.out)⟩
            · have hq3 : ((l.kind : Int) == 3) = false := by simp; omega
              have hund : Hid (l.under false k = false) := by simp [Hid, Lv.under, h3]
              clear h3
              go_wp2_with (go_at_call 100; refine (HI.out _ ?_ false).mono ?_)
              · exact (Below.refl _ _).alloc (Nat.le_refl _) _
              rintro e w' ⟨rfl, ⟨S2, hm2⟩, ht2⟩
              have HM2 := hide hm2
              have HT2 := hide ht2
              clear hm2 ht2
              go_wp2_with fail
              go_roundg (l.kids.length - (k + 1))
              case measure => omega
              case rel => exact ⟨k + 1, by omega, by go_num, ⟨S2, by rw [HSm.out, ← Nat.add_assoc]; exact HM2.out.congr (fun q => by rw [HSn.out q, hund.out, Nat.add_assoc]) fun _ => rfl⟩, HT.out.trans ((Touched.alloc _ _ _).trans HT2.out)⟩
        · have hke : k = l.kids.length := by omega
          subst hke
          go_wp2_with fail
          go_end0
          have := l.nkids_lt l.kids.length
          exact ⟨rfl, ⟨S', (HMa.out.mono (by omega)).congr (fun q => by rw [Lv.gkids_all q l d HP.out]) fun _ => rfl⟩, (Touched.alloc _ _ _).trans HT.out⟩

end Go.Proofs.YteepmfhpjanbhaaGreatDoor
