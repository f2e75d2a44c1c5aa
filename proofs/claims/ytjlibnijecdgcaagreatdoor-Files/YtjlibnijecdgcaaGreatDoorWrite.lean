/- The contracts of the text builder's methods, as WriteLevel and Print meet them: the bytes are laid behind those that are there; all other blocks that are no rows of bytes stand as they stood. -/
import Derived.Test.YtjlibnijecdgcaaGreatDoorTok
import Derived.Shelf.Strings.BuilderK
import Derived.Maps.Own
import Derived.Maps.OwnOps
import Derived.Maps.OwnSet
import Derived.Test.YtjlibnijecdgcaaGreatDoorTokName
import Derived.Deep.LoopGhost

namespace Go.Proofs.YtjlibnijecdgcaaGreatDoor
open Go.RowKit

/-- The builder in block b holds these bytes. -/
abbrev Holds (w : World) (b : Nat) (l : List UInt8) : Prop := Lib.IsBuilderF 55 5 b b (Lib.byteCells l) w

/-- What a call that writes into the builder of block b leaves alone. -/
structure Wrote (b : Nat) (w w' : World) : Prop where
  low : Below b w w'
  others : Lib.OthersKept 5 (some b) w w'

theorem Wrote.refl (b : Nat) (w : World) : Wrote b w w := ⟨Below.refl _ _, Lib.OthersKept.refl _ _ _⟩
theorem Wrote.trans {b : Nat} {w w' w'' : World} (h : Wrote b w w') (h' : Wrote b w' w'') : Wrote b w w'' := ⟨h.low.trans h'.low, h.others.trans h'.others⟩
theorem Wrote.alloc {b : Nat} {w : World} (o : Obj) (hb : b ≤ w.heap.size) : Wrote b w (w.alloc o) := ⟨(Below.refl _ _).alloc hb _, (Lib.OthersKept.refl _ _ _).alloc _⟩
theorem Wrote.drew {b : Nat} {w w' : World} (h : Wrote b w w') : Wrote b w w'.drew := ⟨h.low.drew, h.others⟩
/-- A box of three cells that is no row of bytes. -/
theorem Wrote.box {b n : Nat} {w w' : World} {c0 c1 c2 : Value} (h : Wrote b w w') (hn : w.heap[n]? = some (.cells #[c0, c1, c2] 94 (0, 0))) (hne : n ≠ b) : w'.heap[n]? = some (.cells #[c0, c1, c2] 94 (0, 0)) :=
  h.others n _ hn (fun e => hne (Option.some.inj e)) fun _ _ e => by injection e with _ e2 _; exact absurd e2 (by decide)
theorem box_cells {n : Nat} {w : World} {c0 c1 c2 : Value} (hn : w.heap[n]? = some (.cells #[c0, c1, c2] 94 (0, 0))) : w.cell? ⟨n, 0, none⟩ = some c0 ∧ w.cell? ⟨n, 1, none⟩ = some c1 ∧ w.cell? ⟨n, 2, none⟩ = some c2 := by
  refine ⟨?_, ?_, ?_⟩ <;> simp [World.cell?, hn]

theorem Tryz.sizeB : (Tryz.prog.info? 55).map (·.size) = some 2 := by kernel_rfl
theorem Tryz.liesB : liesAt Tryz.prog Tryz.prog.depth 55 (2 / Tryz.prog.cellsOf 55) 0 55 1 = true := by kernel_rfl
theorem Tryz.info5 : (Tryz.prog.info? 5).map (fun i => (i.zero, i.size, i.bytes)) = some (some (.int .u8 0), 1, 1) := by kernel_rfl

set_option maxHeartbeats 1000000 in
set_option maxRecDepth 100000 in
theorem copyCheck_used (b : Nat) (w : World) (h0 : w.cell? ⟨b, 0, none⟩ = some (.pointer (some ⟨b, 0, none⟩))) :
    Calls Tryz.prog 36 #[.pointer (some ⟨b, 0, none⟩)] w fun e w' => e = .returned (.tuple #[]) ∧ w' = w := by
  obtain ⟨j, hj, _⟩ := Option.map_eq_some_iff.1 Tryz.sizeB
  go_enter Tryz.func36, Tryz.ntmps36
  go_wp2_with fail
  rw [Lib.run_neq_ptr_same w _ Tryz.underlying52 hj]
  go_wp2_with fail
  go_end0
  exact ⟨rfl, rfl⟩

set_option maxHeartbeats 1000000 in
set_option maxRecDepth 100000 in
theorem copyCheck_fresh (b : Nat) (w : World) (h0 : w.cell? ⟨b, 0, none⟩ = some (.pointer none)) (hsh : w.shape? b = some (55, 2)) (hfz : w.frozen? ⟨b, 0, none⟩ = false) :
    Calls Tryz.prog 36 #[.pointer (some ⟨b, 0, none⟩)] w fun e w' => e = .returned (.tuple #[]) ∧ w' = w.setCell ⟨b, 0, none⟩ (.pointer (some ⟨b, 0, none⟩)) := by
  obtain ⟨j, hj, hjs⟩ := Option.map_eq_some_iff.1 Tryz.sizeB
  go_enter Tryz.func36, Tryz.ntmps36
  go_wp2_with fail
  rw [Lib.run_to_unsafe w ⟨b, 0, none⟩ Tryz.underlying52 Tryz.underlying108 hj (by rw [hjs]; decide) hsh (Nat.zero_lt_succ 1)]
  simp only [Result.andThen]
  rw [Oper.upon_value]
  go_wp2_with fail
  rw [run_callFunc_extern Tryz.func66 (by kernel_rfl) (by kernel_rfl) (by kernel_rfl) (e := Extern.AbiNoEscape.same) (by kernel_rfl)]
  rw [Lib.run_noEscape]
  simp only [Result.andThen]
  rw [Oper.upon_value]
  go_wp2_with fail
  rw [Lib.run_from_unsafe w ⟨b, 0, none⟩ Tryz.underlying108 Tryz.underlying52 hj hsh Tryz.liesB]
  simp only [Result.andThen]
  rw [Oper.upon_value]
  go_wp2_with fail
  go_end0
  exact ⟨rfl, rfl⟩

theorem copyCheck_calls (b : Nat) (bs : List Value) (w : World) (h : Lib.IsBuilderF 55 5 b b bs w) :
    Calls Tryz.prog 36 #[.pointer (some ⟨b, 0, none⟩)] w fun e w' => e = .returned (.tuple #[]) ∧ Lib.BuilderAtF 55 5 b b (.pointer (some ⟨b, 0, none⟩)) bs w' ∧ Wrote b w w' := by
  rcases h with h | h
  · refine (copyCheck_fresh b w h.cell0 h.shape h.frozen0).mono ?_
    rintro e w' ⟨rfl, rfl⟩
    exact ⟨rfl, h.used _, (Below.refl b w).setCell (p := ⟨b, 0, none⟩) (Nat.le_refl _) _, (Lib.OthersKept.refl _ _ w).setCell ⟨b, 0, none⟩ rfl _⟩
  · refine (copyCheck_used b w h.cell0).mono ?_
    rintro e w' ⟨rfl, rfl⟩
    exact ⟨rfl, h, Wrote.refl _ _⟩

set_option maxHeartbeats 2000000 in
set_option maxRecDepth 100000 in
theorem writeByte_calls (b : Nat) (l : List UInt8) (c : UInt8) (w : World) (h : Holds w b l) (hlen : l.length ≤ 1000000000000) (hbw : b ≤ w.heap.size) :
    Calls Tryz.prog 18 #[.pointer (some ⟨b, 0, none⟩), .int .u8 (c.toNat : Int)] w fun e w' => e = .returned .nilIface ∧ Holds w' b (l ++ [c]) ∧ Wrote b w w' := by
  obtain ⟨i0, hi, hz0, hz1, hz2⟩ := info_parts Tryz.info5
  have HC := hide (copyCheck_calls b (Lib.byteCells l) w h)
  clear h
  go_enter Tryz.func18, Tryz.ntmps18
  go_wp2_with (go_at_call 36; refine HC.out.mono ?_)
  rintro e w1 ⟨rfl, h1, hwr1⟩
  obtain ⟨hB, v, hbk, hown, hne⟩ := h1
  have hb1 := hwr1.low
  have hl2 := Lib.byteCells_length l
  have c0 : w1.cell? ⟨b, 0, none⟩ = some (.pointer (some ⟨b, 0, none⟩)) := by rw [Lib.cell_of_heap hbk]; rfl
  have c1 : w1.cell? ⟨b, 1, none⟩ = some v := by rw [Lib.cell_of_heap hbk]; rfl
  go_wp2_with (at_builtin; refine wpList_append_ownF _ rfl _ _ 53 rfl b 5 i0 (.int .u8 0) 1 1 Tryz.underlying53 hi hz0 hz1 hz2 rfl (by decide) _ _ _ rfl (hown.alloc _) ⟨w1.heap.size, 0, none⟩ 1 1 [.int .u8 (c.toNat : Int)] rfl rfl ?c1 ?c2 ?c3 ?c4 ?c5 ?_)
  case c1 =>
    intro j u hj
    match j, hj with
    | 0, hj => simp at hj; subst hj; simp [Addr.add]
  case c2 => intro u hu; simp at hu; subst hu; rfl
  case c3 => unfold maxLen; omega
  case c4 => omega
  case c5 => have := hb1.size; simp; omega
  intro v' w2 hown' hgrow _
  have hlt : b < w1.heap.size := (Array.getElem?_eq_some_iff.1 hbk).1
  have hb2 : w2.heap[b]? = some (.cells #[.pointer (some ⟨b, 0, none⟩), v] 55 (0, 0)) := by
    rw [hgrow.block b (by simp; omega) (fun e => hne e.symm), Lib.alloc_old w1 _ b hlt]
    exact hbk
  have d0 : w2.cell? ⟨b, 0, none⟩ = some (.pointer (some ⟨b, 0, none⟩)) := by rw [Lib.cell_of_heap hb2]; rfl
  have d1 : w2.cell? ⟨b, 1, none⟩ = some v := by rw [Lib.cell_of_heap hb2]; rfl
  have f1 : w2.frozen? ⟨b, 1, none⟩ = false := Lib.frozen_of_heap hb2 1
  obtain ⟨g, cap, rfl⟩ : ∃ g cap, v' = .slice (some ⟨g, 0, none⟩) (l.length + 1) cap := by
    rcases hown'.2 with ⟨_, h0⟩ | ⟨g, cap, cur, fz, hv, _⟩
    · omega
    · exact ⟨g, cap, hv⟩
  go_wp2_with fail
  go_ret
  have hcs : Lib.byteCells (l ++ [c]) = Lib.byteCells l ++ [.int .u8 (c.toNat : Int)] := by simp [Lib.byteCells]
  refine ⟨rfl, .inr ?_, ?_, ((hwr1.others.alloc _).grown hgrow (Lib.ownsRowF_kind (hown.alloc _))).setCell ⟨b, 1, none⟩ rfl _⟩
  · exact Lib.BuilderAtF.put (T := 55) (e := 5) hB hb2 (bs' := Lib.byteCells (l ++ [c])) (by rw [hcs, List.length_append, hl2]; exact hown') (by decide)
  · exact ((hb1.alloc (by have := hb1.size; omega) _).grown hgrow (by have := hb1.size; simp; omega) (fun k hk => (hown.lt k hk).1)).setCell (p := ⟨b, 1, none⟩) hB _

set_option maxHeartbeats 2000000 in
set_option maxRecDepth 100000 in
theorem writeString_calls (b : Nat) (l : List UInt8) (s : ByteArray) (w : World) (h : Holds w b l) (hlen : l.length ≤ 1000000000000) (hs : s.size ≤ 1000000000000) (hbw : b ≤ w.heap.size) :
    Calls Tryz.prog 17 #[.pointer (some ⟨b, 0, none⟩), .string s] w fun e w' => e = .returned (.tuple #[.int .i64 s.size, .nilIface]) ∧ Holds w' b (l ++ s.data.toList) ∧ Wrote b w w' := by
  obtain ⟨i0, hi, hz0, hz1, hz2⟩ := info_parts Tryz.info5
  have HC := hide (copyCheck_calls b (Lib.byteCells l) w h)
  clear h
  go_enter Tryz.func17, Tryz.ntmps17
  go_wp2_with (go_at_call 36; refine HC.out.mono ?_)
  rintro e w1 ⟨rfl, h1, hwr1⟩
  obtain ⟨hB, v, hbk, hown, hne⟩ := h1
  have hb1 := hwr1.low
  have hl2 := Lib.byteCells_length l
  have c0 : w1.cell? ⟨b, 0, none⟩ = some (.pointer (some ⟨b, 0, none⟩)) := by rw [Lib.cell_of_heap hbk]; rfl
  have c1 : w1.cell? ⟨b, 1, none⟩ = some v := by rw [Lib.cell_of_heap hbk]; rfl
  go_wp2_with (at_builtin; refine Lib.wpList_append_own_stringF _ rfl _ _ 53 9 rfl b 5 i0 Tryz.underlying53 Tryz.underlying9 hi hz0 hz1 hz2 _ _ _ rfl hown s rfl ?c3 ?c4 ?c5 ?_)
  case c3 => unfold maxLen; omega
  case c4 => omega
  case c5 => have := hb1.size; omega
  intro v' w2 hown' hgrow _
  have hlt : b < w1.heap.size := (Array.getElem?_eq_some_iff.1 hbk).1
  have hb2 : w2.heap[b]? = some (.cells #[.pointer (some ⟨b, 0, none⟩), v] 55 (0, 0)) := by
    rw [hgrow.block b hlt (fun e => hne e.symm)]
    exact hbk
  have d0 : w2.cell? ⟨b, 0, none⟩ = some (.pointer (some ⟨b, 0, none⟩)) := by rw [Lib.cell_of_heap hb2]; rfl
  have d1 : w2.cell? ⟨b, 1, none⟩ = some v := by rw [Lib.cell_of_heap hb2]; rfl
  have f1 : w2.frozen? ⟨b, 1, none⟩ = false := Lib.frozen_of_heap hb2 1
  obtain ⟨ao, n', cap, rfl⟩ : ∃ ao n' cap, v' = .slice ao n' cap := by
    rcases hown'.2 with ⟨hv, _⟩ | ⟨g, cap, cur, fz, hv, _⟩
    · exact ⟨_, _, _, hv⟩
    · exact ⟨_, _, _, hv⟩
  go_wp2_with fail
  go_ret2
  have hcs : Lib.byteCells (l ++ s.data.toList) = Lib.byteCells l ++ Lib.strCells s := by simp [Lib.byteCells, Lib.strCells]
  refine ⟨rfl, .inr ?_, ?_, (hwr1.others.grown hgrow (Lib.ownsRowF_kind hown)).setCell ⟨b, 1, none⟩ rfl _⟩
  · exact Lib.BuilderAtF.put (T := 55) (e := 5) hB hb2 (bs' := Lib.byteCells (l ++ s.data.toList)) (by rw [hcs, List.length_append, hl2, Lib.strCells_length]; exact hown') (by decide)
  · exact (hb1.grown hgrow (by have := hb1.size; omega) (fun k hk => (hown.lt k hk).1)).setCell (p := ⟨b, 1, none⟩) hB _

end Go.Proofs.YtjlibnijecdgcaaGreatDoor

/- A map from names to numbers that the call itself makes: what it holds at each name, and the walk's laws for a look-up and a store. -/
namespace Go.Proofs.YtjlibnijecdgcaaGreatDoor
open Go.RowKit Go.Maps

def key (p : ByteArray) : Lit := .string p.data.toList
theorem key_inj {p q : ByteArray} (h : p ≠ q) : key p ≠ key q := fun e => h (WideShapes.bytes_inj (by injection e))

theorem law : Keyed Tryz.prog 9 := string_keyed Tryz.underlying9
theorem zero3 (w : World) : (zeroValue 3).run Tryz.prog w = .ok (.int .i64 0) w := by kernel_rfl
theorem key_of {p : ByteArray} (h : p.size ≤ maxLen) : keyOf Tryz.prog 9 (.string p) = some (key p) := WideMaps.keyOf_string_mk Tryz.underlying9 h

/-- Block b is a map, of at most n entries, that holds f p at p (0 where there is none); S p: is there an entry at p? -/
def MapIs (w : World) (b n : Nat) (f : ByteArray → Nat) (S : ByteArray → Bool) : Prop :=
  ∃ D : DataW Unit, w.ownsMap Tryz.prog 9 (plainElem Tryz.prog 3) b n D ∧ ∀ p : ByteArray, p.size ≤ maxLen → D.atKey (key p) (.lit (.int .i64 0)) = .lit (.int .i64 (f p : Nat)) ∧ has D (key p) = S p

theorem MapIs.made (w : World) : MapIs (w.alloc (.map #[] 0)) w.heap.size 0 (fun _ => 0) (fun _ => false) :=
  ⟨.map [], World.ownsMap_made _ _ _ _, fun _ _ => ⟨rfl, rfl⟩⟩

theorem MapIs.kept {w w' : World} {row : Option Nat} {b n : Nat} {f : ByteArray → Nat} {S : ByteArray → Bool} (h : MapIs w b n f S) (hg : w.grownBy w' row) (hne : some b ≠ row) : MapIs w' b n f S := by
  obtain ⟨D, ho, hf⟩ := h
  exact ⟨D, ho.kept hg hne, hf⟩

theorem MapIs.lt {w : World} {b n : Nat} {f : ByteArray → Nat} {S : ByteArray → Bool} (h : MapIs w b n f S) : b < w.heap.size := by
  obtain ⟨D, ho, _⟩ := h
  exact ho.lt

theorem MapIs.mono {w : World} {b n n' : Nat} {f : ByteArray → Nat} {S : ByteArray → Bool} (h : MapIs w b n f S) (hn : n ≤ n') : MapIs w b n' f S := by
  obtain ⟨D, ho, hf⟩ := h
  exact ⟨D, ho.mono hn, hf⟩

theorem MapIs.congr {w : World} {b n : Nat} {f f' : ByteArray → Nat} {S S' : ByteArray → Bool} (h : MapIs w b n f S) (hf : ∀ p, f p = f' p) (hS : ∀ p, S p = S' p) : MapIs w b n f' S' := by
  have e1 : f = f' := funext hf
  have e2 : S = S' := funext hS
  rw [← e1, ← e2]
  exact h

theorem MapIs.below {w w' : World} {b n B : Nat} {f : ByteArray → Nat} {S : ByteArray → Bool} (h : MapIs w b n f S) (hb : Below B w w') (hB : b < B) : MapIs w' b n f S := by
  obtain ⟨D, ⟨es, clock, he, r⟩, hf⟩ := h
  exact ⟨D, ⟨es, clock, by rw [hb.block b hB]; exact he, r⟩, hf⟩

theorem MapIs.alloc {w : World} {b n : Nat} {f : ByteArray → Nat} {S : ByteArray → Bool} (h : MapIs w b n f S) (o : Obj) : MapIs (w.alloc o) b n f S := by
  obtain ⟨D, ho, hf⟩ := h
  exact ⟨D, ho.alloc o, hf⟩

theorem MapIs.drew {w : World} {b n : Nat} {f : ByteArray → Nat} {S : ByteArray → Bool} (h : MapIs w b n f S) : MapIs w.drew b n f S := by
  obtain ⟨D, ho, hf⟩ := h
  exact ⟨D, ho.drew, hf⟩

theorem MapIs.setCell {w : World} {b n : Nat} {f : ByteArray → Nat} {S : ByteArray → Bool} (h : MapIs w b n f S) {a : Addr} (ha : b ≠ a.block) (u : Value) : MapIs (w.setCell a u) b n f S := by
  obtain ⟨D, ho, hf⟩ := h
  exact ⟨D, ho.setCell ha u, hf⟩

/-- Block b is a map that holds f p at p (0 where there is none); all its entries stand at names of the list. -/
def MapFor (w : World) (b : Nat) (L : List ByteArray) (f : ByteArray → Nat) : Prop :=
  ∃ es : List (Lit × DataW Unit), w.ownsMap Tryz.prog 9 (plainElem Tryz.prog 3) b es.length (.map es) ∧ (∀ x ∈ es, x.1 ∈ L.map key) ∧ ∀ p : ByteArray, p.size ≤ maxLen → (DataW.map es).atKey (key p) (.lit (.int .i64 0)) = .lit (.int .i64 (f p : Nat))

theorem len_of_sub {α : Type} [DecidableEq α] : ∀ (l m : List α), l.Nodup → (∀ x, x ∈ l → x ∈ m) → l.length ≤ m.length
  | [], _, _, _ => Nat.zero_le _
  | x :: l, m, hn, hs => by
    have hx := (List.nodup_cons.1 hn).1
    have hl := (List.nodup_cons.1 hn).2
    have hm : x ∈ m := hs x (by simp)
    have := len_of_sub l (m.erase x) hl fun y hy => (List.mem_erase_of_ne (fun e => hx (by rw [← e]; exact hy))).2 (hs y (by simp [hy]))
    rw [List.length_erase_of_mem hm] at this
    have := List.length_pos_of_mem hm
    simp only [List.length_cons]
    omega

theorem ownsMap_tight {w : World} {b n : Nat} {es : List (Lit × DataW Unit)} (h : w.ownsMap Tryz.prog 9 (plainElem Tryz.prog 3) b n (.map es)) : w.ownsMap Tryz.prog 9 (plainElem Tryz.prog 3) b es.length (.map es) := by
  obtain ⟨a, clock, he, F, _, e⟩ := h
  refine ⟨a, clock, he, F, ?_, e⟩
  injection e with e
  rw [e, length_read]
  exact Nat.le_refl _

theorem MapFor.len {w : World} {b : Nat} {L : List ByteArray} {es : List (Lit × DataW Unit)} (ho : w.ownsMap Tryz.prog 9 (plainElem Tryz.prog 3) b es.length (.map es)) (hk : ∀ x ∈ es, x.1 ∈ L.map key) : es.length ≤ L.length := by
  obtain ⟨es', e, hp⟩ := ho.tidy law
  injection e with e
  subst e
  have h1 : (es.map Prod.fst).Nodup := by
    unfold List.Nodup
    rw [List.pairwise_map]
    exact hp
  haveI : DecidableEq Lit := fun a b => Classical.propDecidable _
  have h2 := len_of_sub (es.map Prod.fst) (L.map key) h1 fun x hx => by
    obtain ⟨y, hy, rfl⟩ := List.mem_map.1 hx
    exact hk y hy
  simpa using h2

theorem MapFor.is {w : World} {b : Nat} {L : List ByteArray} {f : ByteArray → Nat} (h : MapFor w b L f) : ∃ S, MapIs w b L.length f S := by
  obtain ⟨es, ho, hk, hf⟩ := h
  exact ⟨fun p => has (.map es) (key p), .map es, ho.mono (MapFor.len ho hk), fun p hp => ⟨hf p hp, rfl⟩⟩

theorem MapFor.lt {w : World} {b : Nat} {L : List ByteArray} {f : ByteArray → Nat} (h : MapFor w b L f) : b < w.heap.size := by
  obtain ⟨es, ho, _⟩ := h
  exact ho.lt

theorem MapFor.below {w w' : World} {b B : Nat} {L : List ByteArray} {f : ByteArray → Nat} (h : MapFor w b L f) (hb : Below B w w') (hB : b < B) : MapFor w' b L f := by
  obtain ⟨D, ⟨es, clock, he, r⟩, hf⟩ := h
  exact ⟨D, ⟨es, clock, by rw [hb.block b hB]; exact he, r⟩, hf⟩

theorem MapFor.of_is {w : World} {b : Nat} {L : List ByteArray} (h : MapIs w b 0 (fun _ => 0) (fun _ => false)) : MapFor w b L (fun _ => 0) := by
  obtain ⟨D, ho, hf⟩ := h
  obtain ⟨es, e⟩ := ho.isMap
  subst e
  have h0 : es = [] := by
    have := ho.size_le
    rw [size_eq] at this
    exact List.length_eq_zero_iff.1 (by omega)
  subst h0
  exact ⟨[], ho, fun x hx => absurd hx (by simp), fun p hp => (hf p hp).1⟩

theorem mem_insert {x y : Lit × DataW Unit} : ∀ {l : List (Lit × DataW Unit)}, y ∈ DataW.insert x l → y = x ∨ y ∈ l
  | [], h => by simp [DataW.insert] at h; exact .inl h
  | z :: l, h => by
    unfold DataW.insert at h
    split at h
    · rcases List.mem_cons.1 h with h | h
      · exact .inl h
      · exact .inr h
    · rcases List.mem_cons.1 h with h | h
      · exact .inr (by simp [h])
      · rcases mem_insert h with h | h
        · exact .inl h
        · exact .inr (by simp [h])

section
variable {w : World} {ops : Array Oper} {rest : List Oper} {o : Oper} {a : Act} {Q : Exit → Act → World → Prop}

end

end Go.Proofs.YtjlibnijecdgcaaGreatDoor

/- The contract of gates: how often each parameter stands where it may decide an imax. -/
namespace Go.Proofs.YtjlibnijecdgcaaGreatDoor
open Go.RowKit Go.Maps

def Lv.gcount (p : ByteArray) : Bool → LvB → Nat
  | _, .zero => 0
  | d, .succ a => Lv.gcount p d a
  | d, .max a b => Lv.gcount p d a + Lv.gcount p d b
  | d, .imax a b => Lv.gcount p d a + Lv.gcount p true b
  | d, .param q => if d = true ∧ p = q then 1 else 0

theorem Lv.gcount_le (p : ByteArray) : ∀ (d : Bool) (l : LvB), Lv.gcount p d l ≤ l.nodes
  | _, .zero => by simp [gcount]
  | d, .succ a => by have := Lv.gcount_le p d a; simp only [gcount, nodes]; omega
  | d, .max a b => by have := Lv.gcount_le p d a; have := Lv.gcount_le p d b; simp only [gcount, nodes]; omega
  | d, .imax a b => by have := Lv.gcount_le p d a; have := Lv.gcount_le p true b; simp only [gcount, nodes]; omega
  | d, .param q => by simp only [gcount, nodes]; split <;> omega

theorem Lv.gcount_gate (p : ByteArray) : ∀ (d : Bool) (l : LvB), 0 < Lv.gcount p d l ↔ Lv.gate p d l
  | _, .zero => by simp [gcount, gate]
  | d, .succ a => Lv.gcount_gate p d a
  | d, .max a b => by have := Lv.gcount_gate p d a; have := Lv.gcount_gate p d b; simp only [gcount, gate, ← Lv.gcount_gate p d a, ← Lv.gcount_gate p d b]; omega
  | d, .imax a b => by simp only [gcount, gate, ← Lv.gcount_gate p d a, ← Lv.gcount_gate p true b]; omega
  | d, .param q => by
    simp only [gcount, gate]
    split
    · rename_i h; simp [h.1, h.2]
    · rename_i h
      constructor
      · intro h'; omega
      · rintro ⟨h1, h2⟩; exact absurd ⟨h1, h2.symm⟩ h

/-- Whether the k-th part of a level stands where it may decide. -/
def Lv.under (l : LvB) (d : Bool) (k : Nat) : Bool := d || (decide (l.kind = 3) && decide (k = 1))

def Lv.gkids (p : ByteArray) (l : LvB) (d : Bool) : Nat → Nat
  | 0 => 0
  | k + 1 => Lv.gkids p l d k + (match l.kids[k]? with | some a => Lv.gcount p (l.under d k) a | none => 0)

theorem Lv.gkids_succ (p : ByteArray) (l : LvB) (d : Bool) (k : Nat) (h : k < l.kids.length) : Lv.gkids p l d (k + 1) = Lv.gkids p l d k + Lv.gcount p (l.under d k) l.kids[k] := by
  simp [gkids, h]

theorem Lv.gkids_all (p : ByteArray) (l : LvB) (d : Bool) (h : l.kind ≠ 4) : Lv.gkids p l d l.kids.length = Lv.gcount p d l := by
  cases l <;> simp [gkids, kids, gcount, kind, under] at h ⊢

def Lv.nkids (l : LvB) (k : Nat) : Nat := ((l.kids.take k).map Lv.nodes).sum
theorem Lv.nkids_snoc (l : LvB) (k : Nat) (h : k < l.kids.length) : l.nkids (k + 1) = l.nkids k + (l.kids[k]).nodes := by
  unfold nkids; rw [List.take_succ_eq_append_getElem h, List.map_append, List.sum_append]; simp
theorem Lv.nkids_lt (l : LvB) (k : Nat) : l.nkids k < l.nodes := by
  cases l with
  | zero => simp [nkids, kids, nodes]
  | param => simp [nkids, kids, nodes]
  | succ a => simp only [nkids, kids, nodes]; rcases k with _ | k <;> simp
  | max a b => simp only [nkids, kids, nodes]; rcases k with _ | _ | k <;> simp <;> omega
  | imax a b => simp only [nkids, kids, nodes]; rcases k with _ | _ | k <;> simp <;> omega
theorem Lv.gkids_le (p : ByteArray) (l : LvB) (d : Bool) : ∀ k, k ≤ l.kids.length → Lv.gkids p l d k ≤ l.nkids k
  | 0, _ => by simp [gkids]
  | k + 1, h => by
    rw [Lv.gkids_succ p l d k (by omega), Lv.nkids_snoc l k (by omega)]
    have := Lv.gkids_le p l d k (by omega)
    have := Lv.gcount_le p (l.under d k) l.kids[k]
    omega

theorem Lv.kid_has {l : LvB} {k : Nat} (h : k < l.kids.length) {p : ByteArray} (hp : Lv.has p l.kids[k]) : Lv.has p l := by
  cases l with
  | zero => simp [kids] at h
  | param => simp [kids] at h
  | succ a => match k, h with | 0, _ => exact hp
  | max a b => match k, h with | 0, _ => exact .inl hp | 1, _ => exact .inr hp
  | imax a b => match k, h with | 0, _ => exact .inl hp | 1, _ => exact .inr hp

end Go.Proofs.YtjlibnijecdgcaaGreatDoor

/- The contract of WriteLevel: a level's text is laid behind what the builder holds. -/
namespace Go.Proofs.YtjlibnijecdgcaaGreatDoor
open Go.RowKit

/-- The words of the table of shapes, as they are laid. -/
structure Table (w : World) : Prop where
  t0 : w.cell? ⟨4, 0, none⟩ = some (.string ⟨#[]⟩)
  t1 : w.cell? ⟨4, 2, none⟩ = some (.string ⟨#[115]⟩)
  t2 : w.cell? ⟨4, 4, none⟩ = some (.string ⟨#[109, 97, 120]⟩)
  t3 : w.cell? ⟨4, 6, none⟩ = some (.string ⟨#[105, 109, 97, 120]⟩)
  t4 : w.cell? ⟨4, 8, none⟩ = some (.string ⟨#[]⟩)

theorem Table.below {w w' : World} {b : Nat} (h : Table w) (hb : Below b w w') (h0 : 4 < b) : Table w' :=
  ⟨(hb.cell h0).trans h.t0, (hb.cell h0).trans h.t1, (hb.cell h0).trans h.t2, (hb.cell h0).trans h.t3, (hb.cell h0).trans h.t4⟩

theorem Holds.lt {w : World} {b : Nat} {l : List UInt8} (h : Holds w b l) : b < w.heap.size := by
  rcases h with h | h <;> exact h.lt

theorem Holds.alloc {w : World} {b : Nat} {l : List UInt8} (h : Holds w b l) (o : Obj) : Holds (w.alloc o) b l := Lib.IsBuilderF.alloc h o

set_option maxHeartbeats 2000000 in
theorem write_zero (b : Nat) (acc : List UInt8) (w : World) (h : Holds w b acc) (hl : acc.length ≤ 1000000000000) (ht : Table w) :
    Calls Tryz.prog 69 #[.pointer (some ⟨b, 0, none⟩), .agg #[.int .i64 0, .string ⟨#[]⟩, .slice none 0 0]] w fun e w' => e = .returned (.tuple #[]) ∧ Holds w' b (acc ++ [48]) ∧ Wrote b w w' := by
  have hb := h.lt
  have HB := hide (writeByte_calls b acc 48 _ (h.alloc (.cells #[.int .i64 0, .string ⟨#[]⟩, .slice none 0 0] 94)) hl (by simp; omega))
  have t0 := ht.t0
  have h0 : 4 < w.heap.size := by have := World.block_lt_of_cell? _ _ t0; exact this
  clear h ht
  go_enter Tryz.func69, Tryz.ntmps69
  go_wp2_with (go_at_call 18; refine HB.out.mono ?_)
  rintro e w' ⟨rfl, hh, hw⟩
  have HH := hide hh
  have HW := hide ((Wrote.alloc _ (by omega)).trans hw)
  clear hh hw
  go_wp2_with fail
  go_end0
  exact ⟨rfl, HH.out, HW.out⟩

set_option maxHeartbeats 2000000 in
theorem write_param (b : Nat) (acc : List UInt8) (p : ByteArray) (w : World) (h : Holds w b acc) (hl : acc.length ≤ 1000000000000) (hp : p.size ≤ 1000000) (ht : Table w) :
    Calls Tryz.prog 69 #[.pointer (some ⟨b, 0, none⟩), .agg #[.int .i64 4, .string p, .slice none 0 0]] w fun e w' => e = .returned (.tuple #[]) ∧ Holds w' b (acc ++ p.data.toList) ∧ Wrote b w w' := by
  have hb := h.lt
  have HB := hide (writeString_calls b acc p _ (h.alloc (.cells #[.int .i64 4, .string p, .slice none 0 0] 94)) hl (by omega) (by simp; omega))
  have t0 := ht.t4
  have h0 : 4 < w.heap.size := by have := World.block_lt_of_cell? _ _ t0; exact this
  clear h ht
  go_enter Tryz.func69, Tryz.ntmps69
  go_wp2_with (go_at_call 17; refine HB.out.mono ?_)
  rintro e w' ⟨rfl, hh, hw⟩
  have HH := hide hh
  have HW := hide ((Wrote.alloc _ (by omega)).trans hw)
  clear hh hw
  go_wp2_with fail
  go_end0
  exact ⟨rfl, HH.out, HW.out⟩

/-- A builder that holds so much, and what was there. -/
structure Step (w : World) (b : Nat) (acc : List UInt8) (W : World) : Prop where
  holds : Holds W b acc
  wrote : Wrote b w W
theorem Step.then {w W W' : World} {b : Nat} {acc acc' : List UInt8} (h : Step w b acc W) (hh : Holds W' b acc') (hw : Wrote b W W') : Step w b acc' W' := ⟨hh, h.wrote.trans hw⟩
theorem Step.alloc {w W : World} {b : Nat} {acc : List UInt8} (h : Step w b acc W) (o : Obj) : Step w b acc (W.alloc o) := ⟨h.holds.alloc o, h.wrote.trans (Wrote.alloc o (Nat.le_of_lt h.holds.lt))⟩

theorem step_byte {w : World} {b : Nat} {acc : List UInt8} (c : UInt8) (W : World) (h : Step w b acc W) (hl : acc.length ≤ 1000000000000) :
    Calls Tryz.prog 18 #[.pointer (some ⟨b, 0, none⟩), .int .u8 (c.toNat : Int)] W fun e w' => e = .returned .nilIface ∧ Hid (Step w b (acc ++ [c]) w' ∧ Wrote b W w') :=
  (writeByte_calls b acc c W h.holds hl (Nat.le_of_lt h.holds.lt)).mono fun _ _ ⟨he, hh, hw⟩ => ⟨he, h.then hh hw, hw⟩

theorem step_string {w : World} {b : Nat} {acc : List UInt8} (s : ByteArray) (W : World) (h : Step w b acc W) (hl : acc.length ≤ 1000000000000) (hs : s.size ≤ 1000000) :
    Calls Tryz.prog 17 #[.pointer (some ⟨b, 0, none⟩), .string s] W fun e w' => e = .returned (.tuple #[.int .i64 s.size, .nilIface]) ∧ Hid (Step w b (acc ++ s.data.toList) w' ∧ Wrote b W w') :=
  (writeString_calls b acc s W h.holds hl (by omega) (Nat.le_of_lt h.holds.lt)).mono fun _ _ ⟨he, hh, hw⟩ => ⟨he, h.then hh hw, hw⟩

set_option maxHeartbeats 4000000 in
theorem write_node (kd : Int) (wd : List UInt8) (hkd : (kd = 1 ∧ wd = [115]) ∨ (kd = 2 ∧ wd = [109, 97, 120]) ∨ (kd = 3 ∧ wd = [105, 109, 97, 120])) (l : LvB) (A : Option Addr) (cap b B : Nat) (acc : List UInt8) (w : World)
    (hB : B ≤ b) (h0 : 4 < b) (h : Holds w b acc) (T : Nat) (hT : T = 2 + wd.length + (l.kidsText l.kids.length).length) (hl : acc.length + T ≤ 900000000000) (ht : Table w)
    (hk : ∀ i (hi : i < l.kids.length), ∃ b' x, A = some ⟨b', 0, none⟩ ∧ b' < B ∧ Three w b' (i * 3) x ∧ InLv w B l.kids[i] x)
    (ih : ∀ k (hk : k < l.kids.length) (v : Value) (acc' : List UInt8) (W : World), InLv W B l.kids[k] v → Holds W b acc' → acc'.length + (Lv.text l.kids[k]).length ≤ acc.length + T → Table W → Calls Tryz.prog 69 #[.pointer (some ⟨b, 0, none⟩), v] W fun e w' => e = .returned (.tuple #[]) ∧ Holds w' b (acc' ++ Lv.text l.kids[k]) ∧ Wrote b W w') :
    Calls Tryz.prog 69 #[.pointer (some ⟨b, 0, none⟩), .agg #[.int .i64 kd, .string ⟨#[]⟩, .slice A l.kids.length cap]] w fun e w' => e = .returned (.tuple #[]) ∧ Holds w' b (acc ++ ([40] ++ wd ++ l.kidsText l.kids.length ++ [41])) ∧ Wrote b w w' := by
  have hb := h.lt
  have h00 : 4 < w.heap.size := by omega
  have hk2 := l.kids_le
  have HKL := hide l.kidsText_le
  have HK := hide hk
  have IH := hide ih
  have HT := hide ht
  have t1 := ht.t1
  have t2 := ht.t2
  have t3 := ht.t3
  have H0 := hide (Step.alloc ⟨h, Wrote.refl b w⟩ (.cells #[.int .i64 kd, .string ⟨#[]⟩, .slice A l.kids.length cap] 94))
  have HX := hide (heap_alloc_new w (.cells #[.int .i64 kd, .string ⟨#[]⟩, .slice A l.kids.length cap] 94))
  clear hk ih h ht
  have hwl : wd.length ≤ 4 := by rcases hkd with ⟨_, rfl⟩ | ⟨_, rfl⟩ | ⟨_, rfl⟩ <;> decide
  rcases hkd with ⟨rfl, hwd⟩ | ⟨rfl, hwd⟩ | ⟨rfl, hwd⟩
  all_goals
    go_enter Tryz.func69, Tryz.ntmps69
    go_wp2_with (go_at_call 18; refine (step_byte 40 _ H0.out (by omega)).mono ?_)
    rintro e w1 ⟨rfl, H1⟩
    go_wp2_with (go_at_call 17; refine (step_string _ _ H1.out.1 (by simp; omega) (by decide)).mono ?_)
    intro e w2 he H2
    subst he
    have HX2 := hide (H2.out.2.box (H1.out.2.box HX.out (by omega)) (by omega))
    obtain ⟨g0, g1, g2⟩ := box_cells HX2.out
    have HS : Hid (Step w b (acc ++ [40] ++ wd ++ l.kidsText 0) w2) := by have h9 := H2.out.1; rw [hwd]; simpa [Hid, Lv.kidsText] using h9
    clear H0 H1 H2 hwd
    go_wp2_with fail
    go_loopg [28] (l.kids.length) (fun g i wr => ∃ k : Nat, k + g = l.kids.length ∧ i = .int .i64 k ∧ Hid (Step w b (acc ++ [40] ++ wd ++ l.kidsText k) wr))
    case atStart => exact ⟨0, by omega, rfl, HS⟩
    case round =>
      obtain ⟨k, hkg, rfl, HR⟩ := hrel
      have hlb := HR.out.holds.lt
      have hkl := HKL.out k (by omega)
      have hln : (acc ++ [40] ++ wd ++ l.kidsText k).length = acc.length + 1 + wd.length + (l.kidsText k).length := by simp only [List.length_append, List.length_singleton]
      by_cases hlt : k < l.kids.length
      · obtain ⟨b', x, rfl, hbB, h3, hin⟩ := HK.out k hlt
        obtain ⟨k', nm', A', n', cap', rfl, c0, c1, c2⟩ := h3
        have d0 := (HR.out.wrote.low.cell (p := ⟨b', k * 3, none⟩) (by show b' < b; omega)).trans c0
        have d1 := (HR.out.wrote.low.cell (p := ⟨b', k * 3 + 1, none⟩) (by show b' < b; omega)).trans c1
        have d2 := (HR.out.wrote.low.cell (p := ⟨b', k * 3 + 2, none⟩) (by show b' < b; omega)).trans c2
        have hbw : b' < wr.heap.size := by omega
        have HSn := hide (l.kidsText_snoc k hlt)
        have HA := hide (HR.out.alloc (.cells #[.int .i64 k', .string nm', .slice A' n' cap'] 94))
        have HX3 := hide (heap_alloc_new wr (.cells #[.int .i64 k', .string nm', .slice A' n' cap'] 94))
        have HI := hide hin
        clear c0 c1 c2 hin g0 g1 g2
        go_wp2_with (go_at_call 18; refine (step_byte 32 _ HA.out (by omega)).mono ?_)
        rintro e w3 ⟨rfl, H3⟩
        obtain ⟨p0, p1, p2⟩ := box_cells (H3.out.2.box HX3.out (by omega))
        have hln3 : (acc ++ [40] ++ wd ++ l.kidsText k ++ [32]).length + (Lv.text l.kids[k]).length ≤ acc.length + T := by
          have h1 := HKL.out (k + 1) (by omega)
          rw [HSn.out] at h1
          rw [List.length_append, hln]
          simp only [List.length_append, List.length_singleton] at h1 ⊢
          omega
        have HQ := hide (IH.out k hlt _ _ w3 (HI.out.below (H3.out.1.wrote.low.mono hB)) H3.out.1.holds hln3 (HT.out.below H3.out.1.wrote.low h0))
        clear d0 d1 d2 HA
        go_wp2_with (go_at_call 69; refine HQ.out.mono ?_)
        rintro e w4 ⟨rfl, hh, hw⟩
        have H4 := hide (H3.out.1.then hh hw)
        clear hh hw
        go_wp2_with fail
        go_roundg (l.kids.length - (k + 1))
        case measure => omega
        case rel => exact ⟨k + 1, by omega, by go_num, by rw [HSn.out]; simpa [List.append_assoc] using H4⟩
      · have hke : k = l.kids.length := by omega
        subst hke
        go_wp2_with (go_at_call 18; refine (step_byte 41 _ HR.out (by omega)).mono ?_)
        rintro e w3 ⟨rfl, H3⟩
        go_wp2_with fail
        go_end0
        exact ⟨rfl, by simpa [List.append_assoc] using H3.out.1.holds, H3.out.1.wrote⟩

theorem write_calls (N : Nat) : ∀ (l : LvB) (v : Value) (B b : Nat) (acc : List UInt8) (w : World), l.nodes ≤ N → B ≤ b → 4 < b → InLv w B l v → (∀ p, Lv.has p l → p.size ≤ 1000) → Holds w b acc → acc.length + l.text.length ≤ 900000000000 → Table w →
    Calls Tryz.prog 69 #[.pointer (some ⟨b, 0, none⟩), v] w fun e w' => e = .returned (.tuple #[]) ∧ Holds w' b (acc ++ l.text) ∧ Wrote b w w' := by
  induction N with
  | zero => intro l v B b acc w h; cases l <;> simp [Lv.nodes] at h
  | succ N ih =>
    intro l v B b acc w hN hB h0 hl hm hh hlen ht
    have hik : ∀ k (hk : k < l.kids.length) (v : Value) (acc' : List UInt8) (W : World), InLv W B l.kids[k] v → Holds W b acc' → acc'.length + (Lv.text l.kids[k]).length ≤ acc.length + l.text.length → Table W → Calls Tryz.prog 69 #[.pointer (some ⟨b, 0, none⟩), v] W fun e w' => e = .returned (.tuple #[]) ∧ Holds w' b (acc' ++ Lv.text l.kids[k]) ∧ Wrote b W w' := fun k hk v acc' W hin hho hln htb =>
      ih _ v B b acc' W (by have := Lv.kid_nodes hk; omega) hB h0 hin (fun p hp => hm p (Lv.kid_has hk hp)) hho (by omega) htb
    have hs := hl.shape
    have htx := l.text_kids
    cases l with
    | zero => have e : v = _ := hl; subst e; exact write_zero b acc w hh (by omega) ht
    | param p => have e : v = _ := hl; subst e; exact write_param b acc p w hh (by omega) (by have := hm p rfl; omega) ht
    | succ a =>
      obtain ⟨A, cap, rfl, hk⟩ := hs
      have htx' := htx (by simp [Lv.kind]) (by simp [Lv.kind])
      rw [htx'] at hik hlen ⊢
      exact write_node 1 [115] (.inl ⟨rfl, rfl⟩) (.succ a) A cap b B acc w hB h0 hh _ (by simp [Lv.word]; omega) hlen ht hk hik
    | max a c =>
      obtain ⟨A, cap, rfl, hk⟩ := hs
      have htx' := htx (by simp [Lv.kind]) (by simp [Lv.kind])
      rw [htx'] at hik hlen ⊢
      exact write_node 2 [109, 97, 120] (.inr (.inl ⟨rfl, rfl⟩)) (.max a c) A cap b B acc w hB h0 hh _ (by simp [Lv.word]; omega) hlen ht hk hik
    | imax a c =>
      obtain ⟨A, cap, rfl, hk⟩ := hs
      have htx' := htx (by simp [Lv.kind]) (by simp [Lv.kind])
      rw [htx'] at hik hlen ⊢
      exact write_node 3 [105, 109, 97, 120] (.inr (.inr ⟨rfl, rfl⟩)) (.imax a c) A cap b B acc w hB h0 hh _ (by simp [Lv.word]; omega) hlen ht hk hik

end Go.Proofs.YtjlibnijecdgcaaGreatDoor
