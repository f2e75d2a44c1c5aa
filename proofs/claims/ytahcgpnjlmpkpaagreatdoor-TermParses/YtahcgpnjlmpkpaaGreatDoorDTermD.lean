/- The contract of the document's term at a bracket: its levels, its parts, the whole. -/
import Derived.Test.YtahcgpnjlmpkpaaGreatDoorDTermB
namespace Go.Proofs.YtahcgpnjlmpkpaaGreatDoor
open Go.RowKit

theorem Row.nextq {W w5 w6 : World} {B n0 c n m q : Nat} {ks : List LvB} {l : LvB} {rv rv' : Value} {xs : List Value} {k : Int} {nm : ByteArray} {A : Option Addr} {cap : Nat} (h : Row W B n0 ks rv xs) (hB : B ≤ c) (hc : c < n0) (hnm : n0 ≤ m) (hm' : ∀ g, rv.ownBlock = some g → g < m)
    (hz : W.heap.size ≤ w5.heap.size) (hw : ∀ b, b < W.heap.size → b < B ∨ n0 ≤ b → w5.heap[b]? = W.heap[b]?) (hx : InP w5 (fun b => b < B ∨ m ≤ b) l (.agg #[.int .i64 k, .string nm, .slice A n cap]))
    (hown : w6.ownsRow n0 68 3 rv' (xs.length + 1) (flat xs ++ [.int .i64 k, .string nm, .slice A n cap])) (hgr : (w5.alloc (.cells #[.int .i64 k, .string nm, .slice A n cap] 68)).grownBy w6 rv.ownBlock)
    (hpl : rv'.ownBlock = rv.ownBlock ∨ rv'.ownBlock = some (w5.alloc (.cells #[.int .i64 k, .string nm, .slice A n cap] 68)).heap.size) (u : Value) :
    Row (w6.setCell ⟨c, q, none⟩ u) B n0 (ks ++ [l]) rv' (xs ++ [.agg #[.int .i64 k, .string nm, .slice A n cap]]) := by
  have hblock : ∀ b, b < w5.heap.size → rv.ownBlock ≠ some b → b ≠ c → (w6.setCell ⟨c, q, none⟩ u).heap[b]? = w5.heap[b]? := fun b hb hne hbc => by
    rw [Below.heap_setCell _ _ _ _ hbc, hgr.block b (by simp; omega) (fun e => hne e.symm)]
    exact Below.heap_alloc _ _ _ hb
  have hne' : ∀ b, b < w5.heap.size → rv.ownBlock ≠ some b → rv'.ownBlock ≠ some b := fun b hb hne => by
    rcases hpl with e | e
    · rw [e]; exact hne
    · rw [e]; simp; omega
  refine ⟨?_, fun e => by simp at e, by simp [h.len], fun j hj hj' => ?_⟩
  · have : flat (xs ++ [Value.agg #[.int .i64 k, .string nm, .slice A n cap]]) = flat xs ++ [.int .i64 k, .string nm, .slice A n cap] := by rw [flat_append]; simp [flat]
    rw [this, List.length_append, List.length_singleton]
    exact ownsRow_setCell_below hown (a := ⟨c, q, none⟩) hc _
  · by_cases hjx : j < xs.length
    · have hjk : j < ks.length := by rw [← h.len]; exact hjx
      rw [List.getElem_append_left hjx, List.getElem_append_left hjk]
      refine (h.parts j hjx hjk).keep fun b hb hS => ⟨⟨hS.1, hne' b (by omega) hS.2⟩, ?_⟩
      rw [hblock b (by omega) hS.2 (by rcases hS.1 with h1 | h1 <;> omega)]
      exact hw b hb hS.1
    · have e : j = xs.length := by simp at hj; omega
      subst e
      have hjk : ¬ xs.length < ks.length := by rw [h.len]; omega
      have e2 : (ks ++ [l])[xs.length] = l := by rw [List.getElem_append_right (by omega)]; simp
      rw [e2, List.getElem_append_right (Nat.le_refl _)]
      simp only [Nat.sub_self, List.getElem_cons_zero]
      refine hx.keep fun b hb hS => ?_
      have hne : rv.ownBlock ≠ some b := fun e => by
        have h1 := hm' b e
        have h2 := h.own.lt b e
        rcases hS with h3 | h3 <;> omega
      refine ⟨⟨hS.imp id fun h3 => by omega, hne' b hb hne⟩, hblock b hb hne (by rcases hS with h3 | h3 <;> omega)⟩


theorem InAbove.inP {w : World} {lo : Nat} : ∀ {l : LvB} {v : Value}, InAbove w lo l v → InP w (fun b => b < 0 ∨ lo ≤ b) l v
  | .zero, _, hl => hl
  | .param _, _, hl => hl
  | .succ a, _, ⟨b, cap, x, e, hb, h3, ha⟩ => ⟨b, cap, x, e, .inr hb, h3, InAbove.inP (l := a) ha⟩
  | .max a c, _, ⟨b, cap, x, y, e, hb, h3, h4, ha, hc⟩ => ⟨b, cap, x, y, e, .inr hb, h3, h4, InAbove.inP (l := a) ha, InAbove.inP (l := c) hc⟩
  | .imax a c, _, ⟨b, cap, x, y, e, hb, h3, h4, ha, hc⟩ => ⟨b, cap, x, y, e, .inr hb, h3, h4, InAbove.inP (l := a) ha, InAbove.inP (l := c) hc⟩

/-- While a constant's levels are read. -/
def Leveling (w : World) (rb : Nat) (s : ByteArray) (p c kd p3 : Nat) (nm : ByteArray) (g : Nat) (wr : World) : Prop :=
  ∃ (rv : Value) (xs : List Value) (pk ck ak : Nat), TVar 30 wr c kd 0 nm rv (.slice none 0 0) ∧ wr.ownsRow (c + 1) 68 3 rv xs.length (flat xs) ∧ (xs.length = 0 → rv = .slice none 0 0) ∧ RdAt wr rb s pk ck ak ∧ p3 ≤ pk ∧ pk ≤ s.size ∧ Touched (w.alloc ztm) rb wr ∧
    (ck = 0 → g = s.size - pk + 1 ∧ xs.length ≤ pk ∧ ∃ ls, Row wr 0 (c + 1) ls rv xs ∧ ReadsAll s ls p3 pk) ∧ (ck ≠ 0 → g = 0 ∧ ck = 1 ∧ ∃ d, FT s d p ak)

/-- A level more: behind the append and the store. -/
theorem Leveling.next {w W w5 w6 : World} {rb c kd p p3 pk ak p' c' a' g cap' n1 cap1 : Nat} {s : ByteArray} {nm : ByteArray} {rv : Value} {xs : List Value} {ls : List LvB} {k1 : Int} {nm1 : ByteArray} {A1 : Option Addr} (hrb : rb < w.heap.size) (hc : w.heap.size + 1 ≤ c)
    (hV : TVar 30 W c kd 0 nm rv (.slice none 0 0)) (hRow : Row W 0 (c + 1) ls rv xs) (hls : ReadsAll s ls p3 pk) (hlen : xs.length ≤ pk) (hp3 : p3 ≤ pk) (hT : Touched (w.alloc ztm) rb W)
    (hR5 : RdAt w5 rb s p' c' a') (hp : pk ≤ p') (hp' : p' ≤ s.size) (hT5 : Touched W rb w5)
    (him : c' = 0 → (0 : Nat) = 0 ∧ ∃ l : LvB, InAbove w5 W.heap.size l (.agg #[.int .i64 k1, .string nm1, .slice A1 n1 cap1]) ∧ l.nodes ≤ p' - pk ∧ Reads s l pk p') (hbad : c' ≠ 0 → ((0 : Nat) ≠ 0 ∧ c' = 0 ∧ a' = ak) ∨ ((0 : Nat) = 0 ∧ c' = 1 ∧ Fails s pk a')) (hft : ∀ a, Fails s pk a → ∃ d, FT s d p a)
    (hown : w6.ownsRow (c + 1) 68 3 (.slice (some ⟨g, 0, none⟩) (xs.length + 1) cap') (xs.length + 1) (flat xs ++ [.int .i64 k1, .string nm1, .slice A1 n1 cap1]))
    (hgr : (w5.alloc (.cells #[.int .i64 k1, .string nm1, .slice A1 n1 cap1] 68)).grownBy w6 rv.ownBlock)
    (hpl : (Value.slice (some ⟨g, 0, none⟩) (xs.length + 1) cap').ownBlock = rv.ownBlock ∨ (Value.slice (some ⟨g, 0, none⟩) (xs.length + 1) cap').ownBlock = some (w5.alloc (.cells #[.int .i64 k1, .string nm1, .slice A1 n1 cap1] 68)).heap.size) :
    ∃ g', g' < s.size - pk + 1 ∧ Leveling w rb s p c kd p3 nm g' (w6.setCell ⟨c, 3, none⟩ (.slice (some ⟨g, 0, none⟩) (xs.length + 1) cap')) := by
  have hcW := hV.lt
  have hz5 := hT5.size
  have hz6 := hgr.size
  have hrbW : rb < W.heap.size := by have := hT.size; simp at this; omega
  simp at hz6
  have hnorb : rv.ownBlock ≠ some rb := fun e => by have := (hRow.own.lt rb e).1; omega
  have hnoc : rv.ownBlock ≠ some c := fun e => by have := (hRow.own.lt c e).1; omega
  have hV6 : TVar 30 w6 c kd 0 nm rv (.slice none 0 0) := hV.of_block (by
    rw [hgr.block c (by simp; omega) (fun e => hnoc e.symm), Below.heap_alloc _ _ _ (by omega)]
    exact hT5.at hcW (by omega))
  have hR6 : RdAt (w6.setCell ⟨c, 3, none⟩ (.slice (some ⟨g, 0, none⟩) (xs.length + 1) cap')) rb s p' c' a' := ((hR5.alloc _).kept hgr (fun e => hnorb e.symm)).setOther (b := ⟨c, 3, none⟩) (by show c ≠ rb; omega) _
  have hT6 : Touched (w.alloc ztm) rb (w6.setCell ⟨c, 3, none⟩ (.slice (some ⟨g, 0, none⟩) (xs.length + 1) cap')) := by
    have hzT := hT.size
    simp at hzT
    refine ⟨hgr.os.trans (hT5.os.trans hT.os), hgr.tape.trans (hT5.tape.trans hT.tape), hgr.output.trans (hT5.output.trans hT.output), by simp [World.setCell]; omega, fun b hb hne => ?_⟩
    have hb' : b < w.heap.size + 1 := by simpa using hb
    rw [Below.heap_setCell _ _ _ _ (by show b ≠ c; omega), hgr.block b (by simp; omega) (fun e => by have := (hRow.own.lt _ e.symm).1; omega), Below.heap_alloc _ _ _ (by omega), hT5.block b (by omega) hne]
    exact hT.block b hb hne
  have hO6 : (w6.setCell ⟨c, 3, none⟩ (.slice (some ⟨g, 0, none⟩) (xs.length + 1) cap')).ownsRow (c + 1) 68 3 (.slice (some ⟨g, 0, none⟩) (xs.length + 1) cap') (xs ++ [Value.agg #[.int .i64 k1, .string nm1, .slice A1 n1 cap1]]).length (flat (xs ++ [Value.agg #[.int .i64 k1, .string nm1, .slice A1 n1 cap1]])) := by
    have : flat (xs ++ [Value.agg #[.int .i64 k1, .string nm1, .slice A1 n1 cap1]]) = flat xs ++ [.int .i64 k1, .string nm1, .slice A1 n1 cap1] := by rw [flat_append]; simp [flat]
    rw [this, List.length_append, List.length_singleton]
    exact ownsRow_setCell_below hown (a := ⟨c, 3, none⟩) (by show c < c + 1; omega) _
  by_cases h0 : c' = 0
  · subst h0
    obtain ⟨_, l, hl, hn, hr⟩ := him rfl
    have hnd := nodes_pos l
    refine ⟨s.size - p' + 1, by omega, _, xs ++ [Value.agg #[.int .i64 k1, .string nm1, .slice A1 n1 cap1]], p', 0, a', hV6.setL _, hO6, fun h => by simp at h, hR6, by omega, hp', hT6, fun _ => ⟨rfl, by simp; omega, ls ++ [l], ?_, hls.snoc hr⟩, fun h => absurd rfl h⟩
    exact hRow.nextq (q := 3) (c := c) (m := W.heap.size) (by omega) (by omega) (by omega) (fun g e => (hRow.own.lt g e).2) hz5 (fun b hb hS => hT5.at hb (by omega)) hl.inP hown hgr hpl _
  · rcases hbad h0 with ⟨h, _⟩ | ⟨_, h1, hf⟩
    · exact absurd rfl h
    · exact ⟨0, by omega, _, xs ++ [Value.agg #[.int .i64 k1, .string nm1, .slice A1 n1 cap1]], p', c', a', hV6.setL _, hO6, fun h => by simp at h, hR6, by omega, hp', hT6, fun h => absurd h h0, fun _ => ⟨rfl, h1, hft _ hf⟩⟩

theorem RdAt.same {w : World} {rb p p' c c' a a' : Nat} {s : ByteArray} (h : RdAt w rb s p c a) (h' : RdAt w rb s p' c' a') : p = p' ∧ c = c' ∧ a = a' := by
  have h1 := h.c1.symm.trans h'.c1
  have h2 := h.c2.symm.trans h'.c2
  have h3 := h.c3.symm.trans h'.c3
  simp at h1 h2 h3
  omega

/-- All levels have come. -/
theorem Leveling.done {w wr : World} {rb c kd p p2 p3 g : Nat} {s : ByteArray} {nm : ByteArray} (hL : Leveling w rb s p c kd p3 nm g wr) (h23 : p2 ≤ p3)
    (hlv : ∀ ls pk ak A lc, ReadsAll s ls p3 pk → RdAt wr rb s pk 0 ak → wr.cell? ⟨c, 3, none⟩ = some (.slice A ls.length lc) → NamePart s kd nm p2 p3 ∧ LvPart s kd ls p3 pk) : LvDone w rb s p c kd p2 wr := by
  obtain ⟨rv, xs, pk, ck, ak, hV, hO, hnil, hR, hp3, hpk, hT, h0, h1⟩ := hL
  by_cases hc : ck = 0
  · subst hc
    obtain ⟨_, _, ls, hRow, hls⟩ := h0 rfl
    obtain ⟨A, lc, rfl, hin⟩ := hRow.list
    obtain ⟨hn, hlp⟩ := hlv ls pk ak A lc hls hR hV.c3
    exact ⟨nm, A, ls.length, lc, pk, 0, ak, hV, hR, by omega, hpk, hT, fun _ => ⟨ls, p3, hn, hlp, rfl, hin.keep fun b hb hS => ⟨⟨hS, hb⟩, rfl⟩⟩, fun h => absurd rfl h⟩
  · obtain ⟨_, e1, hf⟩ := h1 hc
    obtain ⟨A, la, lc, rfl⟩ : ∃ A la lc, rv = .slice A la lc := by
      rcases hO.2 with ⟨e, _⟩ | ⟨g, cap, cur, e, _⟩
      · exact ⟨_, _, _, e⟩
      · exact ⟨_, _, _, e⟩
    exact ⟨nm, A, la, lc, pk, ck, ak, hV, hR, by omega, hpk, hT, fun h => absurd h hc, fun _ => ⟨e1, hf⟩⟩

/-- A part more: behind the append and the store. -/
theorem Parting.next {w wc W w5 w6 : World} {rb c kd p p4 pk ck ak p' c' a' g cap' n0 k c0 la lc ta tc : Nat} {s : ByteArray} {nm : ByteArray} {rv rv' : Value} {xs : List Value} {k1 m1 : Int} {nm1 : ByteArray} {A A' : Option Addr} (hrb : rb < w.heap.size) (hc : w.heap.size + 1 ≤ c) (hcn : c < n0)
    (hV : TVar 30 W c kd 0 nm rv rv') (hO : W.ownsRow n0 30 5 rv' xs.length (flat xs)) (hk : xs.length = k) (hp4 : p4 ≤ pk) (hT : Touched (w.alloc ztm) rb W) (hn0 : n0 ≤ W.heap.size) (hkeep : ∀ b, c + 1 ≤ b → b < n0 → W.heap[b]? = wc.heap[b]?)
    (h0 : ck = 0 → c0 = 0 ∧ ∃ d ts, TRow W 30 d n0 ts rv' xs ∧ Seq (RT s d) ts p4 pk) (h1 : ck ≠ 0 → ck = 1 ∧ ∃ d, FT s d p ak)
    (hR5 : RdAt w5 rb s p' c' a') (hp : pk ≤ p') (hp' : p' ≤ s.size) (hT5 : Touched W rb w5)
    (him : c' = 0 → ck = 0 ∧ pk < p' ∧ ∃ (d : Nat) (t : Tm), InTm w5 (fun b => W.heap.size ≤ b) d t (.agg #[.int .i64 k1, .int .i64 m1, .string nm1, .slice A la lc, .slice A' ta tc]) ∧ RT s d t pk p') (hbad : c' ≠ 0 → (ck ≠ 0 ∧ c' = ck ∧ a' = ak) ∨ (ck = 0 ∧ c' = 1 ∧ ∃ d, FT s d pk a'))
    (hft : ck = 0 → ∀ d a, FT s d pk a → ∃ d, FT s d p a)
    (hown : w6.ownsRow n0 30 5 (.slice (some ⟨g, 0, none⟩) (xs.length + 1) cap') (xs.length + 1) (flat xs ++ [.int .i64 k1, .int .i64 m1, .string nm1, .slice A la lc, .slice A' ta tc]))
    (hgr : (w5.alloc (.cells #[.int .i64 k1, .int .i64 m1, .string nm1, .slice A la lc, .slice A' ta tc] 30)).grownBy w6 rv'.ownBlock)
    (hpl : (Value.slice (some ⟨g, 0, none⟩) (xs.length + 1) cap').ownBlock = rv'.ownBlock ∨ (Value.slice (some ⟨g, 0, none⟩) (xs.length + 1) cap').ownBlock = some (w5.alloc (.cells #[.int .i64 k1, .int .i64 m1, .string nm1, .slice A la lc, .slice A' ta tc] 30)).heap.size) :
    Parting w wc rb s p c kd p4 n0 nm rv (k + 1) c0 (w6.setCell ⟨c, 4, none⟩ (.slice (some ⟨g, 0, none⟩) (xs.length + 1) cap')) := by
  have hcW := hV.lt
  have hz5 := hT5.size
  have hz6 := hgr.size
  have hrbW : rb < W.heap.size := by have := hT.size; simp at this; omega
  simp at hz6
  have hnob : ∀ b, b < n0 → rv'.ownBlock ≠ some b := fun b hb e => by have := (hO.lt b e).1; omega
  have hblk : ∀ b, b < n0 → b < W.heap.size → b ≠ rb → w6.heap[b]? = W.heap[b]? := fun b hb hbW hne => by
    rw [hgr.block b (by simp; omega) (fun e => hnob b hb e.symm), Below.heap_alloc _ _ _ (by omega)]
    exact hT5.at hbW hne
  have hV6 : TVar 30 w6 c kd 0 nm rv rv' := hV.of_block (hblk c hcn hcW (by omega))
  have hR6 : RdAt (w6.setCell ⟨c, 4, none⟩ (.slice (some ⟨g, 0, none⟩) (xs.length + 1) cap')) rb s p' c' a' := ((hR5.alloc _).kept hgr (fun e => hnob rb (by omega) e.symm)).setOther (b := ⟨c, 4, none⟩) (by show c ≠ rb; omega) _
  have hT6 : Touched (w.alloc ztm) rb (w6.setCell ⟨c, 4, none⟩ (.slice (some ⟨g, 0, none⟩) (xs.length + 1) cap')) := by
    have hzT := hT.size
    simp at hzT
    refine ⟨hgr.os.trans (hT5.os.trans hT.os), hgr.tape.trans (hT5.tape.trans hT.tape), hgr.output.trans (hT5.output.trans hT.output), by simp [World.setCell]; omega, fun b hb hne => ?_⟩
    have hb' : b < w.heap.size + 1 := by simpa using hb
    have hne' : b ≠ rb := by simpa using hne
    rw [Below.heap_setCell _ _ _ _ (by show b ≠ c; omega), hblk b (by omega) (by omega) hne']
    exact hT.block b hb hne
  have hO6 : (w6.setCell ⟨c, 4, none⟩ (.slice (some ⟨g, 0, none⟩) (xs.length + 1) cap')).ownsRow n0 30 5 (.slice (some ⟨g, 0, none⟩) (xs.length + 1) cap') (xs ++ [Value.agg #[.int .i64 k1, .int .i64 m1, .string nm1, .slice A la lc, .slice A' ta tc]]).length (flat (xs ++ [Value.agg #[.int .i64 k1, .int .i64 m1, .string nm1, .slice A la lc, .slice A' ta tc]])) := by
    have : flat (xs ++ [Value.agg #[.int .i64 k1, .int .i64 m1, .string nm1, .slice A la lc, .slice A' ta tc]]) = flat xs ++ [.int .i64 k1, .int .i64 m1, .string nm1, .slice A la lc, .slice A' ta tc] := by rw [flat_append]; simp [flat]
    rw [this, List.length_append, List.length_singleton]
    exact ownsRow_setCell_below hown (a := ⟨c, 4, none⟩) hcn _
  have hK6 : ∀ b, c + 1 ≤ b → b < n0 → (w6.setCell ⟨c, 4, none⟩ (.slice (some ⟨g, 0, none⟩) (xs.length + 1) cap')).heap[b]? = wc.heap[b]? := fun b hb1 hb2 => by
    rw [Below.heap_setCell _ _ _ _ (by show b ≠ c; omega), hblk b hb2 (by omega) (by omega)]
    exact hkeep b hb1 hb2
  have hz7 : n0 ≤ (w6.setCell ⟨c, 4, none⟩ (.slice (some ⟨g, 0, none⟩) (xs.length + 1) cap')).heap.size := by simp [World.setCell]; omega
  by_cases h0' : c' = 0
  · subst h0'
    obtain ⟨e0, hlt, d2, t, hin, hr⟩ := him rfl
    obtain ⟨e1, d1, ts, hRow, hSq⟩ := h0 e0
    refine ⟨_, xs ++ [Value.agg #[.int .i64 k1, .int .i64 m1, .string nm1, .slice A la lc, .slice A' ta tc]], p', 0, a', hV6.setA _, hO6, by simp [hk], hR6, by omega, hp', hT6, hz7, hK6, fun _ => ⟨e1, max d1 d2, ts ++ [t], ?_, (hSq.mono fun _ _ _ h => h.deeper (by omega)).snoc (hr.deeper (by omega))⟩, fun h => absurd rfl h⟩
    exact (hRow.deeper (by omega)).next (q := 4) (c := c) (m := W.heap.size) hcn hn0 (fun g e => (hRow.own.lt g e).2) hz5 (fun b hb hS => hT5.at hb (by omega)) (hin.deeper (by omega)) hown hgr hpl _
  · refine ⟨_, xs ++ [Value.agg #[.int .i64 k1, .int .i64 m1, .string nm1, .slice A la lc, .slice A' ta tc]], p', c', a', hV6.setA _, hO6, by simp [hk], hR6, by omega, hp', hT6, hz7, hK6, fun h => absurd h h0', fun _ => ?_⟩
    rcases hbad h0' with ⟨h, e1, e2⟩ | ⟨h, e1, d, hf⟩
    · rw [e1, e2]; exact h1 h
    · exact ⟨e1, hft h d _ hf⟩

end Go.Proofs.YtahcgpnjlmpkpaaGreatDoor

namespace Go.Proofs.YtahcgpnjlmpkpaaGreatDoor
open Go.RowKit

/-- A term that should stand among the parts does not. -/
theorem part_fails {s : ByteArray} {p p1 p2 p3 p4 pk kd d1 d a : Nat} {t1 nm : ByteArray} {ls : List LvB} {ts : List Tm} (hSg : SignAt s 40 p p1) (hWd : WordAt s t1 p1 p2) (hKd : TKind t1 kd) (hN : NamePart s kd nm p2 p3) (hL : LvPart s kd ls p3 p4) (hSq : Seq (RT s d1) ts p4 pk) (hlen : ts.length < tparts kd) (hf : FT s d pk a) : ∃ d, FT s d p a :=
  ⟨max d1 d + 1, .inr ⟨_, hSg, .inr ⟨_, _, _, hWd, hKd, .inr ⟨_, _, hN, .inr ⟨_, _, hL, ts, pk, hSq.mono fun _ _ _ h => h.deeper (by omega), .inl ⟨hlen, hf.deeper (by omega)⟩⟩⟩⟩⟩⟩

/-- The parts and the end have come. -/
theorem term_fin {w wc wr w7 : World} {rb p p1 p2 p4 c kd pk ck ak ck0 p' c' a' a la lc ta tc : Nat} {s t1 nm : ByteArray} {A A' : Option Addr} {xs : List Value} (hrb : rb < w.heap.size) (hc : w.heap.size + 1 ≤ c) (hp4 : p ≤ p4)
    (hSg : SignAt s 40 p p1) (hWd : WordAt s t1 p1 p2) (hKd : TKind t1 kd)
    (hl : ck0 = 0 → ∃ ls p3, NamePart s kd nm p2 p3 ∧ LvPart s kd ls p3 p4 ∧ la = ls.length ∧ LvsIn wc (fun b => c + 1 ≤ b ∧ b < wc.heap.size) A ls)
    (hxl : xs.length = tparts kd) (hcw : c < wc.heap.size) (hpk : p4 ≤ pk) (hT : Touched (w.alloc ztm) rb wr) (hn0 : wc.heap.size ≤ wr.heap.size) (hkeep : ∀ b, c + 1 ≤ b → b < wc.heap.size → wr.heap[b]? = wc.heap[b]?)
    (h0 : ck = 0 → ck0 = 0 ∧ ∃ d ts, TRow wr 30 d wc.heap.size ts (.slice A' ta tc) xs ∧ Seq (RT s d) ts p4 pk) (h1 : ck ≠ 0 → ck = 1 ∧ ∃ d, FT s d p ak)
    (hR7 : RdAt w7 rb s p' c' a') (hp : pk ≤ p') (hp' : p' ≤ s.size) (hT7 : Touched wr rb w7) (him : c' = 0 → ck = 0 ∧ pk < p' ∧ SignAt s 41 pk p')
    (hbad : c' ≠ 0 → (ck ≠ 0 ∧ c' = ck ∧ a' = ak) ∨ (ck = 0 ∧ c' = 1 ∧ a' = runTo blankB s pk ∧ (tok s pk).t ≠ ⟨#[41]⟩)) :
    TermPost w rb s p 0 a (.returned (.agg #[.int .i64 kd, .int .i64 0, .string nm, .slice A la lc, .slice A' ta tc]))
      (((((w7.setCell ⟨w.heap.size, 0, none⟩ (.int .i64 kd)).setCell ⟨w.heap.size, 1, none⟩ (.int .i64 0)).setCell ⟨w.heap.size, 2, none⟩ (.string nm)).setCell ⟨w.heap.size, 3, none⟩ (.slice A la lc)).setCell ⟨w.heap.size, 4, none⟩ (.slice A' ta tc)) := by
  have hTw : Touched w rb w7 := ((Touched.alloc w rb ztm).trans hT).trans hT7
  have hf := filled5 hrb hR7 hTw (.int .i64 kd) (.int .i64 0) (.string nm) (.slice A la lc) (.slice A' ta tc)
  have hblk : ∀ b, b ≠ w.heap.size → b ≠ rb → b < wr.heap.size → (((((w7.setCell ⟨w.heap.size, 0, none⟩ (.int .i64 kd)).setCell ⟨w.heap.size, 1, none⟩ (.int .i64 0)).setCell ⟨w.heap.size, 2, none⟩ (.string nm)).setCell ⟨w.heap.size, 3, none⟩ (.slice A la lc)).setCell ⟨w.heap.size, 4, none⟩ (.slice A' ta tc)).heap[b]? = wr.heap[b]? := fun b h1 h2 h3 => by
    rw [Below.heap_setCell _ _ _ _ (by show b ≠ w.heap.size; exact h1), Below.heap_setCell _ _ _ _ (by show b ≠ w.heap.size; exact h1), Below.heap_setCell _ _ _ _ (by show b ≠ w.heap.size; exact h1), Below.heap_setCell _ _ _ _ (by show b ≠ w.heap.size; exact h1), Below.heap_setCell _ _ _ _ (by show b ≠ w.heap.size; exact h1)]
    exact hT7.at h3 h2
  refine ⟨kd, 0, nm, A, la, lc, A', ta, tc, p', c', a', rfl, hf.1, by omega, hp', hf.2, fun hz => ?_, fun hz => ?_⟩
  · obtain ⟨e0, hlt, hS⟩ := him hz
    obtain ⟨e1, d, ts, hRow, hSq⟩ := h0 e0
    obtain ⟨ls, p3, hN, hL, hla, hLs⟩ := hl e1
    have hlen : ts.length = tparts kd := by rw [← hRow.len]; exact hxl
    refine ⟨rfl, by omega, d + 1, .node kd 0 nm ls ts, ?_, .inr ⟨_, _, _, _, _, t1, hSg, hWd, hKd, rfl, hN, hL, hSq, hlen, hS⟩⟩
    obtain ⟨A1, c1, e, hparts⟩ := hRow.made
    cases e
    refine ⟨A, lc, A', tc, by rw [hla]; rfl, ?_, fun i hi => ?_⟩
    · refine hLs.keep fun b hb hb2 => ⟨by show w.heap.size ≤ b; omega, ?_⟩
      rw [hblk b (by omega) (by omega) (by omega)]
      exact hkeep b hb2.1 hb2.2
    · obtain ⟨b, x, hA, hb, hF, hI⟩ := hparts i hi
      refine ⟨b, x, hA, by show w.heap.size ≤ b; omega, hF.of_block (hblk b (by omega) (by omega) hF.lt), hI.keep fun b hb hb2 => ⟨by show w.heap.size ≤ b; omega, hblk b (by omega) (by omega) hb⟩⟩
  · rcases hbad hz with ⟨h, e1, e2⟩ | ⟨h, e1, e2, htk⟩
    · obtain ⟨e3, hd⟩ := h1 h
      exact .inr ⟨rfl, by omega, by rw [e2]; exact hd⟩
    · obtain ⟨e3, d, ts, hRow, hSq⟩ := h0 h
      obtain ⟨ls, p3, hN, hL, hla, hLs⟩ := hl e3
      have hlen : ts.length = tparts kd := by rw [← hRow.len]; exact hxl
      exact .inr ⟨rfl, e1, d + 1, .inr ⟨_, hSg, .inr ⟨_, _, _, hWd, hKd, .inr ⟨_, _, hN, .inr ⟨_, _, hL, ts, pk, hSq, .inr ⟨hlen, htk, e2⟩⟩⟩⟩⟩⟩

end Go.Proofs.YtahcgpnjlmpkpaaGreatDoor

namespace Go.Proofs.YtahcgpnjlmpkpaaGreatDoor
open Go.RowKit

theorem dlitSame_pos {l : List UInt8} {t : ByteArray} (h : t = ⟨l.toArray⟩) : (l == t.toList) = true := by rw [dlitSame]; simp [h]

/-- Whether a word is the table's i-th. -/
theorem word_flags {q : ByteArray} {kd : Nat} (h : TKind q kd) :
    ([115, 111, 114, 116] == q.toList) = decide (kd = 1) ∧ ([99, 111, 110, 115, 116] == q.toList) = decide (kd = 2) ∧ ([97, 112, 112] == q.toList) = decide (kd = 3) ∧ ([108, 97, 109] == q.toList) = decide (kd = 4) ∧ ([112, 105] == q.toList) = decide (kd = 5) ∧ ([108, 101, 116] == q.toList) = decide (kd = 6) := by
  rcases h with ⟨rfl, rfl⟩ | ⟨rfl, rfl⟩ | ⟨rfl, rfl⟩ | ⟨rfl, rfl⟩ | ⟨rfl, rfl⟩ | ⟨rfl, rfl⟩ <;> decide +kernel

set_option maxRecDepth 100000 in
set_option maxHeartbeats 16000000 in
theorem term_brack (N rb : Nat) (s : ByteArray) (p a wb wo wc0 : Nat) (w : World) (hs : s.size ≤ 20000) (hp : p ≤ s.size) (h : RdAt w rb s p 0 a) (hw : WordsAt w wb wo wc0) (hr0 : rb ≠ 0) (hr1 : rb ≠ wb) (ht : (tok s p).t = ⟨#[40]⟩)
    (kd : Nat) (hk : TKind (tok s ((tok s p).at_ + 1)).t kd) (hN : s.size - p < N + 1)
    (ih : ∀ (p code a : Nat) (w : World), s.size - p < N → p ≤ s.size → RdAt w rb s p code a → WordsAt w wb wo wc0 → Calls Tryz.prog 11 #[.pointer (some ⟨rb, 0, none⟩)] w fun e w' => TermPost w rb s p code a e w') :
    Calls Tryz.prog 11 #[.pointer (some ⟨rb, 0, none⟩)] w fun e w' => TermPost w rb s p 0 a e w' := by
  have hal := h.alloc ztm
  have hrb := h.lt
  have HT := hide (token_calls s p rb _ hs hp hal.c0 hal.c1)
  obtain ⟨k1, k2, k3, k4⟩ := tok_facts hp
  have hok : (tok s p).ok = true := by
    cases e : (tok s p).ok
    · exact absurd (k4 e) (by rw [ht]; intro e; cases e)
    · rfl
  have HX := hide (next_calls rb s p a _ hs hp hal (by rw [ht]; intro e; cases e))
  rw [hok, ht] at HT
  rw [ht] at k2 HX
  have k2' : (tok s p).at_ + 1 ≤ s.size := k2
  have HX2 : Hid (Calls Tryz.prog 23 #[.pointer (some ⟨rb, 0, none⟩)] (w.alloc ztm) fun e w' => e = .returned (.string ⟨#[40]⟩) ∧ RdAt w' rb s ((tok s p).at_ + 1) 0 a ∧ Touched (w.alloc ztm) rb w') := HX.out
  have c2 := h.c2
  obtain ⟨j1, j2, j3, j4⟩ := tok_facts k2'
  have hnm1 : isNameB (tok s ((tok s p).at_ + 1)).t = true := by
    rcases hk with ⟨e, _⟩ | ⟨e, _⟩ | ⟨e, _⟩ | ⟨e, _⟩ | ⟨e, _⟩ | ⟨e, _⟩ <;> rw [e] <;> decide
  have hne1 := isNameB_ne hnm1
  have hps1 := size_pos hne1
  have HT2 := hide (fun W (hW : RdAt W rb s ((tok s p).at_ + 1) 0 a) => token_calls s ((tok s p).at_ + 1) rb W hs k2' hW.c0 hW.c1)
  have HX4 := hide (fun W (hW : RdAt W rb s ((tok s p).at_ + 1) 0 a) => next_calls rb s ((tok s p).at_ + 1) a W hs k2' hW hne1)
  have HSg := hide (tok_open hp ht)
  have HWd := hide (tok_word k2' hnm1)
  have HKd := hide hk
  have hpos := hk.pos
  have HFl := hide (word_flags hk)
  have HWs := hide (hw.touched (Touched.alloc w rb ztm) hr0 hr1)
  have HI := hide ih
  clear h hal k2 k3 k4 ht HX j3 j4 hnm1 hne1 hk hw ih hok
  generalize hp2 : (tok s ((tok s p).at_ + 1)).at_ + (tok s ((tok s p).at_ + 1)).t.size = p2 at *
  have hp2lt : p + 2 ≤ p2 := by omega
  have hp2' : p2 ≤ s.size := j2
  clear hp2 j1 j2 hps1
  generalize (tok s ((tok s p).at_ + 1)).t = t1 at *
  generalize (tok s ((tok s p).at_ + 1)).at_ = jj at *
  generalize (tok s ((tok s p).at_ + 1)).ok = o1 at *
  generalize (tok s p).at_ = k at *
  obtain ⟨i0, hi, hq0, hq1, hq2⟩ := infoParts Tryz.info68'
  obtain ⟨i5, hj, hy0, hy1, hy2⟩ := infoParts Tryz.info30'
  go_enter Tryz.func11, Tryz.ntmps11
  go_wp2_with (first
    | (go_at_call 21; refine HT.out.mono ?_; rintro e w' ⟨rfl, rfl⟩)
    | (go_at_call 23; refine HX2.out.mono ?_))
  rintro e w1 ⟨rfl, hr, ht⟩
  have HR := hide hr
  have HTo := hide ht
  have HWs1 := hide (HWs.out.touched ht hr0 hr1)
  clear hr ht HX2 HT
  go_upto_block 0 with (go_at_call 21; refine (HT2.out _ HR.out).mono ?_; rintro e w2 ⟨rfl, rfl⟩)
  go_cut [9] (fun v wx => v = .int .i64 kd ∧ wx = w2)
  case first =>
    obtain ⟨v0, v1, v2, v3, v4, v5, v6⟩ := HWs1.out
    have hfl := HFl.out
    have hkk : kd = 1 ∨ kd = 2 ∨ kd = 3 ∨ kd = 4 ∨ kd = 5 ∨ kd = 6 := by omega
    clear HI HKd HSg HWd hi hj hq0 hq1 hq2 hy0 hy1 hy2
    rcases hkk with rfl | rfl | rfl | rfl | rfl | rfl
    · have y1 : ([115, 111, 114, 116] == t1.toList) = true := hfl.1
      have y2 : ([99, 111, 110, 115, 116] == t1.toList) = false := hfl.2.1
      have y3 : ([97, 112, 112] == t1.toList) = false := hfl.2.2.1
      have y4 : ([108, 97, 109] == t1.toList) = false := hfl.2.2.2.1
      have y5 : ([112, 105] == t1.toList) = false := hfl.2.2.2.2.1
      have y6 : ([108, 101, 116] == t1.toList) = false := hfl.2.2.2.2.2
      clear hfl
      go_wp2_with fail
      refine wp_loop_rounds 7 ?_
      iterate 6
        rw [rounds_succ]
        go_wp2_with fail
      rw [rounds_succ]
      go_wp2_with fail
      go_meet
      case rel => exact ⟨rfl, rfl⟩
    · have y1 : ([115, 111, 114, 116] == t1.toList) = false := hfl.1
      have y2 : ([99, 111, 110, 115, 116] == t1.toList) = true := hfl.2.1
      have y3 : ([97, 112, 112] == t1.toList) = false := hfl.2.2.1
      have y4 : ([108, 97, 109] == t1.toList) = false := hfl.2.2.2.1
      have y5 : ([112, 105] == t1.toList) = false := hfl.2.2.2.2.1
      have y6 : ([108, 101, 116] == t1.toList) = false := hfl.2.2.2.2.2
      clear hfl
      go_wp2_with fail
      refine wp_loop_rounds 7 ?_
      iterate 6
        rw [rounds_succ]
        go_wp2_with fail
      rw [rounds_succ]
      go_wp2_with fail
      go_meet
      case rel => exact ⟨rfl, rfl⟩
    · have y1 : ([115, 111, 114, 116] == t1.toList) = false := hfl.1
      have y2 : ([99, 111, 110, 115, 116] == t1.toList) = false := hfl.2.1
      have y3 : ([97, 112, 112] == t1.toList) = true := hfl.2.2.1
      have y4 : ([108, 97, 109] == t1.toList) = false := hfl.2.2.2.1
      have y5 : ([112, 105] == t1.toList) = false := hfl.2.2.2.2.1
      have y6 : ([108, 101, 116] == t1.toList) = false := hfl.2.2.2.2.2
      clear hfl
      go_wp2_with fail
      refine wp_loop_rounds 7 ?_
      iterate 6
        rw [rounds_succ]
        go_wp2_with fail
      rw [rounds_succ]
      go_wp2_with fail
      go_meet
      case rel => exact ⟨rfl, rfl⟩
    · have y1 : ([115, 111, 114, 116] == t1.toList) = false := hfl.1
      have y2 : ([99, 111, 110, 115, 116] == t1.toList) = false := hfl.2.1
      have y3 : ([97, 112, 112] == t1.toList) = false := hfl.2.2.1
      have y4 : ([108, 97, 109] == t1.toList) = true := hfl.2.2.2.1
      have y5 : ([112, 105] == t1.toList) = false := hfl.2.2.2.2.1
      have y6 : ([108, 101, 116] == t1.toList) = false := hfl.2.2.2.2.2
      clear hfl
      go_wp2_with fail
      refine wp_loop_rounds 7 ?_
      iterate 6
        rw [rounds_succ]
        go_wp2_with fail
      rw [rounds_succ]
      go_wp2_with fail
      go_meet
      case rel => exact ⟨rfl, rfl⟩
    · have y1 : ([115, 111, 114, 116] == t1.toList) = false := hfl.1
      have y2 : ([99, 111, 110, 115, 116] == t1.toList) = false := hfl.2.1
      have y3 : ([97, 112, 112] == t1.toList) = false := hfl.2.2.1
      have y4 : ([108, 97, 109] == t1.toList) = false := hfl.2.2.2.1
      have y5 : ([112, 105] == t1.toList) = true := hfl.2.2.2.2.1
      have y6 : ([108, 101, 116] == t1.toList) = false := hfl.2.2.2.2.2
      clear hfl
      go_wp2_with fail
      refine wp_loop_rounds 7 ?_
      iterate 6
        rw [rounds_succ]
        go_wp2_with fail
      rw [rounds_succ]
      go_wp2_with fail
      go_meet
      case rel => exact ⟨rfl, rfl⟩
    · have y1 : ([115, 111, 114, 116] == t1.toList) = false := hfl.1
      have y2 : ([99, 111, 110, 115, 116] == t1.toList) = false := hfl.2.1
      have y3 : ([97, 112, 112] == t1.toList) = false := hfl.2.2.1
      have y4 : ([108, 97, 109] == t1.toList) = false := hfl.2.2.2.1
      have y5 : ([112, 105] == t1.toList) = false := hfl.2.2.2.2.1
      have y6 : ([108, 101, 116] == t1.toList) = true := hfl.2.2.2.2.2
      clear hfl
      go_wp2_with fail
      refine wp_loop_rounds 7 ?_
      iterate 6
        rw [rounds_succ]
        go_wp2_with fail
      rw [rounds_succ]
      go_wp2_with fail
      go_meet
      case rel => exact ⟨rfl, rfl⟩
  case rest =>
    obtain ⟨rfl, rfl⟩ := hcut
    have e0 : ((kd : Int) == 0) = false := by simp; omega
    go_wp2_with (go_at_call 23; refine (HX4.out _ HR.out).mono ?_)
    rintro e w3 ⟨rfl, hr3, ht3⟩
    have hz3 := ht3.size
    have HR3 := hide hr3
    have hT3 := HTo.out.trans ht3
    have hz1 := hT3.size
    simp at hz1
    have HT3 := hide hT3
    have HWs3 := hide (HWs1.out.touched ht3 hr0 hr1)
    have HV4 : Hid (TVar 30 (w3.alloc (.cells #[.int .i64 kd, .int .i64 0, .string ⟨#[]⟩, .slice none 0 0, .slice none 0 0] 30)) w3.heap.size kd 0 ⟨#[]⟩ (.slice none 0 0) (.slice none 0 0)) := by
      unfold Hid TVar; exact heap_alloc_new w3 _
    have HR4 := hide (hr3.alloc (.cells #[.int .i64 kd, .int .i64 0, .string ⟨#[]⟩, .slice none 0 0, .slice none 0 0] 30))
    have HT4 := hide (hT3.trans (Touched.alloc w3 rb (.cells #[.int .i64 kd, .int .i64 0, .string ⟨#[]⟩, .slice none 0 0, .slice none 0 0] 30)))
    clear hr3 ht3 hT3 HX4 HT2
    go_upto_block 2 with fail
    generalize hW4 : w3.alloc (.cells #[.int .i64 kd, .int .i64 0, .string ⟨#[]⟩, .slice none 0 0, .slice none 0 0] 30) = W4 at *
    have hz4 : W4.heap.size = w3.heap.size + 1 := by rw [← hW4]; simp
    clear hW4
    have hc1 : w.heap.size + 1 ≤ w3.heap.size := hz1
    generalize hcc : w3.heap.size = c at *
    have HCut : Hid (∀ nm p3 ls pk, NamePart s kd nm p2 p3 → LvOpen s kd ls p3 pk → ∀ a, Fails s pk a → ∃ d, FT s d p a) := fun nm p3 ls pk h1 h2 a h3 => ⟨1, .inr ⟨_, HSg.out, .inr ⟨t1, kd, p2, HWd.out, HKd.out, .inr ⟨nm, p3, h1, .inl ⟨ls, pk, h2, h3⟩⟩⟩⟩⟩
    go_cut [12] (fun v wx => v = .int .i64 (tparts kd : Nat) ∧ LvDone w rb s p c kd p2 wx)
    case first =>
      have hkk2 : kd = 1 ∨ kd = 2 ∨ kd = 3 ∨ kd = 4 ∨ kd = 5 ∨ kd = 6 := by omega
      clear HI hj hy0 hy1 hy2
      rcases hkk2 with rfl | rfl | rfl | rfl | rfl | rfl
      · have q3 := HV4.out.c3
        have q4 := HV4.out.f 3
        have hltW : c < W4.heap.size := by omega
        go_wp2_with fail
        go_region_law (first
          | (refine step_call (args := #[.pointer (some ⟨rb, 0, none⟩)]) (rb := rb) (s := s) (p := p2) (code := 0) (a0 := a) rfl ?_ ?_ ?_
             · simp [go_sem]
             · exact level_calls rb s hs (s.size + 1) p2 0 a _ (by omega) hp2' HR4.out
             intro k1' nm1 A1 n1 cap1 w5 p5 c5 a5 hr5 hp5 hp5' ht5 himp hbad5
             replace ht5 := Touched.undrew ht5
             have hV5 := HV4.out.of_block (ht5.at hltW (by omega))
             have v3 := hV5.c3
             have v4 := hV5.f 3
             have hz5 := ht5.size
             have hlt5 : c < w5.heap.size := by omega
             have HV5 := hide hV5
             have HR5 := hide hr5
             have HT5 : Hid (Touched W4 rb w5) := ht5
             have HIm := hide himp
             have HBm := hide hbad5
             clear hr5 ht5 himp hbad5 hV5)
          | (refine step_append_own rfl (.tmp 87) (.tmp 90) 27 rfl (c + 1) 68 i0 _ 3 48 Tryz.underlying27 hi hq0 hq1 hq2 rfl (by decide) (.slice none 0 0) ([] : List Value).length (flat []) ?_ (World.ownsRow_nil _ _ _ _) ⟨w5.heap.size, 0, none⟩ 1 1 [.int .i64 k1', .string nm1, .slice A1 n1 cap1] ?_ rfl ?_ ?_ (by decide) (by unfold maxLen; simp) (by simp) ?_ ?_
             · rfl
             · rfl
             · exact three_new _ _ _ _ _
             · intro u hu; simp at hu; rcases hu with rfl | rfl | rfl <;> rfl
             · show c + 1 ≤ (w5.alloc _).heap.size; simp; omega
             intro v' w6 hown6 hgr6 hpl6
             obtain ⟨g, cap', rfl, hgb⟩ := shape_row hown6 (by omega)
             have hV6 := (HV5.out.alloc (.cells #[.int .i64 k1', .string nm1, .slice A1 n1 cap1] 68)).of_block (hgr6.block c (by simp; omega) (by simp [Value.ownBlock]))
             have u3 := hV6.c3
             have u4 := hV6.f 3
             have HV6 := hide hV6
             have HO6 := hide hown6
             have HG6 := hide hgr6
             have HP6 := hide hpl6
             clear hown6 hgr6 hpl6 hV6))
        all_goals
          go_wp2_with fail
          go_meet
          case rel =>
            refine ⟨rfl, ?_⟩
            obtain ⟨g', _, hL⟩ := Leveling.next (w := w) (W := W4) (kd := 1) (nm := ⟨#[]⟩) (p3 := p2) (pk := p2) (ak := a) (ls := []) (xs := []) hrb hc1 HV4.out (Row.start _ _ _) rfl (Nat.zero_le _) (Nat.le_refl _) HT4.out HR5.out hp5 hp5' HT5.out (fun h => ⟨rfl, (HIm.out h).2⟩) (fun h => by have h' := HBm.out h; revert h'; simp) (fun a hf => HCut.out ⟨#[]⟩ p2 [] p2 (.inr ⟨by decide, rfl, rfl⟩) (.inl ⟨rfl, rfl, rfl⟩) a hf) HO6.out HG6.out HP6.out
            refine hL.done (Nat.le_refl _) (fun ls pk ak A lc hls hR hcell => ⟨.inr ⟨by decide, rfl, rfl⟩, .inl ⟨rfl, ?_⟩⟩)
            have h3 := (HV6.out.setL (.slice (some ⟨g, 0, none⟩) (([] : List Value).length + 1) cap')).c3
            have h4 := h3.symm.trans hcell
            simp at h4
            match ls, h4, hls with
            | [l], _, ⟨x, hr, e⟩ => exact ⟨l, rfl, by rw [show pk = x from e]; exact hr⟩
            | [], h4, _ => simp at h4
            | _ :: _ :: _, h4, _ => simp at h4
      · have hltW : c < W4.heap.size := by omega
        have v2 := HV4.out.c2
        have v2f := HV4.out.f 2
        by_cases hnm : isNameB (tok s p2).t = true
        · obtain ⟨m1, m2, m3, m4⟩ := tok_facts hp2'
          have KN := hide (name_good rb s p2 a W4 hs hp2' HR4.out hnm)
          have HNP : Hid (NamePart s 2 (tok s p2).t p2 ((tok s p2).at_ + (tok s p2).t.size)) := .inl ⟨rfl, tok_word hp2' hnm⟩
          clear hnm m3 m4
          generalize hp3 : (tok s p2).at_ + (tok s p2).t.size = p3 at *
          have hp23 : p2 ≤ p3 := by omega
          have hp3' : p3 ≤ s.size := m2
          clear hp3 m1 m2
          generalize (tok s p2).t = nm at *
          go_wp2_with (go_at_call 26; refine KN.out.mono ?_)
          intro e w5 he hr5 ht5
          subst he
          have hz5 := ht5.size
          have hV5 := HV4.out.of_block (ht5.at hltW (by omega))
          have x2 := hV5.c2
          have x2f := hV5.f 2
          have hlt5 : c < w5.heap.size := by omega
          have HLs : Hid (Leveling w rb s p c 2 p3 nm (s.size - p3 + 1) (w5.setCell ⟨c, 2, none⟩ (.string nm))) :=
            ⟨.slice none 0 0, [], p3, 0, a, hV5.setName nm, World.ownsRow_nil _ _ _ _, fun _ => rfl, hr5.setOther (b := ⟨c, 2, none⟩) (by show c ≠ rb; omega) _, Nat.le_refl _, hp3', (HT4.out.trans ht5).setNew (a := ⟨c, 2, none⟩) (by simp; omega) _, fun _ => ⟨rfl, Nat.zero_le _, [], Row.start _ _ _, rfl⟩, fun h => absurd rfl h⟩
          clear hr5 ht5 hV5 v2 v2f
          go_wp2_with fail
          go_loopg [] (s.size - p3 + 1) (fun g wr => Hid (Leveling w rb s p c 2 p3 nm g wr))
          case atStart => exact HLs.out
          case round =>
            clear x2 x2f
            obtain ⟨rv, xs, pk, ck, ak, hV, hO, hnil, hR, h1, h2, hT, hg0, hg1⟩ := hrel.out
            have y2 := hR.c2
            have hcl := hV.lt
            by_cases hck : ck = 0
            · subst hck
              obtain ⟨rfl, hxl, ls, hRow, hls⟩ := hg0 rfl
              have KP := hide (peek_calls rb s pk ak wr hs h2 hR)
              by_cases htk : (tok s pk).t = ⟨#[41]⟩
              · rw [htk] at KP
                have HLd := hide (hrel.out.done hp23 (fun ls' pk' ak' A lc hls' hR' _ => ⟨HNP.out, .inr (.inl ⟨rfl, hls', by rw [(hR'.same hR).1]; exact htk⟩)⟩))
                clear hV hO hnil hR hT hg0 hg1 hRow hls htk
                go_wp2_with (go_at_call 27; refine KP.out.mono ?_; rintro e w6 ⟨rfl, rfl⟩)
                go_meet
                case rel => exact ⟨rfl, HLd.out⟩
              · have z1 := sameLit_neg (l := [41]) htk
                have HV := hide hV
                have HRow := hide hRow
                have HR' := hide hR
                have HT' := hide hT
                have HLs' := hide hls
                have HTk := hide htk
                obtain ⟨ao, nn, cc, rfl⟩ : ∃ ao nn cc, rv = .slice ao nn cc := by
                  rcases hO.2 with ⟨e, _⟩ | ⟨g, cap, cur, e, _⟩
                  · exact ⟨_, _, _, e⟩
                  · exact ⟨_, _, _, e⟩
                have q3 := hV.c3
                have q3f := hV.f 3
                generalize htt : (tok s pk).t = tt at KP z1
                clear hV hO hnil hR hT hg0 hg1 hRow hls htk htt hrel HLs
                go_wp2_with (go_at_call 27; refine KP.out.mono ?_; rintro e w6 ⟨rfl, rfl⟩)
                go_region_law (first
                  | (refine step_call (args := #[.pointer (some ⟨rb, 0, none⟩)]) (rb := rb) (s := s) (p := pk) (code := 0) (a0 := ak) rfl ?_ ?_ ?_
                     · simp [go_sem]
                     · exact level_calls rb s hs (s.size + 1) pk 0 ak _ (by omega) h2 HR'.out
                     intro k1' nm1 A1 n1 cap1 w7 p5 c5 a5 hr5 hp5 hp5' ht5 himp hbad5
                     replace ht5 := Touched.undrew ht5
                     have hV5 := HV.out.of_block (ht5.at hcl (by omega))
                     have v3 := hV5.c3
                     have v4 := hV5.f 3
                     have hz7 := ht5.size
                     have hlt7 : c < w7.heap.size := by omega
                     have HV5 := hide hV5
                     have HR5 := hide hr5
                     have HT5 := hide ht5
                     have HO5 := hide (HRow.out.own.kept (row := some rb) ht5 (.inr (fun e => by have := (HRow.out.own.lt rb e).1; omega)))
                     have HIm := hide himp
                     have HBm := hide hbad5
                     clear hr5 ht5 himp hbad5 hV5)
                  | (refine step_append_own rfl (.tmp 110) (.tmp 113) 27 rfl (c + 1) 68 i0 _ 3 48 Tryz.underlying27 hi hq0 hq1 hq2 rfl (by decide) (.slice ao nn cc) xs.length (flat xs) ?_ (HO5.out.alloc _) ⟨w7.heap.size, 0, none⟩ 1 1 [.int .i64 k1', .string nm1, .slice A1 n1 cap1] ?_ rfl ?_ ?_ (by decide) (by unfold maxLen; omega) (by omega) ?_ ?_
                     · rfl
                     · rfl
                     · exact three_new _ _ _ _ _
                     · intro u hu; simp at hu; rcases hu with rfl | rfl | rfl <;> rfl
                     · show c + 1 ≤ (w7.alloc _).heap.size; simp; omega
                     intro v' w8 hown6 hgr6 hpl6
                     obtain ⟨g, cap', rfl, hgb⟩ := shape_row hown6 (by omega)
                     have hV6 := (HV5.out.alloc (.cells #[.int .i64 k1', .string nm1, .slice A1 n1 cap1] 68)).of_block (hgr6.block c (by simp; omega) (fun e => by have := (HRow.out.own.lt _ e.symm).1; omega))
                     have u3 := hV6.c3
                     have u4 := hV6.f 3
                     have HV6 := hide hV6
                     have HO6 := hide hown6
                     have HG6 := hide hgr6
                     have HP6 := hide hpl6
                     clear hown6 hgr6 hpl6 hV6))
                all_goals
                  have HNx := hide (Leveling.next (p := p) hrb hc1 HV.out HRow.out HLs'.out hxl h1 HT'.out HR5.out hp5 hp5' HT5.out HIm.out HBm.out (fun a hf => HCut.out nm p3 ls pk HNP.out (.inr ⟨rfl, HLs'.out, HTk.out⟩) a hf) HO6.out HG6.out HP6.out)
                  go_wp2_with fail
                  obtain ⟨g', hg', hL'⟩ := HNx.out
                  go_roundg g'
                  case measure => exact hg'
                  case rel => exact hL'
            · obtain ⟨rfl, rfl, _⟩ := hg1 hck
              have HLd := hide (hrel.out.done hp23 (fun ls' pk' ak' A lc hls' hR' _ => absurd (hR'.same hR).2.1 (by omega)))
              clear hV hO hnil hR hT hg0 hg1
              go_wp2_with fail
              go_meet
              case rel => exact ⟨rfl, HLd.out⟩
        · have hnm' : isNameB (tok s p2).t = false := by simpa using hnm
          have KN := hide (name_bad rb s p2 a W4 hs hp2' HR4.out hnm')
          have HFt : Hid (FT s 1 p (tok s p2).at_) := by unfold Hid; rw [tok_place s p2 hp2']; exact .inr ⟨_, HSg.out, .inr ⟨t1, 2, p2, HWd.out, HKd.out, .inl ⟨rfl, hnm', rfl⟩⟩⟩
          clear hnm hnm'
          generalize (tok s p2).at_ = a2 at *
          go_wp2_with (go_at_call 26; refine KN.out.mono ?_)
          intro e w5 he hr5 ht5
          subst he
          have hz5 := ht5.size
          have hV5 := HV4.out.of_block (ht5.at hltW (by omega))
          have x2 := hV5.c2
          have x2f := hV5.f 2
          have hlt5 : c < w5.heap.size := by omega
          have y2 := hr5.c2
          have hrc : ¬ rb = c := by omega
          have hcr : ¬ c = rb := by omega
          have HLd : Hid (LvDone w rb s p c 2 p2 (w5.setCell ⟨c, 2, none⟩ (.string ⟨#[]⟩))) :=
            ⟨⟨#[]⟩, none, 0, 0, p2, 1, a2, hV5.setName ⟨#[]⟩, hr5.setOther (b := ⟨c, 2, none⟩) (by show c ≠ rb; omega) _, Nat.le_refl _, hp2', (HT4.out.trans ht5).setNew (a := ⟨c, 2, none⟩) (by simp; omega) _, fun h => by omega, fun _ => ⟨rfl, 1, HFt.out⟩⟩
          clear hr5 ht5 hV5 v2 v2f
          go_wp2_with fail
          refine wp_loop_rounds 1 ?_
          rw [rounds_succ]
          go_wp2_with fail
          go_meet
          case rel => exact ⟨rfl, HLd.out⟩
      · go_wp2_with fail
        go_meet
        case rel => exact ⟨rfl, ⟨#[]⟩, none, 0, 0, p2, 0, a, HV4.out, HR4.out, Nat.le_refl _, hp2', HT4.out, fun _ => ⟨[], p2, .inr ⟨by decide, rfl, rfl⟩, .inr (.inr ⟨by decide, by decide, rfl, rfl⟩), rfl, fun i hi => absurd hi (by simp)⟩, fun h => absurd rfl h⟩
      · go_wp2_with fail
        go_meet
        case rel => exact ⟨rfl, ⟨#[]⟩, none, 0, 0, p2, 0, a, HV4.out, HR4.out, Nat.le_refl _, hp2', HT4.out, fun _ => ⟨[], p2, .inr ⟨by decide, rfl, rfl⟩, .inr (.inr ⟨by decide, by decide, rfl, rfl⟩), rfl, fun i hi => absurd hi (by simp)⟩, fun h => absurd rfl h⟩
      · go_wp2_with fail
        go_meet
        case rel => exact ⟨rfl, ⟨#[]⟩, none, 0, 0, p2, 0, a, HV4.out, HR4.out, Nat.le_refl _, hp2', HT4.out, fun _ => ⟨[], p2, .inr ⟨by decide, rfl, rfl⟩, .inr (.inr ⟨by decide, by decide, rfl, rfl⟩), rfl, fun i hi => absurd hi (by simp)⟩, fun h => absurd rfl h⟩
      · go_wp2_with fail
        go_meet
        case rel => exact ⟨rfl, ⟨#[]⟩, none, 0, 0, p2, 0, a, HV4.out, HR4.out, Nat.le_refl _, hp2', HT4.out, fun _ => ⟨[], p2, .inr ⟨by decide, rfl, rfl⟩, .inr (.inr ⟨by decide, by decide, rfl, rfl⟩), rfl, fun i hi => absurd hi (by simp)⟩, fun h => absurd rfl h⟩
    case rest =>
      obtain ⟨rfl, hD⟩ := hcut
      obtain ⟨nm, A, la, lc, p4, ck0, ak0, hV, hR, h24, h4s, hT, hgood, hbad⟩ := hD
      have hcl := hV.lt
      have HGd := hide hgood
      have HWc := hide (HWs.out.touched hT hr0 hr1)
      have HPt : Hid (Parting w wc rb s p c kd p4 wc.heap.size nm (.slice A la lc) 0 ck0 wc) :=
        ⟨.slice none 0 0, [], p4, ck0, ak0, hV, World.ownsRow_nil _ _ _ _, rfl, hR, Nat.le_refl _, h4s, hT, Nat.le_refl _, fun _ _ _ => rfl, fun h => ⟨h, 0, [], TRow.start _ _ _ _, rfl⟩, hbad⟩
      have HTc := hide hT
      have hwc0 : w.heap.size < wc.heap.size := by omega
      clear hV hR hT hgood hbad HV4 HR4 HT4 HCut hi hq0 hq1 hq2 HFl HWs3 HT3 HR3 HTo HR HWs1 hz3
      have hmx : tparts kd ≤ 3 := by unfold tparts; split <;> (try split) <;> omega
      go_wp2_with fail
      go_loopg [13] (tparts kd) (fun g i wr => Hid (∃ k : Nat, k + g = tparts kd ∧ i = .int .i64 k ∧ Parting w wc rb s p c kd p4 wc.heap.size nm (.slice A la lc) k ck0 wr))
      case atStart => exact ⟨0, by omega, rfl, HPt.out⟩
      case round =>
        obtain ⟨kk, hkg, rfl, rv', xs, pk, ck, ak, hV, hO, hxl, hR, h1, h2, hT, hn0, hkeep, h0c, h1c⟩ := hrel.out
        have hclr := hV.lt
        clear HPt
        by_cases hg : gk = 0
        · have hge : ¬ ((kk : Int) < (tparts kd : Int)) := by omega
          have hxl' : xs.length = tparts kd := by omega
          obtain ⟨A', ta, tc, rfl⟩ : ∃ A' ta tc, rv' = .slice A' ta tc := by
            rcases hO.2 with ⟨e, _⟩ | ⟨g, cap, cur, e, _⟩
            · exact ⟨_, _, _, e⟩
            · exact ⟨_, _, _, e⟩
          have HTk := hide (take_any rb s pk ck ak wr hs h2 hR)
          have HVy := hide hV
          have HTy := hide hT
          have HIy := hide h0c
          have HBy := hide h1c
          have HKp := hide hkeep
          clear hV hO hR hT h0c h1c hkeep hrel HI
          go_wp2_with (go_at_call 28; refine HTk.out.mono ?_)
          intro e w7 he p7 c7 a7 hr7 hp7 hp7' ht7 him7 hbad7
          subst he
          have hV7 := HVy.out.of_block (Touched.at ht7 hclr (by omega))
          have v0 := hV7.c0
          have v1 := hV7.c1
          have v2 := hV7.c2
          have v3 := hV7.c3
          have v4 := hV7.c4
          obtain ⟨d0, d1, d2, d3, d4, d5, d6⟩ := tzcells hrb (HTy.out.trans ht7)
          have HR7 := hide hr7
          have HT7 := hide ht7
          have HI7 := hide him7
          have HB7 := hide hbad7
          clear hbad7 hr7 ht7 him7 hV7 HTk
          go_wp2_with fail
          refine bodyPost_ret (v := .agg #[.int .i64 kd, .int .i64 0, .string nm, .slice A la lc, .slice A' ta tc]) (by simp [results, Tryz.results11, go_sem, d0, d1, d2, d3, d4]) rfl ?_
          exact term_fin hrb hc1 (by omega) HSg.out HWd.out HKd.out HGd.out hxl' hcl h1 HTy.out hn0 HKp.out HIy.out HBy.out HR7.out hp7 hp7' HT7.out HI7.out HB7.out
        · have hlt : (kk : Int) < (tparts kd : Int) := by omega
          have hw1 : IntKind.i64.wrap ((kk : Int) + 1) = ((kk + 1 : Nat) : Int) := by rw [IntKind.wrap_i64]; omega
          obtain ⟨ao, nn, cc, rfl⟩ : ∃ A' ta tc, rv' = .slice A' ta tc := by
            rcases hO.2 with ⟨e, _⟩ | ⟨g, cap, cur, e, _⟩
            · exact ⟨_, _, _, e⟩
            · exact ⟨_, _, _, e⟩
          have hx3 : xs.length ≤ 3 := by omega
          have q4 := hV.c4
          have q4f := hV.f 4
          have HV := hide hV
          have HO := hide hO
          have HR' := hide hR
          have HT' := hide hT
          have H0c := hide h0c
          have H1c := hide h1c
          have HKp := hide hkeep
          have HWr := hide (HWs.out.touched hT hr0 hr1)
          clear hV hO hR hT h0c h1c hkeep hrel
          go_wp2_with fail
          go_region_law (first
            | (refine step_term (args := #[.pointer (some ⟨rb, 0, none⟩)]) (rb := rb) (s := s) (p := pk) (code := ck) (a0 := ak) rfl ?_ ?_ ?_
               · simp [go_sem]
               · exact HI.out pk ck ak _ (by omega) h2 HR'.out (HWr.out.of_blocks rfl rfl)
               intro k1' m1' nm1 A1 n1 cap1 A2 n2 cap2 w7 p5 c5 a5 hr5 hp5 hp5' ht5 himp hbad5
               replace ht5 := Touched.undrew ht5
               have hV5 := HV.out.of_block (ht5.at hclr (by omega))
               have v3 := hV5.c4
               have v4 := hV5.f 4
               have hz7 := ht5.size
               have hlt7 : c < w7.heap.size := by omega
               have HV5 := hide hV5
               have HR5 := hide hr5
               have HT5 := hide ht5
               have HO5 := hide (HO.out.kept (row := some rb) ht5 (.inr (fun e => by have := (HO.out.lt rb e).1; omega)))
               have HIm := hide himp
               have HBm := hide hbad5
               clear hr5 ht5 himp hbad5 hV5)
            | (refine step_append_own rfl (.tmp 124) (.tmp 127) 28 rfl wc.heap.size 30 i5 _ 5 80 Tryz.underlying28 hj hy0 hy1 hy2 rfl (by decide) (.slice ao nn cc) xs.length (flat xs) ?_ (HO5.out.alloc _) ⟨w7.heap.size, 0, none⟩ 1 1 [.int .i64 k1', .int .i64 m1', .string nm1, .slice A1 n1 cap1, .slice A2 n2 cap2] ?_ rfl ?_ ?_ (by decide) (by unfold maxLen; omega) (by omega) ?_ ?_
               · rfl
               · rfl
               · exact five_new _ _ _ _ _ _ _
               · intro u hu; simp at hu; rcases hu with rfl | rfl | rfl | rfl | rfl <;> rfl
               · show wc.heap.size ≤ (w7.alloc _).heap.size; simp; omega
               intro v' w8 hown6 hgr6 hpl6
               obtain ⟨g, cap', rfl, hgb⟩ := shape5 hown6 (by omega)
               have hV6 := (HV5.out.alloc (.cells #[.int .i64 k1', .int .i64 m1', .string nm1, .slice A1 n1 cap1, .slice A2 n2 cap2] 30)).of_block (hgr6.block c (by simp; omega) (fun e => by have := (HO.out.lt _ e.symm).1; omega))
               have u3 := hV6.c4
               have u4 := hV6.f 4
               have HV6 := hide hV6
               have HO6 := hide hown6
               have HG6 := hide hgr6
               have HP6 := hide hpl6
               clear hown6 hgr6 hpl6 hV6))
          all_goals
            have HNx := hide (Parting.next (p := p) hrb hc1 hcl HV.out HO.out hxl h1 HT'.out hn0 HKp.out H0c.out H1c.out HR5.out hp5 hp5' HT5.out HIm.out HBm.out (fun h d a hf => by
              obtain ⟨e3, d1, ts, hRow, hSq⟩ := H0c.out h
              obtain ⟨ls, p3, hN, hL, hla, hLs⟩ := HGd.out e3
              exact part_fails HSg.out HWd.out HKd.out hN hL hSq (by rw [← hRow.len]; omega) hf) HO6.out HG6.out HP6.out)
            go_wp2_with fail
            go_roundg (gk - 1)
            case measure => omega
            case rel => exact ⟨kk + 1, by omega, rfl, by have h' := HNx.out; rw [hxl] at h'; exact h'⟩

end Go.Proofs.YtahcgpnjlmpkpaaGreatDoor
