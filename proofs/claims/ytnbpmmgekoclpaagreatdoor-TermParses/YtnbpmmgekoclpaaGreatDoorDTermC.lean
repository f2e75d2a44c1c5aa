/- The contract of the document's term at a bracket: its levels. -/
import Derived.Test.YtnbpmmgekoclpaaGreatDoorDTermB
namespace Go.Proofs.YtnbpmmgekoclpaaGreatDoor
open Go.RowKit

theorem Row.nextq {W w5 w6 : World} {B n0 c n m q : Nat} {ks : List LvB} {l : LvB} {rv rv' : Value} {xs : List Value} {k : Int} {nm : ByteArray} {A : Option Addr} {cap : Nat} (h : Row W B n0 ks rv xs) (hB : B ≤ c) (hc : c < n0) (hnm : n0 ≤ m) (hm' : ∀ g, rv.ownBlock = some g → g < m)
    (hz : W.heap.size ≤ w5.heap.size) (hw : ∀ b, b < W.heap.size → b < B ∨ n0 ≤ b → w5.heap[b]? = W.heap[b]?) (hx : InP w5 (fun b => b < B ∨ m ≤ b) l (.agg #[.int .i64 k, .string nm, .slice A n cap]))
    (hown : w6.ownsRow n0 69 3 rv' (xs.length + 1) (flat xs ++ [.int .i64 k, .string nm, .slice A n cap])) (hgr : (w5.alloc (.cells #[.int .i64 k, .string nm, .slice A n cap] 69)).grownBy w6 rv.ownBlock)
    (hpl : rv'.ownBlock = rv.ownBlock ∨ rv'.ownBlock = some (w5.alloc (.cells #[.int .i64 k, .string nm, .slice A n cap] 69)).heap.size) (u : Value) :
    Row (w6.setCell ⟨c, q, none⟩ u) B n0 (ks ++ [l]) rv' (xs ++ [.agg #[.int .i64 k, .string nm, .slice A n cap]]) := by
  have hblock : ∀ b, b < w5.heap.size → rv.ownBlock ≠ some b → b ≠ c → (w6.setCell ⟨c, q, none⟩ u).heap[b]? = w5.heap[b]? := fun b hb hne hbc => by
    rw [Below.heap_setCell _ _ _ _ hbc, hgr.block b (by simp; omega) (fun e => hne e.symm)]
    exact Below.heap_alloc _ _ _ hb
  have hne' : ∀ b, b < w5.heap.size → rv.ownBlock ≠ some b → rv'.ownBlock ≠ some b := fun b hb hne => by
    rcases hpl with e | e
    · rw [e]; exact hne
    · rw [e]; simp; omega
  refine ⟨?_, fun e => by simp at e, by simp [h.len], fun j hj hj' => ?_⟩
  · have : flat (xs ++ [Value.agg #[.int .i64 k, .string nm, .slice A n cap]]) = flat xs ++ [.int .i64 k, .string nm, .slice A n cap] := by rw [flat_append]; simp [flat]
    rw [this, List.length_append, List.length_singleton]
    exact ownsRow_setCell_below hown (a := ⟨c, q, none⟩) hc _
  · by_cases hjx : j < xs.length
    · have hjk : j < ks.length := by rw [← h.len]; exact hjx
      rw [List.getElem_append_left hjx, List.getElem_append_left hjk]
      refine (h.parts j hjx hjk).keep fun b hb hS => ⟨⟨hS.1, hne' b (by omega) hS.2⟩, ?_⟩
      rw [hblock b (by omega) hS.2 (by rcases hS.1 with h1 | h1 <;> omega)]
      exact hw b hb hS.1
    · have e : j = xs.length := by simp at hj; omega
      subst e
      have hjk : ¬ xs.length < ks.length := by rw [h.len]; omega
      have e2 : (ks ++ [l])[xs.length] = l := by rw [List.getElem_append_right (by omega)]; simp
      rw [e2, List.getElem_append_right (Nat.le_refl _)]
      simp only [Nat.sub_self, List.getElem_cons_zero]
      refine hx.keep fun b hb hS => ?_
      have hne : rv.ownBlock ≠ some b := fun e => by
        have h1 := hm' b e
        have h2 := h.own.lt b e
        rcases hS with h3 | h3 <;> omega
      refine ⟨⟨hS.imp id fun h3 => by omega, hne' b hb hne⟩, hblock b hb hne (by rcases hS with h3 | h3 <;> omega)⟩


theorem InAbove.inP {w : World} {lo : Nat} : ∀ {l : LvB} {v : Value}, InAbove w lo l v → InP w (fun b => b < 0 ∨ lo ≤ b) l v
  | .zero, _, hl => hl
  | .param _, _, hl => hl
  | .succ a, _, ⟨b, cap, x, e, hb, h3, ha⟩ => ⟨b, cap, x, e, .inr hb, h3, InAbove.inP (l := a) ha⟩
  | .max a c, _, ⟨b, cap, x, y, e, hb, h3, h4, ha, hc⟩ => ⟨b, cap, x, y, e, .inr hb, h3, h4, InAbove.inP (l := a) ha, InAbove.inP (l := c) hc⟩
  | .imax a c, _, ⟨b, cap, x, y, e, hb, h3, h4, ha, hc⟩ => ⟨b, cap, x, y, e, .inr hb, h3, h4, InAbove.inP (l := a) ha, InAbove.inP (l := c) hc⟩

/-- While a constant's levels are read. -/
def Leveling (w : World) (rb : Nat) (s : ByteArray) (p c kd p3 : Nat) (nm : ByteArray) (g : Nat) (wr : World) : Prop :=
  ∃ (rv : Value) (xs : List Value) (pk ck ak : Nat), TVar 30 wr c kd 0 nm rv (.slice none 0 0) ∧ wr.ownsRow (c + 1) 69 3 rv xs.length (flat xs) ∧ (xs.length = 0 → rv = .slice none 0 0) ∧ RdAt wr rb s pk ck ak ∧ p3 ≤ pk ∧ pk ≤ s.size ∧ Touched (w.alloc ztm) rb wr ∧
    (ck = 0 → g = s.size - pk + 1 ∧ xs.length ≤ pk ∧ ∃ ls, Row wr 0 (c + 1) ls rv xs ∧ ReadsAll s ls p3 pk) ∧ (ck ≠ 0 → g = 0 ∧ ck = 1 ∧ ∃ d, FT s d p ak)

/-- A level more: behind the append and the store. -/
theorem Leveling.next {w W w5 w6 : World} {rb c kd p p3 pk ak p' c' a' g cap' n1 cap1 : Nat} {s : ByteArray} {nm : ByteArray} {rv : Value} {xs : List Value} {ls : List LvB} {k1 : Int} {nm1 : ByteArray} {A1 : Option Addr} (hrb : rb < w.heap.size) (hc : w.heap.size + 1 ≤ c)
    (hV : TVar 30 W c kd 0 nm rv (.slice none 0 0)) (hRow : Row W 0 (c + 1) ls rv xs) (hls : ReadsAll s ls p3 pk) (hlen : xs.length ≤ pk) (hp3 : p3 ≤ pk) (hT : Touched (w.alloc ztm) rb W)
    (hR5 : RdAt w5 rb s p' c' a') (hp : pk ≤ p') (hp' : p' ≤ s.size) (hT5 : Touched W rb w5)
    (him : c' = 0 → (0 : Nat) = 0 ∧ ∃ l : LvB, InAbove w5 W.heap.size l (.agg #[.int .i64 k1, .string nm1, .slice A1 n1 cap1]) ∧ l.nodes ≤ p' - pk ∧ Reads s l pk p') (hbad : c' ≠ 0 → ((0 : Nat) ≠ 0 ∧ c' = 0 ∧ a' = ak) ∨ ((0 : Nat) = 0 ∧ c' = 1 ∧ Fails s pk a')) (hft : ∀ a, Fails s pk a → ∃ d, FT s d p a)
    (hown : w6.ownsRow (c + 1) 69 3 (.slice (some ⟨g, 0, none⟩) (xs.length + 1) cap') (xs.length + 1) (flat xs ++ [.int .i64 k1, .string nm1, .slice A1 n1 cap1]))
    (hgr : (w5.alloc (.cells #[.int .i64 k1, .string nm1, .slice A1 n1 cap1] 69)).grownBy w6 rv.ownBlock)
    (hpl : (Value.slice (some ⟨g, 0, none⟩) (xs.length + 1) cap').ownBlock = rv.ownBlock ∨ (Value.slice (some ⟨g, 0, none⟩) (xs.length + 1) cap').ownBlock = some (w5.alloc (.cells #[.int .i64 k1, .string nm1, .slice A1 n1 cap1] 69)).heap.size) :
    ∃ g', g' < s.size - pk + 1 ∧ Leveling w rb s p c kd p3 nm g' (w6.setCell ⟨c, 3, none⟩ (.slice (some ⟨g, 0, none⟩) (xs.length + 1) cap')) := by
  have hcW := hV.lt
  have hz5 := hT5.size
  have hz6 := hgr.size
  have hrbW : rb < W.heap.size := by have := hT.size; simp at this; omega
  simp at hz6
  have hnorb : rv.ownBlock ≠ some rb := fun e => by have := (hRow.own.lt rb e).1; omega
  have hnoc : rv.ownBlock ≠ some c := fun e => by have := (hRow.own.lt c e).1; omega
  have hV6 : TVar 30 w6 c kd 0 nm rv (.slice none 0 0) := hV.of_block (by
    rw [hgr.block c (by simp; omega) (fun e => hnoc e.symm), Below.heap_alloc _ _ _ (by omega)]
    exact hT5.at hcW (by omega))
  have hR6 : RdAt (w6.setCell ⟨c, 3, none⟩ (.slice (some ⟨g, 0, none⟩) (xs.length + 1) cap')) rb s p' c' a' := ((hR5.alloc _).kept hgr (fun e => hnorb e.symm)).setOther (b := ⟨c, 3, none⟩) (by show c ≠ rb; omega) _
  have hT6 : Touched (w.alloc ztm) rb (w6.setCell ⟨c, 3, none⟩ (.slice (some ⟨g, 0, none⟩) (xs.length + 1) cap')) := by
    have hzT := hT.size
    simp at hzT
    refine ⟨hgr.os.trans (hT5.os.trans hT.os), hgr.tape.trans (hT5.tape.trans hT.tape), hgr.output.trans (hT5.output.trans hT.output), by simp [World.setCell]; omega, fun b hb hne => ?_⟩
    have hb' : b < w.heap.size + 1 := by simpa using hb
    rw [Below.heap_setCell _ _ _ _ (by show b ≠ c; omega), hgr.block b (by simp; omega) (fun e => by have := (hRow.own.lt _ e.symm).1; omega), Below.heap_alloc _ _ _ (by omega), hT5.block b (by omega) hne]
    exact hT.block b hb hne
  have hO6 : (w6.setCell ⟨c, 3, none⟩ (.slice (some ⟨g, 0, none⟩) (xs.length + 1) cap')).ownsRow (c + 1) 69 3 (.slice (some ⟨g, 0, none⟩) (xs.length + 1) cap') (xs ++ [Value.agg #[.int .i64 k1, .string nm1, .slice A1 n1 cap1]]).length (flat (xs ++ [Value.agg #[.int .i64 k1, .string nm1, .slice A1 n1 cap1]])) := by
    have : flat (xs ++ [Value.agg #[.int .i64 k1, .string nm1, .slice A1 n1 cap1]]) = flat xs ++ [.int .i64 k1, .string nm1, .slice A1 n1 cap1] := by rw [flat_append]; simp [flat]
    rw [this, List.length_append, List.length_singleton]
    exact ownsRow_setCell_below hown (a := ⟨c, 3, none⟩) (by show c < c + 1; omega) _
  by_cases h0 : c' = 0
  · subst h0
    obtain ⟨_, l, hl, hn, hr⟩ := him rfl
    have hnd := nodes_pos l
    refine ⟨s.size - p' + 1, by omega, _, xs ++ [Value.agg #[.int .i64 k1, .string nm1, .slice A1 n1 cap1]], p', 0, a', hV6.setL _, hO6, fun h => by simp at h, hR6, by omega, hp', hT6, fun _ => ⟨rfl, by simp; omega, ls ++ [l], ?_, hls.snoc hr⟩, fun h => absurd rfl h⟩
    exact hRow.nextq (q := 3) (c := c) (m := W.heap.size) (by omega) (by omega) (by omega) (fun g e => (hRow.own.lt g e).2) hz5 (fun b hb hS => hT5.at hb (by omega)) hl.inP hown hgr hpl _
  · rcases hbad h0 with ⟨h, _⟩ | ⟨_, h1, hf⟩
    · exact absurd rfl h
    · exact ⟨0, by omega, _, xs ++ [Value.agg #[.int .i64 k1, .string nm1, .slice A1 n1 cap1]], p', c', a', hV6.setL _, hO6, fun h => by simp at h, hR6, by omega, hp', hT6, fun h => absurd h h0, fun _ => ⟨rfl, h1, hft _ hf⟩⟩

theorem RdAt.same {w : World} {rb p p' c c' a a' : Nat} {s : ByteArray} (h : RdAt w rb s p c a) (h' : RdAt w rb s p' c' a') : p = p' ∧ c = c' ∧ a = a' := by
  have h1 := h.c1.symm.trans h'.c1
  have h2 := h.c2.symm.trans h'.c2
  have h3 := h.c3.symm.trans h'.c3
  simp at h1 h2 h3
  omega

/-- All levels have come. -/
theorem Leveling.done {w wr : World} {rb c kd p p2 p3 g : Nat} {s : ByteArray} {nm : ByteArray} (hL : Leveling w rb s p c kd p3 nm g wr) (h23 : p2 ≤ p3)
    (hlv : ∀ ls pk ak A lc, ReadsAll s ls p3 pk → RdAt wr rb s pk 0 ak → wr.cell? ⟨c, 3, none⟩ = some (.slice A ls.length lc) → NamePart s kd nm p2 p3 ∧ LvPart s kd ls p3 pk) : LvDone w rb s p c kd p2 wr := by
  obtain ⟨rv, xs, pk, ck, ak, hV, hO, hnil, hR, hp3, hpk, hT, h0, h1⟩ := hL
  by_cases hc : ck = 0
  · subst hc
    obtain ⟨_, _, ls, hRow, hls⟩ := h0 rfl
    obtain ⟨A, lc, rfl, hin⟩ := hRow.list
    obtain ⟨hn, hlp⟩ := hlv ls pk ak A lc hls hR hV.c3
    exact ⟨nm, A, ls.length, lc, pk, 0, ak, hV, hR, by omega, hpk, hT, fun _ => ⟨ls, p3, hn, hlp, rfl, hin.keep fun b hb hS => ⟨⟨hS, hb⟩, rfl⟩⟩, fun h => absurd rfl h⟩
  · obtain ⟨_, e1, hf⟩ := h1 hc
    obtain ⟨A, la, lc, rfl⟩ : ∃ A la lc, rv = .slice A la lc := by
      rcases hO.2 with ⟨e, _⟩ | ⟨g, cap, cur, e, _⟩
      · exact ⟨_, _, _, e⟩
      · exact ⟨_, _, _, e⟩
    exact ⟨nm, A, la, lc, pk, ck, ak, hV, hR, by omega, hpk, hT, fun h => absurd h hc, fun _ => ⟨e1, hf⟩⟩

/-- A part more: behind the append and the store. -/
theorem Parting.next {w wc W w5 w6 : World} {rb c kd p p4 pk ck ak p' c' a' g cap' n0 k c0 la lc ta tc : Nat} {s : ByteArray} {nm : ByteArray} {rv rv' : Value} {xs : List Value} {k1 m1 : Int} {nm1 : ByteArray} {A A' : Option Addr} (hrb : rb < w.heap.size) (hc : w.heap.size + 1 ≤ c) (hcn : c < n0)
    (hV : TVar 30 W c kd 0 nm rv rv') (hO : W.ownsRow n0 30 5 rv' xs.length (flat xs)) (hk : xs.length = k) (hp4 : p4 ≤ pk) (hT : Touched (w.alloc ztm) rb W) (hn0 : n0 ≤ W.heap.size) (hkeep : ∀ b, c + 1 ≤ b → b < n0 → W.heap[b]? = wc.heap[b]?)
    (h0 : ck = 0 → c0 = 0 ∧ ∃ d ts, TRow W 30 d n0 ts rv' xs ∧ Seq (RT s d) ts p4 pk) (h1 : ck ≠ 0 → ck = 1 ∧ ∃ d, FT s d p ak)
    (hR5 : RdAt w5 rb s p' c' a') (hp : pk ≤ p') (hp' : p' ≤ s.size) (hT5 : Touched W rb w5)
    (him : c' = 0 → ck = 0 ∧ pk < p' ∧ ∃ (d : Nat) (t : Tm), InTm w5 (fun b => W.heap.size ≤ b) d t (.agg #[.int .i64 k1, .int .i64 m1, .string nm1, .slice A la lc, .slice A' ta tc]) ∧ RT s d t pk p') (hbad : c' ≠ 0 → (ck ≠ 0 ∧ c' = ck ∧ a' = ak) ∨ (ck = 0 ∧ c' = 1 ∧ ∃ d, FT s d pk a'))
    (hft : ck = 0 → ∀ d a, FT s d pk a → ∃ d, FT s d p a)
    (hown : w6.ownsRow n0 30 5 (.slice (some ⟨g, 0, none⟩) (xs.length + 1) cap') (xs.length + 1) (flat xs ++ [.int .i64 k1, .int .i64 m1, .string nm1, .slice A la lc, .slice A' ta tc]))
    (hgr : (w5.alloc (.cells #[.int .i64 k1, .int .i64 m1, .string nm1, .slice A la lc, .slice A' ta tc] 30)).grownBy w6 rv'.ownBlock)
    (hpl : (Value.slice (some ⟨g, 0, none⟩) (xs.length + 1) cap').ownBlock = rv'.ownBlock ∨ (Value.slice (some ⟨g, 0, none⟩) (xs.length + 1) cap').ownBlock = some (w5.alloc (.cells #[.int .i64 k1, .int .i64 m1, .string nm1, .slice A la lc, .slice A' ta tc] 30)).heap.size) :
    Parting w wc rb s p c kd p4 n0 nm rv (k + 1) c0 (w6.setCell ⟨c, 4, none⟩ (.slice (some ⟨g, 0, none⟩) (xs.length + 1) cap')) := by
  have hcW := hV.lt
  have hz5 := hT5.size
  have hz6 := hgr.size
  have hrbW : rb < W.heap.size := by have := hT.size; simp at this; omega
  simp at hz6
  have hnob : ∀ b, b < n0 → rv'.ownBlock ≠ some b := fun b hb e => by have := (hO.lt b e).1; omega
  have hblk : ∀ b, b < n0 → b < W.heap.size → b ≠ rb → w6.heap[b]? = W.heap[b]? := fun b hb hbW hne => by
    rw [hgr.block b (by simp; omega) (fun e => hnob b hb e.symm), Below.heap_alloc _ _ _ (by omega)]
    exact hT5.at hbW hne
  have hV6 : TVar 30 w6 c kd 0 nm rv rv' := hV.of_block (hblk c hcn hcW (by omega))
  have hR6 : RdAt (w6.setCell ⟨c, 4, none⟩ (.slice (some ⟨g, 0, none⟩) (xs.length + 1) cap')) rb s p' c' a' := ((hR5.alloc _).kept hgr (fun e => hnob rb (by omega) e.symm)).setOther (b := ⟨c, 4, none⟩) (by show c ≠ rb; omega) _
  have hT6 : Touched (w.alloc ztm) rb (w6.setCell ⟨c, 4, none⟩ (.slice (some ⟨g, 0, none⟩) (xs.length + 1) cap')) := by
    have hzT := hT.size
    simp at hzT
    refine ⟨hgr.os.trans (hT5.os.trans hT.os), hgr.tape.trans (hT5.tape.trans hT.tape), hgr.output.trans (hT5.output.trans hT.output), by simp [World.setCell]; omega, fun b hb hne => ?_⟩
    have hb' : b < w.heap.size + 1 := by simpa using hb
    have hne' : b ≠ rb := by simpa using hne
    rw [Below.heap_setCell _ _ _ _ (by show b ≠ c; omega), hblk b (by omega) (by omega) hne']
    exact hT.block b hb hne
  have hO6 : (w6.setCell ⟨c, 4, none⟩ (.slice (some ⟨g, 0, none⟩) (xs.length + 1) cap')).ownsRow n0 30 5 (.slice (some ⟨g, 0, none⟩) (xs.length + 1) cap') (xs ++ [Value.agg #[.int .i64 k1, .int .i64 m1, .string nm1, .slice A la lc, .slice A' ta tc]]).length (flat (xs ++ [Value.agg #[.int .i64 k1, .int .i64 m1, .string nm1, .slice A la lc, .slice A' ta tc]])) := by
    have : flat (xs ++ [Value.agg #[.int .i64 k1, .int .i64 m1, .string nm1, .slice A la lc, .slice A' ta tc]]) = flat xs ++ [.int .i64 k1, .int .i64 m1, .string nm1, .slice A la lc, .slice A' ta tc] := by rw [flat_append]; simp [flat]
    rw [this, List.length_append, List.length_singleton]
    exact ownsRow_setCell_below hown (a := ⟨c, 4, none⟩) hcn _
  have hK6 : ∀ b, c + 1 ≤ b → b < n0 → (w6.setCell ⟨c, 4, none⟩ (.slice (some ⟨g, 0, none⟩) (xs.length + 1) cap')).heap[b]? = wc.heap[b]? := fun b hb1 hb2 => by
    rw [Below.heap_setCell _ _ _ _ (by show b ≠ c; omega), hblk b hb2 (by omega) (by omega)]
    exact hkeep b hb1 hb2
  have hz7 : n0 ≤ (w6.setCell ⟨c, 4, none⟩ (.slice (some ⟨g, 0, none⟩) (xs.length + 1) cap')).heap.size := by simp [World.setCell]; omega
  by_cases h0' : c' = 0
  · subst h0'
    obtain ⟨e0, hlt, d2, t, hin, hr⟩ := him rfl
    obtain ⟨e1, d1, ts, hRow, hSq⟩ := h0 e0
    refine ⟨_, xs ++ [Value.agg #[.int .i64 k1, .int .i64 m1, .string nm1, .slice A la lc, .slice A' ta tc]], p', 0, a', hV6.setA _, hO6, by simp [hk], hR6, by omega, hp', hT6, hz7, hK6, fun _ => ⟨e1, max d1 d2, ts ++ [t], ?_, (hSq.mono fun _ _ _ h => h.deeper (by omega)).snoc (hr.deeper (by omega))⟩, fun h => absurd rfl h⟩
    exact (hRow.deeper (by omega)).next (q := 4) (c := c) (m := W.heap.size) hcn hn0 (fun g e => (hRow.own.lt g e).2) hz5 (fun b hb hS => hT5.at hb (by omega)) (hin.deeper (by omega)) hown hgr hpl _
  · refine ⟨_, xs ++ [Value.agg #[.int .i64 k1, .int .i64 m1, .string nm1, .slice A la lc, .slice A' ta tc]], p', c', a', hV6.setA _, hO6, by simp [hk], hR6, by omega, hp', hT6, hz7, hK6, fun h => absurd h h0', fun _ => ?_⟩
    rcases hbad h0' with ⟨h, e1, e2⟩ | ⟨h, e1, d, hf⟩
    · rw [e1, e2]; exact h1 h
    · exact ⟨e1, hft h d _ hf⟩

end Go.Proofs.YtnbpmmgekoclpaaGreatDoor
