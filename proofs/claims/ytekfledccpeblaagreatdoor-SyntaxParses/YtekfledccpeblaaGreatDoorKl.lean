/- The contracts of the reader's sort, levels, called, beforeAtom, atBracket. -/
import Derived.Test.YtekfledccpeblaaGreatDoorUn

namespace Go.Proofs.YtekfledccpeblaaGreatDoor
open Go.RowKit

section
variable {rb : Nat} {mv : Value} {s : ByteArray}
theorem nil_made (kd a : Nat) (nm : ByteArray) (w : World) : Calls Tryz.prog 85 #[.int .i64 (kd : Nat), .int .i64 (a : Nat), .string nm, .slice none 0 0] w fun e w' => MadeX w (fun _ => False) kd a nm [] e w' :=
  made_calls kd a nm [] (fun _ => 0) none 0 w (by simp) (fun i hi => absurd hi (by simp)) _ (fun i hi => absurd hi (by simp))
/-- One level in a new block. -/
theorem one_level {W : World} {S S' : Nat → Prop} {l : LvB} {k : Int} {nm : ByteArray} {A : Option Addr} {n c : Nat} (h : InP W S l (.agg #[.int .i64 k, .string nm, .slice A n c])) (hS : ∀ b, b < W.heap.size → S b → S' b) (hn : S' W.heap.size) : LvsIn (W.alloc (.cells #[.int .i64 k, .string nm, .slice A n c] 96)) S' (some ⟨W.heap.size, 0, none⟩) [l] := fun i hi => by
  match i, hi with
  | 0, _ => exact ⟨W.heap.size, _, rfl, hn, three_at (heap_alloc_new _ _), h.keep fun b hb hs => ⟨hS b hb hs, Below.heap_alloc _ _ _ hb⟩⟩

set_option maxRecDepth 100000 in
set_option maxHeartbeats 4000000 in
theorem sort_calls (n a : Nat) (st : FS) (w : World) (h : Rdy w rb mv s st) (hl : st.left s ≤ n) :
    Calls Tryz.prog 111 #[.pointer (some ⟨rb, 0, none⟩), .int .i64 (a : Nat)] w fun e w' => RX w rb mv s (univF s n st).2 (ExR w (sortX a (univF s n st).1)) e w' := by
  have H := hide h
  have hlt := h.lt
  have KM := hide (nil_made 2 a ⟨#[]⟩ w)
  have HU : Hid (∀ W, Rdy W rb mv s st → Calls Tryz.prog 116 #[.pointer (some ⟨rb, 0, none⟩)] W fun e w' => RX W rb mv s (univF s n st).2 (LvR (fun b => W.heap.size ≤ b) (univF s n st).1) e w') := fun W hW => universe_calls n st W hW hl
  clear h hl
  generalize (univF s n st).1 = l at *
  generalize (univF s n st).2 = st1 at *
  go_enter Tryz.func111, Tryz.ntmps111
  go_wp2_with (go_at_call 85; refine KM.out.mono ?_)
  rintro e W1 ⟨eb, A, c, rfl, hle, hblk, -, hB1⟩
  have KU := hide (HU.out W1 (H.out.later hB1))
  have HB1 := hide hB1
  have HBk := hide hblk
  have hel : eb < W1.heap.size := (Array.getElem?_eq_some_iff.1 hblk).1
  clear hB1 hblk KM HU
  go_wp2_with (go_at_call 116; refine KU.out.mono ?_)
  intro e W2 h2
  rcases h2 with ⟨hc2, ⟨k2, nm2, A2, n2, c2, rfl, hI2⟩, hR2, hT2⟩ | ⟨hc2, hth⟩
  rotate_left
  · have HF : Hid (RX w rb mv s st1 (ExR w (sortX a l)) e W2) := RX.bad hc2 hth (Touched.of_below HB1.out) (Bdn.refl _)
    obtain ⟨fb, rfl, -⟩ := hth
    go_wp2_with fail
    exact ⟨rfl, HF.out⟩
  have hblk := (hT2.at hel (by omega)).trans HBk.out
  have z7 : W2.cell? ⟨eb, 7, none⟩ = some (.slice none 0 0) := cell_of hblk 7 rfl
  have zf : ∀ i, W2.frozen? ⟨eb, i, none⟩ = false := fun i => frozen_of hblk i
  have zl : eb < W2.heap.size := (Array.getElem?_eq_some_iff.1 hblk).1
  have hz1 := HB1.out.size
  have hz2 := hT2.size
  have HF : Hid (RX w rb mv s st1 (ExR w (sortX a l)) (.returned (.pointer (some ⟨eb, 0, none⟩))) ((W2.setCell ⟨eb, 7, none⟩ (.slice (some ⟨W2.heap.size, 0, none⟩) 1 1)).alloc (.cells #[.int .i64 k2, .string nm2, .slice A2 n2 c2] 96))) := by
    have hzs : (W2.setCell ⟨eb, 7, none⟩ (.slice (some ⟨W2.heap.size, 0, none⟩) 1 1)).heap.size = W2.heap.size := by simp [World.setCell]
    have hT : Touched w rb ((W2.setCell ⟨eb, 7, none⟩ (.slice (some ⟨W2.heap.size, 0, none⟩) 1 1)).alloc (.cells #[.int .i64 k2, .string nm2, .slice A2 n2 c2] 96)) := ((((Touched.of_below HB1.out).trans hT2).setNew (a := ⟨eb, 7, none⟩) hle _)).trans (Touched.alloc _ _ _)
    refine .inl ⟨hc2, ⟨eb, rfl, hle, ⟨xcs 2 (a : Nat) ⟨#[]⟩ false false false false (.slice (some ⟨W2.heap.size, 0, none⟩) 1 1) (.slice A 0 c), ?_, ?_⟩⟩, H.out.next (hR2.rd.of_block ?_) hR2.ok hT, hT⟩
    · rw [Below.heap_alloc _ _ _ (by rw [hzs]; exact zl)]
      simp [World.setCell, Array.getElem?_modify, hblk]
    · refine InX.of (ls := [l]) (xs := []) ?_ (XsIn.nil _ _ _)
      have hI3 : InP (W2.setCell ⟨eb, 7, none⟩ (.slice (some ⟨W2.heap.size, 0, none⟩) 1 1)) (fun b => W1.heap.size ≤ b) l (.agg #[.int .i64 k2, .string nm2, .slice A2 n2 c2]) := hI2.keep fun b hb hS => ⟨hS, Below.heap_setCell _ _ _ _ (by show b ≠ eb; have : W1.heap.size ≤ b := hS; omega)⟩
      have := one_level (S' := fun b => w.heap.size ≤ b) hI3 (fun b _ hs => by have : W1.heap.size ≤ b := hs; omega) (by rw [hzs]; omega)
      rw [hzs] at this
      exact this
    · rw [Below.heap_alloc _ _ _ (by rw [hzs]; exact hR2.lt), Below.heap_setCell _ _ _ _ (by show rb ≠ eb; omega)]
  clear hI2 hR2 hT2 hblk KU
  go_wp2_with fail
  go_ret
  exact HF.out

set_option maxRecDepth 100000 in
set_option maxHeartbeats 2000000 in
theorem atBracket_calls (st : FS) (w : World) (h : Rdy w rb mv s st) : Calls Tryz.prog 61 #[.pointer (some ⟨rb, 0, none⟩)] w fun e w' => e = .returned (.bool (st.is sOpen || st.is sBrace)) ∧ Below w.heap.size w w' := by
  obtain ⟨h0, c, k, t, r, hw, hp, hz⟩ := h.rd
  have hq : ∀ q, st.is q = (decide ((k : Int) = 3) && decide (t = q)) := fun q => by
    rw [hp.is h.ok.kd]
    unfold FS.is
    rw [h0]
    rfl
  have c1 := hw.c1
  have c2 := hw.c2
  have c3 := hw.c3
  have K1 := hide (is_calls (k : Nat) (st.t.at_ : Nat) t sOpen w)
  have K2 := hide (fun W => is_calls (k : Nat) (st.t.at_ : Nat) t sBrace W)
  have hlat : ∀ W, Below w.heap.size w W → W.cell? ⟨rb, 1, none⟩ = some (.int .i64 (k : Nat)) ∧ W.cell? ⟨rb, 2, none⟩ = some (.int .i64 (st.t.at_ : Nat)) ∧ W.cell? ⟨rb, 3, none⟩ = some (.string t) := fun W hb => ⟨cell_later hb c1, cell_later hb c2, cell_later hb c3⟩
  have HLa := hide hlat
  rw [← hq] at K1 K2
  clear hw hp hq hlat h
  generalize st.is sOpen = b1 at *
  generalize st.is sBrace = b2 at *
  cases b1 with
  | true =>
    go_enter Tryz.func61, Tryz.ntmps61
    go_wp2_with (go_at_call 82; refine K1.out.mono ?_)
    first | (intro e W1 he hb1; subst he) | (rintro e W1 ⟨rfl, hb1⟩)
    have HB := hide hb1
    clear hb1
    go_wp2_with fail
    go_ret
    exact ⟨rfl, HB.out⟩
  | false =>
    go_enter Tryz.func61, Tryz.ntmps61
    go_wp2_with (go_at_call 82; refine K1.out.mono ?_)
    first | (intro e W1 he hb1; subst he) | (rintro e W1 ⟨rfl, hb1⟩)
    obtain ⟨d1, d2, d3⟩ := HLa.out W1 hb1
    have HB := hide hb1
    clear hb1 K1
    go_wp2_with (go_at_call 82; refine (K2.out _).mono ?_)
    first | (intro e W2 he hb2; subst he) | (rintro e W2 ⟨rfl, hb2⟩)
    have HB2 := hide (HB.out.trans (hb2.mono HB.out.size))
    clear hb2
    go_wp2_with fail
    go_ret
    exact ⟨by rw [Bool.false_or]; rfl, HB2.out⟩

theorem begins_eq {st : FS} (hc : st.code = 0) : begins st = (st.t.kd == 1 || (st.t.kd == 3 && (decide (st.t.t = sAt) || decide (st.t.t = sHole) || decide (st.t.t = wProp) || decide (st.t.t = wType) || decide (st.t.t = wSort) || decide (st.t.t = sOpen)))) := by
  unfold begins FS.is
  rw [kin_eq hc, hc]
  cases (st.t.kd == 1) <;> cases (st.t.kd == 3) <;> simp

theorem digs_odd {t : ByteArray} (hd : Digs t) (h0 : 0 < t.size) : Odd t := by
  apply odd_digit
  have := hd (t.data.toList[0]'(by simpa using h0)) (List.getElem_mem _)
  rw [at_data t 0 h0]
  simpa [digitB] using this
theorem Rdy.odd {w : World} {st : FS} (h : Rdy w rb mv s st) : ∃ (k : Nat) (t : ByteArray), w.cell? ⟨rb, 1, none⟩ = some (.int .i64 (k : Nat)) ∧ w.cell? ⟨rb, 3, none⟩ = some (.string t) ∧ ((k : Int) == 1) = (st.t.kd == 1) ∧ ((Odd t ∧ st.t.kd ≠ 1 ∧ st.t.kd ≠ 3) ∨ ((st.t.kd = 1 ∨ st.t.kd = 3) ∧ t = st.t.t)) ∧ t.size ≤ 200000 := by
  have hk4 := h.ok.kd
  obtain ⟨h0, c, k, t, r, hw, hp, hz⟩ := h.rd
  refine ⟨k, t, hw.c1, hw.c3, ?_, ?_, by have := h.hs; omega⟩
  · by_cases h3 : st.t.kd ≤ 3
    · rw [(hp.good h3).1, Bool.eq_iff_iff]; simp; omega
    · have := (hp.bad (by omega)).1
      rw [Bool.eq_iff_iff]; simp; omega
  · by_cases h13 : st.t.kd = 1 ∨ st.t.kd = 3
    · exact .inr ⟨h13, (hp.good (by omega)).2.1⟩
    · refine .inl ⟨?_, by omega, by omega⟩
      by_cases h4 : st.t.kd = 4
      · exact (hp.bad h4).2
      · obtain ⟨rfl, rfl, _⟩ := hp.good (by omega)
        by_cases h2 : st.t.kd = 2
        · have := hp.num h2
          exact digs_odd this.1 this.2.1
        · obtain ⟨p, hf⟩ := h.ok.tok
          have h0 : st.t.kd = 0 := by omega
          have e1 : st.t.at_ = s.size := hf.fin h0
          have e2 : st.t.t.size = st.e - st.t.at_ := hf.text
          have e3 : st.e ≤ s.size := hf.le
          have e4 : st.t.t.size = 0 := by omega
          refine ⟨?_, ?_, ?_, ?_, ?_, ?_, fun q hq e => ?_⟩
          any_goals (intro e; rw [e] at e4; revert e4; decide)
          have := tac_size hq
          rw [← e] at this
          omega

set_option maxRecDepth 100000 in
set_option maxHeartbeats 2000000 in
theorem beforeAtom_calls (st : FS) (w : World) (h : Rdy w rb mv s st) : Calls Tryz.prog 103 #[.pointer (some ⟨rb, 0, none⟩)] w fun e w' => e = .returned (.bool (begins st)) ∧ w' = w := by
  obtain ⟨k, t, c1, c3, hk, hcase, _⟩ := h.odd
  have hb := begins_eq h.code
  by_cases hsix : t = sAt ∨ t = sHole ∨ t = wProp ∨ t = wType ∨ t = wSort ∨ t = sOpen
  · have hbt : begins st = true := by
      rcases hcase with ⟨ho, _⟩ | ⟨h13, rfl⟩
      · obtain ⟨o1, o2, o3, o4, o5, o6, _⟩ := ho
        rcases hsix with e | e | e | e | e | e
        · exact absurd e o1
        · exact absurd e o2
        · exact absurd e o3
        · exact absurd e o4
        · exact absurd e o5
        · exact absurd e o6
      · rw [hb]
        rcases h13 with h1 | h1
        · rw [h1]; rfl
        · rw [h1]
          rcases hsix with e | e | e | e | e | e <;> (rw [e]; rfl)
    rw [hbt]
    clear hb hcase hbt hk h
    rcases hsix with rfl | rfl | rfl | rfl | rfl | rfl <;>
    (go_enter Tryz.func103, Tryz.ntmps103
     go_wp2_with fail
     go_ret
     exact ⟨rfl, rfl⟩)
  · have hbf : begins st = ((k : Int) == 1) := by
      rw [hb, hk]
      rcases hcase with ⟨_, h1, h3⟩ | ⟨h13, rfl⟩
      · rw [show (st.t.kd == 3) = false from by simpa using h3]; simp
      · simp only [not_or] at hsix
        obtain ⟨n1, n2, n3, n4, n5, n6⟩ := hsix
        simp [n1, n2, n3, n4, n5, n6]
    rw [hbf]
    simp only [not_or] at hsix
    obtain ⟨n1, n2, n3, n4, n5, n6⟩ := hsix
    have m1 := sameLit_neg (l := [64]) n1
    have m2 := sameLit_neg (l := [95]) n2
    have m3 := sameLit_neg (l := [80, 114, 111, 112]) n3
    have m4 := sameLit_neg (l := [84, 121, 112, 101]) n4
    have m5 := sameLit_neg (l := [83, 111, 114, 116]) n5
    have m6 := sameLit_neg (l := [40]) n6
    clear hb hcase hbf hk h n1 n2 n3 n4 n5 n6
    go_enter Tryz.func103, Tryz.ntmps103
    go_wp2_with fail
    go_ret
    exact ⟨rfl, rfl⟩

end
end Go.Proofs.YtekfledccpeblaaGreatDoor

/- Rows of whatever kind that grow by one; the contract of the reader's levels. -/
namespace Go.Proofs.YtekfledccpeblaaGreatDoor
open Go.RowKit

/-- The parts are those of a list. -/
def KL {α : Type} (P : World → (Nat → Prop) → α → Value → Prop) (l : List α) (W : World) (S : Nat → Prop) (j : Nat) (v : Value) : Prop := ∃ h : j < l.length, P W S l[j] v
/-- What is said of one part stands as long as its blocks do. -/
def Keep1 {α : Type} (P : World → (Nat → Prop) → α → Value → Prop) : Prop := ∀ W W' S S' x v, (∀ b, b < W.heap.size → S b → S' b ∧ W'.heap[b]? = W.heap[b]?) → P W S x v → P W' S' x v
theorem KL.keeps {α : Type} {P : World → (Nat → Prop) → α → Value → Prop} (hP : Keep1 P) (l : List α) : Keeps (KL P l) := fun _ _ _ _ _ _ h ⟨hj, hp⟩ => ⟨hj, hP _ _ _ _ _ _ h hp⟩
section
variable {α : Type} {P : World → (Nat → Prop) → α → Value → Prop} {W w5 w6 : World} {T z n0 rb : Nat} {rv rv' : Value} {xs : List Value} {l : List α} {x : α} {a : Array Value} {o : Obj}
theorem GRow.snoc (hP : Keep1 P) (h : GRow (KL P l) W T z 0 n0 l.length rv xs) (hT : Touched W rb w5) (hrb : rb < n0) (hn0 : n0 ≤ W.heap.size) (hx : P w5 (fun b => W.heap.size ≤ b) x (.agg a)) (ha : a.size = z)
    (hown : w6.ownsRow n0 T z rv' (l.length + 1) (flat xs ++ a.toList)) (hgr : (w5.alloc o).grownBy w6 rv.ownBlock) (hpl : rv'.ownBlock = rv.ownBlock ∨ rv'.ownBlock = some (w5.alloc o).heap.size) :
    GRow (KL P (l ++ [x])) w6 T z 0 n0 (l ++ [x]).length rv' (xs ++ [.agg a]) := by
  have h1 : GRow (KL P (l ++ [x])) w5 T z 0 n0 l.length rv xs := (h.touched (KL.keeps hP _) hT hrb).imp fun S j v hj ⟨hj', hv⟩ => ⟨by simp; omega, by rw [List.getElem_append_left hj']; exact hv⟩
  have hl : (l ++ [x]).length = l.length + 1 := by simp
  rw [hl]
  refine GRow.pushO (KL.keeps hP _) h1 (m := W.heap.size) (w5 := w5) (o := o) (Nat.zero_le _) hn0 (fun g e => (h.own.lt g e).2) (Below.refl _ _) ⟨by simp, ?_⟩ ha hown hgr hpl
  have e1 : (l ++ [x])[l.length]'(by simp) = x := by rw [List.getElem_append_right (Nat.le_refl _)]; simp
  rw [e1]
  exact hP _ _ _ _ _ _ (fun b _ hb => ⟨.inr hb, rfl⟩) hx
/-- A row of one. -/
theorem GRow.one (hP : Keep1 P) (hn0 : n0 ≤ W.heap.size) (hx : P W (fun b => n0 ≤ b) x (.agg a)) (ha : a.size = z) : GRow (KL P [x]) (W.alloc (.cells a T)) T z 0 n0 1 (.slice (some ⟨W.heap.size, 0, none⟩) 1 1) [.agg a] := by
  refine ⟨?_, rfl, fun i hi => ?_, fun j hj => ?_⟩
  · have := World.ownsRow_lit (base := n0) (e := T) (size := z) W a 1 hn0 (by unfold maxLen; omega) (by omega)
    simpa [flat] using this
  · have : i = 0 := by simp at hi; omega
    subst this
    exact ⟨a, rfl, ha⟩
  · have : j = 0 := by simp at hj; omega
    subst this
    refine ⟨by simp, ?_⟩
    refine hP _ _ _ _ _ _ (fun b hb hS => ⟨⟨.inr hS, ?_⟩, Below.heap_alloc _ _ _ hb⟩) hx
    intro e
    injection e with e
    have e' : W.heap.size = b := e
    omega
end
theorem keep_InP : Keep1 InP := fun _ _ _ _ _ _ h hp => hp.keep h
theorem Tryz.info96' : (Tryz.prog.info? 96).map (fun i => (i.zero, i.size, i.bytes)) = some (some (.agg #[.int .i64 0, .string ⟨#[]⟩, .slice none 0 0]), 3, 48) := by kernel_rfl

section
variable {rb : Nat} {mv : Value} {s : ByteArray}
/-- Levels were read. -/
def LsR (w : World) (ls : List LvB) (e : Ending) (w' : World) : Prop := ∃ (A : Option Addr) (c : Nat), e = .returned (.slice A ls.length c) ∧ LvsIn w' (fun b => w.heap.size ≤ b) A ls
theorem levels_stop {n : Nat} {st : FS} (h : st.is sComma = false) (m : Nat) (ls : List LvB) : levelsN s n m ls st = (ls, st) := by
  cases m with
  | zero => rfl
  | succ m => simp only [levelsN]; rw [if_neg (by rw [h]; simp)]
/-- While levels are read. -/
structure LsSt (w : World) (rb : Nat) (mv : Value) (s : ByteArray) (ls : List LvB) (st : FS) (A : Option Addr) (c : Nat) (ys : List Value) (W : World) : Prop where
  row : GRow (KL InP ls) W 96 3 0 w.heap.size ls.length (.slice A ls.length c) ys
  rdy : Rdy W rb mv s st
  old : Touched w rb W
theorem LsSt.touched {w : World} {ls : List LvB} {st st' : FS} {A : Option Addr} {c : Nat} {ys : List Value} {W W' : World} (h : LsSt w rb mv s ls st A c ys W) (hR : Rdy W' rb mv s st') (hT : Touched W rb W') (h2 : rb < w.heap.size) : LsSt w rb mv s ls st' A c ys W' :=
  ⟨h.row.touched (KL.keeps keep_InP _) hT h2, hR, h.old.trans hT⟩

set_option maxRecDepth 100000 in
set_option maxHeartbeats 8000000 in
theorem levels_calls (n : Nat) (hn : n ≤ 1000000) (st : FS) (w : World) (h : Rdy w rb mv s st) (hl : st.left s < n) :
    Calls Tryz.prog 115 #[.pointer (some ⟨rb, 0, none⟩)] w fun e w' => RQ w rb mv s ((levelsN s n n [(levelN s n st).1] (levelN s n st).2).2.must s sUnbrace) (LsR w (levelsN s n n [(levelN s n st).1] (levelN s n st).2).1) e w' := by
  have H := hide h
  have hlt := h.lt
  have KL0 := hide (level_all n st w h hl)
  have hd := levelN_fwd n st h.ok
  have HLe : Hid ((levelN s n st).2.left s < n) := hide (Nat.lt_of_le_of_lt hd.left hl)
  clear h hd hl
  generalize (levelN s n st).1 = l0 at *
  generalize (levelN s n st).2 = st1 at *
  obtain ⟨fin, hfin⟩ : ∃ fin, fin = levelsN s n n [l0] st1 := ⟨_, rfl⟩
  rw [← hfin]
  have HFi := hide hfin
  obtain ⟨i0, hi, hz0, hz1, hz2⟩ := infoParts Tryz.info96'
  clear hfin
  go_enter Tryz.func115, Tryz.ntmps115
  go_wp2_with (go_at_call 123; refine KL0.out.mono ?_)
  intro e W1 h1
  rcases h1 with ⟨hc1, ⟨k1, nm1, A1, n1, c1, rfl, hI1⟩, hR1, hT1⟩ | ⟨hc1, hth⟩
  rotate_left
  · have HF : Hid (RQ w rb mv s (fin.2.must s sUnbrace) (LsR w fin.1) e W1) := RQ.bad hc1 hth (Touched.refl _ _) (by rw [HFi.out, levels_stop (is_bad hc1 _), must_bad hc1])
    obtain ⟨fb, rfl, -⟩ := hth
    go_wp2_with fail
    exact ⟨rfl, HF.out⟩
  have HS : Hid (LsSt w rb mv s [l0] st1 (some ⟨W1.heap.size, 0, none⟩) 1 [.agg #[.int .i64 k1, .string nm1, .slice A1 n1 c1]] (W1.alloc (.cells #[.int .i64 k1, .string nm1, .slice A1 n1 c1] 96))) :=
    ⟨GRow.one keep_InP hT1.size hI1 rfl, hR1.alloc _, hT1.trans (Touched.alloc _ _ _)⟩
  clear hI1 hR1 hT1 KL0
  go_wp2_with fail
  go_loopg [3] n (fun g v wr => ∃ (ls : List LvB) (st' : FS) (A : Option Addr) (c : Nat) (ys : List Value), v = .slice A ls.length c ∧ Hid (levelsN s n g ls st' = fin) ∧ Hid (st'.left s < g) ∧ ls.length + g = n + 1 ∧ Hid (LsSt w rb mv s ls st' A c ys wr))
  case atStart => exact ⟨[l0], st1, _, _, _, rfl, HFi.out.symm, HLe.out, by simp; omega, HS.out⟩
  case round =>
    clear HS HLe HFi
    obtain ⟨ls, st', A, c, ys, rfl, HE, HLt, hlen, HS⟩ := hrel
    obtain ⟨g', rfl⟩ : ∃ g', gk = g' + 1 := ⟨gk - 1, by have := HLt.out; omega⟩
    have hok := HS.out.rdy.ok
    have hco := HS.out.rdy.code
    have KT := hide (tookQ HS.out.rdy sComma)
    by_cases hp : st'.is sComma = true
    · have hkd := (FS.is_kd hp).2.1
      have hlef := FS.step_left hok hco (by omega) (by omega)
      have HE2 : Hid (levelsN s n g' (ls ++ [(levelN s n (st'.step s)).1]) (levelN s n (st'.step s)).2 = fin) := hide (by have := HE.out; simp only [levelsN] at this; rw [if_pos hp] at this; exact this)
      have hdn := levelN_fwd n (st'.step s) hok.step
      have HL2 : Hid ((levelN s n (st'.step s)).2.left s < g') := hide (by have := hdn.left; have := HLt.out; omega)
      have HLv : Hid (∀ W, Rdy W rb mv s (st'.step s) → Calls Tryz.prog 123 #[.pointer (some ⟨rb, 0, none⟩)] W fun e w' => RQ W rb mv s (levelN s n (st'.step s)).2 (LvR (fun b => W.heap.size ≤ b) (levelN s n (st'.step s)).1) e w') := fun W hW => level_all n _ W hW (by have := HLt.out; omega)
      rw [hp, if_pos rfl] at KT
      clear hdn hlef hkd hp hok hco HE HLt
      generalize (levelN s n (st'.step s)).1 = l2 at *
      generalize (levelN s n (st'.step s)).2 = st2 at *
      generalize st'.step s = sta at *
      go_wp2_with (go_at_call 58; refine KT.out.mono ?_)
      rintro e W3 ⟨rfl, hR3, hT3⟩
      have HS3 := hide (HS.out.touched hR3 hT3 hlt)
      have KV := hide (HLv.out W3 hR3)
      clear hR3 hT3 KT HLv HS
      go_wp2_with (go_at_call 123; refine KV.out.mono ?_)
      intro e W4 h4
      rcases h4 with ⟨hc4, ⟨k4, nm4, A4, n4, c4, rfl, hI4⟩, hR4, hT4⟩ | ⟨hc4, hth⟩
      rotate_left
      · have HF : Hid (RQ w rb mv s (fin.2.must s sUnbrace) (LsR w fin.1) e W4) := RQ.bad hc4 hth HS3.out.old (by rw [← HE2.out, levels_stop (is_bad hc4 _), must_bad hc4])
        obtain ⟨fb, rfl, -⟩ := hth
        go_wp2_with fail
        exact ⟨rfl, HF.out⟩
      have HO4 := hide ((HS3.out.row.touched (KL.keeps keep_InP _) hT4 hlt).own.alloc (.cells #[.int .i64 k4, .string nm4, .slice A4 n4 c4] 96))
      have hz3 := HS3.out.old.size
      have hz4 := hT4.size
      have HI4 := hide hI4
      have HR4 := hide hR4
      have HT4 := hide hT4
      clear hI4 hR4 hT4 KV
      go_wp2_with (at_builtin; refine wpList_append_placed _ rfl _ _ 40 rfl w.heap.size 96 i0 _ 3 48 Tryz.underlying40 hi hz0 hz1 hz2 rfl (by decide) (.slice A ls.length c) ls.length (flat ys) rfl HO4.out ⟨W4.heap.size, 0, none⟩ 1 1 [.int .i64 k4, .string nm4, .slice A4 n4 c4] rfl rfl (cells_new _ [.int .i64 k4, .string nm4, .slice A4 n4 c4] _) (by intro u hu; simp at hu; rcases hu with rfl | rfl | rfl <;> rfl) (by decide) (by unfold maxLen; omega) (by omega) (by simp; omega) ?_)
      intro v' w6 hown6 hgr6 hpl6
      have hG := GRow.snoc keep_InP HS3.out.row HT4.out hlt hz3 HI4.out rfl hown6 hgr6 (by simpa using hpl6)
      obtain ⟨A6, c6, hv6⟩ := own_row_slice hown6
      subst hv6
      have HS6 : Hid (LsSt w rb mv s (ls ++ [l2]) st2 A6 c6 (ys ++ [.agg #[.int .i64 k4, .string nm4, .slice A4 n4 c4]]) w6) := by
        have hT6 : Touched w rb w6 := by
          refine ⟨hgr6.os.trans (HT4.out.os.trans HS3.out.old.os), hgr6.tape.trans (HT4.out.tape.trans HS3.out.old.tape), hgr6.output.trans (HT4.out.output.trans HS3.out.old.output), by have := hgr6.size; simp at this; omega, fun b hb hne => ?_⟩
          rw [hgr6.block b (by simp; omega) (fun e => by have := (HS3.out.row.own.lt _ e.symm).1; omega), Below.heap_alloc _ _ _ (by omega), HT4.out.block b (by omega) hne]
          exact HS3.out.old.block b hb hne
        refine ⟨by have := hG; simpa using this, H.out.next (HR4.out.rd.of_block ?_) HR4.out.ok hT6, hT6⟩
        rw [hgr6.block rb (by simp; omega) (fun e => by have := (HS3.out.row.own.lt _ e.symm).1; omega), Below.heap_alloc _ _ _ HR4.out.lt]
      clear hown6 hgr6 hpl6 hG HO4 HI4 HR4 HT4
      go_wp2_with fail
      go_roundg g'
      case measure => omega
      case rel => exact ⟨ls ++ [l2], st2, A6, c6, _, by simp, HE2.out, HL2.out, by simp; omega, HS6.out⟩
    · have hp' : st'.is sComma = false := by simpa using hp
      have hfi : fin = (ls, st') := by rw [← HE.out, levels_stop hp']
      rw [hp', if_neg (by simp)] at KT
      subst hfi
      clear HE HLt hp hp' hok hco
      go_wp2_with (go_at_call 58; refine KT.out.mono ?_)
      rintro e W3 ⟨rfl, hR3, hT3⟩
      have HS3 := hide (HS.out.touched hR3 hT3 hlt)
      have KE := hide (expectQ hR3 sUnbrace)
      clear hR3 hT3 KT HS
      go_wp2_with (go_at_call 40; refine KE.out.mono ?_)
      intro e W4 h4
      rcases h4 with ⟨hc4, rfl, hR4, hT4⟩ | ⟨hc4, hth⟩
      rotate_left
      · have HF : Hid (RQ w rb mv s (st'.must s sUnbrace) (LsR w ls) e W4) := RQ.bad hc4 hth HS3.out.old rfl
        obtain ⟨fb, rfl, -⟩ := hth
        go_wp2_with fail
        exact ⟨rfl, HF.out⟩
      have HF : Hid (RQ w rb mv s (st'.must s sUnbrace) (LsR w ls) (.returned (.slice A ls.length c)) W4) := by
        have hrow := HS3.out.row.touched (KL.keeps keep_InP _) hT4 hlt
        obtain ⟨A', c', e', hL⟩ := GRow.levels (ls := ls) hrow
        injection e' with e1 e2 e3
        subst e1
        exact .inl ⟨hc4, ⟨A, c, rfl, hL.keep fun b _ hb => ⟨by rcases hb with hb | hb; omega; exact hb, rfl⟩⟩, hR4, HS3.out.old.trans hT4⟩
      clear hR4 hT4 KE HS3
      go_wp2_with fail
      go_ret
      exact HF.out
end
end Go.Proofs.YtekfledccpeblaaGreatDoor
