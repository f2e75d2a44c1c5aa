/- The contracts of Closed: the document's and the program's. -/
import Derived.Test.YteepmfhpjanbhaaGreatDoorRSubst
import Derived.Test.YteepmfhpjanbhaaGreatDoorRLift
import Derived.Test.YteepmfhpjanbhaaGreatDoorReads
import Derived.Lib.ItoaNum

namespace Go.Proofs.YteepmfhpjanbhaaGreatDoor
open Go.RowKit

def allB (p : Nat → Bool) (n : Nat) : Bool := (List.range n).all p
theorem allB_true {p : Nat → Bool} {n : Nat} (h : ∀ j, j < n → p j = true) : allB p n = true := by
  unfold allB; rw [List.all_eq_true]; intro x hx; exact h x (List.mem_range.1 hx)
theorem allB_false {p : Nat → Bool} {n k : Nat} (hk : k < n) (h : p k = false) : allB p n = false := by
  unfold allB; rw [List.all_eq_false]; exact ⟨k, List.mem_range.2 hk, by simp [h]⟩

/-- A term's part; behind the last one some term. -/
def Tm.ch (t : Tm) (i : Nat) : Tm := t.ts.getD i (tvar 0)
theorem Tm.ch_eq {t : Tm} {i : Nat} (h : i < t.ts.length) : t.ch i = t.ts[i] := by unfold ch; simp [List.getD, h]

/-- Has no free variable a number of n or more? -/
def closedT : Nat → Nat → Tm → Bool
  | 0, _, _ => true
  | d + 1, n, t => if t.kd = 0 then decide (t.n < n) else allB (fun i => closedT d (n + t.bnd i) (t.ch i)) t.ts.length

/-- Behind a box of a term's five cells nothing old has turned. -/
abbrev Box5 (w : World) (c0 c1 c2 c3 c4 : Value) (W : World) : Prop := Below (w.heap.size + 1) (w.alloc (.cells #[c0, c1, c2, c3, c4] 30)) W
section
variable {w W W' : World} {c0 c1 c2 c3 c4 : Value}
theorem Box5.start (w : World) (c0 c1 c2 c3 c4 : Value) : Box5 w c0 c1 c2 c3 c4 (w.alloc (.cells #[c0, c1, c2, c3, c4] 30)) := Below.refl _ _
theorem Box5.old (h : Box5 w c0 c1 c2 c3 c4 W) : Below w.heap.size w W := ((Below.refl _ _).alloc (Nat.le_refl _) _).trans (Below.mono h (by omega))
theorem Box5.size (h : Box5 w c0 c1 c2 c3 c4 W) : w.heap.size + 1 ≤ W.heap.size := by have := Below.size h; simpa using this
theorem Box5.cells (h : Box5 w c0 c1 c2 c3 c4 W) : W.cell? ⟨w.heap.size, 0, none⟩ = some c0 ∧ W.cell? ⟨w.heap.size, 1, none⟩ = some c1 ∧ W.cell? ⟨w.heap.size, 2, none⟩ = some c2 ∧ W.cell? ⟨w.heap.size, 3, none⟩ = some c3 ∧ W.cell? ⟨w.heap.size, 4, none⟩ = some c4 :=
  cells5 (by rw [Below.block h _ (by omega)]; exact heap_alloc_new _ _)
theorem Box5.then (h : Box5 w c0 c1 c2 c3 c4 W) (hb : Below W.heap.size W W') : Box5 w c0 c1 c2 c3 c4 W' := Below.trans h (hb.mono (Box5.size h))
end

set_option maxRecDepth 100000 in
set_option maxHeartbeats 4000000 in
theorem rclosed_calls : ∀ (d : Nat) (t : Tm) (v : Value) (n : Nat) (S : Nat → Prop) (w : World), WfT d t → n + d ≤ 2000000 → InTm w S d t v →
    Calls Tryz.prog 16 #[v, .int .i64 (n : Nat)] w fun e w' => e = .returned (.bool (closedT d n t)) ∧ Below w.heap.size w w'
  | 0, _, _, _, _, _, h, _, _ => absurd h (by simp [WfT])
  | d + 1, t, v, n, S, w, hwf, hn, hin => by
    have ih := rclosed_calls d
    obtain ⟨A, c, A', c', rfl, -, ht⟩ := hin
    obtain ⟨a1, a2, a3, a4, a5, a6, a7, a8, a9, a10⟩ := hwf
    have h3 : t.ts.length ≤ 3 := by rw [a8]; exact tparts_le _
    have IH := hide ih
    have HT := hide ht
    have HW := hide a10
    clear ih ht a10 a3 a4 a5 a8 a9
    by_cases hk : t.kd = 0
    · have q0 : ((t.kd : Int) == 0) = true := by simp [hk]
      have hc : closedT (d + 1) n t = decide (t.n < n) := by simp [closedT, hk]
      rw [hc]
      clear hk hc
      go_enter Tryz.func16, Tryz.ntmps16
      go_wp2_with fail
      go_ret
      exact ⟨ret_bool (by simp), (Below.refl _ _).alloc (Nat.le_refl _) _⟩
    · have q0 : ((t.kd : Int) == 0) = false := by simp; omega
      have hc : closedT (d + 1) n t = allB (fun i => closedT d (n + t.bnd i) (t.ch i)) t.ts.length := by simp only [closedT, if_neg hk]
      rw [hc]
      clear hk hc
      go_enter Tryz.func16, Tryz.ntmps16
      go_wp2_with fail
      go_loopg [5] (t.ts.length) (fun gg i wr => ∃ (k : Nat), k + gg = t.ts.length ∧ i = .int .i64 k ∧ (∀ j, j < k → closedT d (n + t.bnd j) (t.ch j) = true) ∧ Box5 w (.int .i64 (t.kd : Nat)) (.int .i64 (t.n : Nat)) (.string t.nm) (.slice A t.ls.length c) (.slice A' t.ts.length c') wr)
      case atStart => exact ⟨0, by omega, rfl, fun j h => absurd h (by omega), Below.refl _ _⟩
      case round =>
        obtain ⟨k, hkg, rfl, hall, hbel⟩ := hrel
        obtain ⟨g0, g1, g2, g3, g4⟩ := Box5.cells hbel
        have hz := Box5.size hbel
        by_cases hlt : k < t.ts.length
        · obtain ⟨b1, x, rfl, hb1, h5, hinx⟩ := HT.out k hlt
          obtain ⟨kk, nn, nm', A3, n', cap', A5, n5, cap5, rfl, c0, c1, c2, c3, c4⟩ := h5
          have KB := hide (rbinds_calls t k t.n t.nm (.slice A t.ls.length c) (some ⟨b1, 0, none⟩) c' wr h3 a1 A t.ls.length c rfl)
          have hbk := t.bnd_le k
          have IHk : Hid (∀ W, Below w.heap.size w W → Calls Tryz.prog 16 #[.agg #[.int .i64 kk, .int .i64 nn, .string nm', .slice A3 n' cap', .slice A5 n5 cap5], .int .i64 ((n : Int) + ((t.bnd k : Nat) : Int))] W fun e w' => e = .returned (.bool (closedT d (n + t.bnd k) (t.ch k))) ∧ Below W.heap.size W w') := fun W hW => by
            have := IH.out t.ts[k] _ (n + t.bnd k) (fun _ => True) W (HW.out k hlt) (by omega) (hinx.keep fun b hb _ => ⟨trivial, hW.block b hb⟩)
            rw [Int.natCast_add] at this
            rw [Tm.ch_eq hlt]
            exact this
          have HA := hide hall
          have HBel := hide hbel
          have HC : Hid (w.cell? ⟨b1, k * 5, none⟩ = some (.int .i64 kk) ∧ w.cell? ⟨b1, k * 5 + 1, none⟩ = some (.int .i64 nn) ∧ w.cell? ⟨b1, k * 5 + 2, none⟩ = some (.string nm') ∧ w.cell? ⟨b1, k * 5 + 3, none⟩ = some (.slice A3 n' cap') ∧ w.cell? ⟨b1, k * 5 + 4, none⟩ = some (.slice A5 n5 cap5)) := ⟨c0, c1, c2, c3, c4⟩
          clear hall hbel hinx c0 c1 c2 c3 c4
          go_wp2_with (go_at_call 45; refine KB.out.mono ?_)
          rintro e w1 ⟨rfl, hw1⟩
          clear KB g0 g1 g2 g3 g4
          have hbel1 := Box5.then HBel.out hw1
          have hz1' := Box5.size hbel1
          obtain ⟨g0, g1, g2, g3, g4⟩ := Box5.cells hbel1
          obtain ⟨c0, c1, c2, c3, c4⟩ := HC.out
          have hold1 := Box5.old hbel1
          have d0 := cell_later hold1 c0
          have d1 := cell_later hold1 c1
          have d2 := cell_later hold1 c2
          have d3 := cell_later hold1 c3
          have d4 := cell_later hold1 c4
          have HB1 := hide hbel1
          have IH1 := hide (IHk.out w1 hold1)
          clear c0 c1 c2 c3 c4 hold1 hbel1 hw1 IHk
          have hcase : (bndB t k = true ∧ ((n : Int) + ((t.bnd k : Nat) : Int)) = n + 1) ∨ (bndB t k = false ∧ ((n : Int) + ((t.bnd k : Nat) : Int)) = n) := by
            cases hbb : bndB t k with
            | true => exact .inl ⟨rfl, by rw [bndB_true hbb]; rfl⟩
            | false => exact .inr ⟨rfl, by rw [bndB_false hbb]; simp⟩
          rcases hcase with ⟨hq, hq1⟩ | ⟨hq, hq1⟩
          all_goals
            rw [hq]
            rw [hq1] at IH1
            clear hq1 hq
            go_wp2_with (go_at_call 16; refine IH1.out.mono ?_)
            rintro e w5 ⟨rfl, hb5⟩
            have HB5 := hide (Box5.then HB1.out hb5)
            clear hb5 IH1 d0 d1 d2 d3 d4 g0 g1 g2 g3 g4
            cases hr : closedT d (n + t.bnd k) (t.ch k) with
            | true =>
              have HR := hide hr
              clear hr
              go_wp2_with fail
              go_roundg (t.ts.length - (k + 1))
              case measure => omega
              case rel => exact ⟨k + 1, by omega, by go_num, fun j hj => if e : j = k then by subst e; exact HR.out else HA.out j (by omega), HB5.out⟩
            | false =>
              have HR := hide (allB_false (p := fun i => closedT d (n + t.bnd i) (t.ch i)) hlt hr)
              clear hr
              go_wp2_with fail
              go_ret
              exact ⟨ret_bool HR.out.symm, Box5.old HB5.out⟩
        · have HR := hide (allB_true (p := fun i => closedT d (n + t.bnd i) (t.ch i)) (n := t.ts.length) fun j hj => hall j (by omega))
          have HB5 := hide hbel
          clear hall hbel
          go_wp2_with fail
          go_ret
          exact ⟨ret_bool HR.out.symm, Box5.old HB5.out⟩
end Go.Proofs.YteepmfhpjanbhaaGreatDoor

/- Terms, further: what a text makes sure of them; a copy; parts; the text. Plain Lean, no walk. -/
namespace Go.Proofs.YteepmfhpjanbhaaGreatDoor
open Go.RowKit

/-- How many parts a term has, those of its levels too. -/
def partsT : Nat → Tm → Nat
  | 0, _ => 0
  | d + 1, t => 1 + (t.ls.map Lv.nodes).sum + (t.ts.map (partsT d)).sum

theorem SignAt.lt {s : ByteArray} {c p p' : Nat} (h : SignAt s c p p') : p < p' := by
  have := runTo_ge blankB s p
  rw [h.2.2]; omega
theorem WordAt.lt {s q : ByteArray} {p p' : Nat} (h : WordAt s q p p') : p < p' ∧ q.size ≤ 1000 := by
  obtain ⟨h1, _, h2, h3, h4⟩ := h
  have g1 := runTo_ge blankB s p
  have g2 := runTo_ge (fun c => nameB c false) s (runTo blankB s p + 1)
  refine ⟨by omega, ?_⟩
  rw [h4, ByteArray.size_extract]
  omega
theorem ZeroAt.lt {s : ByteArray} {p p' : Nat} (h : ZeroAt s p p') : p < p' := by
  have := runTo_ge blankB s p
  rw [h.2.2.2]; omega

theorem Reads.some {s : ByteArray} : ∀ {l : LvB} {p p' : Nat}, Reads s l p p' → p + l.nodes ≤ p' ∧ ∀ q, Lv.has q l → q.size ≤ 1000
  | .zero, p, p', h => ⟨by have := ZeroAt.lt h; simp only [Lv.nodes]; omega, fun q hq => absurd hq (by simp [Lv.has])⟩
  | .param r, p, p', h => ⟨by have := (WordAt.lt h).1; simp only [Lv.nodes]; omega, fun q hq => by have e : r = q := hq; rw [← e]; exact (WordAt.lt h).2⟩
  | .succ a, p, p', ⟨p1, p2, p3, h1, h2, h3, h4⟩ => by
    have ha := Reads.some h3
    refine ⟨?_, ha.2⟩
    have := h1.lt; have := h2.lt.1; have := h4.lt; have := ha.1
    simp only [Lv.nodes]; omega
  | .max a b, p, p', ⟨p1, p2, p3, p4, h1, h2, h3, h4, h5⟩ => by
    have ha := Reads.some h3
    have hb := Reads.some h4
    refine ⟨?_, fun q hq => hq.elim (ha.2 q) (hb.2 q)⟩
    have := h1.lt; have := h2.lt.1; have := h5.lt; have := ha.1; have := hb.1
    simp only [Lv.nodes]; omega
  | .imax a b, p, p', ⟨p1, p2, p3, p4, h1, h2, h3, h4, h5⟩ => by
    have ha := Reads.some h3
    have hb := Reads.some h4
    refine ⟨?_, fun q hq => hq.elim (ha.2 q) (hb.2 q)⟩
    have := h1.lt; have := h2.lt.1; have := h5.lt; have := ha.1; have := hb.1
    simp only [Lv.nodes]; omega

theorem Lv.nodes_pos {α : Type} : ∀ (l : Lv α), 1 ≤ l.nodes
  | .zero => by simp [Lv.nodes]
  | .succ a => by simp [Lv.nodes]
  | .max a b => by simp [Lv.nodes]
  | .imax a b => by simp [Lv.nodes]
  | .param _ => by simp [Lv.nodes]

theorem ReadsAll.some {s : ByteArray} : ∀ {ls : List LvB} {p p' : Nat}, ReadsAll s ls p p' → p + (ls.map Lv.nodes).sum ≤ p' ∧ ls.length ≤ (ls.map Lv.nodes).sum ∧ ∀ l ∈ ls, l.nodes ≤ p' - p ∧ ∀ q, Lv.has q l → q.size ≤ 1000
  | [], p, p', h => by have e : p' = p := h; exact ⟨by simp [e], by simp, fun l hl => absurd hl (by simp)⟩
  | a :: ls, p, p', ⟨p1, h1, h2⟩ => by
    have ha := Reads.some h1
    obtain ⟨i1, i2, i3⟩ := ReadsAll.some h2
    have hn := a.nodes_pos
    refine ⟨by simp only [List.map_cons, List.sum_cons]; omega, by simp only [List.map_cons, List.sum_cons, List.length_cons]; omega, fun l hl => ?_⟩
    rcases List.mem_cons.1 hl with rfl | hl
    · exact ⟨by have := ha.1; omega, ha.2⟩
    · exact ⟨by have := (i3 l hl).1; have := ha.1; omega, (i3 l hl).2⟩

theorem LvPart.some {s : ByteArray} {kd : Nat} {ls : List LvB} {p p' : Nat} (h : LvPart s kd ls p p') : p + (ls.map Lv.nodes).sum ≤ p' ∧ ls.length ≤ (ls.map Lv.nodes).sum ∧ ∀ l ∈ ls, l.nodes ≤ p' - p ∧ ∀ q, Lv.has q l → q.size ≤ 1000 := by
  rcases h with ⟨_, l, rfl, hr⟩ | ⟨_, hr, _⟩ | ⟨_, _, rfl, rfl⟩
  · exact ReadsAll.some (ls := [l]) ⟨p', hr, rfl⟩
  · exact ReadsAll.some hr
  · exact ReadsAll.some (s := s) (ls := []) (rfl : p' = p')

theorem Seq.some {R : Tm → Nat → Nat → Prop} {W : Nat → Tm → Prop} {c : Nat → Tm → Nat} (hR : ∀ t p p', R t p p' → p < p' ∧ ∀ e, p' ≤ p + e → W e t ∧ p + c e t ≤ p') : ∀ {ts : List Tm} {p p' : Nat}, Seq R ts p p' → p ≤ p' ∧ ∀ e, p' ≤ p + e → (∀ x ∈ ts, W e x) ∧ p + (ts.map (c e)).sum ≤ p'
  | [], p, p', h => by have e : p' = p := h; exact ⟨by omega, fun _ _ => ⟨fun x hx => absurd hx (by simp), by simp [e]⟩⟩
  | a :: ts, p, p', ⟨p1, h1, h2⟩ => by
    obtain ⟨a1, a2⟩ := hR _ _ _ h1
    obtain ⟨i1, i2⟩ := Seq.some hR h2
    refine ⟨by omega, fun e he => ?_⟩
    obtain ⟨w1, c1⟩ := a2 e (by omega)
    obtain ⟨w2, c2⟩ := i2 e (by omega)
    refine ⟨fun x hx => ?_, by simp only [List.map_cons, List.sum_cons]; omega⟩
    rcases List.mem_cons.1 hx with rfl | hx
    · exact w1
    · exact w2 x hx

theorem IdxAt.some {s : ByteArray} {n p p' : Nat} (h : IdxAt s n p p') : p < p' ∧ n ≤ 99999 := by
  obtain ⟨h1, h2, h3, h4, h5⟩ := h
  have g1 := runTo_ge blankB s p
  have hne : p' ≠ runTo blankB s p + 1 := fun e => h4 (.inl e)
  have h5' : ¬ 5 < p' - (runTo blankB s p + 1) := fun e => h4 (.inr (.inl e))
  have hge := digitEnd_ge s (runTo blankB s p)
  rw [← h3] at hge
  have hle : p' ≤ s.size := by rw [h3]; exact digitEnd_le h1
  refine ⟨by omega, ?_⟩
  rw [h5]
  have hd : Digs (s.extract (runTo blankB s p + 1) p') := run_digs (by omega) h3.symm
  have hl : (s.extract (runTo blankB s p + 1) p').data.toList.length ≤ 5 := by
    have e : (s.extract (runTo blankB s p + 1) p').data.toList.length = (s.extract (runTo blankB s p + 1) p').size := by rw [Array.length_toList]; rfl
    rw [e, ByteArray.size_extract]
    omega
  have hlt := decF_lt _ 0 hd
  unfold decV
  generalize (s.extract (runTo blankB s p + 1) p').data.toList = l at *
  have hp : 10 ^ l.length ≤ 10 ^ 5 := Nat.pow_le_pow_right (by omega) hl
  have e5 : (10 : Nat) ^ 5 = 100000 := by decide
  rw [e5] at hp
  omega

/-- What a text makes sure of the term that stands there. -/
theorem RT.some {s : ByteArray} (hs : s.size ≤ 20000) : ∀ (d : Nat) (t : Tm) (p p' : Nat), RT s d t p p' → p < p' ∧ ∀ e, p' ≤ p + e → WfT e t ∧ p + partsT e t ≤ p'
  | 0, _, _, _, h => absurd h (by simp [RT])
  | d + 1, t, p, p', h => by
    have hle := h.le
    rcases h with ⟨h1, h2, h3, h4, h5⟩ | ⟨p1, p2, p3, p4, p5, q, h1, h2, h3, h4, h5, h6, h7, h8, h9⟩
    · obtain ⟨i1, i2⟩ := h5.some
      refine ⟨i1, fun e he => ?_⟩
      cases e with
      | zero => omega
      | succ e =>
        refine ⟨⟨by omega, i2, fun _ => ⟨h2, h3, h4⟩, fun hk => absurd h1 hk, fun _ => h2, by rw [h2]; exact Nat.zero_le _, by rw [h3]; exact Nat.zero_le _, by rw [h4, h1]; rfl, fun l hl => absurd hl (by rw [h3]; simp), fun i hi => absurd hi (by rw [h4]; simp)⟩, ?_⟩
        simp only [partsT, h3, h4, List.map_nil, List.sum_nil]
        omega
    · have a1 := h1.lt
      have a2 := h2.lt.1
      have a3 := h3.pos
      have a5 : p2 ≤ p3 ∧ t.nm.size ≤ 1000 ∧ (t.kd ≠ 2 → t.nm = ⟨#[]⟩) := by
        rcases h5 with ⟨hk, hw⟩ | ⟨hk, hw, hp⟩
        · exact ⟨by have := hw.lt.1; omega, hw.lt.2, fun hn => absurd hk hn⟩
        · exact ⟨by omega, by rw [hw]; exact Nat.zero_le _, fun _ => hw⟩
      obtain ⟨b1, b2, b3⟩ := h6.some
      obtain ⟨c1, c2⟩ := Seq.some (fun t p p' h => RT.some hs d t p p' h) h7
      have a9 := h9.lt
      refine ⟨by omega, fun e he => ?_⟩
      cases e with
      | zero => omega
      | succ e =>
        obtain ⟨w1, w2⟩ := c2 e (by omega)
        refine ⟨⟨a3.2, by rw [h4]; omega, fun hk => by omega, fun _ => h4, a5.2.2, a5.2.1, by omega, h8, fun l hl => ⟨by have := (b3 l hl).1; omega, (b3 l hl).2⟩, fun i hi => w1 _ (List.getElem_mem hi)⟩, ?_⟩
        simp only [partsT]
        omega

/-- A copy is the term itself. -/
theorem chT_copy : ∀ {d b : Nat} {t : Tm}, WfT d t → chT (liftF 0 0) id d b t = t
  | 0, _, _, h => absurd h (by simp [WfT])
  | d + 1, b, t, h => by
    by_cases hk : t.kd = 0
    · by_cases hn : t.n < b
      · rw [chT_low hk hn]; exact tvar_of h hk
      · rw [chT_free hk hn]
        have e : liftF 0 0 (t.n - b) b = tvar t.n := by unfold liftF; simp; congr 1; omega
        rw [e]; exact tvar_of h hk
    · rw [chT_node hk]
      refine Tm.ext rfl rfl rfl (by show t.ls.map id = t.ls; simp) ?_
      show (t.ts.mapIdx fun i x => chT (liftF 0 0) id d (b + t.bnd i) x) = t.ts
      refine List.ext_getElem (by simp) fun i h1 h2 => ?_
      rw [List.getElem_mapIdx]
      exact chT_copy (h.2.2.2.2.2.2.2.2.2 i h2)

/-- The word of a kind. -/
def tword : Nat → ByteArray
  | 1 => ⟨#[115, 111, 114, 116]⟩
  | 2 => ⟨#[99, 111, 110, 115, 116]⟩
  | 3 => ⟨#[97, 112, 112]⟩
  | 4 => ⟨#[108, 97, 109]⟩
  | 5 => ⟨#[112, 105]⟩
  | 6 => ⟨#[108, 101, 116]⟩
  | _ => ⟨#[]⟩

/-- What stands ahead of a term's levels. -/
def Tm.open_ (t : Tm) : List UInt8 := 40 :: (tword t.kd).data.toList ++ (if t.kd = 2 then 32 :: t.nm.data.toList else [])
/-- The texts of parts, a blank ahead of each. -/
def spaced {α : Type} (f : α → List UInt8) (xs : List α) : List UInt8 := xs.flatMap fun x => 32 :: f x
theorem spaced_succ {α : Type} (f : α → List UInt8) (xs : List α) (k : Nat) (h : k < xs.length) : spaced f (xs.take (k + 1)) = spaced f (xs.take k) ++ [32] ++ f xs[k] := by
  unfold spaced
  rw [List.take_succ_eq_append_getElem h, List.flatMap_append]
  simp
theorem spaced_le {α : Type} (f : α → List UInt8) (xs : List α) (k : Nat) : (spaced f (xs.take k)).length ≤ (spaced f xs).length := by
  have h : spaced f xs = spaced f (xs.take k) ++ spaced f (xs.drop k) := by
    unfold spaced
    rw [← List.flatMap_append, List.take_append_drop]
  rw [h, List.length_append]
  omega

/-- A term's text. -/
def textT : Nat → Tm → List UInt8
  | 0, _ => []
  | d + 1, t => if t.kd = 0 then 35 :: Lib.decDigits t.n else t.open_ ++ spaced Lv.text t.ls ++ spaced (textT d) t.ts ++ [41]

theorem digits_len : ∀ (k n : Nat), n < 10 ^ (k + 1) → (Lib.decDigits n).length ≤ k + 1
  | 0, n, h => by rw [Lib.decDigits_one (by simpa using h)]; simp
  | k + 1, n, h => by
    by_cases hn : n < 10
    · rw [Lib.decDigits_one hn]; simp
    · rw [Lib.decDigits, dif_neg hn, List.length_append]
      have := digits_len k (n / 10) (by rw [Nat.pow_succ] at h; omega)
      simp only [List.length_cons, List.length_nil]
      omega

theorem spaced_len {α : Type} (f : α → List UInt8) (c : α → Nat) : ∀ (xs : List α), (∀ x ∈ xs, (f x).length + 1 ≤ 2000 * c x) → (spaced f xs).length ≤ 2000 * (xs.map c).sum
  | [], _ => by simp [spaced]
  | x :: xs, h => by
    have ih := spaced_len f c xs fun y hy => h y (by simp [hy])
    have hx := h x (by simp)
    unfold spaced at *
    simp only [List.flatMap_cons, List.length_append, List.length_cons, List.map_cons, List.sum_cons, Nat.mul_add]
    omega

theorem textT_len : ∀ {d : Nat} {t : Tm}, WfT d t → (textT d t).length + 1 ≤ 2000 * partsT d t
  | 0, _, h => absurd h (by simp [WfT])
  | d + 1, t, ⟨a1, a2, a3, a4, a5, a6, a7, a8, a9, a10⟩ => by
    unfold textT
    simp only [partsT]
    by_cases hk : t.kd = 0
    · rw [if_pos hk]
      have := digits_len 4 t.n (by have : (10 : Nat) ^ 5 = 100000 := by decide
                                   rw [this]; omega)
      simp only [List.length_cons]
      omega
    · rw [if_neg hk]
      have h1 := spaced_len Lv.text Lv.nodes t.ls fun l hl => by
        have := Lv.text_len l (a9 l hl).2
        have := l.nodes_pos
        omega
      have h2 := spaced_len (textT d) (partsT d) t.ts fun x hx => by
        obtain ⟨i, hi, rfl⟩ := List.getElem_of_mem hx
        exact textT_len (a10 i hi)
      have h3 : t.open_.length ≤ 1010 := by
        unfold Tm.open_
        have e1 : (tword t.kd).data.toList.length ≤ 5 := by
          have : t.kd = 1 ∨ t.kd = 2 ∨ t.kd = 3 ∨ t.kd = 4 ∨ t.kd = 5 ∨ t.kd = 6 := by omega
          rcases this with h | h | h | h | h | h <;> rw [h] <;> decide
        have e2 : t.nm.data.toList.length = t.nm.size := by rw [Array.length_toList]; rfl
        split
        · simp only [List.cons_append, List.length_cons, List.length_append, e2]; omega
        · simp only [List.append_nil, List.length_cons]; omega
      simp only [List.length_append, List.length_cons, List.length_nil]
      omega

end Go.Proofs.YteepmfhpjanbhaaGreatDoor
