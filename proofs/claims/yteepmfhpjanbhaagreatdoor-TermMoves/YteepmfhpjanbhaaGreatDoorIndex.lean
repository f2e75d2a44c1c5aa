/- The contracts of part, and of worth at a parameter. -/
import Derived.Test.YteepmfhpjanbhaaGreatDoorReads
import Derived.Test.YteepmfhpjanbhaaGreatDoorTParams

namespace Go.Proofs.YteepmfhpjanbhaaGreatDoor
open Go.RowKit

set_option maxHeartbeats 400000 in
theorem part_calls (k k' : Int) (nm nm' : ByteArray) (b n cap i n' cap' : Nat) (A' : Option Addr) (w : World) (hb : b < w.heap.size) (hi : i < n)
   (h0 : w.cell? ⟨b, i * 3, none⟩ = some (.int .i64 k')) (h1 : w.cell? ⟨b, i * 3 + 1, none⟩ = some (.string nm')) (h2 : w.cell? ⟨b, i * 3 + 2, none⟩ = some (.slice A' n' cap')) :
    Calls Tryz.prog 102 #[.agg #[.int .i64 k, .string nm, .slice (some ⟨b, 0, none⟩) n cap], .int .i64 i] w fun e w' => e = .returned (.agg #[.int .i64 k', .string nm', .slice A' n' cap']) ∧ Below w.heap.size w w' := by
  go_enter Tryz.func102, Tryz.ntmps102
  go_wp2
  refine bodyPost_ret (v := .agg #[.int .i64 k', .string nm', .slice A' n' cap']) (by simp [results, Tryz.results102, go_sem]) rfl ⟨rfl, ?_⟩
  repeat' (first | exact Below.refl _ _ | refine Below.setCell ?_ ?_ _ | refine Below.alloc ?_ ?_ _)
  all_goals simp

/-- What a function of a level's parameters answers. -/
structure Numbers (F : FuncId) (C : Array Value) (σ : ByteArray → Nat) (B : Nat) (w : World) : Prop where
  enter : ∀ (args : Array Value) (w' : World), Sem.run Tryz.prog (callFunc F args) w' = .ok (.enter F args) w'
  calls : ∀ (p : ByteArray) (w' : World), p.size ≤ 1000 → Below B w w' → Calls Tryz.prog F (#[.string p] ++ C) w' fun e w'' => e = .returned (.int .i64 (σ p : Nat)) ∧ w'' = w'

theorem Numbers.later {F : FuncId} {C : Array Value} {σ : ByteArray → Nat} {B : Nat} {w w' : World} (h : Numbers F C σ B w) (hb : Below B w w') : Numbers F C σ B w' :=
  ⟨h.enter, fun p w'' hp hb' => h.calls p w'' hp (hb.trans hb')⟩

set_option maxHeartbeats 400000 in
theorem worth_param (F : FuncId) (C : Array Value) (σ : ByteArray → Nat) (p : ByteArray) (B : Nat) (w : World) (hBw : B ≤ w.heap.size) (hp : p.size ≤ 1000) (hn : Numbers F C σ B w) :
    Calls Tryz.prog 94 #[.agg #[.int .i64 4, .string p, .slice none 0 0], .func (.func F) #[] C] w fun e w' => e = .returned (.int .i64 (σ p : Nat)) ∧ Below w.heap.size w w' := by
  have HN := hide hn
  have he := hn.enter
  have HP := hide hp
  clear hn hp
  go_enter Tryz.func94, Tryz.ntmps94
  go_wp2_with fail
  refine (HN.out.calls p _ HP.out (((Below.refl _ _).alloc (Nat.le_refl _) _).mono hBw)).mono ?_
  rintro e w' ⟨rfl, rfl⟩
  go_wp2_with fail
  go_ret
  exact ⟨rfl, (Below.refl _ _).alloc (Nat.le_refl _) _⟩


end Go.Proofs.YteepmfhpjanbhaaGreatDoor

/- The contract of worth at a max: four calls in an order that is left open. -/
namespace Go.Proofs.YteepmfhpjanbhaaGreatDoor
open Go.RowKit

set_option maxHeartbeats 1000000 in
theorem worth_max (F : FuncId) (C : Array Value) (k' k2 : Int) (nm' nm2 : ByteArray) (A' A2 : Option Addr) (b cap n' cap' n2 cap2 wa wc : Nat) (w : World) (hbs : b < w.heap.size)
    (c0 : w.cell? ⟨b, 0, none⟩ = some (.int .i64 k')) (c1 : w.cell? ⟨b, 0 + 1, none⟩ = some (.string nm')) (c2 : w.cell? ⟨b, 0 + 2, none⟩ = some (.slice A' n' cap'))
    (c3 : w.cell? ⟨b, 3, none⟩ = some (.int .i64 k2)) (c4 : w.cell? ⟨b, 3 + 1, none⟩ = some (.string nm2)) (c5 : w.cell? ⟨b, 3 + 2, none⟩ = some (.slice A2 n2 cap2))
    (iha : ∀ w', Below w.heap.size w w' → Calls Tryz.prog 94 #[.agg #[.int .i64 k', .string nm', .slice A' n' cap'], .func (.func F) #[] C] w' fun e w'' => e = .returned (.int .i64 (wa : Nat)) ∧ Below w'.heap.size w' w'')
    (ihc : ∀ w', Below w.heap.size w w' → Calls Tryz.prog 94 #[.agg #[.int .i64 k2, .string nm2, .slice A2 n2 cap2], .func (.func F) #[] C] w' fun e w'' => e = .returned (.int .i64 (wc : Nat)) ∧ Below w'.heap.size w' w'') :
    Calls Tryz.prog 94 #[.agg #[.int .i64 2, .string ⟨#[]⟩, .slice (some ⟨b, 0, none⟩) 2 cap], .func (.func F) #[] C] w fun e w' => e = .returned (.int .i64 (max wa wc : Nat)) ∧ Below w.heap.size w w' := by
  have HI := hide (Box.calls (w := w) (c0 := .int .i64 2) (c1 := .string ⟨#[]⟩) (c2 := .slice (some ⟨b, 0, none⟩) 2 cap) iha)
  have HJ := hide (Box.calls (w := w) (c0 := .int .i64 2) (c1 := .string ⟨#[]⟩) (c2 := .slice (some ⟨b, 0, none⟩) 2 cap) ihc)
  have HP := hide (Box.calls (w := w) (c0 := .int .i64 2) (c1 := .string ⟨#[]⟩) (c2 := .slice (some ⟨b, 0, none⟩) 2 cap) fun w' (hb' : Below w.heap.size w w') => part_calls 2 k' ⟨#[]⟩ nm' b 2 cap 0 n' cap' A' w' (Nat.lt_of_lt_of_le hbs hb'.size) (by omega) (cell_later hb' c0) (cell_later hb' c1) (cell_later hb' c2))
  have HQ := hide (Box.calls (w := w) (c0 := .int .i64 2) (c1 := .string ⟨#[]⟩) (c2 := .slice (some ⟨b, 0, none⟩) 2 cap) fun w' (hb' : Below w.heap.size w w') => part_calls 2 k2 ⟨#[]⟩ nm2 b 2 cap 1 n2 cap2 A2 w' (Nat.lt_of_lt_of_le hbs hb'.size) (by omega) (cell_later hb' c3) (cell_later hb' c4) (cell_later hb' c5))
  clear iha ihc c0 c1 c2 c3 c4 c5
  go_enter Tryz.func94, Tryz.ntmps94
  go_wp2_with fail
  have HB := hide (Box.start w (.int .i64 2) (.string ⟨#[]⟩) (.slice (some ⟨b, 0, none⟩) 2 cap)).drew
  go_region_with (first
    | (go_at_call_of 102 (Value.int IntKind.i64 0); refine (HP.out _ ?_).mono ?_; exact HB.out; rintro e w' ⟨rfl, HB, g0, g1, g2⟩)
    | (go_at_call_of 102 (Value.int IntKind.i64 1); refine (HQ.out _ ?_).mono ?_; exact HB.out; rintro e w' ⟨rfl, HB, g0, g1, g2⟩)
    | (go_at_call_of 94 nm'; refine (HI.out _ ?_).mono ?_; exact HB.out; rintro e w' ⟨rfl, HB, g0, g1, g2⟩)
    | (go_at_call_of 94 nm2; refine (HJ.out _ ?_).mono ?_; exact HB.out; rintro e w' ⟨rfl, HB, g0, g1, g2⟩))
  all_goals go_wp2_with fail
  all_goals
    go_ret
    refine ⟨ret_int ?_, HB.out.old⟩
    first | omega | (simp; omega) | (split <;> omega)

end Go.Proofs.YteepmfhpjanbhaaGreatDoor

/- The contract of worth: what a level is worth under numbers that a function tells. -/
namespace Go.Proofs.YteepmfhpjanbhaaGreatDoor
open Go.RowKit

set_option maxHeartbeats 1000000 in
theorem worth_calls (F : FuncId) (C : Array Value) (σ : ByteArray → Nat) (B : Nat) (hle : ∀ p, σ p ≤ 1000000) : ∀ (l : LvB) (v : Value) (w : World),
    (∀ p, Lv.has p l → p.size ≤ 1000) → l.nodes ≤ 1000000 → B ≤ w.heap.size → InLv w B l v → Numbers F C σ B w →
    Calls Tryz.prog 94 #[v, .func (.func F) #[] C] w fun e w' => e = .returned (.int .i64 (l.worth σ : Nat)) ∧ Below w.heap.size w w' := by
  have WB : Hid (∀ l : LvB, l.nodes ≤ 1000000 → l.worth σ ≤ 2000000) := fun l hl => by
    have := Lv.worth_le (σ := σ) (n := 1000000) l fun p _ => hle p
    have := Lv.succs_le l
    omega
  clear hle
  intro l
  induction l with
  | zero =>
    intro v w _ _ _ hl _
    subst hl
    go_enter Tryz.func94, Tryz.ntmps94
    go_wp2_with fail
    go_ret
    exact ⟨rfl, (Below.refl _ _).alloc (Nat.le_refl _) _⟩
  | param p =>
    intro v w hnm _ hBw hl hn
    subst hl
    exact worth_param F C σ p B w hBw (hnm p rfl) hn
  | succ a ih =>
    intro v w hnm hn hBw hl hN
    obtain ⟨b, cap, x, rfl, hb, ⟨k', nm', A', n', cap', rfl, c0, c1, c2⟩, ha⟩ := hl
    simp only [Lv.nodes] at hn
    have hbs : b < w.heap.size := by omega
    have ha' : a.worth σ ≤ 2000000 := WB.out a (by omega)
    have HI : Hid (∀ w', Below w.heap.size w w' → _) := fun w' (hb' : Below w.heap.size w w') => ih _ w' hnm (by omega) (Nat.le_trans hBw hb'.size) (ha.below (hb'.mono hBw)) (hN.later (hb'.mono hBw))
    have HP : Hid (∀ w', Below w.heap.size w w' → _) := fun w' (hb' : Below w.heap.size w w') => part_calls 1 k' ⟨#[]⟩ nm' b 1 cap 0 n' cap' A' w' (Nat.lt_of_lt_of_le hbs hb'.size) (by omega) (cell_later hb' c0) (cell_later hb' c1) (cell_later hb' c2)
    clear ih ha hN c0 c1 c2 hnm
    simp only [Lv.worth]
    generalize a.worth σ = wa at *
    go_enter Tryz.func94, Tryz.ntmps94
    go_wp2_with (go_at_call 102; refine (HP.out _ ?_).mono ?_)
    · exact ((Below.refl _ _).alloc (Nat.le_refl _) _)
    rintro e w' ⟨rfl, hbw⟩
    have hw1 : Below w.heap.size w w' := ((Below.refl _ _).alloc (Nat.le_refl _) _).trans (hbw.mono (by simp))
    have HW := hide hw1
    clear hw1 hbw
    go_wp2_with (go_at_call 94; refine (HI.out _ HW.out).mono ?_)
    rintro e w'' ⟨rfl, hbw⟩
    have HW2 := hide (HW.out.trans (hbw.mono HW.out.size))
    clear hbw
    go_wp2_with fail
    go_ret
    exact ⟨rfl, HW2.out⟩
  | max a c iha ihc =>
    intro v w hnm hn hBw hl hN
    obtain ⟨b, cap, x, y, rfl, hb, ⟨k', nm', A', n', cap', rfl, c0, c1, c2⟩, ⟨k2, nm2, A2, n2, cap2, rfl, c3, c4, c5⟩, ha, hc⟩ := hl
    simp only [Lv.nodes] at hn
    exact worth_max F C k' k2 nm' nm2 A' A2 b cap n' cap' n2 cap2 _ _ w (by omega) c0 c1 c2 c3 c4 c5
      (fun w' hb' => iha _ w' (fun p hp => hnm p (.inl hp)) (by omega) (Nat.le_trans hBw hb'.size) (ha.below (hb'.mono hBw)) (hN.later (hb'.mono hBw)))
      (fun w' hb' => ihc _ w' (fun p hp => hnm p (.inr hp)) (by omega) (Nat.le_trans hBw hb'.size) (hc.below (hb'.mono hBw)) (hN.later (hb'.mono hBw)))
  | imax a c iha ihc =>
    intro v w hnm hn hBw hl hN
    obtain ⟨b, cap, x, y, rfl, hb, ⟨k', nm', A', n', cap', rfl, c0, c1, c2⟩, ⟨k2, nm2, A2, n2, cap2, rfl, c3, c4, c5⟩, ha, hc⟩ := hl
    simp only [Lv.nodes] at hn
    have hbs : b < w.heap.size := by omega
    have ha' : a.worth σ ≤ 2000000 := WB.out a (by omega)
    have hc' : c.worth σ ≤ 2000000 := WB.out c (by omega)
    have HI := hide (Box.calls (w := w) (c0 := .int .i64 3) (c1 := .string ⟨#[]⟩) (c2 := .slice (some ⟨b, 0, none⟩) 2 cap) fun w' (hb' : Below w.heap.size w w') => iha _ w' (fun p hp => hnm p (.inl hp)) (by omega) (Nat.le_trans hBw hb'.size) (ha.below (hb'.mono hBw)) (hN.later (hb'.mono hBw)))
    have HJ := hide (Box.calls (w := w) (c0 := .int .i64 3) (c1 := .string ⟨#[]⟩) (c2 := .slice (some ⟨b, 0, none⟩) 2 cap) fun w' (hb' : Below w.heap.size w w') => ihc _ w' (fun p hp => hnm p (.inr hp)) (by omega) (Nat.le_trans hBw hb'.size) (hc.below (hb'.mono hBw)) (hN.later (hb'.mono hBw)))
    have HP := hide (Box.calls (w := w) (c0 := .int .i64 3) (c1 := .string ⟨#[]⟩) (c2 := .slice (some ⟨b, 0, none⟩) 2 cap) fun w' (hb' : Below w.heap.size w w') => part_calls 3 k' ⟨#[]⟩ nm' b 2 cap 0 n' cap' A' w' (Nat.lt_of_lt_of_le hbs hb'.size) (by omega) (cell_later hb' c0) (cell_later hb' c1) (cell_later hb' c2))
    have HQ := hide (Box.calls (w := w) (c0 := .int .i64 3) (c1 := .string ⟨#[]⟩) (c2 := .slice (some ⟨b, 0, none⟩) 2 cap) fun w' (hb' : Below w.heap.size w w') => part_calls 3 k2 ⟨#[]⟩ nm2 b 2 cap 1 n2 cap2 A2 w' (Nat.lt_of_lt_of_le hbs hb'.size) (by omega) (cell_later hb' c3) (cell_later hb' c4) (cell_later hb' c5))
    clear iha ihc hN ha hc c0 c1 c2 c3 c4 c5 hnm
    simp only [Lv.worth]
    generalize a.worth σ = wa at *
    generalize c.worth σ = wc at *
    go_enter Tryz.func94, Tryz.ntmps94
    go_wp2_with fail
    refine (HQ.out _ (Box.start w _ _ _)).mono ?_
    rintro e w' ⟨rfl, HB, g0, g1, g2⟩
    go_wp2_with (go_at_call 94; refine (HJ.out _ HB.out).mono ?_)
    rintro e w'' ⟨rfl, HB2, g3, g4, g5⟩
    clear g0 g1 g2
    by_cases h0 : wc = 0
    · have hq : ((wc : Int) == 0) = true := by simp [h0]
      have H0 := hide h0
      clear h0
      go_wp2_with fail
      go_ret
      exact ⟨rfl, HB2.out.old⟩
    · have hq : ((wc : Int) == 0) = false := by simp; omega
      go_wp2_with (go_at_call 102; refine (HP.out _ HB2.out).mono ?_)
      rintro e w3 ⟨rfl, HB3, g6, g7, g8⟩
      clear g3 g4 g5
      go_wp2_with (go_at_call 94; refine (HI.out _ HB3.out).mono ?_)
      rintro e w4 ⟨rfl, HB4, g3, g4, g5⟩
      go_wp2_with fail
      all_goals
        go_ret
        refine ⟨ret_int ?_, HB4.out.old⟩
        first | omega | (simp; omega) | (rw [if_neg (by omega)]; omega) | (rw [if_neg (by omega)]; simp; omega)

end Go.Proofs.YteepmfhpjanbhaaGreatDoor

/- The contracts of slices.Index, sameNames, limit, Worth of package level. -/
namespace Go.Proofs.YteepmfhpjanbhaaGreatDoor
open Go.RowKit

/-- A name's first place in a list, -1 where it has none. -/
def Place (ns : List ByteArray) (q : ByteArray) (r : Int) : Prop :=
  (r = -1 ∧ ∀ j (h : j < ns.length), ns[j] ≠ q) ∨ ∃ k : Nat, ∃ h : k < ns.length, r = k ∧ ns[k] = q ∧ ∀ j (h : j < ns.length), j < k → ns[j] ≠ q

set_option maxHeartbeats 400000 in
theorem index_calls (q : ByteArray) (ns : List ByteArray) (v : Value) (B : Nat) (w : World) (hs : InStrs w B v ns) :
    Calls Tryz.prog 82 #[v, .string q] w fun e w' => ∃ r, e = .returned (.int .i64 r) ∧ Place ns q r ∧ w' = w := by
  obtain ⟨hm, A, cap, rfl, hc⟩ := hs
  unfold maxLen at hm
  go_enter Tryz.func82, Tryz.ntmps82
  go_wp2
  go_loop [8] (fun i => ∃ k : Nat, k ≤ ns.length ∧ i = .int .i64 k ∧ ∀ j (h : j < ns.length), j < k → ns[j] ≠ q) (fun i => ns.length - (intOf i).toNat)
  case atStart => exact ⟨0, Nat.zero_le _, rfl, fun j _ h => absurd h (by omega)⟩
  case round =>
    obtain ⟨k, hk, rfl, hno⟩ := hrel
    have HN : Hid (∀ j (h : j < ns.length), j < k → ns[j] ≠ q) := hno
    clear hno
    by_cases hlt : k < ns.length
    · obtain ⟨b, o, rfl, hb, hcell⟩ := hc k hlt
      clear hc
      by_cases he : ns[k] = q
      · have HP : Hid (Place ns q k) := .inr ⟨k, hlt, rfl, he, HN.out⟩
        have hs := sameStr_pos he.symm
        clear he
        go_wp2
        go_ret
        exact ⟨k, rfl, HP.out, rfl⟩
      · have hs := sameStr_neg fun h => he h.symm
        have HE : Hid (ns[k] ≠ q) := he
        clear he
        go_wp2
        go_round
        case rel => exact ⟨k + 1, by omega, by go_num, fun j h hj => if e : j = k then by subst e; exact HE.out else HN.out j h (by omega)⟩
        case measure => simp [intOf]; omega
    · clear hc
      go_wp2
      go_ret
      exact ⟨-1, rfl, .inl ⟨rfl, fun j h => HN.out j h (by omega)⟩, rfl⟩

def limN (x : Int) : Nat := ((if x < 0 then -(x + 1) else x) % 6).toNat
theorem limN_le (x : Int) : limN x ≤ 1000000 := by unfold limN; split <;> omega

set_option maxHeartbeats 400000 in
theorem limit_calls (x : Int) (w : World) (h1 : -9223372036854775808 ≤ x) (h2 : x ≤ 9223372036854775807) : Calls Tryz.prog 7 #[.int .i64 x] w fun e w' => e = .returned (.int .i64 (limN x : Nat)) ∧ w' = w := by
  by_cases hx : x < 0
  · go_enter Tryz.func7, Tryz.ntmps7
    go_wp2_with fail
    go_ret
    refine ⟨ret_int ?_, rfl⟩
    have e : -(x + 1).tmod 6 = (-(x + 1)) % 6 := by rw [← Int.neg_tmod, Int.tmod_eq_emod_of_nonneg (by omega)]
    rw [e]
    unfold limN
    rw [if_pos hx]
    omega
  · go_enter Tryz.func7, Tryz.ntmps7
    go_wp2_with fail
    go_ret
    refine ⟨ret_int ?_, rfl⟩
    unfold limN
    rw [if_neg (by omega)]
    omega

end Go.Proofs.YteepmfhpjanbhaaGreatDoor
