/- The contract of copiedLevels. -/
import Derived.Test.YtockffblncdikaaGreatDoorCp
namespace Go.Proofs.YtockffblncdikaaGreatDoor
open Go.RowKit
set_option maxRecDepth 100000
set_option maxHeartbeats 16000000
theorem InP.shape {w : World} {S : Nat -> Prop} : ∀ {l : LvB} {v : Value}, InP w S l v -> ∃ (A : Option Addr) (cap : Nat), v = .agg #[.int .i64 (l.kind : Nat), .string l.nm, .slice A l.kids.length cap] /\ LvsIn w S A l.kids
 | .zero, _, h => ⟨none, 0, h, LvsIn.nil _ _ _⟩
 | .param _, _, h => ⟨none, 0, h, LvsIn.nil _ _ _⟩
 | .succ _, _, ⟨b, cap, x, h, hb, h3, ha⟩ => ⟨some ⟨b, 0, none⟩, cap, h, fun i hi => by
    match i, hi with
    | 0, _ => exact ⟨b, x, rfl, hb, h3, ha⟩⟩
 | .max _ _, _, ⟨b, cap, x, y, h, hb, h3, h4, ha, hc⟩ => ⟨some ⟨b, 0, none⟩, cap, h, fun i hi => by
    match i, hi with
    | 0, _ => exact ⟨b, x, rfl, hb, h3, ha⟩
    | 1, _ => exact ⟨b, y, rfl, hb, h4, hc⟩⟩
 | .imax _ _, _, ⟨b, cap, x, y, h, hb, h3, h4, ha, hc⟩ => ⟨some ⟨b, 0, none⟩, cap, h, fun i hi => by
    match i, hi with
    | 0, _ => exact ⟨b, x, rfl, hb, h3, ha⟩
    | 1, _ => exact ⟨b, y, rfl, hb, h4, hc⟩⟩
theorem slice_inj {b b' : Nat} (h : (some ⟨b, 0, none⟩ : Option Addr) = some ⟨b', 0, none⟩) : b = b' := by injection h with h; injection h
theorem InP.of_shape {w : World} {S : Nat -> Prop} : ∀ (l : LvB) (A : Option Addr) (cap : Nat), LvsIn w S A l.kids -> (l.kids = [] -> A = none /\ cap = 0) -> InP w S l (.agg #[.int .i64 (l.kind : Nat), .string l.nm, .slice A l.kids.length cap])
 | .zero, _, _, _, h0 => by obtain ⟨rfl, rfl⟩ := h0 rfl; rfl
 | .param _, _, _, _, h0 => by obtain ⟨rfl, rfl⟩ := h0 rfl; rfl
 | .succ _, _, cap, h, _ => by
   obtain ⟨b, x, rfl, hb, h3, ha⟩ := h 0 (by simp [Lv.kids]); exact ⟨b, cap, x, rfl, hb, h3, ha⟩
 | .max _ _, _, cap, h, _ => by
   obtain ⟨b, x, rfl, hb, h3, ha⟩ := h 0 (by simp [Lv.kids]); obtain ⟨b', y, e, _, h4, hc⟩ := h 1 (by simp [Lv.kids]); have := slice_inj e; subst this; exact ⟨b, cap, x, y, rfl, hb, h3, h4, ha, hc⟩
 | .imax _ _, _, cap, h, _ => by
   obtain ⟨b, x, rfl, hb, h3, ha⟩ := h 0 (by simp [Lv.kids]); obtain ⟨b', y, e, _, h4, hc⟩ := h 1 (by simp [Lv.kids]); have := slice_inj e; subst this; exact ⟨b, cap, x, y, rfl, hb, h3, h4, ha, hc⟩
theorem kid_nodes {l : LvB} {k : LvB} (h : k ∈ l.kids) : k.nodes < l.nodes := by
 cases l <;> simp [Lv.kids] at h
 . subst h; simp [Lv.nodes]
 . rcases h with rfl | rfl <;> simp [Lv.nodes] <;> omega
 . rcases h with rfl | rfl <;> simp [Lv.nodes] <;> omega
theorem LvsIn.vals {w : World} {S : Nat -> Prop} {A : Option Addr} {ls : List LvB} (h : LvsIn w S A ls) : ∃ (b : Nat) (vals : Nat -> Array Value), (0 < ls.length -> A = some ⟨b, 0, none⟩ /\ S b) /\ (∀ i, i < ls.length -> (vals i).size = 3 /\ (vals i).all (·.oneCell') = true) /\ (∀ i q, i < ls.length -> q < 3 -> w.cell? ⟨b, i * 3 + q, none⟩ = (vals i)[q]?) /\ ∀ i (hi : i < ls.length), InP w S ls[i] (.agg (vals i)) := by
 by_cases h0 : 0 < ls.length
 . obtain ⟨b, x0, e0, hS, _⟩ := h 0 h0
   have hall : ∀ i (hi : i < ls.length), ∃ v : Array Value, v.size = 3 /\ v.all (·.oneCell') = true /\ (∀ q, q < 3 -> w.cell? ⟨b, i * 3 + q, none⟩ = v[q]?) /\ InP w S ls[i] (.agg v) := fun i hi => by
    obtain ⟨b', x, e, _, ⟨k, nm, A', n, c, rfl, c0, c1, c2⟩, hp⟩ := h i hi; rw [e0] at e; have := slice_inj e; subst this
    refine ⟨#[.int .i64 k, .string nm, .slice A' n c], rfl, by simp [Value.oneCell'], fun q hq => ?_, hp⟩
    match q, hq with
    | 0, _ => simpa using c0
    | 1, _ => simpa using c1
    | 2, _ => simpa using c2
   refine ⟨b, fun i => if hi : i < ls.length then (hall i hi).choose else #[], fun _ => ⟨e0, hS⟩, fun i hi => ?_, fun i q hi hq => ?_, fun i hi => ?_⟩
   . simp only [dif_pos hi]; exact ⟨(hall i hi).choose_spec.1, (hall i hi).choose_spec.2.1⟩
   . simp only [dif_pos hi]; exact (hall i hi).choose_spec.2.2.1 q hq
   . simp only [dif_pos hi]; exact (hall i hi).choose_spec.2.2.2
 . exact ⟨0, fun _ => #[], fun h => absurd h h0, fun i hi => by omega, fun i q hi => by omega, fun i hi => by omega⟩
section
variable {rb : Nat} {mv : Value} {s : ByteArray}
theorem Rdy.copies {w : World} {st : FS} (h : Rdy w rb mv s st) : ∃ c : Int, w.cell? ⟨rb, 6, none⟩ = some (.int .i64 c) /\ (∀ i, w.frozen? ⟨rb, i, none⟩ = false) /\ ∀ c' : Int, Rdy (w.setCell ⟨rb, 6, none⟩ (.int .i64 c')) rb mv s st := by
 obtain ⟨h0, c, k, t, r, hw, hp, hz⟩ := h.rd; refine ⟨c, cell_of hw 6 (by simp), fun i => frozen_of hw i, fun c' => ?_⟩
 have hw' : ScW (w.setCell ⟨rb, 6, none⟩ (.int .i64 c')) rb 53 [mv, .int .i64 c'] s (k : Nat) (st.t.at_ : Nat) t (r : Nat) := by unfold ScW at *; simp [World.setCell, Array.getElem?_modify, hw]
 exact h.next ⟨h0, c', k, t, r, hw', hp, hz⟩ h.ok ((Touched.refl _ _).set 6 _)
structure ClSt (w : World) (S : Nat -> Prop) (rb : Nat) (mv : Value) (s : ByteArray) (st : FS) (ls : List LvB) (g j : Nat) (vals : Nat -> Array Value) (W : World) : Prop where
 cp : 0 < ls.length -> Cp W g ls.length 3 vals /\ w.heap.size <= g
 done : ∀ i (hi : i < ls.length), i < j -> InP W (fun b => w.heap.size <= b /\ b ≠ g) ls[i] (.agg (vals i))
 todo : ∀ i (hi : i < ls.length), j <= i -> InP W (fun b => S b /\ b < w.heap.size) ls[i] (.agg (vals i))
 rdy : Rdy W rb mv s st
 old : Touched w rb W
theorem ClSt.touched {w : World} {S : Nat -> Prop} {st st' : FS} {ls : List LvB} {g j : Nat} {vals : Nat -> Array Value} {W W' : World} (h : ClSt w S rb mv s st ls g j vals W) (hS : ∀ b, S b -> b ≠ rb) (hlt : rb < w.heap.size) (hR : Rdy W' rb mv s st') (hT : Touched W rb W') (hg : 0 < ls.length -> g < W.heap.size) : ClSt w S rb mv s st' ls g j vals W' :=
 ⟨fun h0 => ⟨(h.cp h0).1.of_block (hT.at (hg h0) (by have := (h.cp h0).2; omega)), (h.cp h0).2⟩, fun i hi hj => (h.done i hi hj).keep fun b hb hs => ⟨hs, hT.at hb (by omega)⟩, fun i hi hj => (h.todo i hi hj).keep fun b hb hs => ⟨hs, hT.at hb (hS b hs.1)⟩, hR, h.old.trans hT⟩
theorem Cp.lt {W : World} {g n z : Nat} {vals : Nat -> Array Value} (h : Cp W g n z vals) (hn : 0 < n) (hz : 0 < z) : g < W.heap.size := by
 have := h.cell 0 0 hn hz; rw [Array.getElem?_eq_getElem (by have := h.size 0 hn; omega)] at this; exact World.block_lt_of_cell? _ _ this
theorem copiedLevels_calls (N : Nat) : ∀ (ls : List LvB), (∀ l ∈ ls, l.nodes <= N) -> ls.length <= 1000000 -> ∀ (S : Nat -> Prop) (_ : ∀ b, S b -> b ≠ rb) (A : Option Addr) (c : Nat) (st : FS) (w : World), Rdy w rb mv s st -> LvsIn w S A ls ->
 Calls Tryz.prog 85 #[.pointer (some ⟨rb, 0, none⟩), .slice A ls.length c] w fun e w' => ∃ (A' : Option Addr) (c' : Nat), e = .returned (.slice A' ls.length c') /\ (ls = [] -> A' = none /\ c' = 0) /\ LvsIn w' (fun b => w.heap.size <= b) A' ls /\ Rdy w' rb mv s st /\ Touched w rb w' := by
 induction N using Nat.strongRecOn with
 | _ N ihN =>
 intro ls hN hlen S hS A c st w h hL; have H := hide h; have hlt := h.lt; obtain ⟨cc, g6, gf, hset⟩ := h.copies; obtain ⟨b, vals, hb0, hz, hc, hp⟩ := hL.vals; have HZ := hide hz; have HC := hide hc; have HP := hide hp
 have HB0 := hide hb0; have HS := hide hS; have HSet := hide hset; have HIH := hide ihN; have HN := hide hN; obtain ⟨i0, hi, hz0, hz1, hz2⟩ := infoParts Tryz.info164'
 have hfl : (flat ((List.range ls.length).map fun i => Value.agg (vals i))).length = ls.length * 3 := by
  rw [flat_len (z := 3) _ (fun i hi => by simp at hi; exact ⟨vals i, by simp, (HZ.out i hi).1⟩)]
  simp
 have HFl := hide hfl; obtain ⟨n, hn⟩ : ∃ n, n = ls.length := ⟨_, rfl⟩; have HNl := hide hn; rw [<- hn] at HZ HC HB0 HFl hlen ⊢; clear h hL hz hc hp hset hb0 hS ihN hN hfl hn
 go_enter Tryz.func85, Tryz.ntmps85
 go_wp2_with (at_builtin; refine wpList_append_copy _ rfl _ _ 56 rfl w.heap.size 164 i0 _ 3 48 Tryz.underlying56 hi hz0 hz1 hz2 rfl (by decide) rfl A n c (flat ((List.range n).map fun i => Value.agg (vals i))) rfl HFl.out ?m1 (one_cells fun i hi => (HZ.out i hi).2) (by unfold maxLen; omega) (by omega) (by simp [World.setCell]) ?_)
 case m1 =>
  intro h0; obtain ⟨rfl, hSb⟩ := HB0.out h0; refine ⟨_, rfl, src_cells (by decide) (fun i hi => (HZ.out i hi).1) (fun i q hi hq => ?_)⟩
  rw [World.cell?_setCell_other _ _ _ _ (fun e => by injection e with e _; exact HS.out b hSb e.symm)]; exact HC.out i q hi hq
 intro v' W1 hown1 hgr1 hpl1 hnil1; have hR0 := HSet.out (wrap64 (cc - (n : Int))); have hT0 : Touched w rb (w.setCell ⟨rb, 6, none⟩ (.int .i64 (wrap64 (cc - (n : Int))))) := (Touched.refl _ _).set 6 _
 generalize hW0 : w.setCell ⟨rb, 6, none⟩ (.int .i64 (wrap64 (cc - (n : Int)))) = W0 at *; obtain ⟨A', c', hv1⟩ := own_row_slice hown1; subst hv1; have hz0s := hT0.size
 have hz0e : W0.heap.size = w.heap.size := hW0.symm ▸ by simp [World.setCell]
 have hB1 : Below W0.heap.size W0 W1 := ⟨hgr1.os, hgr1.tape, hgr1.output, hgr1.size, fun b hb => hgr1.block b hb (by simp)⟩
 have hA1 : n = 0 -> A' = none /\ c' = 0 := fun h0 => by
  have e := hnil1 h0; injection e with e1 e2 e3; exact ⟨e1, e3⟩
 obtain ⟨g, hg1⟩ : ∃ g, 0 < n -> A' = some ⟨g, 0, none⟩ /\ W0.heap.size <= g := by
  by_cases h0 : 0 < n
  . rcases hown1.2 with ⟨_, h1⟩ | ⟨g, cap, cur, e, hb, _⟩
    . omega
    . injection e with e1 e2 e3
      refine ⟨g, fun _ => ⟨e1, ?_⟩⟩; rw [e1] at hpl1
      rcases hpl1 with hp | hp
      . cases hp
      . injection hp with hp
        have : g = _ := hp; omega
  . exact ⟨0, fun h => absurd h h0⟩
 have HG1 := hide hg1; have HA1 := hide hA1
 have HSt : Hid (ClSt w S rb mv s st ls g 0 vals W1) := by
  refine ⟨fun h0 => ?_, fun i hi hj => absurd hj (by omega), fun i hi _ => ?_, hR0.later hB1, hT0.later hB1⟩
  . rw [<- HNl.out] at h0 ⊢
    obtain ⟨e1, hle⟩ := hg1 h0; rw [e1] at hown1; exact ⟨Cp.of_row (fun i hi => (HZ.out i hi).1) hown1, by omega⟩
  . exact (HP.out i hi).keep fun b hb hs => ⟨⟨hs, hb⟩, (hB1.block b (by omega)).trans (hT0.at hb (HS.out b hs))⟩
 clear hW0 hnil1 hown1 hgr1 hpl1 hR0 hT0 hB1 hg1 hA1 HSet HC HZ HP HFl HB0 g6 gf
 go_wp2_with fail
 go_loopg [19] n (fun g' v wr => ∃ (j : Nat) (vals : Nat -> Array Value), j + g' = n /\ v = .int .i64 (j : Nat) /\ Hid (ClSt w S rb mv s st ls g j vals wr))
 case atStart => exact ⟨0, vals, by omega, rfl, HSt.out⟩
 case round =>
  clear HSt; obtain ⟨j, vals, hjg, rfl, HSt⟩ := hrel
  by_cases hj : j < n
  . have hjj : decide ((j : Int) < (n : Int)) = true := by simp; omega
    have hjn : ((j : Nat) : Int) < ((n : Nat) : Int) := by omega
    have hjl : j < ls.length := by rw [<- HNl.out]; exact hj
    obtain ⟨rfl, hgW⟩ := HG1.out (by omega); obtain ⟨hcp, hgw⟩ := HSt.out.cp (by omega); obtain ⟨A2, c2, hv2, hL2⟩ := (HSt.out.todo j hjl (Nat.le_refl _)).shape
    have hlk : ls[j].kids.length <= 1000000 := by cases ls[j] <;> simp [Lv.kids]
    have hno : ls[j].nodes <= N := HN.out _ (List.getElem_mem _); have hnp : 1 <= ls[j].nodes := by cases ls[j] <;> simp [Lv.nodes]
    have KR := hide (HIH.out (N - 1) (by omega) ls[j].kids (fun k hk => by have := kid_nodes hk; omega) hlk (fun b => S b /\ b < w.heap.size) (fun b hb => HS.out b hb.1) A2 c2 st wr HSt.out.rdy hL2)
    have hcj : wr.cell? ⟨g, j * 3 + 2, none⟩ = some (.slice A2 ls[j].kids.length c2) := by
     rw [hcp.cell j 2 hjl (by omega)]; injection hv2 with hv2; rw [hv2]
     rfl
    have hvj : vals j = #[.int .i64 (ls[j].kind : Nat), .string ls[j].nm, .slice A2 ls[j].kids.length c2] := by injection hv2
    have hgl := hcp.lt (by omega) (by decide); have HCp := hide hcp; have HVj := hide hvj; obtain ⟨kn, hkn⟩ : ∃ kn, kn = ls[j].kids.length := ⟨_, rfl⟩; have HKn := hide hkn; rw [<- hkn] at KR hcj
    clear hL2 hcp hv2 hvj hno hnp hlk hkn
    go_wp2_with (go_at_call 85; refine KR.out.mono ?_)
    intro e W4 A3 c3 he hA3 hL3 hR3 hT3; subst he; have hgb : W4.heap[g]? = wr.heap[g]? := hT3.at hgl (by omega)
    have hcj4 : W4.cell? ⟨g, j * 3 + 2, none⟩ = some (.slice A2 kn c2) := (World.cell?_of_block hgb).trans hcj
    have hff4 : ∀ k, W4.frozen? ⟨g, k, none⟩ = false := fun k => (World.frozen?_of_block hgb).trans (HCp.out.fro k)
    have hgl4 : g < W4.heap.size := Nat.lt_of_lt_of_le hgl hT3.size; have hzw := HSt.out.old.size
    have HN4 : Hid (ClSt w S rb mv s st ls g (j + 1) (fun i => if i = j then (vals i).setIfInBounds 2 (.slice A3 kn c3) else vals i) (W4.setCell ⟨g, j * 3 + 2, none⟩ (.slice A3 kn c3))) := by
     have h4 := HSt.out.touched HS.out hlt hR3 hT3 (fun _ => hgl); have hT5 : Touched w rb (W4.setCell ⟨g, j * 3 + 2, none⟩ (.slice A3 kn c3)) := h4.old.setNew (a := ⟨g, j * 3 + 2, none⟩) hgw _
     have hkeep : ∀ b, b ≠ g -> (W4.setCell ⟨g, j * 3 + 2, none⟩ (.slice A3 kn c3)).heap[b]? = W4.heap[b]? := fun b hb => Below.heap_setCell _ _ _ _ hb
     refine ⟨fun h0 => ⟨(h4.cp h0).1.set hjl (by omega) _, hgw⟩, fun i hi hj1 => ?_, fun i hi hj1 => ?_, H.out.put hR3 h4.old hgw _ _, hT5⟩
     . by_cases hij : i = j
       . subst hij
         simp only [if_true]
         rw [HVj.out]
         have hsh := InP.of_shape (w := W4.setCell ⟨g, i * 3 + 2, none⟩ (.slice A3 kn c3)) (S := fun b => w.heap.size <= b /\ b ≠ g) ls[i] A3 c3 (hL3.keep fun b hb hs => ⟨⟨by have : wr.heap.size <= b := hs; omega, by have : wr.heap.size <= b := hs; omega⟩, hkeep b (by have : wr.heap.size <= b := hs; omega)⟩) hA3
         rw [<- HKn.out] at hsh
         simpa using hsh
       . rw [if_neg hij]
         exact (h4.done i hi (by omega)).keep fun b hb hs => ⟨hs, hkeep b hs.2⟩
     . rw [if_neg (by omega)]
       exact (h4.todo i hi (by omega)).keep fun b hb hs => ⟨hs, hkeep b (by omega)⟩
    clear hA3 hL3 hR3 hT3 KR HVj HKn HSt HCp
    go_wp2_with fail
    go_roundg (n - (j + 1))
    case measure => omega
    case rel => exact ⟨j + 1, _, by omega, by go_num, HN4.out⟩
  . have hjj : decide ((j : Int) < (n : Int)) = false := by simp; omega
    go_wp2_with fail
    go_ret; refine ⟨A', c', rfl, fun h0 => HA1.out (by rw [HNl.out, h0]; rfl), fun i hi => ?_, HSt.out.rdy, HSt.out.old⟩; have hi' : i < n := by rw [HNl.out]; exact hi
    obtain ⟨rfl, hgW⟩ := HG1.out (by omega); obtain ⟨hcp, hgw⟩ := HSt.out.cp (by omega); have hdn := HSt.out.done i hi (by omega); obtain ⟨k, nm, A9, n9, c9, e9⟩ := hdn.form
    refine ⟨g, .agg (vals i), rfl, hgw, ⟨k, nm, A9, n9, c9, e9, ?_, ?_, ?_⟩, hdn.keep fun b hb hs => ⟨hs.1, rfl⟩⟩
    all_goals injection e9 with e9
    . have := hcp.cell i 0 hi (by omega); rw [e9] at this; simpa using this
    . have := hcp.cell i 1 hi (by omega); rw [e9] at this; simpa using this
    . have := hcp.cell i 2 hi (by omega); rw [e9] at this; simpa using this
end
end Go.Proofs.YtockffblncdikaaGreatDoor
