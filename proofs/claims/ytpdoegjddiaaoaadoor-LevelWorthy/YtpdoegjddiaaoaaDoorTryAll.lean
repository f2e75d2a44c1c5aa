/- The contract of the closure try of always. -/
import Derived.Test.YtpdoegjddiaaoaaDoorTryNil
namespace Go.Proofs.YtpdoegjddiaaoaaDoor
open Go.RowKit Go.Maps

/-- How many stores a call makes. -/
def puts : Nat → Nat
  | 0 => 0
  | n + 1 => 3 * puts n + 3

set_option maxHeartbeats 2000000 in
theorem try_cons (FH : FuncId) (hold : Nat → Nat → Bool) (a b : LvB) (A1 A2 : Option Addr) (cap1 cap2 G m mg ng ch ca cnum cb cns ct cg cG B lo : Nat) (gc : ByteArray → Nat) (Sg : ByteArray → Bool) (hG : G ≤ 1000000)
    (p : ByteArray) (ps : List ByteArray)
    (ih : ∀ (nv : Value) (may : Bool) (σ : ByteArray → Nat) (n : Nat) (S : ByteArray → Bool) (w : World), Env w FH a b A1 A2 cap1 cap2 G m mg ng ch ca cnum cb cns ct cg cG B gc Sg → Names w lo nv ps → MapIs w m n σ S → n + puts ps.length ≤ 1000000 → (∀ q, σ q ≤ 1000000) →
      Calls Tryd.prog 36 #[nv, .bool may, .pointer (some ⟨ch, 0, none⟩), .pointer (some ⟨ca, 0, none⟩), .pointer (some ⟨cnum, 0, none⟩), .pointer (some ⟨cb, 0, none⟩), .pointer (some ⟨cns, 0, none⟩), .pointer (some ⟨ct, 0, none⟩), .pointer (some ⟨cg, 0, none⟩), .pointer (some ⟨cG, 0, none⟩)] w fun e w' =>
        e = .returned (.bool (tryB hold a b (fun q => decide (0 < gc q)) G ps may σ)) ∧ (∃ σ' S', MapIs w' m (n + puts ps.length) σ' S' ∧ (∀ q, q ∉ ps → σ' q = σ q) ∧ ∀ q, σ' q ≤ 1000000) ∧ Touched w m w')
    (hp : p.size ≤ 1000) (hP : Apart m mg ch ca cnum cb cns ct cg cG B) (hlo : m < lo)
    (nv : Value) (may : Bool) (σ : ByteArray → Nat) (n : Nat) (S : ByteArray → Bool) (w : World) (hE : Env w FH a b A1 A2 cap1 cap2 G m mg ng ch ca cnum cb cns ct cg cG B gc Sg) (hN : Names w lo nv (p :: ps)) (hm : MapIs w m n σ S) (hn : n + puts (p :: ps).length ≤ 1000000) (hσ : ∀ q, σ q ≤ 1000000) :
    Calls Tryd.prog 36 #[nv, .bool may, .pointer (some ⟨ch, 0, none⟩), .pointer (some ⟨ca, 0, none⟩), .pointer (some ⟨cnum, 0, none⟩), .pointer (some ⟨cb, 0, none⟩), .pointer (some ⟨cns, 0, none⟩), .pointer (some ⟨ct, 0, none⟩), .pointer (some ⟨cg, 0, none⟩), .pointer (some ⟨cG, 0, none⟩)] w fun e w' =>
      e = .returned (.bool (tryB hold a b (fun q => decide (0 < gc q)) G (p :: ps) may σ)) ∧ (∃ σ' S', MapIs w' m (n + puts (p :: ps).length) σ' S' ∧ (∀ q, q ∉ p :: ps → σ' q = σ q) ∧ ∀ q, σ' q ≤ 1000000) ∧ Touched w m w' := by
  obtain ⟨A, cap, rfl, hlc, hcm, hc⟩ := hN
  obtain ⟨b0, o0, rfl, hb0, hcell⟩ := hc 0 (by simp)
  simp only [List.getElem_cons_zero, Nat.add_zero] at hcell
  have hst := Later.some w.heap.size w
  have hmw := hm.lt
  have q0 : ∀ x : Later w.heap.size w, x.W.cell? ⟨b0, o0, none⟩ = some (.string p) := fun x => cell_later x.h hcell
  simp only [List.length_cons] at *
  unfold maxLen at hcm
  have HC := hide hc
  have IH := hide ih
  have HE := hide hE
  have HM := hide hm
  have HSig := hide hσ
  have hpm : p.size ≤ maxLen := by unfold maxLen; omega
  clear hc ih hE hm hσ hcell
  have hle1 : (1 : Int) ≤ (ps.length : Int) + 1 := by omega
  obtain ⟨A', hA'⟩ : ∃ A', (if cap = 1 then some (⟨b0, o0, none⟩ : Addr) else some ⟨b0, o0 + 1, none⟩) = A' := ⟨_, rfl⟩
  have HNm : Hid (∀ W, Touched w m W → Names W lo (.slice A' ps.length (cap - 1)) ps) := fun W hW => by
    refine ⟨A', cap - 1, rfl, by omega, by unfold maxLen; omega, fun i hi => ?_⟩
    obtain ⟨b', o', e, hb', hcl⟩ := HC.out (i + 1) (by simp; omega)
    injection e with e
    injection e with e1 e2
    subst e1
    subst e2
    simp only [List.getElem_cons_succ] at hcl
    refine ⟨b0, o0 + 1, by rw [← hA', if_neg (by omega)], hb', ?_⟩
    rw [show o0 + 1 + i = o0 + (i + 1) by omega]
    exact tcell hW hcl (by show b0 ≠ m; omega)
  have hput : puts (ps.length + 1) = 3 * puts ps.length + 3 := rfl
  have HPut := hide hput
  rw [hput] at hn
  clear hput
  go_enter Tryd.func36, Tryd.ntmps36
  go_wp2_with fail
  refine wp_region_later (by kernel_rfl) (by kernel_rfl) (Below.refl w.heap.size w) ?_
  quiet_step (fail)
  quiet_step (fail)
  quiet_step (fail)
  quiet_step (fail)
  quiet_step (fail)
  quiet_step (fail)
  quiet_step (fail)
  refine wpQuiet_nil ?_
  intro _ hw'
  obtain ⟨x, rfl⟩ := hw'
  have HT0 : Hid (Touched w m x.W) := Touched.of_below x.h
  have c1 := tcell HT0.out HE.out.hns hP.nns
  have HM0 := hide (HM.out.below x.h hmw)
  clear q0 hA' hle1 hst
  go_wp2_with (at_mapUpdate; refine wpList_put rfl _ _ _ rfl rfl HM0.out (by unfold maxLen; omega) p 0 rfl hpm ?_ (by omega) ?_)
  · rfl
  intro w1 hm1 hg1
  have HM1 : Hid (MapIs w1 m (n + 1) (up σ p 0) _) := hide hm1
  have HT1 := hide (HT0.out.trans hg1)
  have HE1 := hide (HE.out.touched hP HT1.out hmw)
  have c2 := HE1.out.ht
  clear hm1 hg1 c1
  go_wp2_with (go_at_call 36; refine (IH.out _ _ _ _ _ _ HE1.out (HNm.out _ HT1.out) HM1.out (by omega) ?_).mono ?_)
  · intro q; unfold up; split; omega; exact HSig.out q
  rintro e w2 ⟨rfl, ⟨σ2, S2, hm2, hs2, hb2⟩, ht2⟩
  have hmw1 := HM1.out.lt
  have HM2 := hide hm2
  have HS2 := hide hs2
  have HB2 := hide hb2
  have HT2 := hide (HT1.out.trans ht2)
  clear hm2 hs2 hb2 ht2 c2
  by_cases h0 : tryB hold a b (fun q => decide (0 < gc q)) G ps may (up σ p 0) = true
  · have c3 := tcell HT2.out HE.out.hns hP.nns
    go_wp2_with (at_mapUpdate; refine wpList_put rfl _ _ _ rfl rfl HM2.out (by unfold maxLen; omega) p 1 rfl hpm ?_ (by omega) ?_)
    · rfl
    intro w3 hm3 hg3
    have HM3 : Hid (MapIs w3 m (n + 1 + puts ps.length + 1) (up σ2 p 1) _) := hide hm3
    have HT3 := hide (HT2.out.trans hg3)
    have HE3 := hide (HE.out.touched hP HT3.out hmw)
    have c4 := HE3.out.hg
    have c5 := HE3.out.ht
    have HO3 : Hid (∀ q, q ≠ p → q ∉ ps → up σ2 p 1 q = σ q) := fun q h1 h2 => by rw [up, if_neg h1, HS2.out q h2, up, if_neg h1]
    have HB3 : Hid (∀ q, up σ2 p 1 q ≤ 1000000) := fun q => by unfold up; split; omega; exact HB2.out q
    clear hm3 hg3
    by_cases hg : 0 < gc p
    · have hgd : decide (0 < gc p) = true := by simp [hg]
      have e3 : tryB hold a b (fun q => decide (0 < gc q)) G ps may (up σ p 1) = tryB hold a b (fun q => decide (0 < gc q)) G ps may (up σ2 p 1) := tryB_congr ps may _ _ fun q hq => by
        by_cases hqp : q = p
        · simp [up, hqp]
        · rw [HO3.out q hqp hq, up, if_neg hqp]
      have E3 := hide e3
      clear e3
      go_wp2_with (first
        | (at_lookup; refine wpList_look rfl _ _ rfl rfl HE3.out.hmg p rfl hpm ?_)
        | (go_at_call 36; refine (IH.out _ _ _ _ _ _ HE3.out (HNm.out _ HT3.out) HM3.out (by omega) HB3.out).mono ?_))
      rintro e w4 ⟨rfl, ⟨σ4, S4, hm4, hs4, hb4⟩, ht4⟩
      have HM4 := hide hm4
      have HT4 := hide (HT3.out.trans ht4)
      have HE4 := hide (HE.out.touched hP HT4.out hmw)
      have HO4 : Hid (∀ q, q ≠ p → q ∉ ps → σ4 q = σ q) := fun q h1 h2 => by rw [hs4 q h2]; exact HO3.out q h1 h2
      have HB4 := hide hb4
      clear hm4 hs4 hb4 ht4 c5
      by_cases h1 : tryB hold a b (fun q => decide (0 < gc q)) G ps may (up σ2 p 1) = true
      · have h1' := E3.out.trans h1
        have H1 := hide h1'
        clear h1'
        have c6 := HE4.out.hns
        have c7 := HE4.out.hG
        clear c3 c4
        go_wp2_with (at_mapUpdate; refine wpList_put rfl _ _ _ rfl rfl HM4.out (by unfold maxLen; omega) p G rfl hpm ?_ (by omega) ?_)
        · rfl
        intro w5 hm5 hg5
        have HM5 : Hid (MapIs w5 m _ (up σ4 p G) _) := hide hm5
        have HT5 := hide (HT4.out.trans hg5)
        have HE5 := hide (HE.out.touched hP HT5.out hmw)
        have c8 := HE5.out.ht
        clear hm5 hg5 c6 c7
        cases may with
        | false =>
          have HR : Hid (tryB hold a b (fun q => decide (0 < gc q)) G (p :: ps) false σ = true) := by simp only [Hid, tryB, h0, hgd, H1.out]; simp
          go_wp2_with fail
          go_ret
          refine ⟨by rw [HR.out]; rfl, ⟨_, _, HM5.out.mono (by have := HPut.out; omega), fun q hq => ?_, fun q => ?_⟩, HT5.out⟩
          · simp only [List.mem_cons, not_or] at hq
            rw [up, if_neg hq.1]; exact HO4.out q hq.1 hq.2
          · unfold up; split; exact hG; exact HB4.out q
        | true =>
          have HR : Hid (tryB hold a b (fun q => decide (0 < gc q)) G (p :: ps) true σ = tryB hold a b (fun q => decide (0 < gc q)) G ps false (up σ4 p G)) := by
            have e : tryB hold a b (fun q => decide (0 < gc q)) G ps false (up σ p G) = tryB hold a b (fun q => decide (0 < gc q)) G ps false (up σ4 p G) := tryB_congr ps false _ _ fun q hq => by
              unfold up; split; rfl; rename_i hqp; exact (HO4.out q hqp hq).symm
            simp only [Hid, tryB, h0, hgd, H1.out, e]; simp
          go_wp2_with (go_at_call 36; refine (IH.out _ _ _ _ _ _ HE5.out (HNm.out _ HT5.out) HM5.out (by omega) ?_).mono ?_)
          · intro q; unfold up; split; exact hG; exact HB4.out q
          rintro e w6 ⟨rfl, ⟨σ6, S6, hm6, hs6, hb6⟩, ht6⟩
          have HM6 := hide hm6
          have HS6 := hide hs6
          have HB6 := hide hb6
          have HT6 := hide (HT5.out.trans ht6)
          clear hm6 hs6 hb6 ht6 c8
          go_wp2_with fail
          go_ret
          refine ⟨by rw [HR.out]; rfl, ⟨σ6, S6, HM6.out.mono (by have := HPut.out; omega), fun q hq => ?_, HB6.out⟩, HT6.out⟩
          simp only [List.mem_cons, not_or] at hq
          rw [HS6.out q hq.2, up, if_neg hq.1]; exact HO4.out q hq.1 hq.2
      · have h1' : tryB hold a b (fun q => decide (0 < gc q)) G ps may (up σ2 p 1) = false := by simpa using h1
        have HR : Hid (tryB hold a b (fun q => decide (0 < gc q)) G (p :: ps) may σ = false) := by
          have e := E3.out.trans h1'
          simp only [Hid, tryB, h0, hgd, e]; simp
        clear h1
        go_wp2_with fail
        go_ret
        refine ⟨by rw [HR.out]; rfl, ⟨σ4, S4, HM4.out.mono (by have := HPut.out; omega), fun q hq => ?_, HB4.out⟩, HT4.out⟩
        simp only [List.mem_cons, not_or] at hq
        exact HO4.out q hq.1 hq.2
    · have hg0 : gc p = 0 := by omega
      have hgd : decide (0 < gc p) = false := by simp [hg0]
      have HG0 := hide hg0
      clear hg0
      generalize up σ2 p 1 = σ3 at HM3 HO3 HB3
      have c6 := HE3.out.hns
      have c7 := HE3.out.hG
      clear c3
      go_wp2_with (first
        | (at_lookup; refine wpList_look rfl _ _ rfl rfl HE3.out.hmg p rfl hpm ?_)
        | (at_mapUpdate; refine wpList_put rfl _ _ _ rfl rfl HM3.out (by unfold maxLen; omega) p G rfl hpm ?_ (by omega) ?_))
      · rfl
      intro w5 hm5 hg5
      have HM5 : Hid (MapIs w5 m _ (up σ3 p G) _) := hide hm5
      have HT5 := hide (HT3.out.trans hg5)
      have HE5 := hide (HE.out.touched hP HT5.out hmw)
      have c8 := HE5.out.ht
      clear hm5 hg5 c6 c7 c4
      cases may with
      | false =>
        have HR : Hid (tryB hold a b (fun q => decide (0 < gc q)) G (p :: ps) false σ = true) := by simp only [Hid, tryB, h0, hgd]; simp
        go_wp2_with fail
        go_ret
        refine ⟨by rw [HR.out]; rfl, ⟨_, _, HM5.out.mono (by have := HPut.out; omega), fun q hq => ?_, fun q => ?_⟩, HT5.out⟩
        · simp only [List.mem_cons, not_or] at hq
          rw [up, if_neg hq.1]; exact HO3.out q hq.1 hq.2
        · unfold up; split; exact hG; exact HB3.out q
      | true =>
        have HR : Hid (tryB hold a b (fun q => decide (0 < gc q)) G (p :: ps) true σ = tryB hold a b (fun q => decide (0 < gc q)) G ps false (up σ3 p G)) := by
          have e : tryB hold a b (fun q => decide (0 < gc q)) G ps false (up σ p G) = tryB hold a b (fun q => decide (0 < gc q)) G ps false (up σ3 p G) := tryB_congr ps false _ _ fun q hq => by
            unfold up; split; rfl; rename_i hqp; exact (HO3.out q hqp hq).symm
          simp only [Hid, tryB, h0, hgd, e]; simp
        go_wp2_with (go_at_call 36; refine (IH.out _ _ _ _ _ _ HE5.out (HNm.out _ HT5.out) HM5.out (by omega) ?_).mono ?_)
        · intro q; unfold up; split; exact hG; exact HB3.out q
        rintro e w6 ⟨rfl, ⟨σ6, S6, hm6, hs6, hb6⟩, ht6⟩
        have HM6 := hide hm6
        have HS6 := hide hs6
        have HB6 := hide hb6
        have HT6 := hide (HT5.out.trans ht6)
        clear hm6 hs6 hb6 ht6 c8
        go_wp2_with fail
        go_ret
        refine ⟨by rw [HR.out]; rfl, ⟨σ6, S6, HM6.out.mono (by have := HPut.out; omega), fun q hq => ?_, HB6.out⟩, HT6.out⟩
        simp only [List.mem_cons, not_or] at hq
        rw [HS6.out q hq.2, up, if_neg hq.1]; exact HO3.out q hq.1 hq.2
  · have h0' : tryB hold a b (fun q => decide (0 < gc q)) G ps may (up σ p 0) = false := by simpa using h0
    have HR : Hid (tryB hold a b (fun q => decide (0 < gc q)) G (p :: ps) may σ = false) := by simp [Hid, tryB, h0']
    clear h0
    go_wp2_with fail
    go_ret
    refine ⟨by rw [HR.out]; rfl, ⟨σ2, S2, HM2.out.mono (by have := HPut.out; omega), fun q hq => ?_, HB2.out⟩, HT2.out⟩
    simp only [List.mem_cons, not_or] at hq
    rw [HS2.out q hq.2]; simp [up, hq.1]

/-- THE CLOSURE's CONTRACT: it tells whether the test holds of all numbers that are tried. -/
theorem try_calls (FH : FuncId) (hold : Nat → Nat → Bool) (a b : LvB) (A1 A2 : Option Addr) (cap1 cap2 G m mg ng ch ca cnum cb cns ct cg cG B lo : Nat) (gc : ByteArray → Nat) (Sg : ByteArray → Bool) (hG : G ≤ 1000000)
    (hent : ∀ (args : Array Value) (w' : World), Sem.run Tryd.prog (callFunc FH args) w' = .ok (.enter FH args) w')
    (hhold : ∀ (x y : Nat) (w' : World), Calls Tryd.prog FH #[.int .i64 (x : Nat), .int .i64 (y : Nat)] w' fun e w'' => e = .returned (.bool (hold x y)) ∧ w'' = w')
    (na : a.nodes ≤ 1000) (nb : b.nodes ≤ 1000) (ma : ∀ p, Lv.has p a → p.size ≤ 1000) (mb : ∀ p, Lv.has p b → p.size ≤ 1000) (hP : Apart m mg ch ca cnum cb cns ct cg cG B) (hlo : m < lo) :
    ∀ (ps : List ByteArray) (_ : ∀ p ∈ ps, p.size ≤ 1000) (nv : Value) (may : Bool) (σ : ByteArray → Nat) (n : Nat) (S : ByteArray → Bool) (w : World), Env w FH a b A1 A2 cap1 cap2 G m mg ng ch ca cnum cb cns ct cg cG B gc Sg → Names w lo nv ps → MapIs w m n σ S → n + puts ps.length ≤ 1000000 → (∀ q, σ q ≤ 1000000) →
      Calls Tryd.prog 36 #[nv, .bool may, .pointer (some ⟨ch, 0, none⟩), .pointer (some ⟨ca, 0, none⟩), .pointer (some ⟨cnum, 0, none⟩), .pointer (some ⟨cb, 0, none⟩), .pointer (some ⟨cns, 0, none⟩), .pointer (some ⟨ct, 0, none⟩), .pointer (some ⟨cg, 0, none⟩), .pointer (some ⟨cG, 0, none⟩)] w fun e w' =>
        e = .returned (.bool (tryB hold a b (fun q => decide (0 < gc q)) G ps may σ)) ∧ (∃ σ' S', MapIs w' m (n + puts ps.length) σ' S' ∧ (∀ q, q ∉ ps → σ' q = σ q) ∧ ∀ q, σ' q ≤ 1000000) ∧ Touched w m w'
  | [], _, nv, may, σ, n, S, w, hE, hN, hm, _, hσ => by
    obtain ⟨A, cap, rfl, _⟩ := hN
    refine (try_nil FH hold a b A1 A2 cap1 cap2 G m mg ng ch ca cnum cb cns ct cg cG B gc Sg hent hhold na nb ma mb A cap may σ n S w hE hP hm hσ).mono ?_
    rintro e w' ⟨rfl, hb⟩
    exact ⟨rfl, ⟨σ, S, hm.below hb hm.lt, fun _ _ => rfl, hσ⟩, Touched.of_below hb⟩
  | p :: ps, hsz, nv, may, σ, n, S, w, hE, hN, hm, hn, hσ =>
    try_cons FH hold a b A1 A2 cap1 cap2 G m mg ng ch ca cnum cb cns ct cg cG B lo gc Sg hG p ps
      (fun nv may σ n S w h1 h2 h3 h4 h5 => try_calls FH hold a b A1 A2 cap1 cap2 G m mg ng ch ca cnum cb cns ct cg cG B lo gc Sg hG hent hhold na nb ma mb hP hlo ps (fun q hq => hsz q (List.mem_cons_of_mem _ hq)) nv may σ n S w h1 h2 h3 h4 h5)
      (hsz p (by simp)) hP hlo nv may σ n S w hE hN hm hn hσ

end Go.Proofs.YtpdoegjddiaaoaaDoor
