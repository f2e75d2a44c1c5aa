/- The closure try of always: the memory that it stands on, and its contract where no name is left. -/
import Derived.Test.YteepmfhpjanbhaaGreatDoorTry
import Derived.Test.YteepmfhpjanbhaaGreatDoorAlike

namespace Go.Proofs.YteepmfhpjanbhaaGreatDoor
open Go.RowKit Go.Maps

/-- The memory that the closure stands on: which blocks hold what. -/
structure Env (w : World) (FH : FuncId) (a b : LvB) (A1 A2 : Option Addr) (cap1 cap2 G m mg ng ch ca cnum cb cns ct cg cG B : Nat) (gc : ByteArray → Nat) (Sg : ByteArray → Bool) : Prop where
  hch : w.cell? ⟨ch, 0, none⟩ = some (.func (.func FH) #[] #[])
  a0 : w.cell? ⟨ca, 0, none⟩ = some (.int .i64 a.kind)
  a1 : w.cell? ⟨ca, 1, none⟩ = some (.string a.nm)
  a2 : w.cell? ⟨ca, 2, none⟩ = some (.slice A1 a.kids.length cap1)
  b0 : w.cell? ⟨cb, 0, none⟩ = some (.int .i64 b.kind)
  b1 : w.cell? ⟨cb, 1, none⟩ = some (.string b.nm)
  b2 : w.cell? ⟨cb, 2, none⟩ = some (.slice A2 b.kids.length cap2)
  hnum : w.cell? ⟨cnum, 0, none⟩ = some (.func (.func 92) #[] #[.pointer (some ⟨cns, 0, none⟩)])
  hns : w.cell? ⟨cns, 0, none⟩ = some (.map (some m))
  ht : w.cell? ⟨ct, 0, none⟩ = some (.func (.func 93) #[] #[.pointer (some ⟨ch, 0, none⟩), .pointer (some ⟨ca, 0, none⟩), .pointer (some ⟨cnum, 0, none⟩), .pointer (some ⟨cb, 0, none⟩), .pointer (some ⟨cns, 0, none⟩), .pointer (some ⟨ct, 0, none⟩), .pointer (some ⟨cg, 0, none⟩), .pointer (some ⟨cG, 0, none⟩)])
  hg : w.cell? ⟨cg, 0, none⟩ = some (.map (some mg))
  hG : w.cell? ⟨cG, 0, none⟩ = some (.int .i64 (G : Nat))
  hmg : MapIs w mg ng gc Sg
  la : InLv w B a (.agg #[.int .i64 a.kind, .string a.nm, .slice A1 a.kids.length cap1])
  lb : InLv w B b (.agg #[.int .i64 b.kind, .string b.nm, .slice A2 b.kids.length cap2])

/-- None of these blocks is the map that is written. -/
structure Apart (m mg ch ca cnum cb cns ct cg cG B : Nat) : Prop where
  nch : ch ≠ m
  nca : ca ≠ m
  ncb : cb ≠ m
  nnum : cnum ≠ m
  nns : cns ≠ m
  nt : ct ≠ m
  ng : cg ≠ m
  nG : cG ≠ m
  nmg : mg ≠ m
  nB : B ≤ m

section
variable {w w' : World} {FH : FuncId} {a b : LvB} {A1 A2 : Option Addr} {cap1 cap2 G m mg ng ch ca cnum cb cns ct cg cG B : Nat} {gc : ByteArray → Nat} {Sg : ByteArray → Bool}
theorem tcell {a : Addr} {v : Value} (h : Touched w m w') (hc : w.cell? a = some v) (hne : a.block ≠ m) : w'.cell? a = some v := by
  rw [h.cell (World.block_lt_of_cell? _ _ hc) hne]; exact hc

theorem Env.touched (h : Env w FH a b A1 A2 cap1 cap2 G m mg ng ch ca cnum cb cns ct cg cG B gc Sg) (hp : Apart m mg ch ca cnum cb cns ct cg cG B) (ht : Touched w m w') (hm : m < w.heap.size) : Env w' FH a b A1 A2 cap1 cap2 G m mg ng ch ca cnum cb cns ct cg cG B gc Sg :=
  have hb : Below B w w' := ht.below (by have := hp.nB; omega) hp.nB
  ⟨tcell ht h.hch hp.nch, tcell ht h.a0 hp.nca, tcell ht h.a1 hp.nca, tcell ht h.a2 hp.nca, tcell ht h.b0 hp.ncb, tcell ht h.b1 hp.ncb, tcell ht h.b2 hp.ncb, tcell ht h.hnum hp.nnum, tcell ht h.hns hp.nns, tcell ht h.ht hp.nt, tcell ht h.hg hp.ng, tcell ht h.hG hp.nG,
    h.hmg.kept ht (by simpa using hp.nmg), h.la.below hb, h.lb.below hb⟩
end

/-- A slice of names, in blocks from lo on. -/
def Names (w : World) (lo : Nat) (v : Value) (ns : List ByteArray) : Prop := ∃ A cap, v = .slice A ns.length cap ∧ ns.length ≤ cap ∧ cap ≤ maxLen ∧ ∀ i (hi : i < ns.length), ∃ b o, A = some ⟨b, o, none⟩ ∧ lo ≤ b ∧ w.cell? ⟨b, o + i, none⟩ = some (.string ns[i])

theorem Names.touched {w w' : World} {lo m : Nat} {v : Value} {ns : List ByteArray} (h : Names w lo v ns) (ht : Touched w m w') (hm : m < lo) : Names w' lo v ns := by
  obtain ⟨A, cap, e, h1, h2, hc⟩ := h
  refine ⟨A, cap, e, h1, h2, fun i hi => ?_⟩
  obtain ⟨b, o, ea, hb, hcell⟩ := hc i hi
  exact ⟨b, o, ea, hb, tcell ht hcell (by show b ≠ m; omega)⟩

set_option maxHeartbeats 1000000 in
theorem try_nil (FH : FuncId) (hold : Nat → Nat → Bool) (a b : LvB) (A1 A2 : Option Addr) (cap1 cap2 G m mg ng ch ca cnum cb cns ct cg cG B : Nat) (gc : ByteArray → Nat) (Sg : ByteArray → Bool)
    (hent : ∀ (args : Array Value) (w' : World), Sem.run Tryz.prog (callFunc FH args) w' = .ok (.enter FH args) w')
    (hhold : ∀ (x y : Nat) (w' : World), Calls Tryz.prog FH #[.int .i64 (x : Nat), .int .i64 (y : Nat)] w' fun e w'' => e = .returned (.bool (hold x y)) ∧ w'' = w')
    (na : a.nodes ≤ 20000) (nb : b.nodes ≤ 20000) (ma : ∀ p, Lv.has p a → p.size ≤ 1000) (mb : ∀ p, Lv.has p b → p.size ≤ 1000)
    (A : Option Addr) (cap : Nat) (may : Bool) (σ : ByteArray → Nat) (n : Nat) (S : ByteArray → Bool) (w : World) (hE : Env w FH a b A1 A2 cap1 cap2 G m mg ng ch ca cnum cb cns ct cg cG B gc Sg) (hP : Apart m mg ch ca cnum cb cns ct cg cG B) (hm : MapIs w m n σ S) (hσ : ∀ q, σ q ≤ 1000000) :
    Calls Tryz.prog 93 #[.slice A 0 cap, .bool may, .pointer (some ⟨ch, 0, none⟩), .pointer (some ⟨ca, 0, none⟩), .pointer (some ⟨cnum, 0, none⟩), .pointer (some ⟨cb, 0, none⟩), .pointer (some ⟨cns, 0, none⟩), .pointer (some ⟨ct, 0, none⟩), .pointer (some ⟨cg, 0, none⟩), .pointer (some ⟨cG, 0, none⟩)] w fun e w' =>
      e = .returned (.bool (hold (a.worth σ) (b.worth σ))) ∧ Below w.heap.size w w' := by
  have hst := Later.some w.heap.size w
  have hmw := hm.lt
  have hBm := hP.nB
  have hcnsb : cns < w.heap.size := World.block_lt_of_cell? _ _ hE.hns
  have HN := hide (fun W (hW : Below w.heap.size w W) => number_numbers cns m n w.heap.size σ S W (cell_later hW hE.hns) (hm.below hW hmw) hcnsb hmw)
  have Ha := hide (fun W (hW : Below w.heap.size w W) => worth_calls 92 #[.pointer (some ⟨cns, 0, none⟩)] σ w.heap.size hσ a _ W ma (by omega) hW.size ((hE.la.mono (by omega)).below hW) (HN.out W hW))
  have Hb := hide (fun W (hW : Below w.heap.size w W) => worth_calls 92 #[.pointer (some ⟨cns, 0, none⟩)] σ w.heap.size hσ b _ W mb (by omega) hW.size ((hE.lb.mono (by omega)).below hW) (HN.out W hW))
  have HH : Hid (∀ x : Later w.heap.size w, Calls Tryz.prog FH #[.int .i64 (a.worth σ : Nat), .int .i64 (b.worth σ : Nat)] x.W fun e w' => e = .returned (.bool (hold (a.worth σ) (b.worth σ))) ∧ ∃ y : Later w.heap.size w, w' = y.W) := fun x => (hhold _ _ x.W).mono fun _ _ ⟨he, hw⟩ => ⟨he, x, hw⟩
  have q0 : ∀ x : Later w.heap.size w, x.W.cell? ⟨ch, 0, none⟩ = some (.func (.func FH) #[] #[]) := fun x => cell_later x.h hE.hch
  have q1 : ∀ x : Later w.heap.size w, x.W.cell? ⟨ca, 0, none⟩ = some (.int .i64 a.kind) := fun x => cell_later x.h hE.a0
  have q2 : ∀ x : Later w.heap.size w, x.W.cell? ⟨ca, 1, none⟩ = some (.string a.nm) := fun x => cell_later x.h hE.a1
  have q3 : ∀ x : Later w.heap.size w, x.W.cell? ⟨ca, 2, none⟩ = some (.slice A1 a.kids.length cap1) := fun x => cell_later x.h hE.a2
  have q4 : ∀ x : Later w.heap.size w, x.W.cell? ⟨cb, 0, none⟩ = some (.int .i64 b.kind) := fun x => cell_later x.h hE.b0
  have q5 : ∀ x : Later w.heap.size w, x.W.cell? ⟨cb, 1, none⟩ = some (.string b.nm) := fun x => cell_later x.h hE.b1
  have q6 : ∀ x : Later w.heap.size w, x.W.cell? ⟨cb, 2, none⟩ = some (.slice A2 b.kids.length cap2) := fun x => cell_later x.h hE.b2
  have q7 : ∀ x : Later w.heap.size w, x.W.cell? ⟨cnum, 0, none⟩ = some (.func (.func 92) #[] #[.pointer (some ⟨cns, 0, none⟩)]) := fun x => cell_later x.h hE.hnum
  clear hhold ma mb hE hP hm hσ hmw hBm hcnsb HN
  generalize a.worth σ = wa at *
  generalize b.worth σ = wb at *
  go_enter Tryz.func93, Tryz.ntmps93
  go_wp2_with fail
  refine wp_region_later (by kernel_rfl) (by kernel_rfl) (Below.refl w.heap.size w) ?_
  quiet_step (fail)
  quiet_step (fail)
  quiet_step (fail)
  quiet_step (exact Later.calls Ha.out (Nat.le_refl _) _)
  quiet_step (fail)
  quiet_step (fail)
  quiet_step (exact Later.calls Hb.out (Nat.le_refl _) _)
  quiet_step (exact HH.out _)
  quiet_step (fail)
  refine wpQuiet_nil ?_
  intro _ hw'
  obtain ⟨x, rfl⟩ := hw'
  go_wp2_with fail
  go_ret
  exact ⟨rfl, x.h⟩

end Go.Proofs.YteepmfhpjanbhaaGreatDoor

/- The contract of the closure try of always. -/
namespace Go.Proofs.YteepmfhpjanbhaaGreatDoor
open Go.RowKit Go.Maps

set_option maxHeartbeats 2000000 in
theorem try_cons (FH : FuncId) (hold : Nat → Nat → Bool) (a b : LvB) (A1 A2 : Option Addr) (cap1 cap2 G m mg ng ch ca cnum cb cns ct cg cG B lo : Nat) (gc : ByteArray → Nat) (Sg : ByteArray → Bool) (hG : G ≤ 1000000) (L : List ByteArray) (hLn : L.length ≤ 1000000)
    (p : ByteArray) (ps : List ByteArray)
    (ih : ∀ (nv : Value) (may : Bool) (σ : ByteArray → Nat) (w : World), Env w FH a b A1 A2 cap1 cap2 G m mg ng ch ca cnum cb cns ct cg cG B gc Sg → Names w lo nv ps → MapFor w m L σ → (∀ q, σ q ≤ 1000000) →
      Calls Tryz.prog 93 #[nv, .bool may, .pointer (some ⟨ch, 0, none⟩), .pointer (some ⟨ca, 0, none⟩), .pointer (some ⟨cnum, 0, none⟩), .pointer (some ⟨cb, 0, none⟩), .pointer (some ⟨cns, 0, none⟩), .pointer (some ⟨ct, 0, none⟩), .pointer (some ⟨cg, 0, none⟩), .pointer (some ⟨cG, 0, none⟩)] w fun e w' =>
        e = .returned (.bool (tryB hold a b (fun q => decide (0 < gc q)) G ps may σ)) ∧ (∃ σ', MapFor w' m L σ' ∧ (∀ q, q ∉ ps → σ' q = σ q) ∧ ∀ q, σ' q ≤ 1000000) ∧ Touched w m w')
    (hp : p.size ≤ 1000) (hpL : p ∈ L) (hP : Apart m mg ch ca cnum cb cns ct cg cG B) (hlo : m < lo)
    (nv : Value) (may : Bool) (σ : ByteArray → Nat) (w : World) (hE : Env w FH a b A1 A2 cap1 cap2 G m mg ng ch ca cnum cb cns ct cg cG B gc Sg) (hN : Names w lo nv (p :: ps)) (hm : MapFor w m L σ) (hσ : ∀ q, σ q ≤ 1000000) :
    Calls Tryz.prog 93 #[nv, .bool may, .pointer (some ⟨ch, 0, none⟩), .pointer (some ⟨ca, 0, none⟩), .pointer (some ⟨cnum, 0, none⟩), .pointer (some ⟨cb, 0, none⟩), .pointer (some ⟨cns, 0, none⟩), .pointer (some ⟨ct, 0, none⟩), .pointer (some ⟨cg, 0, none⟩), .pointer (some ⟨cG, 0, none⟩)] w fun e w' =>
      e = .returned (.bool (tryB hold a b (fun q => decide (0 < gc q)) G (p :: ps) may σ)) ∧ (∃ σ', MapFor w' m L σ' ∧ (∀ q, q ∉ p :: ps → σ' q = σ q) ∧ ∀ q, σ' q ≤ 1000000) ∧ Touched w m w' := by
  obtain ⟨A, cap, rfl, hlc, hcm, hc⟩ := hN
  obtain ⟨b0, o0, rfl, hb0, hcell⟩ := hc 0 (by simp)
  simp only [List.getElem_cons_zero, Nat.add_zero] at hcell
  have hst := Later.some w.heap.size w
  have hmw := hm.lt
  have q0 : ∀ x : Later w.heap.size w, x.W.cell? ⟨b0, o0, none⟩ = some (.string p) := fun x => cell_later x.h hcell
  simp only [List.length_cons] at *
  unfold maxLen at hcm
  have HC := hide hc
  have IH := hide ih
  have HE := hide hE
  have HM := hide hm
  have HSig := hide hσ
  have hpm : p.size ≤ maxLen := by unfold maxLen; omega
  clear hc ih hE hm hσ hcell
  have hle1 : (1 : Int) ≤ (ps.length : Int) + 1 := by omega
  obtain ⟨A', hA'⟩ : ∃ A', (if cap = 1 then some (⟨b0, o0, none⟩ : Addr) else some ⟨b0, o0 + 1, none⟩) = A' := ⟨_, rfl⟩
  have HNm : Hid (∀ W, Touched w m W → Names W lo (.slice A' ps.length (cap - 1)) ps) := fun W hW => by
    refine ⟨A', cap - 1, rfl, by omega, by unfold maxLen; omega, fun i hi => ?_⟩
    obtain ⟨b', o', e, hb', hcl⟩ := HC.out (i + 1) (by simp; omega)
    injection e with e
    injection e with e1 e2
    subst e1
    subst e2
    simp only [List.getElem_cons_succ] at hcl
    refine ⟨b0, o0 + 1, by rw [← hA', if_neg (by omega)], hb', ?_⟩
    rw [show o0 + 1 + i = o0 + (i + 1) by omega]
    exact tcell hW hcl (by show b0 ≠ m; omega)
  go_enter Tryz.func93, Tryz.ntmps93
  go_wp2_with fail
  refine wp_region_later (by kernel_rfl) (by kernel_rfl) (Below.refl w.heap.size w) ?_
  quiet_step (fail)
  quiet_step (fail)
  quiet_step (fail)
  quiet_step (fail)
  quiet_step (fail)
  quiet_step (fail)
  quiet_step (fail)
  refine wpQuiet_nil ?_
  intro _ hw'
  obtain ⟨x, rfl⟩ := hw'
  have HT0 : Hid (Touched w m x.W) := Touched.of_below x.h
  have c1 := tcell HT0.out HE.out.hns hP.nns
  have HM0 := hide (HM.out.below x.h hmw)
  clear q0 hA' hle1 hst
  go_wp2_with (at_mapUpdate; refine wpList_putFor rfl _ _ _ rfl rfl HM0.out (by unfold maxLen; omega) p hpL 0 rfl hpm ?_ (by omega) ?_)
  · rfl
  intro w1 hm1 hg1
  have HM1 : Hid (MapFor w1 m L (up σ p 0)) := hide hm1
  have HT1 := hide (HT0.out.trans hg1)
  have HE1 := hide (HE.out.touched hP HT1.out hmw)
  have c2 := HE1.out.ht
  clear hm1 hg1 c1
  go_wp2_with (go_at_call 93; refine (IH.out _ _ _ _ HE1.out (HNm.out _ HT1.out) HM1.out ?_).mono ?_)
  · intro q; unfold up; split; omega; exact HSig.out q
  rintro e w2 ⟨rfl, ⟨σ2, hm2, hs2, hb2⟩, ht2⟩
  have hmw1 := HM1.out.lt
  have HM2 := hide hm2
  have HS2 := hide hs2
  have HB2 := hide hb2
  have HT2 := hide (HT1.out.trans ht2)
  clear hm2 hs2 hb2 ht2 c2
  by_cases h0 : tryB hold a b (fun q => decide (0 < gc q)) G ps may (up σ p 0) = true
  · have c3 := tcell HT2.out HE.out.hns hP.nns
    go_wp2_with (at_mapUpdate; refine wpList_putFor rfl _ _ _ rfl rfl HM2.out (by unfold maxLen; omega) p hpL 1 rfl hpm ?_ (by omega) ?_)
    · rfl
    intro w3 hm3 hg3
    have HM3 : Hid (MapFor w3 m L (up σ2 p 1)) := hide hm3
    have HT3 := hide (HT2.out.trans hg3)
    have HE3 := hide (HE.out.touched hP HT3.out hmw)
    have c4 := HE3.out.hg
    have c5 := HE3.out.ht
    have HO3 : Hid (∀ q, q ≠ p → q ∉ ps → up σ2 p 1 q = σ q) := fun q h1 h2 => by rw [up, if_neg h1, HS2.out q h2, up, if_neg h1]
    have HB3 : Hid (∀ q, up σ2 p 1 q ≤ 1000000) := fun q => by unfold up; split; omega; exact HB2.out q
    clear hm3 hg3
    by_cases hg : 0 < gc p
    · have hgd : decide (0 < gc p) = true := by simp [hg]
      have e3 : tryB hold a b (fun q => decide (0 < gc q)) G ps may (up σ p 1) = tryB hold a b (fun q => decide (0 < gc q)) G ps may (up σ2 p 1) := tryB_congr ps may _ _ fun q hq => by
        by_cases hqp : q = p
        · simp [up, hqp]
        · rw [HO3.out q hqp hq, up, if_neg hqp]
      have E3 := hide e3
      clear e3
      go_wp2_with (first
        | (at_lookup; refine wpList_look rfl _ _ rfl rfl HE3.out.hmg p rfl hpm ?_)
        | (go_at_call 93; refine (IH.out _ _ _ _ HE3.out (HNm.out _ HT3.out) HM3.out HB3.out).mono ?_))
      rintro e w4 ⟨rfl, ⟨σ4, hm4, hs4, hb4⟩, ht4⟩
      have HM4 := hide hm4
      have HT4 := hide (HT3.out.trans ht4)
      have HE4 := hide (HE.out.touched hP HT4.out hmw)
      have HO4 : Hid (∀ q, q ≠ p → q ∉ ps → σ4 q = σ q) := fun q h1 h2 => by rw [hs4 q h2]; exact HO3.out q h1 h2
      have HB4 := hide hb4
      clear hm4 hs4 hb4 ht4 c5
      by_cases h1 : tryB hold a b (fun q => decide (0 < gc q)) G ps may (up σ2 p 1) = true
      · have h1' := E3.out.trans h1
        have H1 := hide h1'
        clear h1'
        have c6 := HE4.out.hns
        have c7 := HE4.out.hG
        clear c3 c4
        go_wp2_with (at_mapUpdate; refine wpList_putFor rfl _ _ _ rfl rfl HM4.out (by unfold maxLen; omega) p hpL G rfl hpm ?_ (by omega) ?_)
        · rfl
        intro w5 hm5 hg5
        have HM5 : Hid (MapFor w5 m L (up σ4 p G)) := hide hm5
        have HT5 := hide (HT4.out.trans hg5)
        have HE5 := hide (HE.out.touched hP HT5.out hmw)
        have c8 := HE5.out.ht
        clear hm5 hg5 c6 c7
        cases may with
        | false =>
          have HR : Hid (tryB hold a b (fun q => decide (0 < gc q)) G (p :: ps) false σ = true) := by simp only [Hid, tryB, h0, hgd, H1.out]; simp
          go_wp2_with fail
          go_ret
          refine ⟨by rw [HR.out]; rfl, ⟨_, HM5.out, fun q hq => ?_, fun q => ?_⟩, HT5.out⟩
          · simp only [List.mem_cons, not_or] at hq
            rw [up, if_neg hq.1]; exact HO4.out q hq.1 hq.2
          · unfold up; split; exact hG; exact HB4.out q
        | true =>
          have HR : Hid (tryB hold a b (fun q => decide (0 < gc q)) G (p :: ps) true σ = tryB hold a b (fun q => decide (0 < gc q)) G ps false (up σ4 p G)) := by
            have e : tryB hold a b (fun q => decide (0 < gc q)) G ps false (up σ p G) = tryB hold a b (fun q => decide (0 < gc q)) G ps false (up σ4 p G) := tryB_congr ps false _ _ fun q hq => by
              unfold up; split; rfl; rename_i hqp; exact (HO4.out q hqp hq).symm
            simp only [Hid, tryB, h0, hgd, H1.out, e]; simp
          go_wp2_with (go_at_call 93; refine (IH.out _ _ _ _ HE5.out (HNm.out _ HT5.out) HM5.out ?_).mono ?_)
          · intro q; unfold up; split; exact hG; exact HB4.out q
          rintro e w6 ⟨rfl, ⟨σ6, hm6, hs6, hb6⟩, ht6⟩
          have HM6 := hide hm6
          have HS6 := hide hs6
          have HB6 := hide hb6
          have HT6 := hide (HT5.out.trans ht6)
          clear hm6 hs6 hb6 ht6 c8
          go_wp2_with fail
          go_ret
          refine ⟨by rw [HR.out]; rfl, ⟨σ6, HM6.out, fun q hq => ?_, HB6.out⟩, HT6.out⟩
          simp only [List.mem_cons, not_or] at hq
          rw [HS6.out q hq.2, up, if_neg hq.1]; exact HO4.out q hq.1 hq.2
      · have h1' : tryB hold a b (fun q => decide (0 < gc q)) G ps may (up σ2 p 1) = false := by simpa using h1
        have HR : Hid (tryB hold a b (fun q => decide (0 < gc q)) G (p :: ps) may σ = false) := by
          have e := E3.out.trans h1'
          simp only [Hid, tryB, h0, hgd, e]; simp
        clear h1
        go_wp2_with fail
        go_ret
        refine ⟨by rw [HR.out]; rfl, ⟨σ4, HM4.out, fun q hq => ?_, HB4.out⟩, HT4.out⟩
        simp only [List.mem_cons, not_or] at hq
        exact HO4.out q hq.1 hq.2
    · have hg0 : gc p = 0 := by omega
      have hgd : decide (0 < gc p) = false := by simp [hg0]
      have HG0 := hide hg0
      clear hg0
      generalize up σ2 p 1 = σ3 at HM3 HO3 HB3
      have c6 := HE3.out.hns
      have c7 := HE3.out.hG
      clear c3
      go_wp2_with (first
        | (at_lookup; refine wpList_look rfl _ _ rfl rfl HE3.out.hmg p rfl hpm ?_)
        | (at_mapUpdate; refine wpList_putFor rfl _ _ _ rfl rfl HM3.out (by unfold maxLen; omega) p hpL G rfl hpm ?_ (by omega) ?_))
      · rfl
      intro w5 hm5 hg5
      have HM5 : Hid (MapFor w5 m L (up σ3 p G)) := hide hm5
      have HT5 := hide (HT3.out.trans hg5)
      have HE5 := hide (HE.out.touched hP HT5.out hmw)
      have c8 := HE5.out.ht
      clear hm5 hg5 c6 c7 c4
      cases may with
      | false =>
        have HR : Hid (tryB hold a b (fun q => decide (0 < gc q)) G (p :: ps) false σ = true) := by simp only [Hid, tryB, h0, hgd]; simp
        go_wp2_with fail
        go_ret
        refine ⟨by rw [HR.out]; rfl, ⟨_, HM5.out, fun q hq => ?_, fun q => ?_⟩, HT5.out⟩
        · simp only [List.mem_cons, not_or] at hq
          rw [up, if_neg hq.1]; exact HO3.out q hq.1 hq.2
        · unfold up; split; exact hG; exact HB3.out q
      | true =>
        have HR : Hid (tryB hold a b (fun q => decide (0 < gc q)) G (p :: ps) true σ = tryB hold a b (fun q => decide (0 < gc q)) G ps false (up σ3 p G)) := by
          have e : tryB hold a b (fun q => decide (0 < gc q)) G ps false (up σ p G) = tryB hold a b (fun q => decide (0 < gc q)) G ps false (up σ3 p G) := tryB_congr ps false _ _ fun q hq => by
            unfold up; split; rfl; rename_i hqp; exact (HO3.out q hqp hq).symm
          simp only [Hid, tryB, h0, hgd, e]; simp
        go_wp2_with (go_at_call 93; refine (IH.out _ _ _ _ HE5.out (HNm.out _ HT5.out) HM5.out ?_).mono ?_)
        · intro q; unfold up; split; exact hG; exact HB3.out q
        rintro e w6 ⟨rfl, ⟨σ6, hm6, hs6, hb6⟩, ht6⟩
        have HM6 := hide hm6
        have HS6 := hide hs6
        have HB6 := hide hb6
        have HT6 := hide (HT5.out.trans ht6)
        clear hm6 hs6 hb6 ht6 c8
        go_wp2_with fail
        go_ret
        refine ⟨by rw [HR.out]; rfl, ⟨σ6, HM6.out, fun q hq => ?_, HB6.out⟩, HT6.out⟩
        simp only [List.mem_cons, not_or] at hq
        rw [HS6.out q hq.2, up, if_neg hq.1]; exact HO3.out q hq.1 hq.2
  · have h0' : tryB hold a b (fun q => decide (0 < gc q)) G ps may (up σ p 0) = false := by simpa using h0
    have HR : Hid (tryB hold a b (fun q => decide (0 < gc q)) G (p :: ps) may σ = false) := by simp [Hid, tryB, h0']
    clear h0
    go_wp2_with fail
    go_ret
    refine ⟨by rw [HR.out]; rfl, ⟨σ2, HM2.out, fun q hq => ?_, HB2.out⟩, HT2.out⟩
    simp only [List.mem_cons, not_or] at hq
    rw [HS2.out q hq.2]; simp [up, hq.1]

/-- THE CLOSURE's CONTRACT: it tells whether the test holds of all numbers that are tried. -/
theorem try_calls (FH : FuncId) (hold : Nat → Nat → Bool) (a b : LvB) (A1 A2 : Option Addr) (cap1 cap2 G m mg ng ch ca cnum cb cns ct cg cG B lo : Nat) (gc : ByteArray → Nat) (Sg : ByteArray → Bool) (hG : G ≤ 1000000) (L : List ByteArray) (hLn : L.length ≤ 1000000)
    (hent : ∀ (args : Array Value) (w' : World), Sem.run Tryz.prog (callFunc FH args) w' = .ok (.enter FH args) w')
    (hhold : ∀ (x y : Nat) (w' : World), Calls Tryz.prog FH #[.int .i64 (x : Nat), .int .i64 (y : Nat)] w' fun e w'' => e = .returned (.bool (hold x y)) ∧ w'' = w')
    (na : a.nodes ≤ 20000) (nb : b.nodes ≤ 20000) (ma : ∀ p, Lv.has p a → p.size ≤ 1000) (mb : ∀ p, Lv.has p b → p.size ≤ 1000) (hP : Apart m mg ch ca cnum cb cns ct cg cG B) (hlo : m < lo) :
    ∀ (ps : List ByteArray) (_ : ∀ p ∈ ps, p.size ≤ 1000) (_ : ∀ p ∈ ps, p ∈ L) (nv : Value) (may : Bool) (σ : ByteArray → Nat) (w : World), Env w FH a b A1 A2 cap1 cap2 G m mg ng ch ca cnum cb cns ct cg cG B gc Sg → Names w lo nv ps → MapFor w m L σ → (∀ q, σ q ≤ 1000000) →
      Calls Tryz.prog 93 #[nv, .bool may, .pointer (some ⟨ch, 0, none⟩), .pointer (some ⟨ca, 0, none⟩), .pointer (some ⟨cnum, 0, none⟩), .pointer (some ⟨cb, 0, none⟩), .pointer (some ⟨cns, 0, none⟩), .pointer (some ⟨ct, 0, none⟩), .pointer (some ⟨cg, 0, none⟩), .pointer (some ⟨cG, 0, none⟩)] w fun e w' =>
        e = .returned (.bool (tryB hold a b (fun q => decide (0 < gc q)) G ps may σ)) ∧ (∃ σ', MapFor w' m L σ' ∧ (∀ q, q ∉ ps → σ' q = σ q) ∧ ∀ q, σ' q ≤ 1000000) ∧ Touched w m w'
  | [], _, _, nv, may, σ, w, hE, hN, hm, hσ => by
    obtain ⟨A, cap, rfl, _⟩ := hN
    obtain ⟨S, hS⟩ := hm.is
    refine (try_nil FH hold a b A1 A2 cap1 cap2 G m mg ng ch ca cnum cb cns ct cg cG B gc Sg hent hhold na nb ma mb A cap may σ L.length S w hE hP hS hσ).mono ?_
    rintro e w' ⟨rfl, hb⟩
    exact ⟨rfl, ⟨σ, hm.below hb hm.lt, fun _ _ => rfl, hσ⟩, Touched.of_below hb⟩
  | p :: ps, hsz, hsub, nv, may, σ, w, hE, hN, hm, hσ =>
    try_cons FH hold a b A1 A2 cap1 cap2 G m mg ng ch ca cnum cb cns ct cg cG B lo gc Sg hG L hLn p ps
      (fun nv may σ w h1 h2 h3 h5 => try_calls FH hold a b A1 A2 cap1 cap2 G m mg ng ch ca cnum cb cns ct cg cG B lo gc Sg hG L hLn hent hhold na nb ma mb hP hlo ps (fun q hq => hsz q (List.mem_cons_of_mem _ hq)) (fun q hq => hsub q (List.mem_cons_of_mem _ hq)) nv may σ w h1 h2 h3 h5)
      (hsz p (by simp)) (hsub p (by simp)) hP hlo nv may σ w hE hN hm hσ

end Go.Proofs.YteepmfhpjanbhaaGreatDoor
