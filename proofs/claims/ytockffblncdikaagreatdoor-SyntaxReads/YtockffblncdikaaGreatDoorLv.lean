/- The contract of level. -/
import Derived.Test.YtockffblncdikaaGreatDoorXq
namespace Go.Proofs.YtockffblncdikaaGreatDoor
open Go.RowKit
set_option maxRecDepth 100000
set_option maxHeartbeats 16000000
section
variable {n0 pb : Nat} {wb : Wk} {tg : Bool} {l : List UInt8} {st : List Pc} {B : Prop}
theorem ok1 {w : World} {p : Pc} (h : p.Ok w n0) : ∀ q ∈ [p], q.Ok w n0 := fun q hq => by rw [List.mem_singleton.1 hq]; exact h
theorem ok3 {w : World} {p q r : Pc} (h : p.Ok w n0) (h' : q.Ok w n0) (h'' : r.Ok w n0) : ∀ y ∈ [p, q, r], y.Ok w n0 := fun y hy => by
 simp at hy
 rcases hy with rfl | rfl | rfl
 . exact h
 . exact h'
 . exact h''
theorem levelPart_calls' {S : Nat -> Prop} (x : LvB) (b o i g : Nat) (w : World) (h : LAt w S x b o) (hi : i < (kidsL x).length) (hg : ∃ n c, w.cell? ⟨b, o + 2, none⟩ = some (.slice (some ⟨g, 0, none⟩) n c)) :
 Calls Tryz.prog 103 #[.pointer (some ⟨b, o, none⟩), .int .i64 (i : Nat)] w fun e w' => e = .returned (.agg #[.string ⟨#[]⟩, .pointer none, .pointer (some ⟨g, i * 3, none⟩), .int .i64 3, .bool false, .int .i64 0]) /\ Below w.heap.size w w' := by
 obtain ⟨n', c', hg⟩ := hg; refine (levelPart_calls x b o i w h hi).mono ?_; rintro e w' ⟨g2, he, _, hb, n2, c2, hg2⟩
 have : g2 = g := by
  rw [hg2] at hg; injection hg with hg; injection hg with hg _ _; injection hg with hg; injection hg with hg _ _
 subst this; exact ⟨he, hb⟩
theorem level_calls (x : LvB) (b o k : Nat) (w : World) (hP : PS w n0 pb wb l tg st) (hT : Tb w) (hL : LAt w (fun b => b < n0) x b o) (hg : GoodAt x 0) (hk : k <= 3) (hst : st.length <= 33554432) (hB : B \/ wtS st + (Pc.lv x b o k).wt <= 33554432) :
 Calls Tryz.prog 77 #[.pointer (some ⟨pb, 0, none⟩), .pointer (some ⟨b, o, none⟩), .int .i64 (k : Nat)] w fun e w' => StepR B n0 w pb wb l tg st (Pc.lv x b o k) e w' := by
 have HP := hide hP; have HB := hide hB; have hch : chain x < 100 := by have := good_chain hg; omega
 have hnm := num_few _ hch; have hgt := top_good hg; have hlw := top_lw x; have hto := top_lvK x 0; have htg := top_lvGo x 0; have htn := top_not x; rw [Nat.zero_add] at hgt hto htg
 have KT := hide (takenOff_calls x b o w hP hL hg); have KW := kw_word
 have KL0 : Hid (∀ (b o : Nat) (W : World), Calls Tryz.prog 102 #[.pointer (some ⟨b, o, none⟩), .int .i64 0] W fun e w' => e = .returned (.agg #[.string ⟨#[]⟩, .pointer none, .pointer (some ⟨b, o, none⟩), .int .i64 0, .bool false, .int .i64 0]) /\ Below W.heap.size W w') := hide fun b o W => levelIn_calls x b o 0 W
 have KL3 : Hid (∀ (b o : Nat) (W : World), Calls Tryz.prog 102 #[.pointer (some ⟨b, o, none⟩), .int .i64 3] W fun e w' => e = .returned (.agg #[.string ⟨#[]⟩, .pointer none, .pointer (some ⟨b, o, none⟩), .int .i64 3, .bool false, .int .i64 0]) /\ Below W.heap.size W w') := hide fun b o W => levelIn_calls x b o 3 W
 have KI : Hid (∀ (W : World), Below w.heap.size w W -> Calls Tryz.prog 101 #[.int .i64 (chain x : Nat)] W fun e w' => e = .returned (.string (numB (chain x))) /\ Below W.heap.size W w') := hide fun W hW => itoa_calls (chain x) (by omega) W (Pow10.low hT hW)
 have HL := hide hL; have HG := hide hg; clear hP hB hL hT hg; have hkk : (decide ((k : Int) = 3)) = decide (k = 3) := by rw [decide_eq_decide]; omega
 have hn0 : decide (((chain x : Nat) : Int) = 0) = decide (chain x = 0) := by rw [decide_eq_decide]; omega
 have hn1 : decide ((0 : Int) < ((chain x : Nat) : Int)) = decide (0 < chain x) := by rw [decide_eq_decide]; omega
 go_enter Tryz.func77, Tryz.ntmps77
 go_wp2_with (go_at_call 100; refine KT.out.mono ?_)
 intro e w0 h0; obtain ⟨b1, o1, rfl, hy, hw0⟩ := h0; have hw0' := hw0.symm; subst hw0'; clear hw0; obtain ⟨A, c, _, _, c0, c1, c2, hkid⟩ := hy.open; have HY := hide hy; clear hy KT
 cases htop : topL x with
 | succ a => rw [htop] at htn; cases htn
 | zero =>
   rw [htop] at hto htg hlw c0
   simp only [kndL] at c0
   have ht : (Pc.lv x b o k).toks = [numB (chain x)] := by
    have e2 : (lvGo x 0).2 = true := by rw [htg]; rfl
    simp only [Pc.toks, latK, e2, if_true, ite_self]
    rw [hto]
    rfl
   have hw : wtS [Pc.tok (numB (chain x))] < (Pc.lv x b o k).wt := by
    show 1 < lw x + k
    simp only [lw] at hlw
    split at hlw <;> omega
   clear hkid c1 c2 hto htg hlw
   go_wp2_with (go_at_call 101; refine (KI.out w (Below.refl w.heap.size w)).mono ?_)
   rintro e w1 ⟨rfl, hq1⟩; have hb1 : Below w.heap.size w w1 := (Below.refl w.heap.size w).trans (hq1.mono (Below.refl w.heap.size w).size)
   go_wp2_with (go_at_call 50; refine (KW.out (numB (chain x)) w1).mono ?_)
   rintro e w2 ⟨rfl, hq2⟩; have hb2 : Below w.heap.size w w2 := hb1.trans (hq2.mono hb1.size)
   have KN := hide (next_step (B := B) (c := 1) (Pc.lv x b o k) [Pc.tok (numB (chain x))] _ rfl (by rw [ht]; rfl) hw (ok1 hnm) (by simp) HP.out hb2 hst HB.out); clear hb1 hq1 hb2 hq2
   go_wp2_with (go_at_call 74; refine KN.out.mono ?_)
   intro e w9 h9; have HF := hide h9
   rcases h9.form with rfl | ⟨fb, rfl⟩
   . clear h9 KN
     go_wp2_with fail
     go_end0; exact HF.out
   . clear h9 KN
     go_wp2_with fail
     exact ⟨rfl, HF.out⟩
 | param q =>
   rw [htop] at hto htg hlw c0 c1 hgt
   simp only [kndL] at c0
   simp only [nmL] at c1
   by_cases hn : chain x = 0
   . have ht : (Pc.lv x b o k).toks = [q] := by
      have e2 : (lvGo x 0).2 = true := by rw [htg, hn]; rfl
      simp only [Pc.toks, latK, e2, if_true, ite_self]
      rw [hto, hn]
      rfl
     have hw : wtS [Pc.tok q] < (Pc.lv x b o k).wt := by
      show 1 < lw x + k
      simp only [lw] at hlw
      split at hlw <;> omega
     have hq : q.size <= 100 := by have := hgt.2.few; omega
     have hz0 : ((chain x : Nat) : Int) = 0 := by omega
     simp only [hz0] at *
     clear hkid c2 hto htg hlw hn hz0 hn0 hn1 hgt htop htn
     go_wp2_with (go_at_call 50; refine (KW.out q w).mono ?_)
     rintro e w1 ⟨rfl, hq1⟩; have hb1 : Below w.heap.size w w1 := (Below.refl w.heap.size w).trans (hq1.mono (Below.refl w.heap.size w).size)
     have KN := hide (next_step (B := B) (c := 1) (Pc.lv x b o k) [Pc.tok q] _ rfl (by rw [ht]; rfl) hw (ok1 hq) (by simp) HP.out hb1 hst HB.out); clear hb1 hq1
     go_wp2_with (go_at_call 74; refine KN.out.mono ?_)
     intro e w9 h9; have HF := hide h9
     rcases h9.form with rfl | ⟨fb, rfl⟩
     . clear h9 KN
       go_wp2_with fail
       go_end0; exact HF.out
     . clear h9 KN
       go_wp2_with fail
       exact ⟨rfl, HF.out⟩
   have he0 : (((chain x : Nat) : Int) == 0) = false := by simp; omega
   have he1 : decide ((0 : Int) < ((chain x : Nat) : Int)) = true := by simp; omega
   by_cases hk3 : k = 3
   . subst hk3
     have ht : (Pc.lv x b o 3).toks = [sOpen] ++ (lvK x 0 ++ [sShut]) := by
      have e2 : (lvGo x 0).2 = false := by rw [htg]; simp only [lvGo, if_neg hn]
      simp only [Pc.toks, latK, e2, if_true, Bool.false_eq_true, if_false]
      rfl
     have hw : wtS [Pc.tok sOpen, Pc.lv x b o 0, Pc.tok sShut] < (Pc.lv x b o 3).wt := by
      show 1 + ((lw x + 0) + (1 + 0)) < lw x + 3; omega
     go_wp2_with (go_at_call 50; refine (KW.out sOpen w).mono ?_)
     rintro e w1 ⟨rfl, hq1⟩; have hb1 : Below w.heap.size w w1 := (Below.refl w.heap.size w).trans (hq1.mono (Below.refl w.heap.size w).size)
     go_wp2_with (go_at_call 102; refine (KL0.out b o w1).mono ?_)
     rintro e w2 ⟨rfl, hq2⟩; have hb2 : Below w.heap.size w w2 := hb1.trans (hq2.mono hb1.size)
     go_wp2_with (go_at_call 50; refine (KW.out sShut w2).mono ?_)
     rintro e w3 ⟨rfl, hq3⟩; have hb3 : Below w.heap.size w w3 := hb2.trans (hq3.mono hb2.size)
     have KN := hide (next_step (B := B) (c := 3) (Pc.lv x b o 3) [Pc.tok sOpen, Pc.lv x b o 0, Pc.tok sShut] _ rfl (by rw [ht]; simp only [List.flatMap_cons, List.flatMap_nil, Pc.toks]; simp) hw (ok3 (show sOpen.size <= 100 by decide) ⟨HL.out, HG.out, by omega⟩ (show sShut.size <= 100 by decide)) (by simp) HP.out hb3 hst HB.out)
     clear hb1 hq1 hb2 hq2 hb3 hq3
     go_wp2_with (go_at_call 74; refine KN.out.mono ?_)
     intro e w9 h9; have HF := hide h9
     rcases h9.form with rfl | ⟨fb, rfl⟩
     . clear h9 KN
       go_wp2_with fail
       go_end0; exact HF.out
     . clear h9 KN
       go_wp2_with fail
       exact ⟨rfl, HF.out⟩
   . have hke : ((k : Int) == 3) = false := by simp; omega
     have ht : (Pc.lv x b o k).toks = [q] ++ sPlus :: [numB (chain x)] := by
      simp only [Pc.toks, if_neg hk3]
      rw [hto]
      simp only [lvK, if_neg hn]
     have hw : wtS [Pc.lv (.param q) b1 o1 3, Pc.tok sPlus, Pc.tok (numB (chain x))] < (Pc.lv x b o k).wt := by
      show (2 + 3) + (1 + (1 + 0)) < lw x + k
      simp only [lw] at hlw
      split at hlw <;> omega
     have hgp : GoodAt (.param q : LvB) 0 := ⟨by omega, hgt.2⟩; have HO : Hid ((Pc.lv (.param q) b1 o1 3).Ok w n0) := hide ⟨htop ▸ HY.out, hgp, by omega⟩; clear hkid c2 hto htg hlw hgt htop htn hgp
     go_wp2_with (go_at_call 102; refine (KL3.out b1 o1 w).mono ?_)
     rintro e w1 ⟨rfl, hq1⟩; have hb1 : Below w.heap.size w w1 := (Below.refl w.heap.size w).trans (hq1.mono (Below.refl w.heap.size w).size)
     go_wp2_with (go_at_call 50; refine (KW.out sPlus w1).mono ?_)
     rintro e w2 ⟨rfl, hq2⟩; have hb2 : Below w.heap.size w w2 := hb1.trans (hq2.mono hb1.size)
     go_wp2_with (go_at_call 101; refine (KI.out w2 hb2).mono ?_)
     rintro e w3 ⟨rfl, hq3⟩; have hb3 : Below w.heap.size w w3 := hb2.trans (hq3.mono hb2.size)
     go_wp2_with (go_at_call 50; refine (KW.out (numB (chain x)) w3).mono ?_)
     rintro e w4 ⟨rfl, hq4⟩; have hb4 : Below w.heap.size w w4 := hb3.trans (hq4.mono hb3.size)
     have KN := hide (next_step (B := B) (c := 3) (Pc.lv x b o k) [Pc.lv (.param q) b1 o1 3, Pc.tok sPlus, Pc.tok (numB (chain x))] _ rfl (by rw [ht]; rfl) hw (ok3 HO.out (show sPlus.size <= 100 by decide) hnm) (by simp) HP.out hb4 hst HB.out)
     clear hb1 hq1 hb2 hq2 hb3 hq3 hb4 hq4
     go_wp2_with (go_at_call 74; refine KN.out.mono ?_)
     intro e w9 h9; have HF := hide h9
     rcases h9.form with rfl | ⟨fb, rfl⟩
     . clear h9 KN
       go_wp2_with fail
       go_end0; exact HF.out
     . clear h9 KN
       go_wp2_with fail
       exact ⟨rfl, HF.out⟩
 | max a d =>
   rw [htop] at hto htg hlw c0 c2 hgt hkid
   simp only [kndL] at c0
   simp only [kidsL] at c2
   have hlo := HP.out.lo; have hlt := HP.out.lt; obtain ⟨g, rfl, hA0⟩ := hkid 0 (by simp [kidsL]); obtain ⟨g2, eg2, hA1⟩ := hkid 1 (by simp [kidsL]); injection eg2 with eg2; injection eg2 with eg2 _ _; subst eg2
   have HA0 : Hid ((Pc.lv a g 0 3).Ok w n0) := hide ⟨by simpa [kidsL] using hA0, hgt.2.1, by omega⟩; have HA1 : Hid ((Pc.lv d g 3 3).Ok w n0) := hide ⟨by simpa [kidsL] using hA1, hgt.2.2, by omega⟩
   have KP0 : Hid (∀ (W : World), Below w.heap.size w W -> Calls Tryz.prog 103 #[.pointer (some ⟨b1, o1, none⟩), .int .i64 0] W fun e w' => e = .returned (.agg #[.string ⟨#[]⟩, .pointer none, .pointer (some ⟨g, 0, none⟩), .int .i64 3, .bool false, .int .i64 0]) /\ Below W.heap.size W w') := hide fun W hW => (levelPart_calls' (.max a d) b1 o1 0 g W (htop ▸ HY.out.keep fun b hb hs => ⟨hs, hW.block b hb⟩) (by simp [kidsL]) (by rw [cell_later hW c2]; exact ⟨_, _, rfl⟩))
   have KP1 : Hid (∀ (W : World), Below w.heap.size w W -> Calls Tryz.prog 103 #[.pointer (some ⟨b1, o1, none⟩), .int .i64 1] W fun e w' => e = .returned (.agg #[.string ⟨#[]⟩, .pointer none, .pointer (some ⟨g, 3, none⟩), .int .i64 3, .bool false, .int .i64 0]) /\ Below W.heap.size W w') := hide fun W hW => (levelPart_calls' (.max a d) b1 o1 1 g W (htop ▸ HY.out.keep fun b hb hs => ⟨hs, hW.block b hb⟩) (by simp [kidsL]) (by rw [cell_later hW c2]; exact ⟨_, _, rfl⟩))
   clear hkid hA0 hA1 hlo hlt
   by_cases hk3 : k = 3
   . subst hk3
     have ht : (Pc.lv x b o 3).toks = [sOpen] ++ (lvK x 0 ++ [sShut]) := by
      have e2 : (lvGo x 0).2 = false := by rw [htg]; simp only [lvGo]; split <;> rfl
      simp only [Pc.toks, latK, e2, if_true, Bool.false_eq_true, if_false]
      rfl
     have hw : wtS [Pc.tok sOpen, Pc.lv x b o 0, Pc.tok sShut] < (Pc.lv x b o 3).wt := by
      show 1 + ((lw x + 0) + (1 + 0)) < lw x + 3; omega
     go_wp2_with (go_at_call 50; refine (KW.out sOpen w).mono ?_)
     rintro e w1 ⟨rfl, hq1⟩; have hb1 : Below w.heap.size w w1 := (Below.refl w.heap.size w).trans (hq1.mono (Below.refl w.heap.size w).size)
     go_wp2_with (go_at_call 102; refine (KL0.out b o w1).mono ?_)
     rintro e w2 ⟨rfl, hq2⟩; have hb2 : Below w.heap.size w w2 := hb1.trans (hq2.mono hb1.size)
     go_wp2_with (go_at_call 50; refine (KW.out sShut w2).mono ?_)
     rintro e w3 ⟨rfl, hq3⟩; have hb3 : Below w.heap.size w w3 := hb2.trans (hq3.mono hb2.size)
     have KN := hide (next_step (B := B) (c := 3) (Pc.lv x b o 3) [Pc.tok sOpen, Pc.lv x b o 0, Pc.tok sShut] _ rfl (by rw [ht]; simp only [List.flatMap_cons, List.flatMap_nil, Pc.toks]; simp) hw (ok3 (show sOpen.size <= 100 by decide) ⟨HL.out, HG.out, by omega⟩ (show sShut.size <= 100 by decide)) (by simp) HP.out hb3 hst HB.out)
     clear hb1 hq1 hb2 hq2 hb3 hq3
     go_wp2_with (go_at_call 74; refine KN.out.mono ?_)
     intro e w9 h9; have HF := hide h9
     rcases h9.form with rfl | ⟨fb, rfl⟩
     . clear h9 KN
       go_wp2_with fail
       go_end0; exact HF.out
     . clear h9 KN
       go_wp2_with fail
       exact ⟨rfl, HF.out⟩
   have hke : ((k : Int) == 3) = false := by simp; omega
   by_cases hn : chain x = 0
   . have ht : (Pc.lv x b o k).toks = wMax :: (latK a (lvK a 0) ++ latK d (lvK d 0)) := by
      simp only [Pc.toks, if_neg hk3]
      rw [hto]
      simp only [lvK, if_pos hn]
     have hw : wtS [Pc.tok wMax, Pc.lv a g 0 3, Pc.lv d g 3 3] < (Pc.lv x b o k).wt := by
      show 1 + ((lw a + 3) + ((lw d + 3) + 0)) < lw x + k
      simp only [lw] at hlw
      split at hlw <;> omega
     have hz0 : ((chain x : Nat) : Int) = 0 := by omega
     simp only [hz0] at *
     clear c1 c2 hto htg hlw hn hz0 hn0 hn1 hgt htop htn
     go_wp2_with (go_at_call 50; refine (KW.out wMax w).mono ?_)
     rintro e w1 ⟨rfl, hq1⟩; have hb1 : Below w.heap.size w w1 := (Below.refl w.heap.size w).trans (hq1.mono (Below.refl w.heap.size w).size)
     go_wp2_with (go_at_call 103; refine (KP0.out w1 hb1).mono ?_)
     rintro e w2 ⟨rfl, hq2⟩; have hb2 : Below w.heap.size w w2 := hb1.trans (hq2.mono hb1.size)
     go_wp2_with (go_at_call 103; refine (KP1.out w2 hb2).mono ?_)
     rintro e w3 ⟨rfl, hq3⟩; have hb3 : Below w.heap.size w w3 := hb2.trans (hq3.mono hb2.size)
     have KN := hide (next_step (B := B) (c := 3) (Pc.lv x b o k) [Pc.tok wMax, Pc.lv a g 0 3, Pc.lv d g 3 3] _ rfl (by rw [ht]; simp [Pc.toks]) hw (ok3 (show (wMax : ByteArray).size <= 100 by decide) HA0.out HA1.out) (by simp) HP.out hb3 hst HB.out)
     clear hb1 hq1 hb2 hq2 hb3 hq3
     go_wp2_with (go_at_call 74; refine KN.out.mono ?_)
     intro e w9 h9; have HF := hide h9
     rcases h9.form with rfl | ⟨fb, rfl⟩
     . clear h9 KN
       go_wp2_with fail
       go_end0; exact HF.out
     . clear h9 KN
       go_wp2_with fail
       exact ⟨rfl, HF.out⟩
   . have he1 : decide ((0 : Int) < ((chain x : Nat) : Int)) = true := by simp; omega
     have ht : (Pc.lv x b o k).toks = brT (wMax :: (latK a (lvK a 0) ++ latK d (lvK d 0))) ++ sPlus :: [numB (chain x)] := by
      simp only [Pc.toks, if_neg hk3]
      rw [hto]
      simp only [lvK, if_neg hn]
     have hw : wtS [Pc.lv (.max a d) b1 o1 3, Pc.tok sPlus, Pc.tok (numB (chain x))] < (Pc.lv x b o k).wt := by
      show (lw (.max a d) + 3) + (1 + (1 + 0)) < lw x + k; rw [if_neg hn] at hlw; omega
     have hgp : GoodAt (.max a d : LvB) 0 := ⟨by omega, hgt.2.1, hgt.2.2⟩; have HO : Hid ((Pc.lv (.max a d) b1 o1 3).Ok w n0) := hide ⟨htop ▸ HY.out, hgp, by omega⟩; clear c1 c2 hto htg hlw hgt htop htn hgp
     go_wp2_with (go_at_call 102; refine (KL3.out b1 o1 w).mono ?_)
     rintro e w1 ⟨rfl, hq1⟩; have hb1 : Below w.heap.size w w1 := (Below.refl w.heap.size w).trans (hq1.mono (Below.refl w.heap.size w).size)
     go_wp2_with (go_at_call 50; refine (KW.out sPlus w1).mono ?_)
     rintro e w2 ⟨rfl, hq2⟩; have hb2 : Below w.heap.size w w2 := hb1.trans (hq2.mono hb1.size)
     go_wp2_with (go_at_call 101; refine (KI.out w2 hb2).mono ?_)
     rintro e w3 ⟨rfl, hq3⟩; have hb3 : Below w.heap.size w w3 := hb2.trans (hq3.mono hb2.size)
     go_wp2_with (go_at_call 50; refine (KW.out (numB (chain x)) w3).mono ?_)
     rintro e w4 ⟨rfl, hq4⟩; have hb4 : Below w.heap.size w w4 := hb3.trans (hq4.mono hb3.size)
     have KN := hide (next_step (B := B) (c := 3) (Pc.lv x b o k) [Pc.lv (.max a d) b1 o1 3, Pc.tok sPlus, Pc.tok (numB (chain x))] _ rfl (by rw [ht]; simp [Pc.toks, latK, lvGo, lvK]) hw (ok3 HO.out (show sPlus.size <= 100 by decide) hnm) (by simp) HP.out hb4 hst HB.out)
     clear hb1 hq1 hb2 hq2 hb3 hq3 hb4 hq4
     go_wp2_with (go_at_call 74; refine KN.out.mono ?_)
     intro e w9 h9; have HF := hide h9
     rcases h9.form with rfl | ⟨fb, rfl⟩
     . clear h9 KN
       go_wp2_with fail
       go_end0; exact HF.out
     . clear h9 KN
       go_wp2_with fail
       exact ⟨rfl, HF.out⟩
 | imax a d =>
   rw [htop] at hto htg hlw c0 c2 hgt hkid
   simp only [kndL] at c0
   simp only [kidsL] at c2
   have hlo := HP.out.lo; have hlt := HP.out.lt; obtain ⟨g, rfl, hA0⟩ := hkid 0 (by simp [kidsL]); obtain ⟨g2, eg2, hA1⟩ := hkid 1 (by simp [kidsL]); injection eg2 with eg2; injection eg2 with eg2 _ _; subst eg2
   have HA0 : Hid ((Pc.lv a g 0 3).Ok w n0) := hide ⟨by simpa [kidsL] using hA0, hgt.2.1, by omega⟩; have HA1 : Hid ((Pc.lv d g 3 3).Ok w n0) := hide ⟨by simpa [kidsL] using hA1, hgt.2.2, by omega⟩
   have KP0 : Hid (∀ (W : World), Below w.heap.size w W -> Calls Tryz.prog 103 #[.pointer (some ⟨b1, o1, none⟩), .int .i64 0] W fun e w' => e = .returned (.agg #[.string ⟨#[]⟩, .pointer none, .pointer (some ⟨g, 0, none⟩), .int .i64 3, .bool false, .int .i64 0]) /\ Below W.heap.size W w') := hide fun W hW => (levelPart_calls' (.imax a d) b1 o1 0 g W (htop ▸ HY.out.keep fun b hb hs => ⟨hs, hW.block b hb⟩) (by simp [kidsL]) (by rw [cell_later hW c2]; exact ⟨_, _, rfl⟩))
   have KP1 : Hid (∀ (W : World), Below w.heap.size w W -> Calls Tryz.prog 103 #[.pointer (some ⟨b1, o1, none⟩), .int .i64 1] W fun e w' => e = .returned (.agg #[.string ⟨#[]⟩, .pointer none, .pointer (some ⟨g, 3, none⟩), .int .i64 3, .bool false, .int .i64 0]) /\ Below W.heap.size W w') := hide fun W hW => (levelPart_calls' (.imax a d) b1 o1 1 g W (htop ▸ HY.out.keep fun b hb hs => ⟨hs, hW.block b hb⟩) (by simp [kidsL]) (by rw [cell_later hW c2]; exact ⟨_, _, rfl⟩))
   clear hkid hA0 hA1 hlo hlt
   by_cases hk3 : k = 3
   . subst hk3
     have ht : (Pc.lv x b o 3).toks = [sOpen] ++ (lvK x 0 ++ [sShut]) := by
      have e2 : (lvGo x 0).2 = false := by rw [htg]; simp only [lvGo]; split <;> rfl
      simp only [Pc.toks, latK, e2, if_true, Bool.false_eq_true, if_false]
      rfl
     have hw : wtS [Pc.tok sOpen, Pc.lv x b o 0, Pc.tok sShut] < (Pc.lv x b o 3).wt := by
      show 1 + ((lw x + 0) + (1 + 0)) < lw x + 3; omega
     go_wp2_with (go_at_call 50; refine (KW.out sOpen w).mono ?_)
     rintro e w1 ⟨rfl, hq1⟩; have hb1 : Below w.heap.size w w1 := (Below.refl w.heap.size w).trans (hq1.mono (Below.refl w.heap.size w).size)
     go_wp2_with (go_at_call 102; refine (KL0.out b o w1).mono ?_)
     rintro e w2 ⟨rfl, hq2⟩; have hb2 : Below w.heap.size w w2 := hb1.trans (hq2.mono hb1.size)
     go_wp2_with (go_at_call 50; refine (KW.out sShut w2).mono ?_)
     rintro e w3 ⟨rfl, hq3⟩; have hb3 : Below w.heap.size w w3 := hb2.trans (hq3.mono hb2.size)
     have KN := hide (next_step (B := B) (c := 3) (Pc.lv x b o 3) [Pc.tok sOpen, Pc.lv x b o 0, Pc.tok sShut] _ rfl (by rw [ht]; simp only [List.flatMap_cons, List.flatMap_nil, Pc.toks]; simp) hw (ok3 (show sOpen.size <= 100 by decide) ⟨HL.out, HG.out, by omega⟩ (show sShut.size <= 100 by decide)) (by simp) HP.out hb3 hst HB.out)
     clear hb1 hq1 hb2 hq2 hb3 hq3
     go_wp2_with (go_at_call 74; refine KN.out.mono ?_)
     intro e w9 h9; have HF := hide h9
     rcases h9.form with rfl | ⟨fb, rfl⟩
     . clear h9 KN
       go_wp2_with fail
       go_end0; exact HF.out
     . clear h9 KN
       go_wp2_with fail
       exact ⟨rfl, HF.out⟩
   have hke : ((k : Int) == 3) = false := by simp; omega
   by_cases hn : chain x = 0
   . have ht : (Pc.lv x b o k).toks = wImax :: (latK a (lvK a 0) ++ latK d (lvK d 0)) := by
      simp only [Pc.toks, if_neg hk3]
      rw [hto]
      simp only [lvK, if_pos hn]
     have hw : wtS [Pc.tok wImax, Pc.lv a g 0 3, Pc.lv d g 3 3] < (Pc.lv x b o k).wt := by
      show 1 + ((lw a + 3) + ((lw d + 3) + 0)) < lw x + k
      simp only [lw] at hlw
      split at hlw <;> omega
     have hz0 : ((chain x : Nat) : Int) = 0 := by omega
     simp only [hz0] at *
     clear c1 c2 hto htg hlw hn hz0 hn0 hn1 hgt htop htn
     go_wp2_with (go_at_call 50; refine (KW.out wImax w).mono ?_)
     rintro e w1 ⟨rfl, hq1⟩; have hb1 : Below w.heap.size w w1 := (Below.refl w.heap.size w).trans (hq1.mono (Below.refl w.heap.size w).size)
     go_wp2_with (go_at_call 103; refine (KP0.out w1 hb1).mono ?_)
     rintro e w2 ⟨rfl, hq2⟩; have hb2 : Below w.heap.size w w2 := hb1.trans (hq2.mono hb1.size)
     go_wp2_with (go_at_call 103; refine (KP1.out w2 hb2).mono ?_)
     rintro e w3 ⟨rfl, hq3⟩; have hb3 : Below w.heap.size w w3 := hb2.trans (hq3.mono hb2.size)
     have KN := hide (next_step (B := B) (c := 3) (Pc.lv x b o k) [Pc.tok wImax, Pc.lv a g 0 3, Pc.lv d g 3 3] _ rfl (by rw [ht]; simp [Pc.toks]) hw (ok3 (show (wImax : ByteArray).size <= 100 by decide) HA0.out HA1.out) (by simp) HP.out hb3 hst HB.out)
     clear hb1 hq1 hb2 hq2 hb3 hq3
     go_wp2_with (go_at_call 74; refine KN.out.mono ?_)
     intro e w9 h9; have HF := hide h9
     rcases h9.form with rfl | ⟨fb, rfl⟩
     . clear h9 KN
       go_wp2_with fail
       go_end0; exact HF.out
     . clear h9 KN
       go_wp2_with fail
       exact ⟨rfl, HF.out⟩
   . have he1 : decide ((0 : Int) < ((chain x : Nat) : Int)) = true := by simp; omega
     have ht : (Pc.lv x b o k).toks = brT (wImax :: (latK a (lvK a 0) ++ latK d (lvK d 0))) ++ sPlus :: [numB (chain x)] := by
      simp only [Pc.toks, if_neg hk3]
      rw [hto]
      simp only [lvK, if_neg hn]
     have hw : wtS [Pc.lv (.imax a d) b1 o1 3, Pc.tok sPlus, Pc.tok (numB (chain x))] < (Pc.lv x b o k).wt := by
      show (lw (.imax a d) + 3) + (1 + (1 + 0)) < lw x + k; rw [if_neg hn] at hlw; omega
     have hgp : GoodAt (.imax a d : LvB) 0 := ⟨by omega, hgt.2.1, hgt.2.2⟩; have HO : Hid ((Pc.lv (.imax a d) b1 o1 3).Ok w n0) := hide ⟨htop ▸ HY.out, hgp, by omega⟩; clear c1 c2 hto htg hlw hgt htop htn hgp
     go_wp2_with (go_at_call 102; refine (KL3.out b1 o1 w).mono ?_)
     rintro e w1 ⟨rfl, hq1⟩; have hb1 : Below w.heap.size w w1 := (Below.refl w.heap.size w).trans (hq1.mono (Below.refl w.heap.size w).size)
     go_wp2_with (go_at_call 50; refine (KW.out sPlus w1).mono ?_)
     rintro e w2 ⟨rfl, hq2⟩; have hb2 : Below w.heap.size w w2 := hb1.trans (hq2.mono hb1.size)
     go_wp2_with (go_at_call 101; refine (KI.out w2 hb2).mono ?_)
     rintro e w3 ⟨rfl, hq3⟩; have hb3 : Below w.heap.size w w3 := hb2.trans (hq3.mono hb2.size)
     go_wp2_with (go_at_call 50; refine (KW.out (numB (chain x)) w3).mono ?_)
     rintro e w4 ⟨rfl, hq4⟩; have hb4 : Below w.heap.size w w4 := hb3.trans (hq4.mono hb3.size)
     have KN := hide (next_step (B := B) (c := 3) (Pc.lv x b o k) [Pc.lv (.imax a d) b1 o1 3, Pc.tok sPlus, Pc.tok (numB (chain x))] _ rfl (by rw [ht]; simp [Pc.toks, latK, lvGo, lvK]) hw (ok3 HO.out (show sPlus.size <= 100 by decide) hnm) (by simp) HP.out hb4 hst HB.out)
     clear hb1 hq1 hb2 hq2 hb3 hq3 hb4 hq4
     go_wp2_with (go_at_call 74; refine KN.out.mono ?_)
     intro e w9 h9; have HF := hide h9
     rcases h9.form with rfl | ⟨fb, rfl⟩
     . clear h9 KN
       go_wp2_with fail
       go_end0; exact HF.out
     . clear h9 KN
       go_wp2_with fail
       exact ⟨rfl, HF.out⟩
end
end Go.Proofs.YtockffblncdikaaGreatDoor
