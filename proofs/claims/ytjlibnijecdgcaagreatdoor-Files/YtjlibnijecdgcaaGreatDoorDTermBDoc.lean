/- The document's reader: what text DTermA says of it. -/
import Derived.Test.YtjlibnijecdgcaaGreatDoorDTermD
import Derived.Test.YtjlibnijecdgcaaGreatDoorDNameDoc
import Derived.Deep.CutBlock
import Derived.Deep.DeepCutAuto

/- The contract of the document's term where a fault stands already, where none begins, at a variable, and at a bracket with another word. -/
namespace Go.Proofs.YtjlibnijecdgcaaGreatDoor
open Go.RowKit

/-- What a reading of a term leaves: a value of a term's shape, the reader further on; where there is no fault, a term that stands there; else the fault's place. -/
def TermPost (w : World) (rb : Nat) (s : ByteArray) (p code a : Nat) (e : Ending) (w' : World) : Prop :=
  ∃ (k n : Int) (nm : ByteArray) (A : Option Addr) (la lc : Nat) (A' : Option Addr) (ta tc p' c' a' : Nat), e = .returned (.agg #[.int .i64 k, .int .i64 n, .string nm, .slice A la lc, .slice A' ta tc]) ∧ RdAt w' rb s p' c' a' ∧ p ≤ p' ∧ p' ≤ s.size ∧ Touched w rb w' ∧
    (c' = 0 → code = 0 ∧ p < p' ∧ ∃ (d : Nat) (t : Tm), InTm w' (fun b => w.heap.size ≤ b) d t (.agg #[.int .i64 k, .int .i64 n, .string nm, .slice A la lc, .slice A' ta tc]) ∧ RT s d t p p') ∧
    (c' ≠ 0 → (code ≠ 0 ∧ c' = code ∧ a' = a) ∨ (code = 0 ∧ c' = 1 ∧ ∃ d, FT s d p a'))

/-- The result's block is filled: the reader stands as it stood. -/
theorem filled5 {w W : World} {rb p c a : Nat} {s : ByteArray} (hrb : rb < w.heap.size) (hR : RdAt W rb s p c a) (hT : Touched w rb W) (u0 u1 u2 u3 u4 : Value) :
    RdAt (((((W.setCell ⟨w.heap.size, 0, none⟩ u0).setCell ⟨w.heap.size, 1, none⟩ u1).setCell ⟨w.heap.size, 2, none⟩ u2).setCell ⟨w.heap.size, 3, none⟩ u3).setCell ⟨w.heap.size, 4, none⟩ u4) rb s p c a ∧
    Touched w rb (((((W.setCell ⟨w.heap.size, 0, none⟩ u0).setCell ⟨w.heap.size, 1, none⟩ u1).setCell ⟨w.heap.size, 2, none⟩ u2).setCell ⟨w.heap.size, 3, none⟩ u3).setCell ⟨w.heap.size, 4, none⟩ u4) := by
  have hne : ∀ i, (⟨w.heap.size, i, none⟩ : Addr).block ≠ rb := fun i => by show w.heap.size ≠ rb; omega
  exact ⟨((((hR.setOther (hne 0) _).setOther (hne 1) _).setOther (hne 2) _).setOther (hne 3) _).setOther (hne 4) _,
    ((((hT.setNew (a := ⟨w.heap.size, 0, none⟩) (Nat.le_refl _) _).setNew (a := ⟨w.heap.size, 1, none⟩) (Nat.le_refl _) _).setNew (a := ⟨w.heap.size, 2, none⟩) (Nat.le_refl _) _).setNew (a := ⟨w.heap.size, 3, none⟩) (Nat.le_refl _) _).setNew (a := ⟨w.heap.size, 4, none⟩) (Nat.le_refl _) _⟩

set_option maxRecDepth 100000 in
set_option maxHeartbeats 4000000 in
theorem term_not (rb : Nat) (s : ByteArray) (p code a : Nat) (w : World) (hs : s.size ≤ 200000) (hp : p ≤ s.size) (hc : code ≠ 0) (h : RdAt w rb s p code a) :
    Calls Tryz.prog 61 #[.pointer (some ⟨rb, 0, none⟩)] w fun e w' => TermPost w rb s p code a e w' := by
  have hal := h.alloc ztm
  have hrb := h.lt
  have HT := hide (token_calls s p rb _ hs hp hal.c0 hal.c1)
  have c2 := h.c2
  have HR := hide hal
  have e1 : ((code : Int) != 0) = true := by simp; omega
  have HC := hide hc
  clear h hal hc
  generalize (tok s p).t = t at *
  generalize (tok s p).at_ = k at *
  generalize (tok s p).ok = ok at *
  go_enter Tryz.func61, Tryz.ntmps61
  go_wp2_with (go_at_call 33; refine HT.out.mono ?_; rintro e w' ⟨rfl, rfl⟩)
  refine bodyPost_ret (v := .agg #[.int .i64 0, .int .i64 0, .string ⟨#[]⟩, .slice none 0 0, .slice none 0 0]) (by simp [results, Tryz.results61, go_sem]) rfl ?_
  exact ⟨0, 0, ⟨#[]⟩, none, 0, 0, none, 0, 0, p, code, a, rfl, HR.out, Nat.le_refl _, hp, Touched.alloc _ _ _, fun h => absurd h HC.out, fun _ => .inl ⟨HC.out, rfl, rfl⟩⟩

set_option maxRecDepth 100000 in
set_option maxHeartbeats 4000000 in
theorem term_none (rb : Nat) (s : ByteArray) (p a : Nat) (w : World) (hs : s.size ≤ 200000) (hp : p ≤ s.size) (h : RdAt w rb s p 0 a) (hn : NoTm s p) :
    Calls Tryz.prog 61 #[.pointer (some ⟨rb, 0, none⟩)] w fun e w' => TermPost w rb s p 0 a e w' := by
  have hal := h.alloc ztm
  have hrb := h.lt
  have HT := hide (token_calls s p rb _ hs hp hal.c0 hal.c1)
  obtain ⟨k1, k2, k3, k4⟩ := tok_facts hp
  have HX := hide (fun b => fail_zero rb s p a b _ hal)
  have HFl : Hid (FT s 1 p (tok s p).at_) := by unfold Hid; rw [tok_place s p hp]; exact .inl ⟨hn, rfl⟩
  have c2 := h.c2
  obtain ⟨n1, n2⟩ := hn
  have y1 := sameLit_neg (l := [40]) n1
  have fin : ∀ (w' : World), RdAt w' rb s p 1 (tok s p).at_ → Touched (w.alloc ztm) rb w' → ∀ u0 u1 u2 u3 u4, TermPost w rb s p 0 a (.returned (.agg #[.int .i64 0, .int .i64 0, .string ⟨#[]⟩, .slice none 0 0, .slice none 0 0])) (((((w'.setCell ⟨w.heap.size, 0, none⟩ u0).setCell ⟨w.heap.size, 1, none⟩ u1).setCell ⟨w.heap.size, 2, none⟩ u2).setCell ⟨w.heap.size, 3, none⟩ u3).setCell ⟨w.heap.size, 4, none⟩ u4) := fun w' hr ht u0 u1 u2 u3 u4 => by
    have hf := filled5 hrb hr ((Touched.alloc w rb ztm).trans ht) u0 u1 u2 u3 u4
    exact ⟨0, 0, ⟨#[]⟩, none, 0, 0, none, 0, 0, p, 1, _, rfl, hf.1, Nat.le_refl _, hp, hf.2, fun h => by omega, fun _ => .inr ⟨rfl, rfl, 1, HFl.out⟩⟩
  have HFin := hide fin
  clear fin h hal n1 k1 k2
  by_cases h0 : (tok s p).t = ⟨#[]⟩
  · have y0 := sameLit_pos (l := []) h0
    have H0 := hide h0
    clear n2 k4 h0 k3
    generalize (tok s p).t = t at *
    generalize (tok s p).at_ = k at *
    generalize (tok s p).ok = ok at *
    cases ok <;>
    (go_enter Tryz.func61, Tryz.ntmps61
     go_wp2_with (first
      | (go_at_call 33; refine HT.out.mono ?_; rintro e w' ⟨rfl, rfl⟩)
      | (go_at_call 56; refine (HX.out _).mono ?_))
     rintro e w' ⟨rfl, hr, ht⟩
     obtain ⟨d0, d1, d2, d3, d4, d5, d6⟩ := tzcells hrb ht
     have HR := hide hr
     have HTo := hide ht
     clear hr ht
     go_wp2_with fail
     refine bodyPost_ret (v := .agg #[.int .i64 0, .int .i64 0, .string ⟨#[]⟩, .slice none 0 0, .slice none 0 0]) (by simp [results, Tryz.results61, go_sem, d0, d1, d2, d3, d4]) rfl ?_
     exact HFin.out _ HR.out HTo.out _ _ _ _ _)
  · have hne : at_ (tok s p).t 0 ≠ 35 := n2.resolve_left h0
    have y0 := sameLit_neg (l := []) h0
    have hpos := size_pos h0
    have hok : (tok s p).ok = true := by
      cases e : (tok s p).ok
      · exact absurd (k4 e) h0
      · rfl
    rw [hok] at HT
    have e5 : ((((tok s p).t[0]'hpos).toNat : Int) != 35) = true := by rw [at_eq hpos]; simp; omega
    clear n2 k4 h0 hok hne
    generalize (tok s p).t = t at *
    generalize (tok s p).at_ = k at *
    go_enter Tryz.func61, Tryz.ntmps61
    go_wp2_with (first
      | (go_at_call 33; refine HT.out.mono ?_; rintro e w' ⟨rfl, rfl⟩)
      | (go_at_call 56; refine (HX.out _).mono ?_))
    rintro e w' ⟨rfl, hr, ht⟩
    obtain ⟨d0, d1, d2, d3, d4, d5, d6⟩ := tzcells hrb ht
    have HR := hide hr
    have HTo := hide ht
    clear hr ht
    go_wp2_with fail
    refine bodyPost_ret (v := .agg #[.int .i64 0, .int .i64 0, .string ⟨#[]⟩, .slice none 0 0, .slice none 0 0]) (by simp [results, Tryz.results61, go_sem, d0, d1, d2, d3, d4]) rfl ?_
    exact HFin.out _ HR.out HTo.out _ _ _ _ _

set_option maxRecDepth 100000 in
set_option maxHeartbeats 4000000 in
theorem term_var (rb : Nat) (s : ByteArray) (p a : Nat) (w : World) (hs : s.size ≤ 200000) (hp : p ≤ s.size) (h : RdAt w rb s p 0 a) (hne : (tok s p).t ≠ ⟨#[]⟩) (h35 : at_ (tok s p).t 0 = 35) :
    Calls Tryz.prog 61 #[.pointer (some ⟨rb, 0, none⟩)] w fun e w' => TermPost w rb s p 0 a e w' := by
  have hal := h.alloc ztm
  have hrb := h.lt
  have HT := hide (token_calls s p rb _ hs hp hal.c0 hal.c1)
  obtain ⟨k1, k2, k3, k4⟩ := tok_facts hp
  have HX := hide (next_calls rb s p a _ hs hp hal hne)
  obtain ⟨hidx, htx⟩ := tok_idx hp hne h35
  have hpos := size_pos hne
  have hok : (tok s p).ok = true := by
    cases e : (tok s p).ok
    · exact absurd (k4 e) hne
    · rfl
  rw [hok] at HT
  have e5 : ((((tok s p).t[0]'hpos).toNat : Int) != 35) = false := by rw [at_eq hpos, h35]; rfl
  have y0 := sameLit_neg (l := []) hne
  have y1 : ((tok s p).t.toList == [40]) = false := sameLit_neg (l := [40]) (fun e => by rw [e] at h35; exact absurd h35 (by decide))
  have hx : (tok s p).t.extract 1 (tok s p).t.size = s.extract (runTo blankB s p + 1) ((tok s p).at_ + (tok s p).t.size) := by
    have hpl := tok_place s p hp
    generalize (tok s p).at_ + (tok s p).t.size = q at *
    rw [htx]
    have hq : (s.extract (runTo blankB s p) q).size = q - runTo blankB s p := by rw [ByteArray.size_extract]; omega
    rw [hq]
    rw [ByteArray.ext_iff]
    apply Array.ext'
    apply List.ext_getElem
    · simp; omega
    · intro i h1 h2
      simp
  have hdg : Digs (s.extract (runTo blankB s p + 1) ((tok s p).at_ + (tok s p).t.size)) := by
    refine run_digs (by have := hidx.1; omega) ?_
    exact hidx.2.2.1.symm
  have h5 : (s.extract (runTo blankB s p + 1) ((tok s p).at_ + (tok s p).t.size)).size ≤ 5 := by
    rw [ByteArray.size_extract]
    have := hidx.2.2.2.1
    omega
  have KN := hide (fun W => rnumber_calls _ W hdg h5)
  rw [← hx] at KN
  have HIx := hide hidx
  have HK := hide (And.intro k1 (And.intro k2 hpos))
  have c2 := h.c2
  have hsm : (tok s p).t.size ≤ 40 := k3
  rw [← hx] at HIx
  clear h hal k1 k2 k3 k4 hok hne h35 hidx htx hx hdg h5
  generalize (tok s p).t = t at *
  generalize (tok s p).at_ = k at *
  go_enter Tryz.func61, Tryz.ntmps61
  go_wp2_with (first
    | (go_at_call 33; refine HT.out.mono ?_; rintro e w' ⟨rfl, rfl⟩)
    | (go_at_call 57; refine HX.out.mono ?_))
  rintro e w' ⟨rfl, hr, ht⟩
  obtain ⟨d0, d1, d2, d3, d4, d5, d6⟩ := tzcells hrb ht
  have HR := hide hr
  have HTo := hide ht
  clear hr ht
  go_wp2_with (go_at_call 60; refine (KN.out _).mono ?_; rintro e w2 ⟨rfl, rfl⟩)
  refine bodyPost_ret (v := .agg #[.int .i64 0, .int .i64 (decV (t.extract 1 t.size) : Nat), .string ⟨#[]⟩, .slice none 0 0, .slice none 0 0]) (by simp [results, Tryz.results61, go_sem, d0, d1, d2, d3, d4]) rfl ?_
  obtain ⟨g1, g2, g3⟩ := HK.out
  have hf := filled5 hrb HR.out ((Touched.alloc w rb ztm).trans HTo.out) (.int .i64 0) (.int .i64 (decV (t.extract 1 t.size) : Nat)) (.string ⟨#[]⟩) (.slice none 0 0) (.slice none 0 0)
  refine ⟨0, _, ⟨#[]⟩, none, 0, 0, none, 0, 0, k + t.size, 0, a, rfl, hf.1, by omega, g2, hf.2, fun _ => ⟨rfl, by omega, 1, .node 0 (decV (t.extract 1 t.size)) ⟨#[]⟩ [] [], ?_, .inl ⟨rfl, rfl, rfl, rfl, HIx.out⟩⟩, fun h => absurd rfl h⟩
  exact ⟨none, 0, none, 0, rfl, fun i hi => absurd hi (by simp [Tm.ls]), fun i hi => absurd hi (by simp [Tm.ts])⟩

end Go.Proofs.YtjlibnijecdgcaaGreatDoor

/- The document's reader: what text DTermB says of it. -/
/- The contract of the document's term at a bracket: what stands when its levels, its parts have come. -/
namespace Go.Proofs.YtjlibnijecdgcaaGreatDoor
open Go.RowKit

set_option maxRecDepth 100000 in
set_option maxHeartbeats 8000000 in
theorem term_word (rb : Nat) (s : ByteArray) (p a wb wo wc : Nat) (w : World) (hs : s.size ≤ 200000) (hp : p ≤ s.size) (h : RdAt w rb s p 0 a) (hw : WordsAt w wb wo wc) (hr0 : rb ≠ 1) (hr1 : rb ≠ wb) (ht : (tok s p).t = ⟨#[40]⟩)
    (hno : ∀ q kd, TKind q kd → (tok s ((tok s p).at_ + 1)).t ≠ q) :
    Calls Tryz.prog 61 #[.pointer (some ⟨rb, 0, none⟩)] w fun e w' => TermPost w rb s p 0 a e w' := by
  have hal := h.alloc ztm
  have hrb := h.lt
  have HT := hide (token_calls s p rb _ hs hp hal.c0 hal.c1)
  obtain ⟨k1, k2, k3, k4⟩ := tok_facts hp
  have hok : (tok s p).ok = true := by
    cases e : (tok s p).ok
    · exact absurd (k4 e) (by rw [ht]; intro e; cases e)
    · rfl
  have HX := hide (next_calls rb s p a _ hs hp hal (by rw [ht]; intro e; cases e))
  rw [hok, ht] at HT
  rw [ht] at k2 HX
  have k2' : (tok s p).at_ + 1 ≤ s.size := k2
  have HX2 : Hid (Calls Tryz.prog 57 #[.pointer (some ⟨rb, 0, none⟩)] (w.alloc ztm) fun e w' => e = .returned (.string ⟨#[40]⟩) ∧ RdAt w' rb s ((tok s p).at_ + 1) 0 a ∧ Touched (w.alloc ztm) rb w') := HX.out
  have HK := hide k1
  have c2 := h.c2
  have HT2 := hide (fun W (hW : RdAt W rb s ((tok s p).at_ + 1) 0 a) => token_calls s ((tok s p).at_ + 1) rb W hs k2' hW.c0 hW.c1)
  have HFl : Hid (FT s 1 p (tok s ((tok s p).at_ + 1)).at_) := by unfold Hid; rw [tok_place s _ k2']; exact .inr ⟨_, tok_open hp ht, .inl ⟨hno, rfl⟩⟩
  have y1 := dlitSame_neg (hno _ 1 (.inl ⟨rfl, rfl⟩))
  have y2 := dlitSame_neg (hno _ 2 (.inr (.inl ⟨rfl, rfl⟩)))
  have y3 := dlitSame_neg (hno _ 3 (.inr (.inr (.inl ⟨rfl, rfl⟩))))
  have y4 := dlitSame_neg (hno _ 4 (.inr (.inr (.inr (.inl ⟨rfl, rfl⟩)))))
  have y5 := dlitSame_neg (hno _ 5 (.inr (.inr (.inr (.inr (.inl ⟨rfl, rfl⟩))))))
  have y6 := dlitSame_neg (hno _ 6 (.inr (.inr (.inr (.inr (.inr ⟨rfl, rfl⟩))))))
  have HWd := hide (hw.touched (Touched.alloc w rb ztm) hr0 hr1)
  clear h hal k1 k2 k3 k4 ht HX hno hw hok
  generalize (tok s ((tok s p).at_ + 1)).t = t1 at *
  generalize (tok s ((tok s p).at_ + 1)).at_ = j1 at *
  generalize (tok s ((tok s p).at_ + 1)).ok = o1 at *
  generalize (tok s p).at_ = k at *
  go_enter Tryz.func61, Tryz.ntmps61
  go_wp2_with (first
    | (go_at_call 33; refine HT.out.mono ?_; rintro e w' ⟨rfl, rfl⟩)
    | (go_at_call 57; refine HX2.out.mono ?_))
  rintro e w1 ⟨rfl, hr, ht⟩
  have HR := hide hr
  have HTo := hide ht
  have HF := hide (fun b => fail_zero rb s (k + 1) a b w1 hr)
  obtain ⟨v0, v1, v2, v3, v4, v5, v6⟩ := HWd.out.touched ht hr0 hr1
  clear hr ht
  go_upto_block 0 with (go_at_call 33; refine (HT2.out _ HR.out).mono ?_; rintro e w2 ⟨rfl, rfl⟩)
  go_wp2_with fail
  refine wp_loop_rounds 7 ?_
  iterate 6
    rw [rounds_succ]
    go_wp2_with fail
  rw [rounds_succ]
  go_wp2_with (go_at_call 56; refine (HF.out _).mono ?_)
  rintro e w3 ⟨rfl, hr3, ht3⟩
  have HT3 := hide (HTo.out.trans ht3)
  obtain ⟨d0, d1, d2, d3, d4, d5, d6⟩ := tzcells hrb HT3.out
  have HR3 := hide hr3
  clear hr3 ht3
  go_wp2_with fail
  refine bodyPost_ret (v := .agg #[.int .i64 0, .int .i64 0, .string ⟨#[]⟩, .slice none 0 0, .slice none 0 0]) (by simp [results, Tryz.results61, go_sem, d0, d1, d2, d3, d4]) rfl ?_
  have hf := filled5 hrb HR3.out ((Touched.alloc w rb ztm).trans HT3.out) (.int .i64 0) (.int .i64 0) (.string ⟨#[]⟩) (.slice none 0 0) (.slice none 0 0)
  exact ⟨0, 0, ⟨#[]⟩, none, 0, 0, none, 0, 0, k + 1, 1, j1, rfl, hf.1, by have := HK.out; omega, k2', hf.2, fun h => by omega, fun _ => .inr ⟨rfl, rfl, 1, HFl.out⟩⟩

/-- The levels have come: the variable that is built up, the reader, what was read or where it failed. (c: the variable's block; p2: where the name and the levels begin.) -/
def LvDone (w : World) (rb : Nat) (s : ByteArray) (p c kd p2 : Nat) (wx : World) : Prop :=
  ∃ (nm : ByteArray) (A : Option Addr) (la lc pk ck ak : Nat), TVar 43 wx c kd 0 nm (.slice A la lc) (.slice none 0 0) ∧ RdAt wx rb s pk ck ak ∧ p2 ≤ pk ∧ pk ≤ s.size ∧ Touched (w.alloc ztm) rb wx ∧
    (ck = 0 → ∃ ls p3, NamePart s kd nm p2 p3 ∧ LvPart s kd ls p3 pk ∧ la = ls.length ∧ LvsIn wx (fun b => c + 1 ≤ b ∧ b < wx.heap.size) A ls) ∧ (ck ≠ 0 → ck = 1 ∧ ∃ d, FT s d p ak)

/-- The parts are coming. (n0: from where their row lies; wc: the world when the levels had come.) -/
def Parting (w wc : World) (rb : Nat) (s : ByteArray) (p c kd p4 n0 : Nat) (nm : ByteArray) (rv : Value) (k : Nat) (c0 : Nat) (wr : World) : Prop :=
  ∃ (rv' : Value) (xs : List Value) (pk ck ak : Nat), TVar 43 wr c kd 0 nm rv rv' ∧ wr.ownsRow n0 43 5 rv' xs.length (flat xs) ∧ xs.length = k ∧ RdAt wr rb s pk ck ak ∧ p4 ≤ pk ∧ pk ≤ s.size ∧ Touched (w.alloc ztm) rb wr ∧ n0 ≤ wr.heap.size ∧ (∀ b, c + 1 ≤ b → b < n0 → wr.heap[b]? = wc.heap[b]?) ∧
    (ck = 0 → c0 = 0 ∧ ∃ d ts, TRow wr 43 d n0 ts rv' xs ∧ Seq (RT s d) ts p4 pk) ∧ (ck ≠ 0 → ck = 1 ∧ ∃ d, FT s d p ak)

/-- A call of term, as one step of a region that draws its order. -/
theorem step_term {ops : Array Oper} {o : Oper} {a : Act} {w : World} {K : Act → World → Prop} {Q : Exit → Act → World → Prop} {E : Prop} {args : Array Value} {rb : Nat} {s : ByteArray} {p code a0 : Nat}
    (hg : o.guard = none) (hrun : (execOp a.eval o).run Tryz.prog w = .ok (.enter 61 args) w) (hc : Calls Tryz.prog 61 args w fun e w' => TermPost w rb s p code a0 e w')
    (hK : ∀ (k n : Int) (nm : ByteArray) (A : Option Addr) (la lc : Nat) (A' : Option Addr) (ta tc : Nat) (w' : World) (p' c' a' : Nat), RdAt w' rb s p' c' a' → p ≤ p' → p' ≤ s.size → Touched w rb w' →
      (c' = 0 → code = 0 ∧ p < p' ∧ ∃ (d : Nat) (t : Tm), InTm w' (fun b => w.heap.size ≤ b) d t (.agg #[.int .i64 k, .int .i64 n, .string nm, .slice A la lc, .slice A' ta tc]) ∧ RT s d t p p') →
      (c' ≠ 0 → (code ≠ 0 ∧ c' = code ∧ a' = a0) ∨ (code = 0 ∧ c' = 1 ∧ ∃ d, FT s d p a')) → K (a.put o.dst (.agg #[.int .i64 k, .int .i64 n, .string nm, .slice A la lc, .slice A' ta tc])) w') :
    if Region.wanted o (yielded ops a.tmps) = true then Oper.wp Tryz.prog o a w K Q else E := by
  have hw : Region.wanted o (yielded ops a.tmps) = true := by simp [Region.wanted, hg]
  rw [if_pos hw]
  unfold Oper.wp
  rw [hrun]
  refine hc.mono ?_
  rintro e w' ⟨k, n, nm, A, la, lc, A', ta, tc, p', c', a', rfl, h1, h2, h3, h4, h5, h6⟩
  exact hK k n nm A la lc A' ta tc w' p' c' a' h1 h2 h3 h4 h5 h6

end Go.Proofs.YtjlibnijecdgcaaGreatDoor
