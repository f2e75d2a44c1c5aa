/- The contract of the document's term where a fault stands already, where none begins, at a variable, and at a bracket with another word. -/
import Derived.Test.YtahcgpnjlmpkpaaGreatDoorDName
import Derived.Deep.CutBlock
import Derived.Deep.DeepCutAuto
namespace Go.Proofs.YtahcgpnjlmpkpaaGreatDoor
open Go.RowKit

/-- The document's words, as they are laid. -/
structure WordsAt (w : World) (wb wo wc : Nat) : Prop where
  s : w.cell? ⟨0, 0, none⟩ = some (.slice (some ⟨wb, wo, none⟩) 7 wc)
  c1 : w.cell? ⟨wb, wo + 1, none⟩ = some (.string ⟨#[115, 111, 114, 116]⟩)
  c2 : w.cell? ⟨wb, wo + 2, none⟩ = some (.string ⟨#[99, 111, 110, 115, 116]⟩)
  c3 : w.cell? ⟨wb, wo + 3, none⟩ = some (.string ⟨#[97, 112, 112]⟩)
  c4 : w.cell? ⟨wb, wo + 4, none⟩ = some (.string ⟨#[108, 97, 109]⟩)
  c5 : w.cell? ⟨wb, wo + 5, none⟩ = some (.string ⟨#[112, 105]⟩)
  c6 : w.cell? ⟨wb, wo + 6, none⟩ = some (.string ⟨#[108, 101, 116]⟩)
theorem WordsAt.of_blocks {w w' : World} {wb wo wc : Nat} (h : WordsAt w wb wo wc) (h0 : w'.heap[0]? = w.heap[0]?) (h1 : w'.heap[wb]? = w.heap[wb]?) : WordsAt w' wb wo wc :=
  ⟨(World.cell?_of_block h0).trans h.s, (World.cell?_of_block h1).trans h.c1, (World.cell?_of_block h1).trans h.c2, (World.cell?_of_block h1).trans h.c3, (World.cell?_of_block h1).trans h.c4, (World.cell?_of_block h1).trans h.c5, (World.cell?_of_block h1).trans h.c6⟩
theorem WordsAt.lt {w : World} {wb wo wc : Nat} (h : WordsAt w wb wo wc) : 0 < w.heap.size ∧ wb < w.heap.size := ⟨World.block_lt_of_cell? _ _ h.s, World.block_lt_of_cell? _ _ h.c1⟩
theorem WordsAt.touched {w w' : World} {wb wo wc rb : Nat} (h : WordsAt w wb wo wc) (ht : Touched w rb w') (h0 : rb ≠ 0) (h1 : rb ≠ wb) : WordsAt w' wb wo wc := h.of_blocks (ht.at h.lt.1 (by omega)) (ht.at h.lt.2 (by omega))

/-- What a reading of a term leaves: a value of a term's shape, the reader further on; where there is no fault, a term that stands there; else the fault's place. -/
def TermPost (w : World) (rb : Nat) (s : ByteArray) (p code a : Nat) (e : Ending) (w' : World) : Prop :=
  ∃ (k n : Int) (nm : ByteArray) (A : Option Addr) (la lc : Nat) (A' : Option Addr) (ta tc p' c' a' : Nat), e = .returned (.agg #[.int .i64 k, .int .i64 n, .string nm, .slice A la lc, .slice A' ta tc]) ∧ RdAt w' rb s p' c' a' ∧ p ≤ p' ∧ p' ≤ s.size ∧ Touched w rb w' ∧
    (c' = 0 → code = 0 ∧ p < p' ∧ ∃ (d : Nat) (t : Tm), InTm w' (fun b => w.heap.size ≤ b) d t (.agg #[.int .i64 k, .int .i64 n, .string nm, .slice A la lc, .slice A' ta tc]) ∧ RT s d t p p') ∧
    (c' ≠ 0 → (code ≠ 0 ∧ c' = code ∧ a' = a) ∨ (code = 0 ∧ c' = 1 ∧ ∃ d, FT s d p a'))

abbrev ztm : Obj := .cells #[.int .i64 0, .int .i64 0, .string ⟨#[]⟩, .slice none 0 0, .slice none 0 0] 30

/-- What stands at the result's block behind calls that leave it alone. -/
theorem tzcells {w w' : World} {rb : Nat} (hrb : rb < w.heap.size) (ht : Touched (w.alloc ztm) rb w') : w'.cell? ⟨w.heap.size, 0, none⟩ = some (.int .i64 0) ∧ w'.cell? ⟨w.heap.size, 1, none⟩ = some (.int .i64 0) ∧ w'.cell? ⟨w.heap.size, 2, none⟩ = some (.string ⟨#[]⟩) ∧ w'.cell? ⟨w.heap.size, 3, none⟩ = some (.slice none 0 0) ∧ w'.cell? ⟨w.heap.size, 4, none⟩ = some (.slice none 0 0) ∧ (∀ i, w'.frozen? ⟨w.heap.size, i, none⟩ = false) ∧ w.heap.size < w'.heap.size := by
  have hblk := ht.block w.heap.size (by simp) (by simp; omega)
  refine ⟨by rw [World.cell?_of_block hblk]; simp, by rw [World.cell?_of_block hblk]; simp, by rw [World.cell?_of_block hblk]; simp, by rw [World.cell?_of_block hblk]; simp, by rw [World.cell?_of_block hblk]; simp, fun i => by rw [World.frozen?_of_block hblk]; simp [World.frozen?_alloc_at], ?_⟩
  have := ht.size
  simp at this
  omega

/-- The result's block is filled: the reader stands as it stood. -/
theorem filled5 {w W : World} {rb p c a : Nat} {s : ByteArray} (hrb : rb < w.heap.size) (hR : RdAt W rb s p c a) (hT : Touched w rb W) (u0 u1 u2 u3 u4 : Value) :
    RdAt (((((W.setCell ⟨w.heap.size, 0, none⟩ u0).setCell ⟨w.heap.size, 1, none⟩ u1).setCell ⟨w.heap.size, 2, none⟩ u2).setCell ⟨w.heap.size, 3, none⟩ u3).setCell ⟨w.heap.size, 4, none⟩ u4) rb s p c a ∧
    Touched w rb (((((W.setCell ⟨w.heap.size, 0, none⟩ u0).setCell ⟨w.heap.size, 1, none⟩ u1).setCell ⟨w.heap.size, 2, none⟩ u2).setCell ⟨w.heap.size, 3, none⟩ u3).setCell ⟨w.heap.size, 4, none⟩ u4) := by
  have hne : ∀ i, (⟨w.heap.size, i, none⟩ : Addr).block ≠ rb := fun i => by show w.heap.size ≠ rb; omega
  exact ⟨((((hR.setOther (hne 0) _).setOther (hne 1) _).setOther (hne 2) _).setOther (hne 3) _).setOther (hne 4) _,
    ((((hT.setNew (a := ⟨w.heap.size, 0, none⟩) (Nat.le_refl _) _).setNew (a := ⟨w.heap.size, 1, none⟩) (Nat.le_refl _) _).setNew (a := ⟨w.heap.size, 2, none⟩) (Nat.le_refl _) _).setNew (a := ⟨w.heap.size, 3, none⟩) (Nat.le_refl _) _).setNew (a := ⟨w.heap.size, 4, none⟩) (Nat.le_refl _) _⟩

set_option maxRecDepth 100000 in
set_option maxHeartbeats 4000000 in
theorem term_not (rb : Nat) (s : ByteArray) (p code a : Nat) (w : World) (hs : s.size ≤ 20000) (hp : p ≤ s.size) (hc : code ≠ 0) (h : RdAt w rb s p code a) :
    Calls Tryz.prog 11 #[.pointer (some ⟨rb, 0, none⟩)] w fun e w' => TermPost w rb s p code a e w' := by
  have hal := h.alloc ztm
  have hrb := h.lt
  have HT := hide (token_calls s p rb _ hs hp hal.c0 hal.c1)
  have c2 := h.c2
  have HR := hide hal
  have e1 : ((code : Int) != 0) = true := by simp; omega
  have HC := hide hc
  clear h hal hc
  generalize (tok s p).t = t at *
  generalize (tok s p).at_ = k at *
  generalize (tok s p).ok = ok at *
  go_enter Tryz.func11, Tryz.ntmps11
  go_wp2_with (go_at_call 21; refine HT.out.mono ?_; rintro e w' ⟨rfl, rfl⟩)
  refine bodyPost_ret (v := .agg #[.int .i64 0, .int .i64 0, .string ⟨#[]⟩, .slice none 0 0, .slice none 0 0]) (by simp [results, Tryz.results11, go_sem]) rfl ?_
  exact ⟨0, 0, ⟨#[]⟩, none, 0, 0, none, 0, 0, p, code, a, rfl, HR.out, Nat.le_refl _, hp, Touched.alloc _ _ _, fun h => absurd h HC.out, fun _ => .inl ⟨HC.out, rfl, rfl⟩⟩

theorem first_byte {t : ByteArray} (h : t ≠ ⟨#[]⟩) : 0 < t.size := size_pos h

set_option maxRecDepth 100000 in
set_option maxHeartbeats 4000000 in
theorem term_none (rb : Nat) (s : ByteArray) (p a : Nat) (w : World) (hs : s.size ≤ 20000) (hp : p ≤ s.size) (h : RdAt w rb s p 0 a) (hn : NoTm s p) :
    Calls Tryz.prog 11 #[.pointer (some ⟨rb, 0, none⟩)] w fun e w' => TermPost w rb s p 0 a e w' := by
  have hal := h.alloc ztm
  have hrb := h.lt
  have HT := hide (token_calls s p rb _ hs hp hal.c0 hal.c1)
  obtain ⟨k1, k2, k3, k4⟩ := tok_facts hp
  have HX := hide (fun b => fail_zero rb s p a b _ hal)
  have HFl : Hid (FT s 1 p (tok s p).at_) := by unfold Hid; rw [tok_place s p hp]; exact .inl ⟨hn, rfl⟩
  have c2 := h.c2
  obtain ⟨n1, n2⟩ := hn
  have y1 := sameLit_neg (l := [40]) n1
  have fin : ∀ (w' : World), RdAt w' rb s p 1 (tok s p).at_ → Touched (w.alloc ztm) rb w' → ∀ u0 u1 u2 u3 u4, TermPost w rb s p 0 a (.returned (.agg #[.int .i64 0, .int .i64 0, .string ⟨#[]⟩, .slice none 0 0, .slice none 0 0])) (((((w'.setCell ⟨w.heap.size, 0, none⟩ u0).setCell ⟨w.heap.size, 1, none⟩ u1).setCell ⟨w.heap.size, 2, none⟩ u2).setCell ⟨w.heap.size, 3, none⟩ u3).setCell ⟨w.heap.size, 4, none⟩ u4) := fun w' hr ht u0 u1 u2 u3 u4 => by
    have hf := filled5 hrb hr ((Touched.alloc w rb ztm).trans ht) u0 u1 u2 u3 u4
    exact ⟨0, 0, ⟨#[]⟩, none, 0, 0, none, 0, 0, p, 1, _, rfl, hf.1, Nat.le_refl _, hp, hf.2, fun h => by omega, fun _ => .inr ⟨rfl, rfl, 1, HFl.out⟩⟩
  have HFin := hide fin
  clear fin h hal n1 k1 k2
  by_cases h0 : (tok s p).t = ⟨#[]⟩
  · have y0 := sameLit_pos (l := []) h0
    have H0 := hide h0
    clear n2 k4 h0 k3
    generalize (tok s p).t = t at *
    generalize (tok s p).at_ = k at *
    generalize (tok s p).ok = ok at *
    cases ok <;>
    (go_enter Tryz.func11, Tryz.ntmps11
     go_wp2_with (first
      | (go_at_call 21; refine HT.out.mono ?_; rintro e w' ⟨rfl, rfl⟩)
      | (go_at_call 22; refine (HX.out _).mono ?_))
     rintro e w' ⟨rfl, hr, ht⟩
     obtain ⟨d0, d1, d2, d3, d4, d5, d6⟩ := tzcells hrb ht
     have HR := hide hr
     have HTo := hide ht
     clear hr ht
     go_wp2_with fail
     refine bodyPost_ret (v := .agg #[.int .i64 0, .int .i64 0, .string ⟨#[]⟩, .slice none 0 0, .slice none 0 0]) (by simp [results, Tryz.results11, go_sem, d0, d1, d2, d3, d4]) rfl ?_
     exact HFin.out _ HR.out HTo.out _ _ _ _ _)
  · have hne : at_ (tok s p).t 0 ≠ 35 := n2.resolve_left h0
    have y0 := sameLit_neg (l := []) h0
    have hpos := size_pos h0
    have hok : (tok s p).ok = true := by
      cases e : (tok s p).ok
      · exact absurd (k4 e) h0
      · rfl
    rw [hok] at HT
    have e5 : ((((tok s p).t[0]'hpos).toNat : Int) != 35) = true := by rw [at_eq hpos]; simp; omega
    clear n2 k4 h0 hok hne
    generalize (tok s p).t = t at *
    generalize (tok s p).at_ = k at *
    go_enter Tryz.func11, Tryz.ntmps11
    go_wp2_with (first
      | (go_at_call 21; refine HT.out.mono ?_; rintro e w' ⟨rfl, rfl⟩)
      | (go_at_call 22; refine (HX.out _).mono ?_))
    rintro e w' ⟨rfl, hr, ht⟩
    obtain ⟨d0, d1, d2, d3, d4, d5, d6⟩ := tzcells hrb ht
    have HR := hide hr
    have HTo := hide ht
    clear hr ht
    go_wp2_with fail
    refine bodyPost_ret (v := .agg #[.int .i64 0, .int .i64 0, .string ⟨#[]⟩, .slice none 0 0, .slice none 0 0]) (by simp [results, Tryz.results11, go_sem, d0, d1, d2, d3, d4]) rfl ?_
    exact HFin.out _ HR.out HTo.out _ _ _ _ _

set_option maxRecDepth 100000 in
set_option maxHeartbeats 4000000 in
theorem term_var (rb : Nat) (s : ByteArray) (p a : Nat) (w : World) (hs : s.size ≤ 20000) (hp : p ≤ s.size) (h : RdAt w rb s p 0 a) (hne : (tok s p).t ≠ ⟨#[]⟩) (h35 : at_ (tok s p).t 0 = 35) :
    Calls Tryz.prog 11 #[.pointer (some ⟨rb, 0, none⟩)] w fun e w' => TermPost w rb s p 0 a e w' := by
  have hal := h.alloc ztm
  have hrb := h.lt
  have HT := hide (token_calls s p rb _ hs hp hal.c0 hal.c1)
  obtain ⟨k1, k2, k3, k4⟩ := tok_facts hp
  have HX := hide (next_calls rb s p a _ hs hp hal hne)
  obtain ⟨hidx, htx⟩ := tok_idx hp hne h35
  have hpos := size_pos hne
  have hok : (tok s p).ok = true := by
    cases e : (tok s p).ok
    · exact absurd (k4 e) hne
    · rfl
  rw [hok] at HT
  have e5 : ((((tok s p).t[0]'hpos).toNat : Int) != 35) = false := by rw [at_eq hpos, h35]; rfl
  have y0 := sameLit_neg (l := []) hne
  have y1 : ((tok s p).t.toList == [40]) = false := sameLit_neg (l := [40]) (fun e => by rw [e] at h35; exact absurd h35 (by decide))
  have hx : (tok s p).t.extract 1 (tok s p).t.size = s.extract (runTo blankB s p + 1) ((tok s p).at_ + (tok s p).t.size) := by
    have hpl := tok_place s p hp
    generalize (tok s p).at_ + (tok s p).t.size = q at *
    rw [htx]
    have hq : (s.extract (runTo blankB s p) q).size = q - runTo blankB s p := by rw [ByteArray.size_extract]; omega
    rw [hq]
    rw [ByteArray.ext_iff]
    apply Array.ext'
    apply List.ext_getElem
    · simp; omega
    · intro i h1 h2
      simp
  have hdg : Digs (s.extract (runTo blankB s p + 1) ((tok s p).at_ + (tok s p).t.size)) := by
    refine run_digs (by have := hidx.1; omega) ?_
    exact hidx.2.2.1.symm
  have h5 : (s.extract (runTo blankB s p + 1) ((tok s p).at_ + (tok s p).t.size)).size ≤ 5 := by
    rw [ByteArray.size_extract]
    have := hidx.2.2.2.1
    omega
  have KN := hide (fun W => rnumber_calls _ W hdg h5)
  rw [← hx] at KN
  have HIx := hide hidx
  have HK := hide (And.intro k1 (And.intro k2 hpos))
  have c2 := h.c2
  have hsm : (tok s p).t.size ≤ 40 := k3
  rw [← hx] at HIx
  clear h hal k1 k2 k3 k4 hok hne h35 hidx htx hx hdg h5
  generalize (tok s p).t = t at *
  generalize (tok s p).at_ = k at *
  go_enter Tryz.func11, Tryz.ntmps11
  go_wp2_with (first
    | (go_at_call 21; refine HT.out.mono ?_; rintro e w' ⟨rfl, rfl⟩)
    | (go_at_call 23; refine HX.out.mono ?_))
  rintro e w' ⟨rfl, hr, ht⟩
  obtain ⟨d0, d1, d2, d3, d4, d5, d6⟩ := tzcells hrb ht
  have HR := hide hr
  have HTo := hide ht
  clear hr ht
  go_wp2_with (go_at_call 24; refine (KN.out _).mono ?_; rintro e w2 ⟨rfl, rfl⟩)
  refine bodyPost_ret (v := .agg #[.int .i64 0, .int .i64 (decV (t.extract 1 t.size) : Nat), .string ⟨#[]⟩, .slice none 0 0, .slice none 0 0]) (by simp [results, Tryz.results11, go_sem, d0, d1, d2, d3, d4]) rfl ?_
  obtain ⟨g1, g2, g3⟩ := HK.out
  have hf := filled5 hrb HR.out ((Touched.alloc w rb ztm).trans HTo.out) (.int .i64 0) (.int .i64 (decV (t.extract 1 t.size) : Nat)) (.string ⟨#[]⟩) (.slice none 0 0) (.slice none 0 0)
  refine ⟨0, _, ⟨#[]⟩, none, 0, 0, none, 0, 0, k + t.size, 0, a, rfl, hf.1, by omega, g2, hf.2, fun _ => ⟨rfl, by omega, 1, .node 0 (decV (t.extract 1 t.size)) ⟨#[]⟩ [] [], ?_, .inl ⟨rfl, rfl, rfl, rfl, HIx.out⟩⟩, fun h => absurd rfl h⟩
  exact ⟨none, 0, none, 0, rfl, fun i hi => absurd hi (by simp [Tm.ls]), fun i hi => absurd hi (by simp [Tm.ts])⟩

end Go.Proofs.YtahcgpnjlmpkpaaGreatDoor
