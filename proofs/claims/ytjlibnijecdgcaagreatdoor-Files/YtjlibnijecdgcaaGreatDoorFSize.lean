/- How long printed declarations are, and what is known of the terms of a read one. Plain Lean, no walk. -/
import Derived.Test.YtjlibnijecdgcaaGreatDoorDet
import Derived.Test.YtjlibnijecdgcaaGreatDoorKin

namespace Go.Proofs.YtjlibnijecdgcaaGreatDoor
open Go.RowKit

/-- How long texts are, each with a blank. -/
def wide : List (List UInt8) → Nat
  | [] => 0
  | x :: xs => x.length + 1 + wide xs
theorem spaced_wide : ∀ xs : List (List UInt8), (spaced id xs).length = wide xs
  | [] => rfl
  | x :: xs => by rw [spaced_cons]; simp only [List.length_cons, List.length_append, id, wide, spaced_wide xs]; omega
theorem joinS_len (xs : List (List UInt8)) : (joinS xs).length ≤ wide xs := by
  cases xs with
  | nil => exact Nat.le_refl _
  | cons x xs => simp only [joinS, List.length_append, spaced_wide, wide]; omega
theorem inB_len (xs : List (List UInt8)) : (inB xs).length ≤ wide xs + 2 := by
  have := joinS_len xs
  simp only [inB, List.length_cons, List.length_append, List.length_nil]
  omega
theorem wide_app : ∀ xs ys : List (List UInt8), wide (xs ++ ys) = wide xs + wide ys
  | [], ys => by simp [wide]
  | x :: xs, ys => by simp only [List.cons_append, wide, wide_app xs ys]; omega
theorem NamesAt.len {s : ByteArray} : ∀ {qs : List ByteArray} {p p' : Nat}, NamesAt s qs p p' → p + qs.length ≤ p' ∧ wide (qs.map fun q => q.data.toList) + 2000 * p ≤ 2000 * p'
  | [], p, p', h => by have e : p' = p := h; subst e; simp [wide]
  | q :: qs, p, p', ⟨p1, h1, h2⟩ => by
    have a := h1.lt
    have b := h1.nm.2.1
    have ih := NamesAt.len h2
    have e := len_data q
    simp only [List.map_cons, wide, List.length_cons, e]
    omega
theorem ctor_len {s : ByteArray} {D : Nat} {c : ByteArray × Tm} {p p' : Nat} (hs : s.size ≤ 200000) (hD : 200000 < D) (h : CtorAt s D c p p') : p < p' ∧ (ctext D c).length + 1 + 2000 * p ≤ 2000 * p' ∧ WfT D c.2 := by
  obtain ⟨p1, p2, p3, p4, h1, h2, h3, h4, h5⟩ := h
  obtain ⟨h6, h7⟩ := RT.some hs D c.2 p3 p4 h4
  have hle := h4.le
  obtain ⟨hw, hp⟩ := h7 D (by omega)
  have ht := textT_len hw
  have a1 := h1.lt
  have a2 := h2.lt.1
  have a3 := h3.lt.1
  have a4 := h3.nm.2.1
  have a5 := h5.lt
  have e1 := len_data c.1
  have e2 : cword.data.toList.length = 4 := rfl
  have hx : (ctext D c).length = 4 + cword.data.toList.length + c.1.data.toList.length + (textT D c.2).length := by simp [ctext, inB, joinS, spaced]; omega
  refine ⟨by omega, ?_, hw⟩
  rw [hx, e2, e1]
  omega
theorem CtorsAt.len {s : ByteArray} {D : Nat} (hs : s.size ≤ 200000) (hD : 200000 < D) : ∀ {cs : List (ByteArray × Tm)} {p p' : Nat}, CtorsAt s D cs p p' → p + cs.length ≤ p' ∧ wide (cs.map (ctext D)) + 2000 * p ≤ 2000 * p' ∧ ∀ c ∈ cs, WfT D c.2 ∧ (ctext D c).length ≤ 2000 * p'
  | [], p, p', h => by have e : p' = p := h; subst e; simp [wide]
  | c :: cs, p, p', ⟨p1, h1, h2⟩ => by
    obtain ⟨a, b, w⟩ := ctor_len hs hD h1
    obtain ⟨i1, i2, i3⟩ := CtorsAt.len hs hD h2
    refine ⟨by rw [List.length_cons]; omega, by rw [List.map_cons, wide]; omega, fun x hx => ?_⟩
    rcases List.mem_cons.1 hx with rfl | hx
    · exact ⟨w, by omega⟩
    · exact i3 x hx

/-- What printing wants of a declaration. -/
structure FitD (D : Nat) (d : Dc) : Prop where
  good : GoodD D d
  ty : WfT D d.ty
  vl : d.kd = 2 → WfT D d.vl
  cs : ∀ c ∈ d.cs, WfT D c.2 ∧ (ctext D c).length ≤ 400000000
  pl : d.ps.length ≤ 200000
  cl : d.cs.length ≤ 200000
  pw : wide (d.ps.map fun q => q.data.toList) ≤ 400000000
  len : (dtext D d).length + 1 ≤ 400000000
  wd : wide (dparts D d) ≤ 400000000

theorem dec99 {n : Nat} (h : n ≤ 99) : (Lib.decDigits n).length ≤ 2 := by
  by_cases h1 : n < 10
  · rw [Lib.decDigits_one h1]; simp
  · rw [Lib.decDigits_two h1 (by omega)]; simp

theorem decl_len {s : ByteArray} {D : Nat} {d : Dc} {p p' : Nat} (hs : s.size ≤ 200000) (hD : 200000 < D) (h : DeclAt s D d p p') : p < p' ∧ (dtext D d).length + 1 + 2000 * p ≤ 2000 * p' ∧ FitD D d := by
  have hg := h.good
  obtain ⟨p1, p2, p3, p4, p5, p6, p7, p8, h1, hk, h2, h3, ⟨x, y, g1, g2, g3⟩, h5, h6, h7, h8, h9⟩ := h
  have a1 := h1.lt
  have a2 := h2.lt.1
  have a3 := h3.lt.1
  have a4 := h3.nm.2.1
  have a5 := g1.lt
  have a6 := g3.lt
  have a7 := g3.le
  obtain ⟨n1, n2⟩ := g2.len
  obtain ⟨t1, t2⟩ := RT.some hs D d.ty p5 p6 h6
  have t3 := h6.le
  obtain ⟨t4, t5⟩ := t2 D (by omega)
  have t6 := textT_len t4
  have b1 := h9.lt
  have b2 := h9.le
  have e1 := len_data d.nm
  have e2 : (dword d.kd).data.toList.length ≤ 9 := by
    have : d.kd = 1 ∨ d.kd = 2 ∨ d.kd = 3 := by omega
    rcases this with e | e | e <;> rw [e] <;> decide
  have hA : p4 ≤ p5 ∧ wide (if d.kd = 3 then [Lib.decDigits d.ar] else []) + 2000 * p4 ≤ 2000 * p5 := by
    rcases h5 with ⟨k, h⟩ | ⟨k, _, h⟩
    · have q1 := dec99 hg.ar
      have q2 : p4 ≤ runTo blankB s p4 := runTo_ge _ _ _
      have q3 : runTo blankB s p4 < p5 := by rw [h.2.2.1]; exact digitEnd_ge _ _
      rw [if_pos k]
      simp only [wide]
      omega
    · rw [if_neg k, h]; simp [wide]
  have hB : p6 ≤ p7 ∧ wide (if d.kd = 2 then [textT D d.vl] else []) + 2000 * p6 ≤ 2000 * p7 ∧ (d.kd = 2 → WfT D d.vl) := by
    rcases h7 with ⟨k, h⟩ | ⟨k, _, h⟩
    · obtain ⟨t1, t2⟩ := RT.some hs D d.vl p6 p7 h
      have t3 := h.le
      obtain ⟨t4, t5⟩ := t2 D (by omega)
      have t6 := textT_len t4
      rw [if_pos k]
      simp only [wide]
      exact ⟨by omega, by omega, fun _ => t4⟩
    · rw [if_neg k, h]; exact ⟨Nat.le_refl _, by simp [wide], fun e => absurd e k⟩
  have hC : p7 ≤ p8 ∧ wide (if d.kd = 3 then d.cs.map (ctext D) else []) + 2000 * p7 ≤ 2000 * p8 ∧ d.cs.length ≤ p8 ∧ ∀ c ∈ d.cs, WfT D c.2 ∧ (ctext D c).length ≤ 2000 * p8 := by
    rcases h8 with ⟨k, h⟩ | ⟨k, e, h⟩
    · obtain ⟨c1, c2, c3⟩ := h.len hs hD
      rw [if_pos k]
      exact ⟨by omega, c2, by omega, c3⟩
    · rw [if_neg k, h, e]; exact ⟨Nat.le_refl _, by simp [wide], Nat.zero_le _, fun c hc => absurd hc (by simp)⟩
  have hi := inB_len (d.ps.map fun q => q.data.toList)
  have hx : wide (dparts D d) + 2000 * p1 + 3 ≤ 2000 * p' := by
    unfold dparts
    simp only [List.cons_append, List.nil_append, wide, wide_app]
    omega
  have hl := inB_len (dparts D d)
  have hd : (dtext D d).length + 1 + 2000 * p ≤ 2000 * p' := by unfold dtext; omega
  exact ⟨by omega, hd, hg, t4, hB.2.2, fun c hc => ⟨(hC.2.2.2 c hc).1, by have := (hC.2.2.2 c hc).2; omega⟩, by omega, by omega, by omega, by omega, by omega⟩

theorem decls_len {s : ByteArray} {D : Nat} (hs : s.size ≤ 200000) (hD : 200000 < D) : ∀ {ds : List Dc} {p p' : Nat}, DeclsAt s D ds p p' → p ≤ p' ∧ (ftext D ds).length + 2000 * p ≤ 2000 * p' ∧ ∀ d ∈ ds, FitD D d
  | [], p, p', h => by have e : p' = p := h; subst e; simp [ftext]
  | d :: ds, p, p', ⟨p1, h1, h2⟩ => by
    obtain ⟨a1, a2, a3⟩ := decl_len hs hD h1
    obtain ⟨i1, i2, i3⟩ := decls_len hs hD h2
    have e : (ftext D (d :: ds)).length = (dtext D d).length + 1 + (ftext D ds).length := by simp [ftext]; omega
    refine ⟨by omega, by omega, fun x hx => ?_⟩
    rcases List.mem_cons.1 hx with rfl | hx
    · exact a3
    · exact i3 x hx

end Go.Proofs.YtjlibnijecdgcaaGreatDoor
