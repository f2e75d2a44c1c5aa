/- The contract of declaration: its walk. -/
import Derived.Test.YtjlibnijecdgcaaGreatDoorFDecl0
import Derived.Deep.CutBlock
import Derived.Deep.DeepCutAuto
import Derived.Deep.MidRow

namespace Go.Proofs.YtjlibnijecdgcaaGreatDoor
open Go.RowKit

abbrev zdc : Obj := .cells #[.int .i64 0, .string ⟨#[]⟩, .slice none 0 0, .int .i64 0, .int .i64 0, .string ⟨#[]⟩, .slice none 0 0, .slice none 0 0, .int .i64 0, .int .i64 0, .string ⟨#[]⟩, .slice none 0 0, .slice none 0 0, .int .i64 0, .slice none 0 0] 46

theorem cell_of {W : World} {c : Nat} {vs : Array Value} {T : TypeId} (h : W.heap[c]? = some (.cells vs T (0, 0))) (i : Nat) {v : Value} (hv : vs[i]? = some v) : W.cell? ⟨c, i, none⟩ = some v := by
  unfold World.cell?
  rw [h]
  exact hv
theorem frozen_of {W : World} {c : Nat} {vs : Array Value} {T : TypeId} (h : W.heap[c]? = some (.cells vs T (0, 0))) (i : Nat) : W.frozen? ⟨c, i, none⟩ = false := by simp [World.frozen?, h]

/-- Where the walk stands: the declaration's variable, the result's block, the scanner; nothing old has turned. -/
structure DSt (w : World) (sc : Nat) (s : ByteArray) (c : Nat) (vs : Array Value) (pk : Nat) (W : World) : Prop where
  var : W.heap[c]? = some (.cells vs 46 (0, 0))
  res : W.heap[w.heap.size]? = some zdc
  scan : ScAt W sc s pk
  old : Touched w sc W
  le : pk ≤ s.size
  hc : w.heap.size < c
  hs : sc < w.heap.size
section
variable {w : World} {sc : Nat} {s : ByteArray} {c : Nat} {vs : Array Value} {pk : Nat} {W : World}
theorem DSt.touched (h : DSt w sc s c vs pk W) {W' : World} {pk' : Nat} (ht : Touched W sc W') (hS : ScAt W' sc s pk') (hp : pk' ≤ s.size) : DSt w sc s c vs pk' W' :=
  ⟨(ht.at (Array.getElem?_eq_some_iff.1 h.var).1 (by have := h.hc; have := h.hs; omega)).trans h.var, (ht.at (Array.getElem?_eq_some_iff.1 h.res).1 (by have := h.hs; omega)).trans h.res, hS, h.old.trans ht, hp, h.hc, h.hs⟩
theorem DSt.set (h : DSt w sc s c vs pk W) (i : Nat) (u : Value) (vs' : Array Value) (e : vs.setIfInBounds i u = vs') : DSt w sc s c vs' pk (W.setCell ⟨c, i, none⟩ u) := by
  have hc := h.hc
  have hs := h.hs
  refine ⟨?_, (Below.heap_setCell _ _ _ _ (by show w.heap.size ≠ c; omega)).trans h.res, h.scan.of_block (Below.heap_setCell _ _ _ _ (by show sc ≠ c; omega)), h.old.setNew (a := ⟨c, i, none⟩) (by show w.heap.size ≤ c; omega) u, h.le, h.hc, h.hs⟩
  rw [← e]
  simp [World.setCell, Array.getElem?_modify, h.var]
end

/-- What lies in new blocks, none of them the variable's, stays where the scanner moves and the variable is filled. -/
theorem kept_new {w W W' : World} {sc c : Nat} (ht : Touched W sc W') (hs : sc < w.heap.size) : ∀ b, b < W.heap.size → (w.heap.size < b ∧ b ≠ c) → (w.heap.size < b ∧ b ≠ c) ∧ W'.heap[b]? = W.heap[b]? := fun b hb h => ⟨h, ht.at hb (by omega)⟩

/-- A declaration's fifteen cells, stored. -/
theorem fifteen {w W : World} {sc r : Nat} (u0 u1 u2 u3 u4 u5 u6 u7 u8 u9 u10 u11 u12 u13 u14 : Value) : (∀ b, b ≠ r → (((((((((((((((W.setCell ⟨r, 0, none⟩ (u0)).setCell ⟨r, 1, none⟩ (u1)).setCell ⟨r, 2, none⟩ (u2)).setCell ⟨r, 3, none⟩ (u3)).setCell ⟨r, 4, none⟩ (u4)).setCell ⟨r, 5, none⟩ (u5)).setCell ⟨r, 6, none⟩ (u6)).setCell ⟨r, 7, none⟩ (u7)).setCell ⟨r, 8, none⟩ (u8)).setCell ⟨r, 9, none⟩ (u9)).setCell ⟨r, 10, none⟩ (u10)).setCell ⟨r, 11, none⟩ (u11)).setCell ⟨r, 12, none⟩ (u12)).setCell ⟨r, 13, none⟩ (u13)).setCell ⟨r, 14, none⟩ (u14)).heap[b]? = W.heap[b]?) ∧ (Touched w sc W → w.heap.size ≤ r → Touched w sc (((((((((((((((W.setCell ⟨r, 0, none⟩ (u0)).setCell ⟨r, 1, none⟩ (u1)).setCell ⟨r, 2, none⟩ (u2)).setCell ⟨r, 3, none⟩ (u3)).setCell ⟨r, 4, none⟩ (u4)).setCell ⟨r, 5, none⟩ (u5)).setCell ⟨r, 6, none⟩ (u6)).setCell ⟨r, 7, none⟩ (u7)).setCell ⟨r, 8, none⟩ (u8)).setCell ⟨r, 9, none⟩ (u9)).setCell ⟨r, 10, none⟩ (u10)).setCell ⟨r, 11, none⟩ (u11)).setCell ⟨r, 12, none⟩ (u12)).setCell ⟨r, 13, none⟩ (u13)).setCell ⟨r, 14, none⟩ (u14))) := by
  refine ⟨fun b hb => ?_, fun h hr => ?_⟩
  · rw [Below.heap_setCell _ _ _ _ (by show b ≠ r; exact hb), Below.heap_setCell _ _ _ _ (by show b ≠ r; exact hb), Below.heap_setCell _ _ _ _ (by show b ≠ r; exact hb), Below.heap_setCell _ _ _ _ (by show b ≠ r; exact hb), Below.heap_setCell _ _ _ _ (by show b ≠ r; exact hb), Below.heap_setCell _ _ _ _ (by show b ≠ r; exact hb), Below.heap_setCell _ _ _ _ (by show b ≠ r; exact hb), Below.heap_setCell _ _ _ _ (by show b ≠ r; exact hb), Below.heap_setCell _ _ _ _ (by show b ≠ r; exact hb), Below.heap_setCell _ _ _ _ (by show b ≠ r; exact hb), Below.heap_setCell _ _ _ _ (by show b ≠ r; exact hb), Below.heap_setCell _ _ _ _ (by show b ≠ r; exact hb), Below.heap_setCell _ _ _ _ (by show b ≠ r; exact hb), Below.heap_setCell _ _ _ _ (by show b ≠ r; exact hb), Below.heap_setCell _ _ _ _ (by show b ≠ r; exact hb)]
  · exact (((((((((((((((h.setNew (a := ⟨r, 0, none⟩) hr _).setNew (a := ⟨r, 1, none⟩) hr _).setNew (a := ⟨r, 2, none⟩) hr _).setNew (a := ⟨r, 3, none⟩) hr _).setNew (a := ⟨r, 4, none⟩) hr _).setNew (a := ⟨r, 5, none⟩) hr _).setNew (a := ⟨r, 6, none⟩) hr _).setNew (a := ⟨r, 7, none⟩) hr _).setNew (a := ⟨r, 8, none⟩) hr _).setNew (a := ⟨r, 9, none⟩) hr _).setNew (a := ⟨r, 10, none⟩) hr _).setNew (a := ⟨r, 11, none⟩) hr _).setNew (a := ⟨r, 12, none⟩) hr _).setNew (a := ⟨r, 13, none⟩) hr _).setNew (a := ⟨r, 14, none⟩) hr _)
theorem five_at {W : World} {r i j k l m b : Nat} (u0 u1 u2 u3 u4 : Value) (hb : b ≠ r) : (((((W.setCell ⟨r, i, none⟩ u0).setCell ⟨r, j, none⟩ u1).setCell ⟨r, k, none⟩ u2).setCell ⟨r, l, none⟩ u3).setCell ⟨r, m, none⟩ u4).heap[b]? = W.heap[b]? := by
  rw [Below.heap_setCell _ _ _ _ (by show b ≠ r; exact hb), Below.heap_setCell _ _ _ _ (by show b ≠ r; exact hb), Below.heap_setCell _ _ _ _ (by show b ≠ r; exact hb), Below.heap_setCell _ _ _ _ (by show b ≠ r; exact hb), Below.heap_setCell _ _ _ _ (by show b ≠ r; exact hb)]
theorem arity_same {s : ByteArray} {d kd ar ar' p4 p5 q5 : Nat} (ek : d = kd) (h : (kd = 3 ∧ NumAt s ar p4 p5) ∨ (kd ≠ 3 ∧ ar = 0 ∧ p5 = p4)) (h' : (d = 3 ∧ NumAt s ar' p4 q5) ∨ (d ≠ 3 ∧ ar' = 0 ∧ q5 = p4)) : ar = ar' ∧ p5 = q5 := by
  rcases h with ⟨k, h⟩ | ⟨k, h, h2⟩ <;> rcases h' with ⟨k', h'⟩ | ⟨k', h', h2'⟩
  · exact h.same h'
  · omega
  · omega
  · exact ⟨by omega, by omega⟩
theorem value_same {s : ByteArray} {D d kd p6 p7 q7 : Nat} {t t' : Tm} (ek : d = kd) (h : (kd = 2 ∧ RT s D t p6 p7) ∨ (kd ≠ 2 ∧ t = zeroT ∧ p7 = p6)) (h' : (d = 2 ∧ RT s D t' p6 q7) ∨ (d ≠ 2 ∧ t' = zeroT ∧ q7 = p6)) : p7 = q7 := by
  rcases h with ⟨k, h⟩ | ⟨k, h, h2⟩ <;> rcases h' with ⟨k', h'⟩ | ⟨k', h', h2'⟩
  · exact (h.unique h').2
  · omega
  · omega
  · omega
theorem zero_in (W : World) (S : Nat → Prop) (D : Nat) (hD : 1 ≤ D) : InTm W S D zeroT (.agg #[.int .i64 0, .int .i64 0, .string ⟨#[]⟩, .slice none 0 0, .slice none 0 0]) :=
  InTm.deeper (d := 1) ⟨none, 0, none, 0, rfl, fun i hi => absurd hi (by show ¬ i < 0; omega), fun i hi => absurd hi (by show ¬ i < 0; omega)⟩ hD

theorem setCells_at {b r : Nat} (hb : b ≠ r) : ∀ (vs : List Value) (o : Nat) (w : World), (w.setCells r o vs).heap[b]? = w.heap[b]?
  | [], _, _ => rfl
  | _ :: vs, o, _ => (setCells_at hb vs (o + 1) _).trans (Below.heap_setCell _ _ _ _ (by show b ≠ r; exact hb))
theorem setCells_new {w : World} {sc r : Nat} (hr : w.heap.size ≤ r) : ∀ (vs : List Value) (o : Nat) (W : World), Touched w sc W → Touched w sc (W.setCells r o vs)
  | [], _, _, h => h
  | _ :: vs, o, _, h => setCells_new hr vs (o + 1) _ (h.setNew (a := ⟨r, o, none⟩) hr _)
theorem range_of {W : World} {c : Nat} {vs : Array Value} {T : TypeId} (h : W.heap[c]? = some (.cells vs T (0, 0))) : W.rangeAt c 0 vs.toList := fun j v hv => cell_of h (0 + j) (by simpa using hv)
theorem there_of {W : World} {c : Nat} {vs : Array Value} {T : TypeId} (h : W.heap[c]? = some (.cells vs T (0, 0))) : W.there c 0 vs.size := fun j hj => ⟨by rw [cell_of h (0 + j) (Array.getElem?_eq_getElem (by omega))]; rfl, frozen_of h _⟩
theorem Tryz.size45 : (Tryz.prog.info? 46).map (·.size) = some 15 := by kernel_rfl
/-- A declaration's cells, taken whole and stored whole. -/
theorem whole15 {W w : World} {sc c : Nat} {vs zs : Array Value} (hsz : vs.size = 15) (hz : zs.size = 15) (h1 : vs.all (·.oneCell') = true) (hv : W.heap[c]? = some (.cells vs 46 (0, 0))) (hr : W.heap[w.heap.size]? = some (.cells zs 46 (0, 0))) :
    ∃ l : List Value, l.toArray = vs ∧ W.rangeAt c 0 l ∧ W.there w.heap.size 0 l.toArray.size ∧ (Tryz.prog.info? 46).map (·.size) = some l.length ∧ l.toArray.all (·.oneCell') = true ∧
      (loadVar 46 ⟨w.heap.size, 0, none⟩).run Tryz.prog (W.setCells w.heap.size 0 l) = .ok (.agg l.toArray) (W.setCells w.heap.size 0 l) ∧
      (∀ b, b ≠ w.heap.size → (W.setCells w.heap.size 0 l).heap[b]? = W.heap[b]?) ∧ (Touched w sc W → Touched w sc (W.setCells w.heap.size 0 l)) := by
  have hl : vs.toList.length = 15 := by simpa using hsz
  have hth : W.there w.heap.size 0 15 := by have := there_of hr; rw [hz] at this; exact this
  refine ⟨vs.toList, by simp, range_of hv, by simpa [hsz] using hth, by rw [hl]; exact Tryz.size45, by simpa using h1, ?_, fun b hb => setCells_at hb _ _ _, fun h => setCells_new (Nat.le_refl _) _ _ _ h⟩
  exact run_loadVar_mid (P := Tryz.prog) _ w.heap.size 0 46 vs.toList _ (World.rangeAt_setCells_same W w.heap.size 0 vs.toList (by rw [hl]; exact hth)) Tryz.underlying46 rfl (by rw [hl]; exact Tryz.size45)
theorem ctors_same {s : ByteArray} {D d kd p7 p8 q8 : Nat} {cs cs' : List (ByteArray × Tm)} (ek : d = kd) (h : (kd = 3 ∧ CtorsAt s D cs p7 p8 ∧ ∃ q, SignAt s 41 p8 q) ∨ (kd ≠ 3 ∧ cs = [] ∧ p8 = p7)) (h' : (d = 3 ∧ CtorsAt s D cs' p7 q8) ∨ (d ≠ 3 ∧ cs' = [] ∧ q8 = p7)) (hno : ∀ p', ¬ SignAt s 41 p8 p') : p8 = q8 := by
  rcases h with ⟨k, h, q, hq⟩ | ⟨k, h, h2⟩ <;> rcases h' with ⟨k', h'⟩ | ⟨k', h', h2'⟩
  · exact absurd hq (hno q)
  · omega
  · omega
  · omega

set_option maxRecDepth 100000 in
set_option maxHeartbeats 16000000 in
theorem decl_total (sc : Nat) (s : ByteArray) (p D : Nat) (w : World) (hs : s.size ≤ 200000) (hp : p ≤ s.size) (h : ScAt w sc s p) (ht : Tabs3 w) (hsc : 11 < sc) (hD : 200000 < D) :
    Calls Tryz.prog 32 #[.pointer (some ⟨sc, 0, none⟩)] w fun e w' => DeclEnd w sc s D p e w' := by
  have hlt := h.lt
  have hT0 := (ht.alloc zdc).alloc (.cells #[.int .i64 1] 71)
  have K1 := hide (sign_total sc s p _ hs hp ((h.alloc zdc).alloc (.cells #[.int .i64 1] 71)) hT0 hsc 40 1 (.inl ⟨rfl, rfl⟩) (.slice (some ⟨w.heap.size + 1, 0, none⟩) 1 1) (by have := kinds1 (w := w.alloc zdc) 1; simpa using this) (fun b n cap e => by injection e with e; injection e with e; injection e with e; omega))
  have HTb := hide ht
  have HZ : Hid (((w.alloc zdc).alloc (.cells #[.int .i64 1] 71)).heap[w.heap.size]? = some zdc) := by
    unfold Hid
    rw [Below.heap_alloc _ _ _ (by simp)]
    exact heap_alloc_new w zdc
  clear h ht hT0
  go_enter Tryz.func32, Tryz.ntmps32
  go_wp2_with (go_at_call 30; refine K1.out.mono ?_)
  intro e w1 h9
  rcases h9 with ⟨v1, p1, hs1, rfl, hS1, hT1⟩ | ⟨hno, hth⟩
  rotate_left
  · have HF : Hid (DeclEnd w sc s D p e w1) := .inr ⟨_, .inl ⟨hno, rfl⟩, hth.from ((Touched.alloc w sc _).trans (Touched.alloc _ sc _))⟩
    obtain ⟨fb, rfl, -⟩ := hth
    go_wp2_with fail
    exact ⟨rfl, HF.out⟩
  have HT1 := hide (((Touched.alloc w sc zdc).trans (Touched.alloc _ sc _)).trans hT1)
  have HZ1 : Hid (w1.heap[w.heap.size]? = some zdc) := (hT1.at (by simp; omega) (by omega)).trans HZ.out
  have K2 := hide (dword_total sc s p1 w1 hs hs1.le hS1 (HTb.out.touched HT1.out hsc) hsc)
  have HG1 := hide hs1
  clear hT1 hS1 hs1 K1 HZ
  go_wp2_with (go_at_call 47; refine K2.out.mono ?_)
  intro e w2 h9
  rcases h9 with ⟨v2, p2, ⟨kd, rfl, hkd, hs2⟩, rfl, hS2, hT2⟩ | ⟨hno, hth⟩
  rotate_left
  · have HF : Hid (DeclEnd w sc s D p e w2) := .inr ⟨_, .inr ⟨(), p1, HG1.out, .inl ⟨fun kd p' hk h => hno kd p' hk h, rfl⟩⟩, hth.from (HT1.out)⟩
    obtain ⟨fb, rfl, -⟩ := hth
    go_wp2_with fail
    exact ⟨rfl, HF.out⟩
  have HT2 := hide (HT1.out.trans hT2)
  have HZ2 : Hid (w2.heap[w.heap.size]? = some zdc) := (hT2.at (Array.getElem?_eq_some_iff.1 HZ1.out).1 (by omega)).trans HZ1.out
  have K3 := hide (name_total sc s p2 w2 hs hs2.le hS2 (HTb.out.touched HT2.out hsc) hsc)
  have HG2 := hide hs2
  have HKd := hide hkd
  clear hT2 hS2 hs2 hkd K2 HZ1 HT1
  go_wp2_with (go_at_call 49; refine K3.out.mono ?_)
  intro e w3 h9
  rcases h9 with ⟨v3, p3, ⟨nm, rfl, hs3⟩, rfl, hS3, hT3⟩ | ⟨hno, hth⟩
  rotate_left
  · have HF : Hid (DeclEnd w sc s D p e w3) := .inr ⟨_, .inr ⟨(), p1, HG1.out, .inr ⟨kd, p2, ⟨HKd.out, HG2.out⟩, .inl ⟨hno, rfl⟩⟩⟩, hth.from (HT2.out)⟩
    obtain ⟨fb, rfl, -⟩ := hth
    go_wp2_with fail
    exact ⟨rfl, HF.out⟩
  have HT3 := hide (HT2.out.trans hT3)
  have HZ3 : Hid (w3.heap[w.heap.size]? = some zdc) := (hT3.at (Array.getElem?_eq_some_iff.1 HZ2.out).1 (by omega)).trans HZ2.out
  have K4 := hide (params_total sc s p3 w3 hs hs3.le hS3 (HTb.out.touched HT3.out hsc) hsc)
  have HG3 := hide hs3
  clear hT3 hS3 hs3 K3 HZ2 HT2
  go_wp2_with (go_at_call 50; refine K4.out.mono ?_)
  intro e w4 h9
  rcases h9 with ⟨ps, p4, Ap, cp, hs4, rfl, hown, hfew, hS4, hT4⟩ | ⟨aft, hft, hth⟩
  rotate_left
  · have HF : Hid (DeclEnd w sc s D p e w4) := .inr ⟨_, .inr ⟨(), p1, HG1.out, .inr ⟨kd, p2, ⟨HKd.out, HG2.out⟩, .inr ⟨nm, p3, HG3.out, .inl hft⟩⟩⟩, hth.from (HT3.out)⟩
    obtain ⟨fb, rfl, -⟩ := hth
    go_wp2_with fail
    exact ⟨rfl, HF.out⟩
  have HCp : Hid (ps.length ≤ cp) := own_cap hown
  have HBg : Hid (Begun s p kd nm ps p1 p2 p3 p4) := ⟨HG1.out, HKd.out, HG2.out, HG3.out, hs4⟩
  have hz3 := HT3.out.size
  have hz4 := hT4.size
  have hz0 : w.heap.size < w3.heap.size := (Array.getElem?_eq_some_iff.1 HZ3.out).1
  have hp4 : p4 ≤ s.size := by obtain ⟨_, _, _, _, h⟩ := hs4; exact h.le
  have HD4 : Hid (DSt w sc s w4.heap.size #[.int .i64 (kd : Nat), .string nm, .slice Ap ps.length cp, .int .i64 0, .int .i64 0, .string ⟨#[]⟩, .slice none 0 0, .slice none 0 0, .int .i64 0, .int .i64 0, .string ⟨#[]⟩, .slice none 0 0, .slice none 0 0, .int .i64 (0 : Nat), .slice none 0 0] p4 (w4.alloc (.cells #[.int .i64 (kd : Nat), .string nm, .slice Ap ps.length cp, .int .i64 0, .int .i64 0, .string ⟨#[]⟩, .slice none 0 0, .slice none 0 0, .int .i64 0, .int .i64 0, .string ⟨#[]⟩, .slice none 0 0, .slice none 0 0, .int .i64 (0 : Nat), .slice none 0 0] 46))) := ⟨heap_alloc_new _ _, (Below.heap_alloc _ _ _ (by omega)).trans ((hT4.at hz0 (by omega)).trans HZ3.out), hS4.alloc _, (HT3.out.trans hT4).trans (Touched.alloc _ _ _), hp4, by omega, hlt⟩
  have HN4 : Hid (NmsIn (w4.alloc (.cells #[.int .i64 (kd : Nat), .string nm, .slice Ap ps.length cp, .int .i64 0, .int .i64 0, .string ⟨#[]⟩, .slice none 0 0, .slice none 0 0, .int .i64 0, .int .i64 0, .string ⟨#[]⟩, .slice none 0 0, .slice none 0 0, .int .i64 (0 : Nat), .slice none 0 0] 46)) (fun b => w.heap.size < b ∧ b < w4.heap.size) Ap ps) := (NmsIn.of_own hown).keep fun b hb hS => ⟨⟨by omega, hb⟩, Below.heap_alloc _ _ _ hb⟩
  have hkd := HKd.out
  clear hs4 hown hfew hS4 hT4 K4 HZ3 HT3 HG1 HG2 HG3 HKd hp4 hz3 hz4
  go_upto_region 3 with fail
  have hv := HD4.out.var
  generalize hWc : w4.alloc (.cells #[.int .i64 (kd : Nat), .string nm, .slice Ap ps.length cp, .int .i64 0, .int .i64 0, .string ⟨#[]⟩, .slice none 0 0, .slice none 0 0, .int .i64 0, .int .i64 0, .string ⟨#[]⟩, .slice none 0 0, .slice none 0 0, .int .i64 (0 : Nat), .slice none 0 0] 46) = Wc at *
  have e0 : Wc.cell? ⟨w4.heap.size, 0, none⟩ = some (.int .i64 (kd : Nat)) := cell_of hv 0 rfl
  have e1 : Wc.cell? ⟨w4.heap.size, 1, none⟩ = some (.string nm) := cell_of hv 1 rfl
  have e2 : Wc.cell? ⟨w4.heap.size, 2, none⟩ = some (.slice Ap ps.length cp) := cell_of hv 2 rfl
  have e3 : Wc.cell? ⟨w4.heap.size, 3, none⟩ = some (.int .i64 0) := cell_of hv 3 rfl
  have e4 : Wc.cell? ⟨w4.heap.size, 4, none⟩ = some (.int .i64 0) := cell_of hv 4 rfl
  have e5 : Wc.cell? ⟨w4.heap.size, 5, none⟩ = some (.string ⟨#[]⟩) := cell_of hv 5 rfl
  have e6 : Wc.cell? ⟨w4.heap.size, 6, none⟩ = some (.slice none 0 0) := cell_of hv 6 rfl
  have e7 : Wc.cell? ⟨w4.heap.size, 7, none⟩ = some (.slice none 0 0) := cell_of hv 7 rfl
  have e8 : Wc.cell? ⟨w4.heap.size, 8, none⟩ = some (.int .i64 0) := cell_of hv 8 rfl
  have e9 : Wc.cell? ⟨w4.heap.size, 9, none⟩ = some (.int .i64 0) := cell_of hv 9 rfl
  have e10 : Wc.cell? ⟨w4.heap.size, 10, none⟩ = some (.string ⟨#[]⟩) := cell_of hv 10 rfl
  have e11 : Wc.cell? ⟨w4.heap.size, 11, none⟩ = some (.slice none 0 0) := cell_of hv 11 rfl
  have e12 : Wc.cell? ⟨w4.heap.size, 12, none⟩ = some (.slice none 0 0) := cell_of hv 12 rfl
  have e13 : Wc.cell? ⟨w4.heap.size, 13, none⟩ = some (.int .i64 (0 : Nat)) := cell_of hv 13 rfl
  have e14 : Wc.cell? ⟨w4.heap.size, 14, none⟩ = some (.slice none 0 0) := cell_of hv 14 rfl
  have ef : ∀ i, Wc.frozen? ⟨w4.heap.size, i, none⟩ = false := fun i => frozen_of hv i
  have el : w4.heap.size < Wc.heap.size := (Array.getElem?_eq_some_iff.1 hv).1
  clear hv hWc
  go_upto_if 16 with fail
  go_cut [3] (fun v wx => ∃ ar p5 : Nat, v = .pointer (some ⟨w4.heap.size, 0, none⟩) ∧ Hid ((kd = 3 ∧ NumAt s ar p4 p5) ∨ (kd ≠ 3 ∧ ar = 0 ∧ p5 = p4)) ∧ Hid (DSt w sc s w4.heap.size #[.int .i64 (kd : Nat), .string nm, .slice Ap ps.length cp, .int .i64 0, .int .i64 0, .string ⟨#[]⟩, .slice none 0 0, .slice none 0 0, .int .i64 0, .int .i64 0, .string ⟨#[]⟩, .slice none 0 0, .slice none 0 0, .int .i64 (ar : Nat), .slice none 0 0] p5 wx) ∧ Hid (NmsIn wx (fun b => w.heap.size < b ∧ b < w4.heap.size) Ap ps))
  case first =>
    as_aux_lemma =>
    by_cases hk3 : kd = 3
    · have q3 : ((kd : Int) == 3) = true := by simp [hk3]
      have KN := hide (num_total sc s p4 Wc hs HD4.out.le HD4.out.scan (HTb.out.touched HD4.out.old hsc) hsc)
      have HK3 := hide hk3
      clear hk3
      go_wp2_with (go_at_call 51; refine KN.out.mono ?_)
      intro e w5 h9
      rcases h9 with ⟨v5, p5, ⟨ar, rfl, hs5⟩, rfl, hS5, hT5⟩ | ⟨hno, hth⟩
      rotate_left
      · have HF : Hid (DeclEnd w sc s D p e w5) := .inr ⟨_, HBg.out.bad (.inl ⟨HK3.out, hno, rfl⟩), hth.from (HD4.out.old)⟩
        obtain ⟨fb, rfl, -⟩ := hth
        go_wp2_with fail
        exact ⟨rfl, HF.out⟩
      have hle5 : p5 ≤ s.size := by rw [hs5.2.2.1]; exact digitEnd_le hs5.1
      have HD5 := hide (HD4.out.touched hT5 hS5 hle5)
      have HN5 : Hid (NmsIn w5 (fun b => w.heap.size < b ∧ b < w4.heap.size) Ap ps) := HN4.out.keep fun b hb hS => ⟨hS, hT5.at hb (by omega)⟩
      have HS5 := hide hs5
      have hv := HD5.out.var
      have f13 : w5.cell? ⟨w4.heap.size, 13, none⟩ = some (.int .i64 (0 : Nat)) := by simp [World.cell?, hv]
      have ff : ∀ i, w5.frozen? ⟨w4.heap.size, i, none⟩ = false := fun i => by simp [World.frozen?, hv]
      have fl : w4.heap.size < w5.heap.size := (Array.getElem?_eq_some_iff.1 hv).1
      clear hv hs5 hS5 hT5 KN hle5 e0 e1 e2 e3 e4 e5 e6 e7 e8 e9 e10 e11 e12 e13 e14 ef el
      go_wp2_with fail
      go_meet
      case rel => exact ⟨ar, p5, rfl, .inl ⟨HK3.out, HS5.out⟩, HD5.out.set 13 (.int .i64 (ar : Nat)) _ rfl, HN5.out.keep fun b hb hS => ⟨hS, Below.heap_setCell _ _ _ _ (by show b ≠ w4.heap.size; omega)⟩⟩
    · have q3 : ((kd : Int) == 3) = false := by simp; omega
      have HK3 := hide hk3
      clear hk3
      go_wp2_with fail
      go_meet
      case rel => exact ⟨0, p4, rfl, .inr ⟨HK3.out, rfl, rfl⟩, HD4.out, HN4.out⟩
  case rest =>
  as_aux_lemma =>
  obtain ⟨ar, p5, rfl, HA5, HD5, HN5⟩ := hcut
  rename World => wA
  clear HD4 HN4 e0 e1 e2 e3 e4 e5 e6 e7 e8 e9 e10 e11 e12 e13 e14 ef el
  have KT := hide (term_got sc s p5 wA hs HD5.out.le HD5.out.scan (HTb.out.touched HD5.out.old hsc) hsc D hD)
  go_wp2_with (go_at_call 52; refine KT.out.mono ?_)
  intro e w5 h9
  rcases h9 with ⟨t, p6, hs6, kt, nt, nmt, At, lt, ct, At', lt', ct', rfl, hin6, hS6, hT6⟩ | ⟨aft, hft, hth⟩
  rotate_left
  · have HF : Hid (DeclEnd w sc s D p e w5) := .inr ⟨_, HBg.out.bad (.inr ⟨ar, p5, HA5.out, .inl hft⟩), hth.from (HD5.out.old)⟩
    obtain ⟨fb, rfl, -⟩ := hth
    go_wp2_with fail
    exact ⟨rfl, HF.out⟩
  have hcl : w4.heap.size < wA.heap.size := (Array.getElem?_eq_some_iff.1 HD5.out.var).1
  have hcw := HD5.out.hc
  have HD6 := hide (HD5.out.touched hT6 hS6 hs6.le)
  have HN6 : Hid (NmsIn w5 (fun b => w.heap.size < b ∧ b < w4.heap.size) Ap ps) := HN5.out.keep fun b hb hS => ⟨hS, hT6.at hb (by omega)⟩
  have HI6 : Hid (InTm w5 (fun b => w.heap.size < b ∧ b ≠ w4.heap.size) D t (.agg #[.int .i64 kt, .int .i64 nt, .string nmt, .slice At lt ct, .slice At' lt' ct'])) := hin6.keep fun b hb hS => ⟨by omega, rfl⟩
  have HG6 := hide hs6
  have hv := HD6.out.var
  have e0 : w5.cell? ⟨w4.heap.size, 0, none⟩ = some (.int .i64 (kd : Nat)) := cell_of hv 0 rfl
  have e1 : w5.cell? ⟨w4.heap.size, 1, none⟩ = some (.string nm) := cell_of hv 1 rfl
  have e2 : w5.cell? ⟨w4.heap.size, 2, none⟩ = some (.slice Ap ps.length cp) := cell_of hv 2 rfl
  have e3 : w5.cell? ⟨w4.heap.size, 3, none⟩ = some (.int .i64 0) := cell_of hv 3 rfl
  have e4 : w5.cell? ⟨w4.heap.size, 4, none⟩ = some (.int .i64 0) := cell_of hv 4 rfl
  have e5 : w5.cell? ⟨w4.heap.size, 5, none⟩ = some (.string ⟨#[]⟩) := cell_of hv 5 rfl
  have e6 : w5.cell? ⟨w4.heap.size, 6, none⟩ = some (.slice none 0 0) := cell_of hv 6 rfl
  have e7 : w5.cell? ⟨w4.heap.size, 7, none⟩ = some (.slice none 0 0) := cell_of hv 7 rfl
  have e8 : w5.cell? ⟨w4.heap.size, 8, none⟩ = some (.int .i64 0) := cell_of hv 8 rfl
  have e9 : w5.cell? ⟨w4.heap.size, 9, none⟩ = some (.int .i64 0) := cell_of hv 9 rfl
  have e10 : w5.cell? ⟨w4.heap.size, 10, none⟩ = some (.string ⟨#[]⟩) := cell_of hv 10 rfl
  have e11 : w5.cell? ⟨w4.heap.size, 11, none⟩ = some (.slice none 0 0) := cell_of hv 11 rfl
  have e12 : w5.cell? ⟨w4.heap.size, 12, none⟩ = some (.slice none 0 0) := cell_of hv 12 rfl
  have e13 : w5.cell? ⟨w4.heap.size, 13, none⟩ = some (.int .i64 (ar : Nat)) := cell_of hv 13 rfl
  have e14 : w5.cell? ⟨w4.heap.size, 14, none⟩ = some (.slice none 0 0) := cell_of hv 14 rfl
  have ef : ∀ i, w5.frozen? ⟨w4.heap.size, i, none⟩ = false := fun i => frozen_of hv i
  have el : w4.heap.size < w5.heap.size := (Array.getElem?_eq_some_iff.1 hv).1
  clear hv hs6 hin6 hS6 hT6 KT HD5 HN5 hcl hcw
  go_upto_region 6 with fail
  have HD7 : Hid (DSt w sc s w4.heap.size #[.int .i64 (kd : Nat), .string nm, .slice Ap ps.length cp, .int .i64 kt, .int .i64 nt, .string nmt, .slice At lt ct, .slice At' lt' ct', .int .i64 0, .int .i64 0, .string ⟨#[]⟩, .slice none 0 0, .slice none 0 0, .int .i64 (ar : Nat), .slice none 0 0] p6 (((((w5.setCell ⟨w4.heap.size, 3, none⟩ (.int .i64 kt)).setCell ⟨w4.heap.size, 4, none⟩ (.int .i64 nt)).setCell ⟨w4.heap.size, 5, none⟩ (.string nmt)).setCell ⟨w4.heap.size, 6, none⟩ (.slice At lt ct)).setCell ⟨w4.heap.size, 7, none⟩ (.slice At' lt' ct'))) := ((((HD6.out.set 3 _ _ rfl).set 4 _ _ rfl).set 5 _ _ rfl).set 6 _ _ rfl).set 7 _ _ rfl
  have HN7 : Hid (NmsIn (((((w5.setCell ⟨w4.heap.size, 3, none⟩ (.int .i64 kt)).setCell ⟨w4.heap.size, 4, none⟩ (.int .i64 nt)).setCell ⟨w4.heap.size, 5, none⟩ (.string nmt)).setCell ⟨w4.heap.size, 6, none⟩ (.slice At lt ct)).setCell ⟨w4.heap.size, 7, none⟩ (.slice At' lt' ct')) (fun b => w.heap.size < b ∧ b < w4.heap.size) Ap ps) := HN6.out.keep fun b hb hS => ⟨hS, five_at _ _ _ _ _ (by omega)⟩
  have HI7 : Hid (InTm (((((w5.setCell ⟨w4.heap.size, 3, none⟩ (.int .i64 kt)).setCell ⟨w4.heap.size, 4, none⟩ (.int .i64 nt)).setCell ⟨w4.heap.size, 5, none⟩ (.string nmt)).setCell ⟨w4.heap.size, 6, none⟩ (.slice At lt ct)).setCell ⟨w4.heap.size, 7, none⟩ (.slice At' lt' ct')) (fun b => w.heap.size < b ∧ b ≠ w4.heap.size) D t (.agg #[.int .i64 kt, .int .i64 nt, .string nmt, .slice At lt ct, .slice At' lt' ct'])) := HI6.out.keep fun b hb hS => ⟨hS, five_at _ _ _ _ _ hS.2⟩
  clear HD6 HN6 HI6 e0 e1 e2 e3 e4 e5 e6 e7 e8 e9 e10 e11 e12 e13 e14 ef el
  generalize (((((w5.setCell ⟨w4.heap.size, 3, none⟩ (.int .i64 kt)).setCell ⟨w4.heap.size, 4, none⟩ (.int .i64 nt)).setCell ⟨w4.heap.size, 5, none⟩ (.string nmt)).setCell ⟨w4.heap.size, 6, none⟩ (.slice At lt ct)).setCell ⟨w4.heap.size, 7, none⟩ (.slice At' lt' ct')) = wB at *
  have hv := HD7.out.var
  have e0 : wB.cell? ⟨w4.heap.size, 0, none⟩ = some (.int .i64 (kd : Nat)) := cell_of hv 0 rfl
  have e1 : wB.cell? ⟨w4.heap.size, 1, none⟩ = some (.string nm) := cell_of hv 1 rfl
  have e2 : wB.cell? ⟨w4.heap.size, 2, none⟩ = some (.slice Ap ps.length cp) := cell_of hv 2 rfl
  have e3 : wB.cell? ⟨w4.heap.size, 3, none⟩ = some (.int .i64 kt) := cell_of hv 3 rfl
  have e4 : wB.cell? ⟨w4.heap.size, 4, none⟩ = some (.int .i64 nt) := cell_of hv 4 rfl
  have e5 : wB.cell? ⟨w4.heap.size, 5, none⟩ = some (.string nmt) := cell_of hv 5 rfl
  have e6 : wB.cell? ⟨w4.heap.size, 6, none⟩ = some (.slice At lt ct) := cell_of hv 6 rfl
  have e7 : wB.cell? ⟨w4.heap.size, 7, none⟩ = some (.slice At' lt' ct') := cell_of hv 7 rfl
  have e8 : wB.cell? ⟨w4.heap.size, 8, none⟩ = some (.int .i64 0) := cell_of hv 8 rfl
  have e9 : wB.cell? ⟨w4.heap.size, 9, none⟩ = some (.int .i64 0) := cell_of hv 9 rfl
  have e10 : wB.cell? ⟨w4.heap.size, 10, none⟩ = some (.string ⟨#[]⟩) := cell_of hv 10 rfl
  have e11 : wB.cell? ⟨w4.heap.size, 11, none⟩ = some (.slice none 0 0) := cell_of hv 11 rfl
  have e12 : wB.cell? ⟨w4.heap.size, 12, none⟩ = some (.slice none 0 0) := cell_of hv 12 rfl
  have e13 : wB.cell? ⟨w4.heap.size, 13, none⟩ = some (.int .i64 (ar : Nat)) := cell_of hv 13 rfl
  have e14 : wB.cell? ⟨w4.heap.size, 14, none⟩ = some (.slice none 0 0) := cell_of hv 14 rfl
  have ef : ∀ i, wB.frozen? ⟨w4.heap.size, i, none⟩ = false := fun i => frozen_of hv i
  have el : w4.heap.size < wB.heap.size := (Array.getElem?_eq_some_iff.1 hv).1
  clear hv
  go_upto_block 0 with fail
  go_cut [3] (fun v wx => ∃ (vl : Tm) (cs : List (ByteArray × Tm)) (p7 p8 : Nat) (kv nv : Int) (nmv : ByteArray) (Av : Option Addr) (lv cv : Nat) (Av' : Option Addr) (lv' cv' : Nat) (Ac : Option Addr) (cc : Nat), v = .pointer (some ⟨w4.heap.size, 0, none⟩) ∧ Hid ((kd = 2 ∧ RT s D vl p6 p7) ∨ (kd ≠ 2 ∧ vl = zeroT ∧ p7 = p6)) ∧ Hid ((kd = 3 ∧ CtorsAt s D cs p7 p8 ∧ ∃ q, SignAt s 41 p8 q) ∨ (kd ≠ 3 ∧ cs = [] ∧ p8 = p7)) ∧ Hid (DSt w sc s w4.heap.size #[.int .i64 (kd : Nat), .string nm, .slice Ap ps.length cp, .int .i64 kt, .int .i64 nt, .string nmt, .slice At lt ct, .slice At' lt' ct', .int .i64 kv, .int .i64 nv, .string nmv, .slice Av lv cv, .slice Av' lv' cv', .int .i64 (ar : Nat), .slice Ac cs.length cc] p8 wx) ∧ Hid (NmsIn wx (fun b => w.heap.size < b ∧ b ≠ w4.heap.size) Ap ps ∧ InTm wx (fun b => w.heap.size < b ∧ b ≠ w4.heap.size) D t (.agg #[.int .i64 kt, .int .i64 nt, .string nmt, .slice At lt ct, .slice At' lt' ct']) ∧ InTm wx (fun b => w.heap.size < b ∧ b ≠ w4.heap.size) D vl (.agg #[.int .i64 kv, .int .i64 nv, .string nmv, .slice Av lv cv, .slice Av' lv' cv']) ∧ CtsIn wx (fun b => w.heap.size < b ∧ b ≠ w4.heap.size) D Ac cs))
  case first =>
    as_aux_lemma =>
    by_cases k2 : kd = 2
    · have q2 : ((kd : Int) == 2) = true := by simp [k2]
      have q3 : ((kd : Int) == 3) = false := by simp [k2]
      have KT := hide (term_got sc s p6 wB hs HD7.out.le HD7.out.scan (HTb.out.touched HD7.out.old hsc) hsc D hD)
      have HK := hide k2
      clear k2
      go_wp2_with (go_at_call 52; refine KT.out.mono ?_)
      intro e w6 h9
      rcases h9 with ⟨vl, p7, hs7, kv, nv, nmv, Av, lv, cv, Av', lv', cv', rfl, hin7, hS7, hT7⟩ | ⟨aft, hft, hth⟩
      rotate_left
      · have HF : Hid (DeclEnd w sc s D p e w6) := .inr ⟨_, HBg.out.bad (.inr ⟨ar, p5, HA5.out, .inr ⟨t, p6, HG6.out, .inl ⟨HK.out, hft⟩⟩⟩), hth.from (HD7.out.old)⟩
        obtain ⟨fb, rfl, -⟩ := hth
        go_wp2_with fail
        exact ⟨rfl, HF.out⟩
      have hcl : w4.heap.size < wB.heap.size := el
      have hsw := HD7.out.hs
      have HD8 := hide (HD7.out.touched hT7 hS7 hs7.le)
      have HN8 : Hid (NmsIn w6 (fun b => w.heap.size < b ∧ b < w4.heap.size) Ap ps) := HN7.out.keep fun b hb hS => ⟨hS, hT7.at hb (by omega)⟩
      have HI8 : Hid (InTm w6 (fun b => w.heap.size < b ∧ b ≠ w4.heap.size) D t (.agg #[.int .i64 kt, .int .i64 nt, .string nmt, .slice At lt ct, .slice At' lt' ct'])) := HI7.out.keep fun b hb hS => ⟨hS, hT7.at hb (by omega)⟩
      have HJ8 : Hid (InTm w6 (fun b => w.heap.size < b ∧ b ≠ w4.heap.size) D vl (.agg #[.int .i64 kv, .int .i64 nv, .string nmv, .slice Av lv cv, .slice Av' lv' cv'])) := hin7.keep fun b hb hS => ⟨by have := HD7.out.hc; omega, rfl⟩
      have HG7 := hide hs7
      have hv := HD8.out.var
      clear e0 e1 e2 e3 e4 e5 e6 e7 e8 e9 e10 e11 e12 e13 e14 ef el hs7 hin7 hS7 hT7 KT
      have e0 : w6.cell? ⟨w4.heap.size, 0, none⟩ = some (.int .i64 (kd : Nat)) := cell_of hv 0 rfl
      have e1 : w6.cell? ⟨w4.heap.size, 1, none⟩ = some (.string nm) := cell_of hv 1 rfl
      have e2 : w6.cell? ⟨w4.heap.size, 2, none⟩ = some (.slice Ap ps.length cp) := cell_of hv 2 rfl
      have e3 : w6.cell? ⟨w4.heap.size, 3, none⟩ = some (.int .i64 kt) := cell_of hv 3 rfl
      have e4 : w6.cell? ⟨w4.heap.size, 4, none⟩ = some (.int .i64 nt) := cell_of hv 4 rfl
      have e5 : w6.cell? ⟨w4.heap.size, 5, none⟩ = some (.string nmt) := cell_of hv 5 rfl
      have e6 : w6.cell? ⟨w4.heap.size, 6, none⟩ = some (.slice At lt ct) := cell_of hv 6 rfl
      have e7 : w6.cell? ⟨w4.heap.size, 7, none⟩ = some (.slice At' lt' ct') := cell_of hv 7 rfl
      have e8 : w6.cell? ⟨w4.heap.size, 8, none⟩ = some (.int .i64 0) := cell_of hv 8 rfl
      have e9 : w6.cell? ⟨w4.heap.size, 9, none⟩ = some (.int .i64 0) := cell_of hv 9 rfl
      have e10 : w6.cell? ⟨w4.heap.size, 10, none⟩ = some (.string ⟨#[]⟩) := cell_of hv 10 rfl
      have e11 : w6.cell? ⟨w4.heap.size, 11, none⟩ = some (.slice none 0 0) := cell_of hv 11 rfl
      have e12 : w6.cell? ⟨w4.heap.size, 12, none⟩ = some (.slice none 0 0) := cell_of hv 12 rfl
      have e13 : w6.cell? ⟨w4.heap.size, 13, none⟩ = some (.int .i64 (ar : Nat)) := cell_of hv 13 rfl
      have e14 : w6.cell? ⟨w4.heap.size, 14, none⟩ = some (.slice none 0 0) := cell_of hv 14 rfl
      have ef : ∀ i, w6.frozen? ⟨w4.heap.size, i, none⟩ = false := fun i => frozen_of hv i
      have el : w4.heap.size < w6.heap.size := (Array.getElem?_eq_some_iff.1 hv).1
      clear hv
      go_wp2_with fail
      go_meet
      case rel => exact ⟨vl, [], p7, p7, kv, nv, nmv, Av, lv, cv, Av', lv', cv', none, 0, rfl, .inl ⟨HK.out, HG7.out⟩, .inr ⟨by rw [HK.out]; decide, rfl, rfl⟩, ((((HD8.out.set 8 _ _ rfl).set 9 _ _ rfl).set 10 _ _ rfl).set 11 _ _ rfl).set 12 _ _ rfl, HN8.out.keep fun b hb hS => ⟨⟨hS.1, by omega⟩, five_at _ _ _ _ _ (by omega)⟩, HI8.out.keep fun b hb hS => ⟨hS, five_at _ _ _ _ _ hS.2⟩, HJ8.out.keep fun b hb hS => ⟨hS, five_at _ _ _ _ _ hS.2⟩, fun i hi => absurd hi (by simp)⟩
    · have q2 : ((kd : Int) == 2) = false := by simp; omega
      have HK2 := hide k2
      by_cases k3 : kd = 3
      · have q3 : ((kd : Int) == 3) = true := by simp [k3]
        have KT := hide (ctors_total sc s p6 D wB hs HD7.out.le HD7.out.scan (HTb.out.touched HD7.out.old hsc) hsc hD)
        have HK := hide k3
        clear k2 k3
        go_wp2_with (go_at_call 53; refine KT.out.mono ?_)
        intro e w6 h9
        rcases h9 with ⟨cs, p8, Ac, cc, xs, hs8, htk, hle8, hfew8, rfl, hrow8, hS8, hT8⟩ | ⟨aft, hft, hth⟩
        rotate_left
        · have HF : Hid (DeclEnd w sc s D p e w6) := .inr ⟨_, HBg.out.bad (.inr ⟨ar, p5, HA5.out, .inr ⟨t, p6, HG6.out, .inr ⟨zeroT, p6, .inr ⟨HK2.out, rfl, rfl⟩, .inl ⟨HK.out, hft⟩⟩⟩⟩), hth.from (HD7.out.old)⟩
          obtain ⟨fb, rfl, -⟩ := hth
          go_wp2_with fail
          exact ⟨rfl, HF.out⟩
        have hcl : w4.heap.size < wB.heap.size := el
        have hsw := HD7.out.hs
        have HD8 := hide (HD7.out.touched hT8 hS8 hle8)
        have HN8 : Hid (NmsIn w6 (fun b => w.heap.size < b ∧ b < w4.heap.size) Ap ps) := HN7.out.keep fun b hb hS => ⟨hS, hT8.at hb (by omega)⟩
        have HI8 : Hid (InTm w6 (fun b => w.heap.size < b ∧ b ≠ w4.heap.size) D t (.agg #[.int .i64 kt, .int .i64 nt, .string nmt, .slice At lt ct, .slice At' lt' ct'])) := HI7.out.keep fun b hb hS => ⟨hS, hT8.at hb (by omega)⟩
        have HJ8 : Hid (CtsIn w6 (fun b => w.heap.size < b ∧ b ≠ w4.heap.size) D Ac cs) := (CtsIn.of_row hrow8).keep fun b hb hS => ⟨by have := HD7.out.hc; omega, rfl⟩
        have HG8 := hide hs8
        have HTk : Hid (∃ q, SignAt s 41 p8 q) := ⟨_, tok_shut hle8 htk⟩
        have hv := HD8.out.var
        clear e0 e1 e2 e3 e4 e5 e6 e7 e8 e9 e10 e11 e12 e13 e14 ef el hs8 htk hfew8 hrow8 hS8 hT8 KT
        have e0 : w6.cell? ⟨w4.heap.size, 0, none⟩ = some (.int .i64 (kd : Nat)) := cell_of hv 0 rfl
        have e1 : w6.cell? ⟨w4.heap.size, 1, none⟩ = some (.string nm) := cell_of hv 1 rfl
        have e2 : w6.cell? ⟨w4.heap.size, 2, none⟩ = some (.slice Ap ps.length cp) := cell_of hv 2 rfl
        have e3 : w6.cell? ⟨w4.heap.size, 3, none⟩ = some (.int .i64 kt) := cell_of hv 3 rfl
        have e4 : w6.cell? ⟨w4.heap.size, 4, none⟩ = some (.int .i64 nt) := cell_of hv 4 rfl
        have e5 : w6.cell? ⟨w4.heap.size, 5, none⟩ = some (.string nmt) := cell_of hv 5 rfl
        have e6 : w6.cell? ⟨w4.heap.size, 6, none⟩ = some (.slice At lt ct) := cell_of hv 6 rfl
        have e7 : w6.cell? ⟨w4.heap.size, 7, none⟩ = some (.slice At' lt' ct') := cell_of hv 7 rfl
        have e8 : w6.cell? ⟨w4.heap.size, 8, none⟩ = some (.int .i64 0) := cell_of hv 8 rfl
        have e9 : w6.cell? ⟨w4.heap.size, 9, none⟩ = some (.int .i64 0) := cell_of hv 9 rfl
        have e10 : w6.cell? ⟨w4.heap.size, 10, none⟩ = some (.string ⟨#[]⟩) := cell_of hv 10 rfl
        have e11 : w6.cell? ⟨w4.heap.size, 11, none⟩ = some (.slice none 0 0) := cell_of hv 11 rfl
        have e12 : w6.cell? ⟨w4.heap.size, 12, none⟩ = some (.slice none 0 0) := cell_of hv 12 rfl
        have e13 : w6.cell? ⟨w4.heap.size, 13, none⟩ = some (.int .i64 (ar : Nat)) := cell_of hv 13 rfl
        have e14 : w6.cell? ⟨w4.heap.size, 14, none⟩ = some (.slice none 0 0) := cell_of hv 14 rfl
        have ef : ∀ i, w6.frozen? ⟨w4.heap.size, i, none⟩ = false := fun i => frozen_of hv i
        have el : w4.heap.size < w6.heap.size := (Array.getElem?_eq_some_iff.1 hv).1
        clear hv
        go_wp2_with fail
        go_meet
        case rel => exact ⟨zeroT, cs, p6, p8, 0, 0, ⟨#[]⟩, none, 0, 0, none, 0, 0, Ac, cc, rfl, .inr ⟨HK2.out, rfl, rfl⟩, .inl ⟨HK.out, HG8.out, HTk.out⟩, HD8.out.set 14 _ _ rfl, HN8.out.keep fun b hb hS => ⟨⟨hS.1, by omega⟩, Below.heap_setCell _ _ _ _ (by show b ≠ w4.heap.size; omega)⟩, HI8.out.keep fun b hb hS => ⟨hS, Below.heap_setCell _ _ _ _ (by show b ≠ w4.heap.size; exact hS.2)⟩, zero_in _ _ _ (by omega), HJ8.out.keep fun b hb hS => ⟨hS, Below.heap_setCell _ _ _ _ (by show b ≠ w4.heap.size; exact hS.2)⟩⟩
      · have q3 : ((kd : Int) == 3) = false := by simp; omega
        have HK3 := hide k3
        clear k2 k3
        go_wp2_with fail
        go_meet
        case rel => exact ⟨zeroT, [], p6, p6, 0, 0, ⟨#[]⟩, none, 0, 0, none, 0, 0, none, 0, rfl, .inr ⟨HK2.out, rfl, rfl⟩, .inr ⟨HK3.out, rfl, rfl⟩, HD7.out, HN7.out.keep fun b hb hS => ⟨⟨hS.1, by omega⟩, rfl⟩, HI7.out, zero_in _ _ _ (by omega), fun i hi => absurd hi (by simp)⟩
  case rest =>
  as_aux_lemma =>
  obtain ⟨vl, cs, p7, p8, kv, nv, nmv, Av, lv, cv, Av', lv', cv', Ac, cc, rfl, HVl, HCs, HD9, HCt⟩ := hcut
  rename World => wC
  clear HD7 HN7 HI7 e0 e1 e2 e3 e4 e5 e6 e7 e8 e9 e10 e11 e12 e13 e14 ef el
  have K9 := hide (sign_total sc s p8 _ hs HD9.out.le (HD9.out.scan.alloc (.cells #[.int .i64 2] 71)) ((HTb.out.touched HD9.out.old hsc).alloc (.cells #[.int .i64 2] 71)) hsc 41 2 (.inr ⟨rfl, rfl⟩) (.slice (some ⟨wC.heap.size, 0, none⟩) 1 1) (kinds1 2) (fun b n cap e => by injection e with e; injection e with e; injection e with e; have := HD9.out.scan.lt; omega))
  go_wp2_with (go_at_call 30; refine K9.out.mono ?_)
  intro e w7 h9
  rcases h9 with ⟨v7, p', hs9, rfl, hS9, hT9⟩ | ⟨hno, hth⟩
  rotate_left
  · have HF : Hid (DeclEnd w sc s D p e w7) := .inr ⟨_, HBg.out.bad (.inr ⟨ar, p5, HA5.out, .inr ⟨t, p6, HG6.out, .inr ⟨vl, p7, HVl.out, .inr ⟨cs, p8, HCs.out, hno, rfl⟩⟩⟩⟩), hth.from (HD9.out.old.trans (Touched.alloc wC sc _))⟩
    obtain ⟨fb, rfl, -⟩ := hth
    go_wp2_with fail
    exact ⟨rfl, HF.out⟩
  have hTa : Touched wC sc w7 := (Touched.alloc wC sc _).trans hT9
  have hsw := HD9.out.hs
  have hcw := HD9.out.hc
  have HD10 := hide (HD9.out.touched hTa hS9 hs9.le)
  have HCu : Hid (NmsIn w7 (fun b => w.heap.size < b ∧ b ≠ w4.heap.size) Ap ps ∧ InTm w7 (fun b => w.heap.size < b ∧ b ≠ w4.heap.size) D t (.agg #[.int .i64 kt, .int .i64 nt, .string nmt, .slice At lt ct, .slice At' lt' ct']) ∧ InTm w7 (fun b => w.heap.size < b ∧ b ≠ w4.heap.size) D vl (.agg #[.int .i64 kv, .int .i64 nv, .string nmv, .slice Av lv cv, .slice Av' lv' cv']) ∧ CtsIn w7 (fun b => w.heap.size < b ∧ b ≠ w4.heap.size) D Ac cs) := ⟨HCt.out.1.keep fun b hb hS => ⟨hS, hTa.at hb (by omega)⟩, HCt.out.2.1.keep fun b hb hS => ⟨hS, hTa.at hb (by omega)⟩, HCt.out.2.2.1.keep fun b hb hS => ⟨hS, hTa.at hb (by omega)⟩, HCt.out.2.2.2.keep fun b hb hS => ⟨hS, hTa.at hb (by omega)⟩⟩
  have HAt : Hid (DeclAt s D ⟨kd, nm, ps, t, vl, ar, cs⟩ p p') := ⟨p1, p2, p3, p4, p5, p6, p7, p8, HBg.out.o, HBg.out.k, HBg.out.w, HBg.out.n, HBg.out.ps, HA5.out, HG6.out, HVl.out, HCs.out.imp (fun h => ⟨h.1, h.2.1⟩) id, hs9⟩
  obtain ⟨l, hl, hRg, hTh, hSz, hOne, hRs, hf1, hf2⟩ := whole15 (w := w) (sc := sc) (vs := #[.int .i64 (kd : Nat), .string nm, .slice Ap ps.length cp, .int .i64 kt, .int .i64 nt, .string nmt, .slice At lt ct, .slice At' lt' ct', .int .i64 kv, .int .i64 nv, .string nmv, .slice Av lv cv, .slice Av' lv' cv', .int .i64 (ar : Nat), .slice Ac cs.length cc]) rfl rfl (all_oneCell_toArray (by intro u hu; simp at hu; rcases hu with rfl | rfl | rfl | rfl | rfl | rfl | rfl | rfl | rfl | rfl | rfl | rfl | rfl | rfl | rfl <;> rfl)) HD10.out.var HD10.out.res
  have HL := hide hl
  have HRg := hide hRg
  have HTh := hide hTh
  have HSz := hide hSz
  have HOne := hide hOne
  have HRs := hide hRs
  have Hf1 := hide hf1
  have Hf2 := hide hf2
  clear hl hRg hTh hSz hOne hRs hf1 hf2 hTa hT9 hS9 hs9 K9 HD9 HCt
  go_wp2_with (first | (refine wpList_load_mid rfl 46 _ rfl w4.heap.size 0 rfl l _ HRg.out Tryz.underlying46 rfl HSz.out ?_) | (refine wpList_store_mid rfl 46 _ _ rfl w.heap.size 0 l.toArray rfl rfl HTh.out HSz.out HOne.out ?_))
  refine bodyPost_ret (v := .agg l.toArray) (by simp [results, Tryz.results32, asAddr, Act.put, HRs.out]) rfl ?_
  rw [HL.out]
  have hf := And.intro Hf1.out Hf2.out
  refine .inl ⟨⟨kd, nm, ps, t, vl, ar, cs⟩, p', _, HAt.out, rfl, ⟨Ap, cp, kt, nt, nmt, At, lt, ct, At', lt', ct', kv, nv, nmv, Av, lv, cv, Av', lv', cv', Ac, cc, rfl, ?_, ?_, ?_, ?_, HCp.out⟩, HD10.out.scan.of_block (hf.1 sc (by omega)), hf.2 HD10.out.old⟩
  · exact HCu.out.1.keep fun b hb hS => ⟨by omega, hf.1 b (by omega)⟩
  · exact HCu.out.2.1.keep fun b hb hS => ⟨by omega, hf.1 b (by omega)⟩
  · exact HCu.out.2.2.1.keep fun b hb hS => ⟨by omega, hf.1 b (by omega)⟩
  · exact HCu.out.2.2.2.keep fun b hb hS => ⟨by omega, hf.1 b (by omega)⟩

end Go.Proofs.YtjlibnijecdgcaaGreatDoor
