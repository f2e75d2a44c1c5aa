/- The contract of the document's begins; its atoms, but for names and brackets. -/
import Derived.Test.YtekfledccpeblaaGreatDoorDy

namespace Go.Proofs.YtekfledccpeblaaGreatDoor
open Go.RowKit

/-- An expression was read: its value. -/
def DX (w : World) (x : Ex) (e : Ending) (w' : World) : Prop := ∃ xv : Array Value, e = .returned (.agg xv) ∧ InX w' (fun b => w.heap.size ≤ b) x xv
/-- No expression's cells. -/
abbrev zx : Array Value := xcs 0 0 ⟨#[]⟩ false false false false nilV nilV
/-- While an expression is read: the reader, the result's variable. -/
structure ASt (w : World) (fb : Nat) (s : ByteArray) (st : FS) (W : World) : Prop where
  rd : DR W fb s st
  old : Touched w fb W
  res : W.heap[w.heap.size]? = some (.cells zx 43 (0, 0))
section
variable {fb : Nat} {s : ByteArray} {w W W' : World} {st st' : FS}
theorem ASt.lt (h : ASt w fb s st W) : w.heap.size < W.heap.size := (Array.getElem?_eq_some_iff.1 h.res).1
theorem ASt.touched (h : ASt w fb s st W) (hf : fb < w.heap.size) (hR : DR W' fb s st') (hT : Touched W fb W') : ASt w fb s st' W' := ⟨hR, h.old.trans hT, (hT.at h.lt (by omega)).trans h.res⟩
theorem ASt.alloc (h : ASt w fb s st W) (hf : fb < w.heap.size) (o : Obj) : ASt w fb s st (W.alloc o) := h.touched hf (h.rd.alloc o) (Touched.alloc _ _ _)
theorem ASt.start (h : DR w fb s st) : ASt w fb s st (w.alloc (.cells zx 43)) := ⟨h.alloc _, Touched.alloc _ _ _, heap_alloc_new _ _⟩
theorem ASt.accept (h : ASt w fb s st W) (hf : fb < w.heap.size) (q : ByteArray) : Calls Tryz.prog 28 #[.pointer (some ⟨fb, 0, none⟩), .string q] W fun e w' => e = .returned (.bool (st.is q)) ∧ ASt w fb s (if st.is q = true then st.step s else st) w' :=
  (daccept_calls h.rd q).mono fun _ _ ⟨he, hd, hT⟩ => ⟨he, h.touched hf hd hT⟩
theorem ASt.must (h : ASt w fb s st W) (hf : fb < w.heap.size) (q : ByteArray) : Calls Tryz.prog 29 #[.pointer (some ⟨fb, 0, none⟩), .string q] W fun e w' => e = .returned (.tuple #[]) ∧ ASt w fb s (st.must s q) w' :=
  (dmust_calls h.rd q).mono fun _ _ ⟨he, hd, hT⟩ => ⟨he, h.touched hf hd hT⟩
theorem ASt.fail (h : ASt w fb s st W) (hf : fb < w.heap.size) : Calls Tryz.prog 26 #[.pointer (some ⟨fb, 0, none⟩)] W fun e w' => e = .returned (.tuple #[]) ∧ ASt w fb s st.fail w' :=
  (dfail_calls h.rd).mono fun _ _ ⟨he, hd, hT⟩ => ⟨he, h.touched hf hd hT⟩
theorem ASt.not (h : ASt w fb s st W) (hf : fb < w.heap.size) {q : ByteArray} (hq : st.is q = false) : Calls Tryz.prog 28 #[.pointer (some ⟨fb, 0, none⟩), .string q] W fun e w' => e = .returned (.bool false) ∧ ASt w fb s st w' :=
  (h.accept hf q).mono fun _ _ ⟨he, hd⟩ => by rw [hq, if_neg (by simp)] at hd; rw [hq] at he; exact ⟨he, hd⟩
theorem ASt.yes (h : ASt w fb s st W) (hf : fb < w.heap.size) {q : ByteArray} (hq : st.is q = true) : Calls Tryz.prog 28 #[.pointer (some ⟨fb, 0, none⟩), .string q] W fun e w' => e = .returned (.bool true) ∧ ASt w fb s (st.step s) w' :=
  (h.accept hf q).mono fun _ _ ⟨he, hd⟩ => by rw [hq, if_pos rfl] at hd; rw [hq] at he; exact ⟨he, hd⟩
/-- The store into the result's variable. -/
theorem ASt.stor (h : ASt w fb s st W) {x : Ex} {xv : Array Value} {S : Nat → Prop} (hx : InX W S x xv) : (st43 (.pointer (some ⟨w.heap.size, 0, none⟩)) (.agg xv)).run Tryz.prog W = .ok () (W.setCells w.heap.size 0 xv.toList) :=
  st43_run (by rw [hx.size]; exact there_of h.res) hx.size hx.one
theorem zx_wrote {xv : Array Value} (h : xv.size = 9) : wrote zx 0 xv.toList = xv := by
  apply Array.ext'
  rw [wrote_toList xv.toList zx 0 [] zx.toList [] (by simp) rfl (by simp [h])]
  simp
theorem ASt.ret (h : ASt w fb s st W) (hf : fb < w.heap.size) {x : Ex} {xv : Array Value} (hx : InX W (fun b => w.heap.size < b) x xv) {tmps : Array Value} {F : Func} {p : Tmp} (hF : F.results = #[.cell p 43]) (hp : tmps.getD p undef = .pointer (some ⟨w.heap.size, 0, none⟩)) :
    bodyPost Tryz.prog F (fun e w' => DQ w fb s st (DX w x) e w') Exit.ret { tmps := tmps, defers := [] } (W.setCells w.heap.size 0 xv.toList) := by
  have hr := heap_setCells xv.toList 0 _ W h.res
  rw [zx_wrote hx.size] at hr
  refine bodyPost_ret (results_cell_row hF _ _ w.heap.size 43 _ (0, 0) _ hp hr Tryz.underlying43 rfl (by rw [Tryz.size43, hx.size])) rfl ?_
  exact ⟨⟨xv, rfl, hx.keep fun b _ hs => ⟨Nat.le_of_lt hs, heap_setCells_ne (by have : w.heap.size < b := hs; omega) _ _ _⟩⟩, h.rd.of_block (heap_setCells_ne (by omega) _ _ _), h.old.setsNew (Nat.le_refl _) _ _⟩
theorem flat_in (w : World) (S : Nat → Prop) (kd a : Nat) : InX w S (.node kd a ⟨#[]⟩ false false false false [] []) (xcs (kd : Nat) (a : Nat) ⟨#[]⟩ false false false false nilV nilV) := InX.of (LvsIn.nil _ _ _) (XsIn.nil _ _ _)
/-- No name comes, and no @. -/
theorem no_name (ho : st.Ok s) (h1 : st.kin 1 = false) : (((st.code : Int) == 0) = true ∧ ((st.t.kd : Int) == 1) = false) ∨ ((st.code : Int) == 0) = false := by
  unfold FS.kin at h1
  rcases code_cases ho with h | h
  · left
    simp [h] at h1
    exact ⟨by rw [h]; rfl, by simp; omega⟩
  · right; rw [h]; rfl
end
section
variable {fb : Nat} {s : ByteArray} {w : World} {st : FS}
set_option maxHeartbeats 1000000 in
theorem dbegins_calls (h : DR w fb s st) : Calls Tryz.prog 89 #[.pointer (some ⟨fb, 0, none⟩)] w fun e w' => DQ w fb s st (fun e _ => e = .returned (.bool (begins st))) e w' := by
  have hlt := h.lt
  obtain ⟨c0, c1, c2, c3, c4, c5, c6, cf⟩ := h.cells
  have HD := hide h
  have HA := hide (among_calls st.t.t [sAt, sHole, wProp, wType, wSort, sOpen] w.heap.size 6 _ (StrsAt.new w [sAt, sHole, wProp, wType, wSort, sOpen] 9) (by decide))
  have HB : Hid (begins st = (st.code == 0 && (st.t.kd == 1 || (st.t.kd == 3 && ([sAt, sHole, wProp, wType, wSort, sOpen].any fun q => decide (st.t.t = q)))))) := hide (by
    unfold begins FS.kin FS.is
    cases st.code == 0 <;> cases st.t.kd == 1 <;> cases st.t.kd == 3 <;> simp [Bool.or_assoc])
  rcases code_cases h.ok with hc | hc
  · have q1 : ((st.code : Int) != 0) = false := by rw [hc]; rfl
    have HT := hide (Touched.alloc w fb (.cells ([sAt, sHole, wProp, wType, wSort, sOpen].map Value.string).toArray 9))
    have HD2 := hide (h.alloc (.cells ([sAt, sHole, wProp, wType, wSort, sOpen].map Value.string).toArray 9))
    by_cases hk : st.t.kd = 1
    · have q2 : ((st.t.kd : Int) == 1) = true := by rw [hk]; rfl
      have HR : Hid (true = begins st) := hide (by rw [HB.out, hc, hk]; rfl)
      clear hc hk HB HA h
      go_enter Tryz.func89, Tryz.ntmps89
      go_wp2_with fail
      go_ret
      exact ⟨ret_bool HR.out, HD2.out, HT.out⟩
    · have q2 : ((st.t.kd : Int) == 1) = false := by simp; omega
      by_cases hk3 : st.t.kd = 3
      · have q3 : ((st.t.kd : Int) == 3) = true := by rw [hk3]; rfl
        have HR : Hid (([sAt, sHole, wProp, wType, wSort, sOpen].any fun q => decide (st.t.t = q)) = begins st) := hide (by rw [HB.out, hc, hk3]; rfl)
        rw [HR.out] at HA
        clear hc hk HB h hk3 HR
        generalize begins st = bb at *
        generalize st.t.t = tt at *
        go_enter Tryz.func89, Tryz.ntmps89
        go_wp2_with (go_at_call 69; refine HA.out.mono ?_; rintro e w' ⟨rfl, rfl⟩)
        go_ret
        exact ⟨rfl, HD2.out, HT.out⟩
      · have q3 : ((st.t.kd : Int) == 3) = false := by simp; omega
        have HR : Hid (false = begins st) := hide (by rw [HB.out, hc]; simp [hk, hk3])
        clear hc hk HB HA h hk3
        go_enter Tryz.func89, Tryz.ntmps89
        go_wp2_with fail
        go_ret
        exact ⟨ret_bool HR.out, HD2.out, HT.out⟩
  · have q1 : ((st.code : Int) != 0) = true := by rw [hc]; rfl
    have HR : Hid (false = begins st) := hide (by rw [HB.out, hc]; rfl)
    clear hc HB HA h
    go_enter Tryz.func89, Tryz.ntmps89
    go_wp2_with fail
    go_ret
    exact ⟨ret_bool HR.out, HD.out, Touched.refl _ _⟩
end
end Go.Proofs.YtekfledccpeblaaGreatDoor

/- The document's atoms: holes, sorts, brackets, none. -/
namespace Go.Proofs.YtekfledccpeblaaGreatDoor
open Go.RowKit

section
variable {fb : Nat} {s : ByteArray} {w : World} {st : FS}
/-- The contract of expr, with so much fuel. -/
def DExC (fb : Nat) (s : ByteArray) (n : Nat) : Prop := ∀ (st : FS) (w : World), DR w fb s st → st.left s < n → Calls Tryz.prog 31 #[.pointer (some ⟨fb, 0, none⟩)] w fun e w' => DQ w fb s (exprN s n st).2 (DX w (exprN s n st).1) e w'
/-- What the atom's first test finds where no name comes. -/
structure NoNm (fb : Nat) (s : ByteArray) (w : World) (st : FS) : Prop where
  lt : fb < w.heap.size
  k1 : st.kin 1 = false
  at_ : st.is sAt = false
attribute [local go_sem ↓] ld43_eq st43_eq
theorem atom_else {n : Nat} {E : FS → Ex × FS} (h1 : st.kin 1 = false) (h2 : st.is sAt = false) : atomF s n E st =
    (if st.is sHole = true then (holeX st.t.at_, st.step s)
    else if st.is wProp = true then (sortX st.t.at_ .zero, st.step s)
    else if st.is wType = true then
      (if (st.step s).kin 2 = true then (sortX st.t.at_ (raised s (.succ .zero) (st.step s)).1, (raised s (.succ .zero) (st.step s)).2) else (sortX st.t.at_ (.succ .zero), st.step s))
    else if st.is wSort = true then (sortX st.t.at_ (latomN s n (st.step s)).1, (latomN s n (st.step s)).2)
    else if st.is sOpen = true then bracketX s E st.t.at_ (st.step s)
    else (zeroX, st.fail)) := by
  unfold atomF
  rw [if_neg (by rw [h1]; simp), if_neg (by rw [h2]; simp)]
theorem hole_in (w : World) (S : Nat → Prop) (a : Nat) : InX w S (holeX a) (xcs 3 (a : Nat) ⟨#[]⟩ false false false false nilV nilV) := flat_in w S 3 a
theorem zero_in (w : World) (S : Nat → Prop) : InX w S zeroX zx := flat_in w S 0 0
theorem sort_in {w W : World} {S : Nat → Prop} {l : LvB} {k : Int} {nm : ByteArray} {A : Option Addr} {m c : Nat} (a : Nat) (hI : InP W S l (.agg #[.int .i64 k, .string nm, .slice A m c])) (hS : ∀ b, S b → w.heap.size < b) (hW : w.heap.size < W.heap.size) : InX (W.alloc (.cells #[.int .i64 k, .string nm, .slice A m c] 96)) (fun b => w.heap.size < b) (sortX a l) (xcs 2 (a : Nat) ⟨#[]⟩ false false false false (.slice (some ⟨W.heap.size, 0, none⟩) 1 1) nilV) := by
  refine InX.of (fun i hi => ?_) (XsIn.nil _ _ _)
  have hi0 : i = 0 := by simp at hi; omega
  subst hi0
  exact ⟨W.heap.size, _, rfl, hW, three_at (heap_alloc_new _ _), hI.keep fun b hb hs => ⟨hS b hs, Below.heap_alloc _ _ _ hb⟩⟩
set_option maxRecDepth 100000 in
set_option maxHeartbeats 4000000 in
theorem datom_hole (n : Nat) (h : DR w fb s st) (h1 : st.kin 1 = false) (h2 : st.is sAt = false) (ny : st.is sHole = true) :
    Calls Tryz.prog 88 #[.pointer (some ⟨fb, 0, none⟩)] w fun e w' => DQ w fb s (atomF s n (exprN s n) st).2 (DX w (atomF s n (exprN s n) st).1) e w' := by
  rw [atom_else h1 h2, if_pos ny]
  have hlt := h.lt
  have hA0 := ASt.start h
  obtain ⟨d0, d1, d2, d3, d4, d5, d6, df⟩ := hA0.rd.cells
  have HI := hide (dis_calls hA0.rd sAt)
  rw [h2] at HI
  have NY := hide (fun W (hW : ASt w fb s st W) => hW.yes hlt ny)
  have hq := no_name h.ok h1
  simp only
  generalize st.t.at_ = ta at *
  generalize st.step s = st1 at *
  clear h h1 h2 ny
  rcases hq with ⟨q1, q2⟩ | q1
  all_goals
    go_enter Tryz.func88, Tryz.ntmps88
    go_upto_region 13 with (go_at_call 25; refine HI.out.mono ?_; rintro e w' ⟨rfl, rfl⟩)
    clear HI
    generalize w.alloc (.cells zx 43) = W0 at *
    go_wp2_with (first | (go_at_call 28; refine (NY.out _ (by assumption)).mono ?_; rintro e W ⟨rfl, hA⟩; have ST := hA.stor (hole_in W (fun b => w.heap.size < b) ta)))
    exact hA.ret hlt (hole_in _ _ ta) rfl rfl
set_option maxRecDepth 100000 in
set_option maxHeartbeats 4000000 in
theorem datom_none (n : Nat) (h : DR w fb s st) (h1 : st.kin 1 = false) (h2 : st.is sAt = false) (n0 : st.is sHole = false) (n1 : st.is wProp = false) (n2 : st.is wType = false) (n3 : st.is wSort = false) (n4 : st.is sOpen = false) :
    Calls Tryz.prog 88 #[.pointer (some ⟨fb, 0, none⟩)] w fun e w' => DQ w fb s (atomF s n (exprN s n) st).2 (DX w (atomF s n (exprN s n) st).1) e w' := by
  rw [atom_else h1 h2, if_neg (by rw [n0]; simp), if_neg (by rw [n1]; simp), if_neg (by rw [n2]; simp), if_neg (by rw [n3]; simp), if_neg (by rw [n4]; simp)]
  have hlt := h.lt
  have hA0 := ASt.start h
  obtain ⟨d0, d1, d2, d3, d4, d5, d6, df⟩ := hA0.rd.cells
  have HI := hide (dis_calls hA0.rd sAt)
  rw [h2] at HI
  have N0 := hide (fun W (hW : ASt w fb s st W) => hW.not hlt n0)
  have N1 := hide (fun W (hW : ASt w fb s st W) => hW.not hlt n1)
  have N2 := hide (fun W (hW : ASt w fb s st W) => hW.not hlt n2)
  have N3 := hide (fun W (hW : ASt w fb s st W) => hW.not hlt n3)
  have N4 := hide (fun W (hW : ASt w fb s st W) => hW.not hlt n4)
  have hq := no_name h.ok h1
  simp only
  clear h h1 h2 n0 n1 n2 n3 n4
  rcases hq with ⟨q1, q2⟩ | q1
  all_goals
    go_enter Tryz.func88, Tryz.ntmps88
    go_upto_region 13 with (go_at_call 25; refine HI.out.mono ?_; rintro e w' ⟨rfl, rfl⟩)
    clear HI
    generalize w.alloc (.cells zx 43) = W0 at *
    go_upto_region 15 with (go_at_call 28; refine (N0.out _ (by assumption)).mono ?_; rintro e W ⟨rfl, hA⟩)
    go_upto_region 17 with (go_at_call 28; refine (N1.out _ (by assumption)).mono ?_; rintro e W ⟨rfl, hA⟩)
    go_upto_region 22 with (go_at_call 28; refine (N2.out _ (by assumption)).mono ?_; rintro e W ⟨rfl, hA⟩)
    go_upto_region 24 with (go_at_call 28; refine (N3.out _ (by assumption)).mono ?_; rintro e W ⟨rfl, hA⟩)
    go_upto_region 32 with (go_at_call 28; refine (N4.out _ (by assumption)).mono ?_; rintro e W ⟨rfl, hA⟩)
    go_wp2_with (first | (go_at_call 26; refine (hA.fail hlt).mono ?_; rintro e W ⟨rfl, hA⟩; have ST := hA.stor (zero_in W (fun b => w.heap.size < b))))
    exact hA.ret hlt (zero_in _ _) rfl rfl
set_option maxRecDepth 100000 in
set_option maxHeartbeats 4000000 in
theorem datom_prop (n : Nat) (h : DR w fb s st) (h1 : st.kin 1 = false) (h2 : st.is sAt = false) (n0 : st.is sHole = false) (ny : st.is wProp = true) :
    Calls Tryz.prog 88 #[.pointer (some ⟨fb, 0, none⟩)] w fun e w' => DQ w fb s (atomF s n (exprN s n) st).2 (DX w (atomF s n (exprN s n) st).1) e w' := by
  rw [atom_else h1 h2, if_neg (by rw [n0]; simp), if_pos ny]
  have hlt := h.lt
  have hA0 := ASt.start h
  obtain ⟨d0, d1, d2, d3, d4, d5, d6, df⟩ := hA0.rd.cells
  have HI := hide (dis_calls hA0.rd sAt)
  rw [h2] at HI
  have N0 := hide (fun W (hW : ASt w fb s st W) => hW.not hlt n0)
  have NY := hide (fun W (hW : ASt w fb s st W) => hW.yes hlt ny)
  have hq := no_name h.ok h1
  simp only
  generalize st.t.at_ = ta at *
  generalize st.step s = st1 at *
  clear h h1 h2 n0 ny
  rcases hq with ⟨q1, q2⟩ | q1
  all_goals
    go_enter Tryz.func88, Tryz.ntmps88
    go_upto_region 13 with (go_at_call 25; refine HI.out.mono ?_; rintro e w' ⟨rfl, rfl⟩)
    clear HI
    generalize w.alloc (.cells zx 43) = W0 at *
    go_upto_region 15 with (go_at_call 28; refine (N0.out _ (by assumption)).mono ?_; rintro e W ⟨rfl, hA⟩)
    go_wp2_with (first | (go_at_call 28; refine (NY.out _ (by assumption)).mono ?_; rintro e W ⟨rfl, hA⟩; have HX := hide (sort_in (w := w) (W := W) (S := fun _ => False) (l := .zero) (k := 0) (nm := ⟨#[]⟩) (A := none) (m := 0) (c := 0) ta rfl (fun b hb => hb.elim) hA.lt); have hA2 := hA.alloc hlt (.cells #[.int .i64 0, .string ⟨#[]⟩, .slice none 0 0] 96); have ST := hA2.stor HX.out))
    exact hA2.ret hlt HX.out rfl rfl
set_option maxRecDepth 100000 in
set_option maxHeartbeats 4000000 in
theorem datom_sort (n : Nat) (h : DR w fb s st) (h1 : st.kin 1 = false) (h2 : st.is sAt = false) (n0 : st.is sHole = false) (n1 : st.is wProp = false) (n2 : st.is wType = false) (ny : st.is wSort = true) (hl : st.left s ≤ n) (hn : n ≤ 900000) :
    Calls Tryz.prog 88 #[.pointer (some ⟨fb, 0, none⟩)] w fun e w' => DQ w fb s (atomF s n (exprN s n) st).2 (DX w (atomF s n (exprN s n) st).1) e w' := by
  rw [atom_else h1 h2, if_neg (by rw [n0]; simp), if_neg (by rw [n1]; simp), if_neg (by rw [n2]; simp), if_pos ny]
  have hlt := h.lt
  have hA0 := ASt.start h
  obtain ⟨d0, d1, d2, d3, d4, d5, d6, df⟩ := hA0.rd.cells
  have HI := hide (dis_calls hA0.rd sAt)
  rw [h2] at HI
  have N0 := hide (fun W (hW : ASt w fb s st W) => hW.not hlt n0)
  have N1 := hide (fun W (hW : ASt w fb s st W) => hW.not hlt n1)
  have N2 := hide (fun W (hW : ASt w fb s st W) => hW.not hlt n2)
  have NY := hide (fun W (hW : ASt w fb s st W) => hW.yes hlt ny)
  have hq := no_name h.ok h1
  have hkd := (FS.is_kd ny).2.1
  have hlef := FS.step_left h.ok (FS.is_kd ny).1 (by omega) (by omega)
  have HL := hide (fun W (hW : DR W fb s (st.step s)) => dlatom_calls (fb := fb) (s := s) n (dlevel_all n hn) (st.step s) W hW (by omega))
  simp only
  clear hkd hlef hl
  generalize st.t.at_ = ta at *
  generalize (latomN s n (st.step s)).1 = x at *
  generalize (latomN s n (st.step s)).2 = st2 at *
  generalize st.step s = st1 at *
  clear h h1 h2 n0 n1 n2 ny
  rcases hq with ⟨q1, q2⟩ | q1
  all_goals
    go_enter Tryz.func88, Tryz.ntmps88
    go_upto_region 13 with (go_at_call 25; refine HI.out.mono ?_; rintro e w' ⟨rfl, rfl⟩)
    clear HI
    generalize w.alloc (.cells zx 43) = W0 at *
    go_upto_region 15 with (go_at_call 28; refine (N0.out _ (by assumption)).mono ?_; rintro e W ⟨rfl, hA⟩)
    go_upto_region 17 with (go_at_call 28; refine (N1.out _ (by assumption)).mono ?_; rintro e W ⟨rfl, hA⟩)
    go_upto_region 22 with (go_at_call 28; refine (N2.out _ (by assumption)).mono ?_; rintro e W ⟨rfl, hA⟩)
    go_wp2_with (first | (go_at_call 28; refine (NY.out _ (by assumption)).mono ?_; rintro e W ⟨rfl, hA⟩; have KL := hide (HL.out W hA.rd)) | (go_at_call 100; refine KL.out.mono ?_; rintro e W5 ⟨⟨k, nm, A, m, c, rfl, hI⟩, hd, hT⟩; have hA5 := hA.touched hlt hd hT; have HX := hide (sort_in (w := w) (W := W5) ta hI (fun b hb => Nat.lt_of_lt_of_le hA.lt hb) hA5.lt); have hA2 := hA5.alloc hlt (.cells #[.int .i64 k, .string nm, .slice A m c] 96); have ST := hA2.stor HX.out; clear hI hd hT))
    exact hA2.ret hlt HX.out rfl rfl
end
end Go.Proofs.YtekfledccpeblaaGreatDoor
