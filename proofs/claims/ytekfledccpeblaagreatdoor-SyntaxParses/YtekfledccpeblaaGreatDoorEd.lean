/- The document's under: an expression under binders. -/
import Derived.Test.YtekfledccpeblaaGreatDoorEb
import Derived.Deep.RegionHeld3

namespace Go.Proofs.YtekfledccpeblaaGreatDoor
open Go.RowKit

/-- While binders are put around an expression: its box, the result's variable, the binders. -/
structure UdD (w : World) (n0 : Nat) (l : List Bd) (A : Option Addr) (x : Ex) (xv : Array Value) (W : World) : Prop where
  box : W.heap[w.heap.size]? = some (.cells xv 43 (0, 0))
  res : W.heap[w.heap.size + 1]? = some (.cells zx 43 (0, 0))
  inx : InX W (fun b => n0 ≤ b ∧ b ≠ w.heap.size ∧ b ≠ w.heap.size + 1) x xv
  bds : BdsIn W (fun b => n0 ≤ b ∧ b < w.heap.size) A l
  old : Below w.heap.size w W
  le : n0 ≤ w.heap.size
theorem wrote9 {xv zv : Array Value} (hx : xv.size = 9) (hz : zv.size = 9) : wrote xv 0 zv.toList = zv := by
  apply Array.ext'
  rw [wrote_toList zv.toList xv 0 [] xv.toList [] (by simp) rfl (by simp [hx, hz])]
  simp
theorem UdD.lt {w W : World} {n0 : Nat} {l : List Bd} {A : Option Addr} {x : Ex} {xv : Array Value} (h : UdD w n0 l A x xv W) : w.heap.size + 1 < W.heap.size := (Array.getElem?_eq_some_iff.1 h.res).1
theorem UdD.drew {w W : World} {n0 : Nat} {l : List Bd} {A : Option Addr} {x : Ex} {xv : Array Value} (h : UdD w n0 l A x xv W) : UdD w n0 l A x xv W.drew :=
  ⟨h.box, h.res, h.inx.later (Below.refl _ _).drew, h.bds.keep fun _ _ hs => ⟨hs, rfl⟩, h.old.drew, h.le⟩
theorem UdD.next {w W : World} {n0 : Nat} {l : List Bd} {A : Option Addr} {x y : Ex} {xv yv : Array Value} (h : UdD w n0 l A x xv W) (hy : InX W (fun b => n0 ≤ b ∧ b < w.heap.size) y yv) (kd a : Nat) (nm : ByteArray) (im : Bool) :
    (st43 (.pointer (some ⟨w.heap.size, 0, none⟩)) (.agg (xcs (kd : Nat) (a : Nat) nm false false false im nilV (.slice (some ⟨W.heap.size, 0, none⟩) 2 2)))).run Tryz.prog (W.alloc (.cells (yv ++ xv) 43)) = .ok () ((W.alloc (.cells (yv ++ xv) 43)).setCells w.heap.size 0 (xcs (kd : Nat) (a : Nat) nm false false false im nilV (.slice (some ⟨W.heap.size, 0, none⟩) 2 2)).toList) ∧
    UdD w n0 l A (.node kd a nm false false false im [] [y, x]) (xcs (kd : Nat) (a : Nat) nm false false false im nilV (.slice (some ⟨W.heap.size, 0, none⟩) 2 2)) ((W.alloc (.cells (yv ++ xv) 43)).setCells w.heap.size 0 (xcs (kd : Nat) (a : Nat) nm false false false im nilV (.slice (some ⟨W.heap.size, 0, none⟩) 2 2)).toList) := by
  have hl := h.lt
  have hle := h.le
  have h1 : (W.alloc (.cells (yv ++ xv) 43)).heap[w.heap.size]? = some (.cells xv 43 (0, 0)) := (Below.heap_alloc _ _ _ (by omega)).trans h.box
  have hX : InX (W.alloc (.cells (yv ++ xv) 43)) (fun b => n0 ≤ b ∧ b ≠ w.heap.size ∧ b ≠ w.heap.size + 1) (.node kd a nm false false false im [] [y, x]) (xcs (kd : Nat) (a : Nat) nm false false false im nilV (.slice (some ⟨W.heap.size, 0, none⟩) 2 2)) :=
    InX.of (LvsIn.nil _ _ _) (two_xs rfl (hy.mono fun b hb => ⟨hb.1, by omega, by omega⟩) h.inx ⟨by omega, by omega, by omega⟩)
  have hxs := h.inx.size
  generalize xcs (kd : Nat) (a : Nat) nm false false false im nilV (.slice (some ⟨W.heap.size, 0, none⟩) 2 2) = zv at *
  have hr := heap_setCells zv.toList 0 _ _ h1
  rw [wrote9 hxs hX.size] at hr
  refine ⟨st43_run (by rw [hX.size, ← hxs]; exact there_of h1) hX.size hX.one, ⟨hr, ?_, ?_, ?_, ?_, hle⟩⟩
  · exact (heap_setCells_ne (by omega) _ _ _).trans ((Below.heap_alloc _ _ _ hl).trans h.res)
  · exact hX.keep fun b _ hs => ⟨hs, heap_setCells_ne hs.2.1 _ _ _⟩
  · exact h.bds.keep fun b hb hs => ⟨hs, (heap_setCells_ne (by omega) _ _ _).trans (Below.heap_alloc _ _ _ hb)⟩
  · have hB : Below w.heap.size w (W.alloc (.cells (yv ++ xv) 43)) := h.old.alloc (by omega) _
    exact ⟨(Touched.setsNew (m := w.heap.size) (Nat.le_refl _) _ _ (Touched.of_below hB)).os, (Touched.setsNew (m := w.heap.size) (Nat.le_refl _) _ _ (Touched.of_below hB)).tape, (Touched.setsNew (m := w.heap.size) (Nat.le_refl _) _ _ (Touched.of_below hB)).output, (Touched.setsNew (m := w.heap.size) (Nat.le_refl _) _ _ (Touched.of_below hB)).size, fun k hk => (heap_setCells_ne (by omega) _ _ _).trans (hB.block k hk)⟩
/-- The load of the box, under a name of its own: the region's walk does not take it first. -/
def boxLoad : Op := Op.load 43 (.tmp 5)
theorem boxLoad_eq : boxLoad = Op.load 43 (.tmp 5) := rfl
/-- An expression in new blocks, and nothing else changed. -/
def UX (w : World) (n0 : Nat) (x : Ex) (e : Ending) (w' : World) : Prop := (∃ xv : Array Value, e = .returned (.agg xv) ∧ InX w' (fun b => n0 ≤ b) x xv) ∧ Below w.heap.size w w'
section
attribute [local go_sem ↓] ld43_eq st43_eq
attribute [local go_sem] boxLoad_eq
set_option maxRecDepth 100000 in
set_option maxHeartbeats 8000000 in
theorem dunder_calls (kd n0 : Nat) (l : List Bd) (hlen : l.length ≤ 900000 * 900001) (A : Option Addr) (c : Nat) (x : Ex) (xv : Array Value) (w : World) (hn0 : n0 ≤ w.heap.size) (hB : BdsIn w (fun b => n0 ≤ b) A l) (hx : InX w (fun b => n0 ≤ b) x xv) :
    Calls Tryz.prog 49 #[.int .i64 (kd : Nat), .slice A l.length c, .agg xv] w fun e w' => UX w n0 (underX kd l x) e w' := by
  have hb2 : Below w.heap.size w ((w.alloc (.cells xv 43)).alloc (.cells zx 43)) := ((Below.refl _ w).alloc (Nat.le_refl _) _).alloc (by simp) _
  have hsz : (w.alloc (.cells xv 43)).heap.size = w.heap.size + 1 := by simp
  have HS0 : Hid (UdD w n0 l A (underX kd (l.drop l.length) x) xv ((w.alloc (.cells xv 43)).alloc (.cells zx 43))) := by
    rw [List.drop_length]
    refine ⟨(Below.heap_alloc _ _ _ (by omega)).trans (heap_alloc_new _ _), heap_alloc2_new _ _ _, hx.keep fun b hb hs => ⟨⟨hs, by omega, by omega⟩, hb2.block b hb⟩, hB.keep fun b hb hs => ⟨⟨hs, hb⟩, hb2.block b hb⟩, hb2, hn0⟩
  have hxz := hx.size
  obtain ⟨len, hle⟩ : ∃ len, len = l.length := ⟨_, rfl⟩
  have HLn := hide hle
  rw [← hle] at hlen HS0
  rw [← hle]
  clear hle hb2 hsz hB
  obtain ⟨kd1, a1, nm1, ex1, gi1, inf1, im1, A1, m1, c1, A2, m2, c2, rfl⟩ := hx.cells
  clear hx
  go_enter Tryz.func49, Tryz.ntmps49
  go_wp2_with fail
  generalize (w.alloc (.cells _ 43)).alloc (.cells zx 43) = W1 at *
  obtain ⟨xv, hxv⟩ : ∃ xv, xv = xcs kd1 a1 nm1 ex1 gi1 inf1 im1 (.slice A1 m1 c1) (.slice A2 m2 c2) := ⟨_, rfl⟩
  rw [← hxv] at HS0
  clear hxv hxz
  go_loopg [7] len (fun g i wr => ∃ (z : Int) (yv : Array Value), g ≤ len ∧ i = .int .i64 z ∧ z + 1 = (g : Nat) ∧ Hid (UdD w n0 l A (underX kd (l.drop g) x) yv wr))
  case atStart => exact ⟨(len : Int) - 1, xv, Nat.le_refl _, by go_num, by omega, HS0.out⟩
  case round =>
    clear HS0
    obtain ⟨z, yv, hgl, rfl, hzg, HS⟩ := hrel
    rcases gk with _ | m
    · have hz : z = -1 := by simp at hzg; omega
      subst hz
      have hys := HS.out.inx.size
      have LD := ld43_run (block_range HS.out.box) hys
      have ST := st43_run (W := wr) (b := w.heap.size + 1) (o := 0) (v := yv) (by rw [hys]; exact there_of HS.out.res) hys HS.out.inx.one
      go_wp2_with fail
      have hr := heap_setCells yv.toList 0 _ _ HS.out.res
      rw [zx_wrote hys] at hr
      refine bodyPost_ret (results_cell_row rfl _ _ (w.heap.size + 1) 43 _ (0, 0) _ rfl hr Tryz.underlying43 rfl (by rw [Tryz.size43, hys])) rfl ?_
      refine ⟨⟨yv, rfl, ?_⟩, ?_⟩
      · have := HS.out.inx.keep (S' := fun b => n0 ≤ b) (w' := wr.setCells (w.heap.size + 1) 0 yv.toList) fun b _ hs => ⟨hs.1, heap_setCells_ne hs.2.2 _ _ _⟩
        simpa using this
      · have hT := Touched.setsNew (m := w.heap.size + 1) (b := w.heap.size + 1) (by omega) yv.toList 0 (Touched.of_below HS.out.old)
        exact ⟨hT.os, hT.tape, hT.output, hT.size, fun k hk => (heap_setCells_ne (by omega) _ _ _).trans (HS.out.old.block k hk)⟩
    · have hz : z = (m : Nat) := by simp at hzg; omega
      subst hz
      have hml : m < l.length := by rw [← HLn.out]; omega
      have HSd := hide HS.out.drew
      obtain ⟨b, xv1, rfl, hsb, hxi, hcs⟩ := HSd.out.bds m hml
      have P6 := HSd.out.next hxi kd l[m].at_ l[m].nm l[m].im
      have HEx : Hid (underX kd (l.drop m) x = .node kd l[m].at_ l[m].nm false false false l[m].im [] [l[m].ty, underX kd (l.drop (m + 1)) x]) := underX_drop kd l x hml
      obtain ⟨k2, a2, n2, e2, g2, i2, j2, B2, l2, d2, D2, r2, f2, rfl⟩ := hxi.cells
      have hyc := HSd.out.inx.cells
      obtain ⟨k3, a3, n3, e3, g3, i3, j3, B3, l3, d3, D3, r3, f3, rfl⟩ := hyc
      have hq : decide ((0 : Int) ≤ ((m : Nat) : Int)) = true := by simp
      have hmn : ((m : Nat) : Int) < ((len : Nat) : Int) := by omega
      rw [show (xcs k2 a2 n2 e2 g2 i2 j2 (.slice B2 l2 d2) (.slice D2 r2 f2) ++ xcs k3 a3 n3 e3 g3 i3 j3 (.slice B3 l3 d3) (.slice D3 r3 f3)) = #[.int .i64 k2, .int .i64 a2, .string n2, .bool e2, .bool g2, .bool i2, .bool j2, .slice B2 l2 d2, .slice D2 r2 f2, .int .i64 k3, .int .i64 a3, .string n3, .bool e3, .bool g3, .bool i3, .bool j3, .slice B3 l3 d3, .slice D3 r3 f3] from by simp] at P6
      have ST : (st43 (.pointer (some ⟨w.heap.size, 0, none⟩)) (.agg (xcs (kd : Nat) (l[m].at_ : Nat) l[m].nm false false false l[m].im (.slice none 0 0) (.slice (some ⟨wr.heap.size, 0, none⟩) 2 2)))).run Tryz.prog ((wr.alloc (.cells #[.int .i64 k2, .int .i64 a2, .string n2, .bool e2, .bool g2, .bool i2, .bool j2, .slice B2 l2 d2, .slice D2 r2 f2, .int .i64 k3, .int .i64 a3, .string n3, .bool e3, .bool g3, .bool i3, .bool j3, .slice B3 l3 d3, .slice D3 r3 f3] 43)).drew) = .ok () (((wr.alloc (.cells #[.int .i64 k2, .int .i64 a2, .string n2, .bool e2, .bool g2, .bool i2, .bool j2, .slice B2 l2 d2, .slice D2 r2 f2, .int .i64 k3, .int .i64 a3, .string n3, .bool e3, .bool g3, .bool i3, .bool j3, .slice B3 l3 d3, .slice D3 r3 f3] 43)).drew).setCells w.heap.size 0 (xcs (kd : Nat) (l[m].at_ : Nat) l[m].nm false false false l[m].im (.slice none 0 0) (.slice (some ⟨wr.heap.size, 0, none⟩) 2 2)).toList) := P6.1
      have HS2 : Hid (UdD w n0 l (some ⟨b, 0, none⟩) (.node kd l[m].at_ l[m].nm false false false l[m].im [] [l[m].ty, underX kd (l.drop (m + 1)) x]) (xcs (kd : Nat) (l[m].at_ : Nat) l[m].nm false false false l[m].im (.slice none 0 0) (.slice (some ⟨wr.heap.size, 0, none⟩) 2 2)) (((wr.alloc (.cells #[.int .i64 k2, .int .i64 a2, .string n2, .bool e2, .bool g2, .bool i2, .bool j2, .slice B2 l2 d2, .slice D2 r2 f2, .int .i64 k3, .int .i64 a3, .string n3, .bool e3, .bool g3, .bool i3, .bool j3, .slice B3 l3 d3, .slice D3 r3 f3] 43)).drew).setCells w.heap.size 0 (xcs (kd : Nat) (l[m].at_ : Nat) l[m].nm false false false l[m].im (.slice none 0 0) (.slice (some ⟨wr.heap.size, 0, none⟩) 2 2)).toList)) := P6.2
      rw [bcs_lit] at hcs
      have f0 : wr.drew.cell? ⟨b, m * 12, none⟩ = some (.string l[m].nm) := hcs 0 (by omega)
      have f1 : wr.drew.cell? ⟨b, m * 12 + 1, none⟩ = some (.bool l[m].im) := hcs 1 (by omega)
      have f11 : wr.drew.cell? ⟨b, m * 12 + 11, none⟩ = some (.int .i64 (l[m].at_ : Nat)) := hcs 11 (by omega)
      have hbl := World.block_lt_of_cell? _ _ f0
      have hxr : wr.drew.rangeAt b (m * 12 + 2) (xcs k2 a2 n2 e2 g2 i2 j2 (.slice B2 l2 d2) (.slice D2 r2 f2)).toList := fun q u hq => by
        have hq9 : q < 9 := by
          rcases Nat.lt_or_ge q 9 with h | h
          · exact h
          · rw [List.getElem?_eq_none (by simpa using h)] at hq; cases hq
        rw [Nat.add_assoc, hcs (2 + q) (by omega)]
        match q, hq9 with
        | 0, _ => exact hq
        | 1, _ => exact hq
        | 2, _ => exact hq
        | 3, _ => exact hq
        | 4, _ => exact hq
        | 5, _ => exact hq
        | 6, _ => exact hq
        | 7, _ => exact hq
        | 8, _ => exact hq
      have LB := ld43_run (block_range HSd.out.box) HSd.out.inx.size
      have F : ∀ W', W'.heap[b]? = wr.drew.heap[b]? → W'.cell? ⟨b, m * 12, none⟩ = some (.string l[m].nm) ∧ W'.cell? ⟨b, m * 12 + 1, none⟩ = some (.bool l[m].im) ∧ W'.cell? ⟨b, m * 12 + 11, none⟩ = some (.int .i64 (l[m].at_ : Nat)) ∧ (ld43 (.pointer (some ⟨b, m * 12 + 2, none⟩))).run Tryz.prog W' = .ok (.agg (xcs k2 a2 n2 e2 g2 i2 j2 (.slice B2 l2 d2) (.slice D2 r2 f2))) W' := fun W' hW => ⟨(World.cell?_of_block hW).trans f0, (World.cell?_of_block hW).trans f1, (World.cell?_of_block hW).trans f11, ld43_run (range_block hW hxr) (by simp)⟩
      have hne : b ≠ w.heap.size := by have := hsb.2; omega
      generalize hX1 : underX kd (l.drop (m + 1)) x = X1 at *
      generalize hX0 : underX kd (l.drop m) x = X0 at *
      generalize l[m].nm = nm4 at *
      generalize l[m].im = im4 at *
      generalize l[m].at_ = ta4 at *
      generalize l[m].ty = ty4 at *
      clear hcs hxr hxi f0 f1 f11 P6 HSd HS
      have G1 : wr.drew.cell? ⟨b, m * 12, none⟩ = some (.string nm4) ∧ wr.drew.cell? ⟨b, m * 12 + 1, none⟩ = some (.bool im4) ∧ wr.drew.cell? ⟨b, m * 12 + 11, none⟩ = some (.int .i64 (ta4 : Nat)) ∧ (ld43 (.pointer (some ⟨b, m * 12 + 2, none⟩))).run Tryz.prog wr.drew = .ok (.agg (xcs k2 a2 n2 e2 g2 i2 j2 (.slice B2 l2 d2) (.slice D2 r2 f2))) wr.drew := F _ rfl
      have G2 : ∀ o, (wr.alloc o).drew.cell? ⟨b, m * 12, none⟩ = some (.string nm4) ∧ (wr.alloc o).drew.cell? ⟨b, m * 12 + 1, none⟩ = some (.bool im4) ∧ (wr.alloc o).drew.cell? ⟨b, m * 12 + 11, none⟩ = some (.int .i64 (ta4 : Nat)) ∧ (ld43 (.pointer (some ⟨b, m * 12 + 2, none⟩))).run Tryz.prog (wr.alloc o).drew = .ok (.agg (xcs k2 a2 n2 e2 g2 i2 j2 (.slice B2 l2 d2) (.slice D2 r2 f2))) (wr.alloc o).drew := fun o => F _ (Below.heap_alloc _ _ _ hbl)
      have G3 : ∀ o vs, ((wr.alloc o).drew.setCells w.heap.size 0 vs).cell? ⟨b, m * 12, none⟩ = some (.string nm4) ∧ ((wr.alloc o).drew.setCells w.heap.size 0 vs).cell? ⟨b, m * 12 + 1, none⟩ = some (.bool im4) ∧ ((wr.alloc o).drew.setCells w.heap.size 0 vs).cell? ⟨b, m * 12 + 11, none⟩ = some (.int .i64 (ta4 : Nat)) ∧ (ld43 (.pointer (some ⟨b, m * 12 + 2, none⟩))).run Tryz.prog ((wr.alloc o).drew.setCells w.heap.size 0 vs) = .ok (.agg (xcs k2 a2 n2 e2 g2 i2 j2 (.slice B2 l2 d2) (.slice D2 r2 f2))) ((wr.alloc o).drew.setCells w.heap.size 0 vs) := fun o vs => F _ ((heap_setCells_ne hne _ _ _).trans (Below.heap_alloc _ _ _ hbl))
      go_wp2_with fail
      rw [← boxLoad_eq]
      go_region_held3 (fun w' => w'.cell? ⟨b, m * 12, none⟩ = some (.string nm4) ∧ w'.cell? ⟨b, m * 12 + 1, none⟩ = some (.bool im4) ∧ w'.cell? ⟨b, m * 12 + 11, none⟩ = some (.int .i64 (ta4 : Nat)) ∧ (ld43 (.pointer (some ⟨b, m * 12 + 2, none⟩))).run Tryz.prog w' = .ok (.agg (xcs k2 a2 n2 e2 g2 i2 j2 (.slice B2 l2 d2) (.slice D2 r2 f2))) w') (first | with_reducible exact G1 | with_reducible exact G2 _ | with_reducible exact G3 _ _) (fail)
      clear G1 G2 G3
      rw [← HEx.out] at HS2
      clear ST LB F
      go_wp2_with fail
      go_roundg m
      case measure => omega
      case rel => exact ⟨(m : Int) - 1, _, by omega, by go_num, by omega, by rw [hX0]; exact HS2.out⟩
end
end Go.Proofs.YtekfledccpeblaaGreatDoor

/- The document's expr: fun and forall. Written by mked.py. -/
namespace Go.Proofs.YtekfledccpeblaaGreatDoor
open Go.RowKit

theorem some1_snd (p : List Bd × FS) : (some1 p).2 = if p.1.length = 0 then p.2.fail else p.2 := by
  unfold some1
  cases h : p.1 with
  | nil => simp
  | cons a l => simp
/-- While an expression under binders is read: the binders lie there. -/
structure LSt (w : World) (fb : Nat) (s : ByteArray) (st : FS) (A : Option Addr) (l : List Bd) (W : World) : Prop where
  st : ASt w fb s st W
  bds : BdsIn W (fun b => w.heap.size < b) A l
section
variable {fb : Nat} {s : ByteArray} {w W W' : World} {st st' : FS} {A : Option Addr} {l : List Bd}
theorem LSt.of {W : World} (hA : ASt w fb s st W) (hf : fb < w.heap.size) (hB : BdsIn W' (fun b => W.heap.size ≤ b) A l) (hR : DR W' fb s st') (hT : Touched W fb W') : LSt w fb s st' A l W' :=
  ⟨hA.touched hf hR hT, hB.keep fun _ _ hs => ⟨Nat.lt_of_lt_of_le hA.lt hs, rfl⟩⟩
theorem LSt.touched (h : LSt w fb s st A l W) (hf : fb < w.heap.size) (hR : DR W' fb s st') (hT : Touched W fb W') : LSt w fb s st' A l W' :=
  ⟨h.st.touched hf hR hT, h.bds.keep fun b hb hs => ⟨hs, hT.at hb (by have : w.heap.size < b := hs; omega)⟩⟩
theorem LSt.must (h : LSt w fb s st A l W) (hf : fb < w.heap.size) (q : ByteArray) : Calls Tryz.prog 29 #[.pointer (some ⟨fb, 0, none⟩), .string q] W fun e w' => e = .returned (.tuple #[]) ∧ LSt w fb s (st.must s q) A l w' :=
  (dmust_calls h.st.rd q).mono fun _ _ ⟨he, hd, hT⟩ => ⟨he, h.touched hf hd hT⟩
theorem LSt.fail (h : LSt w fb s st A l W) (hf : fb < w.heap.size) : Calls Tryz.prog 26 #[.pointer (some ⟨fb, 0, none⟩)] W fun e w' => e = .returned (.tuple #[]) ∧ LSt w fb s st.fail A l w' :=
  (dfail_calls h.st.rd).mono fun _ _ ⟨he, hd, hT⟩ => ⟨he, h.touched hf hd hT⟩
/-- The binders are put around what was read behind them. -/
theorem LSt.under {xv : Array Value} {x : Ex} (h : LSt w fb s st A l W) (hf : fb < w.heap.size) (hR : DR W' fb s st') (hT : Touched W fb W') (hx : InX W' (fun b => W.heap.size ≤ b) x xv) (kd : Nat) (hlen : l.length ≤ 900000 * 900001) (c : Nat) :
    Calls Tryz.prog 49 #[.int .i64 (kd : Nat), .slice A l.length c, .agg xv] W' fun e w' => ∃ zv, e = .returned (.agg zv) ∧ ASt w fb s st' w' ∧ InX w' (fun b => w.heap.size < b) (underX kd l x) zv := by
  have h1 := h.touched hf hR hT
  have hl := h.st.lt
  have hl' := h1.st.lt
  refine (dunder_calls kd (w.heap.size + 1) l hlen A c x xv W' hl' h1.bds (hx.mono fun b hb => by have : W.heap.size ≤ b := hb; omega)).mono fun e w' hU => ?_
  obtain ⟨⟨zv, e1, hz⟩, hB⟩ := hU
  exact ⟨zv, e1, h1.st.touched hf (h1.st.rd.later hB) (Touched.of_below hB), hz⟩
end
section
variable {fb : Nat} {s : ByteArray} {w : World} {st : FS}
attribute [local go_sem ↓] ld43_eq st43_eq
set_option maxRecDepth 100000 in
set_option maxHeartbeats 8000000 in
theorem dexpr_fun (n : Nat) (hnn : n ≤ 900000) (ih : DExC fb s n) (h : DR w fb s st) (hl : st.left s < n + 1) (hy : st.is wFun = true) :
    Calls Tryz.prog 31 #[.pointer (some ⟨fb, 0, none⟩)] w fun e w' => DQ w fb s (exprN s (n + 1) st).2 (DX w (exprN s (n + 1) st).1) e w' := by
  rw [exprF_fun hy]
  have hlt := h.lt
  have hA0 := ASt.start h
  have hkd := FS.is_kd hy
  have hlef := FS.step_left h.ok hkd.1 (by omega) (by omega)
  have hd1 := funsN_fwd (s := s) (n := n) (exprN_fwd n) n [] (st.step s) h.ok.step
  have hd2 := (some1_dn (p := funsN s n (exprN s n) n [] (st.step s)) hd1).must (q := sTo)
  have hgl := funsN_len (s := s) (n := n) (E := exprN s n) n [] (st.step s)
  have hbig : n * (n + 1) ≤ 900000 * 900001 := Nat.mul_le_mul hnn (by omega)
  have hlen : (funsN s n (exprN s n) n [] (st.step s)).1.length ≤ 900000 * 900001 := by simp at hgl; omega
  have KA := hide (fun W (hW : ASt w fb s st W) => hW.yes hlt hy)
  have HF := hide (fun W (hW : DR W fb s (st.step s)) => dfuns_calls n hnn ih hW (by omega))
  have HE := hide (fun W (hW : DR W fb s ((some1 (funsN s n (exprN s n) n [] (st.step s))).2.must s sTo)) => ih _ W hW (by have := hd2.left; omega))
  unfold underF
  rw [some1_fst]
  have e3 : (some1 (funsN s n (exprN s n) n [] (st.step s))).2 = if (funsN s n (exprN s n) n [] (st.step s)).1.length = 0 then (funsN s n (exprN s n) n [] (st.step s)).2.fail else (funsN s n (exprN s n) n [] (st.step s)).2 := some1_snd _
  generalize hs3 : (some1 (funsN s n (exprN s n) n [] (st.step s))).2 = st3 at *
  clear hkd hlef hd1 hd2 hgl hbig hl ih hs3 h
  simp only
  generalize (funsN s n (exprN s n) n [] (st.step s)).1 = l at *
  generalize (funsN s n (exprN s n) n [] (st.step s)).2 = st2 at *
  generalize (exprN s n (st3.must s sTo)).1 = x at *
  generalize (exprN s n (st3.must s sTo)).2 = st5 at *
  generalize hst4 : st3.must s sTo = st4 at *
  generalize st.step s = st1 at *
  have HM : Hid (∀ W A, LSt w fb s st3 A l W → Calls Tryz.prog 29 #[.pointer (some ⟨fb, 0, none⟩), .string sTo] W fun e w' => e = .returned (.tuple #[]) ∧ LSt w fb s st4 A l w') := hide (fun W A hW => by have := hW.must hlt sTo; rw [hst4] at this; exact this)
  clear hst4
  obtain ⟨len, hle⟩ : ∃ len, len = l.length := ⟨_, rfl⟩
  have HLn := hide hle
  rw [← hle] at hlen e3
  have HL4 := hide hlen
  clear hlen hy hle
  go_enter Tryz.func31, Tryz.ntmps31
  go_upto_region 1 with fail
  have HW0 := hide hA0
  clear hA0
  generalize w.alloc (.cells zx 43) = W0 at *
  go_upto_region 2 with (go_at_call 28; refine (KA.out _ HW0.out).mono ?_; rintro e W1 ⟨rfl, hA1⟩)
  clear KA
  have HA1 := hide hA1
  have KF := hide (HF.out W1 hA1.rd)
  clear hA1 HF HW0
  go_upto_region 3 with (go_at_call 48; refine KF.out.mono ?_; rintro e W2 ⟨⟨A, c, rfl, hB⟩, hd, hT⟩; have HL2 := hide (LSt.of HA1.out hlt hB hd hT); clear hB hd hT)
  clear KF HA1
  rw [← HLn.out]
  by_cases hz : len = 0
  · have q1 : ((len : Int) == 0) = true := by rw [hz]; rfl
    rw [if_pos hz] at e3
    subst e3
    have KX := hide (HL2.out.fail hlt)
    clear hz HL2
    go_upto_region 5 with (go_at_call 26; refine KX.out.mono ?_; rintro e W3 ⟨rfl, hL3⟩; have KM := hide (HM.out _ _ hL3); clear hL3)
    clear q1 KX HM
    go_upto_region 6 with (go_at_call 29; refine KM.out.mono ?_; rintro e W4 ⟨rfl, hL4⟩; have HE4 := hide (HE.out _ hL4.st.rd); have HL4' := hide hL4; clear hL4)
    clear KM HE
    go_wp2_with (first | (go_at_call 31; refine HE4.out.mono ?_; rintro e W5 ⟨⟨xv, rfl, hx⟩, hd, hT⟩; have KU := hide (HL4'.out.under hlt hd hT hx 5 (by have := HLn.out; have := HL4.out; omega) c); rw [← HLn.out] at KU; clear hx hd hT) | (go_at_call 49; refine KU.out.mono ?_; rintro e W6 ⟨zv, rfl, hA6, hx6⟩; have ST := hA6.stor hx6; have HA6 := hide hA6; have HX6 := hide hx6; clear hA6 hx6))
    exact HA6.out.ret hlt HX6.out rfl rfl
  · have q1 : ((len : Int) == 0) = false := by simp; omega
    rw [if_neg hz] at e3
    subst e3
    have KM := hide (HM.out _ _ HL2.out)
    clear hz HL2 HM
    go_upto_region 5 with fail
    clear q1
    go_upto_region 6 with (go_at_call 29; refine KM.out.mono ?_; rintro e W4 ⟨rfl, hL4⟩; have HE4 := hide (HE.out _ hL4.st.rd); have HL4' := hide hL4; clear hL4)
    clear KM HE
    go_wp2_with (first | (go_at_call 31; refine HE4.out.mono ?_; rintro e W5 ⟨⟨xv, rfl, hx⟩, hd, hT⟩; have KU := hide (HL4'.out.under hlt hd hT hx 5 (by have := HLn.out; have := HL4.out; omega) c); rw [← HLn.out] at KU; clear hx hd hT) | (go_at_call 49; refine KU.out.mono ?_; rintro e W6 ⟨zv, rfl, hA6, hx6⟩; have ST := hA6.stor hx6; have HA6 := hide hA6; have HX6 := hide hx6; clear hA6 hx6))
    exact HA6.out.ret hlt HX6.out rfl rfl
set_option maxRecDepth 100000 in
set_option maxHeartbeats 8000000 in
theorem dexpr_forall (n : Nat) (hnn : n ≤ 900000) (ih : DExC fb s n) (h : DR w fb s st) (hl : st.left s < n + 1) (h0 : st.is wFun = false) (hy : st.is wForall = true) :
    Calls Tryz.prog 31 #[.pointer (some ⟨fb, 0, none⟩)] w fun e w' => DQ w fb s (exprN s (n + 1) st).2 (DX w (exprN s (n + 1) st).1) e w' := by
  rw [exprF_forall h0 hy]
  have hlt := h.lt
  have hA0 := ASt.start h
  have hkd := FS.is_kd hy
  have hlef := FS.step_left h.ok hkd.1 (by omega) (by omega)
  have hd1 := groupsN_fwd (s := s) (n := n) (exprN_fwd n) n [] (st.step s) h.ok.step
  have hd2 := (some1_dn (p := groupsN s n (exprN s n) n [] (st.step s)) hd1).must (q := sComma)
  have hgl := groupsN_len (s := s) (n := n) (E := exprN s n) n [] (st.step s)
  have hbig : n * (n + 1) ≤ 900000 * 900001 := Nat.mul_le_mul hnn (by omega)
  have hlen : (groupsN s n (exprN s n) n [] (st.step s)).1.length ≤ 900000 * 900001 := by simp at hgl; omega
  have KN := hide (fun W (hW : ASt w fb s st W) => hW.not hlt h0)
  have KA := hide (fun W (hW : ASt w fb s st W) => hW.yes hlt hy)
  have HF := hide (fun W (hW : DR W fb s (st.step s)) => dgroups_calls n hnn ih hW (by omega))
  have HE := hide (fun W (hW : DR W fb s ((some1 (groupsN s n (exprN s n) n [] (st.step s))).2.must s sComma)) => ih _ W hW (by have := hd2.left; omega))
  unfold underF
  rw [some1_fst]
  have e3 : (some1 (groupsN s n (exprN s n) n [] (st.step s))).2 = if (groupsN s n (exprN s n) n [] (st.step s)).1.length = 0 then (groupsN s n (exprN s n) n [] (st.step s)).2.fail else (groupsN s n (exprN s n) n [] (st.step s)).2 := some1_snd _
  generalize hs3 : (some1 (groupsN s n (exprN s n) n [] (st.step s))).2 = st3 at *
  clear hkd hlef hd1 hd2 hgl hbig hl ih hs3 h
  simp only
  generalize (groupsN s n (exprN s n) n [] (st.step s)).1 = l at *
  generalize (groupsN s n (exprN s n) n [] (st.step s)).2 = st2 at *
  generalize (exprN s n (st3.must s sComma)).1 = x at *
  generalize (exprN s n (st3.must s sComma)).2 = st5 at *
  generalize hst4 : st3.must s sComma = st4 at *
  generalize st.step s = st1 at *
  have HM : Hid (∀ W A, LSt w fb s st3 A l W → Calls Tryz.prog 29 #[.pointer (some ⟨fb, 0, none⟩), .string sComma] W fun e w' => e = .returned (.tuple #[]) ∧ LSt w fb s st4 A l w') := hide (fun W A hW => by have := hW.must hlt sComma; rw [hst4] at this; exact this)
  clear hst4
  obtain ⟨len, hle⟩ : ∃ len, len = l.length := ⟨_, rfl⟩
  have HLn := hide hle
  rw [← hle] at hlen e3
  have HL4 := hide hlen
  clear hlen hy hle
  go_enter Tryz.func31, Tryz.ntmps31
  go_upto_region 1 with fail
  have HW0 := hide hA0
  clear hA0
  generalize w.alloc (.cells zx 43) = W0 at *
  go_upto_region 7 with (go_at_call 28; refine (KN.out _ HW0.out).mono ?_; rintro e Wa ⟨rfl, ha⟩)
  clear KN
  go_upto_region 8 with (go_at_call 28; refine (KA.out _ ha).mono ?_; rintro e W1 ⟨rfl, hA1⟩)
  clear KA ha
  have HA1 := hide hA1
  have KF := hide (HF.out W1 hA1.rd)
  clear hA1 HF HW0
  go_upto_region 9 with (go_at_call 30; refine KF.out.mono ?_; rintro e W2 ⟨⟨A, c, rfl, hB⟩, hd, hT⟩; have HL2 := hide (LSt.of HA1.out hlt hB hd hT); clear hB hd hT)
  clear KF HA1
  rw [← HLn.out]
  by_cases hz : len = 0
  · have q1 : ((len : Int) == 0) = true := by rw [hz]; rfl
    rw [if_pos hz] at e3
    subst e3
    have KX := hide (HL2.out.fail hlt)
    clear hz HL2
    go_upto_region 11 with (go_at_call 26; refine KX.out.mono ?_; rintro e W3 ⟨rfl, hL3⟩; have KM := hide (HM.out _ _ hL3); clear hL3)
    clear q1 KX HM
    go_upto_region 12 with (go_at_call 29; refine KM.out.mono ?_; rintro e W4 ⟨rfl, hL4⟩; have HE4 := hide (HE.out _ hL4.st.rd); have HL4' := hide hL4; clear hL4)
    clear KM HE
    go_wp2_with (first | (go_at_call 31; refine HE4.out.mono ?_; rintro e W5 ⟨⟨xv, rfl, hx⟩, hd, hT⟩; have KU := hide (HL4'.out.under hlt hd hT hx 6 (by have := HLn.out; have := HL4.out; omega) c); rw [← HLn.out] at KU; clear hx hd hT) | (go_at_call 49; refine KU.out.mono ?_; rintro e W6 ⟨zv, rfl, hA6, hx6⟩; have ST := hA6.stor hx6; have HA6 := hide hA6; have HX6 := hide hx6; clear hA6 hx6))
    exact HA6.out.ret hlt HX6.out rfl rfl
  · have q1 : ((len : Int) == 0) = false := by simp; omega
    rw [if_neg hz] at e3
    subst e3
    have KM := hide (HM.out _ _ HL2.out)
    clear hz HL2 HM
    go_upto_region 11 with fail
    clear q1
    go_upto_region 12 with (go_at_call 29; refine KM.out.mono ?_; rintro e W4 ⟨rfl, hL4⟩; have HE4 := hide (HE.out _ hL4.st.rd); have HL4' := hide hL4; clear hL4)
    clear KM HE
    go_wp2_with (first | (go_at_call 31; refine HE4.out.mono ?_; rintro e W5 ⟨⟨xv, rfl, hx⟩, hd, hT⟩; have KU := hide (HL4'.out.under hlt hd hT hx 6 (by have := HLn.out; have := HL4.out; omega) c); rw [← HLn.out] at KU; clear hx hd hT) | (go_at_call 49; refine KU.out.mono ?_; rintro e W6 ⟨zv, rfl, hA6, hx6⟩; have ST := hA6.stor hx6; have HA6 := hide hA6; have HX6 := hide hx6; clear hA6 hx6))
    exact HA6.out.ret hlt HX6.out rfl rfl
end
end Go.Proofs.YtekfledccpeblaaGreatDoor
