/- A level that is being read: what stands when its parts have come. -/
import Derived.Test.YtpdoegjddiaaoaaDoorLevelMem
namespace Go.Proofs.YtpdoegjddiaaoaaDoor
open Go.RowKit

/-- A level that is being built has its first part. (c: its variable's block; lo: from where its parts lie; p0: where they begin in the text.) -/
def Built1 (w : World) (rb : Nat) (s : ByteArray) (c : Nat) (kc : Int) (p0 : Nat) (wx : World) : Prop :=
  ∃ (k1 : Int) (nm1 : ByteArray) (A1 : Option Addr) (n1 cap1 p3 c3 a3 g cap' hi1 : Nat), LVar wx c kc (.slice (some ⟨g, 0, none⟩) 1 cap') ∧ wx.ownsRow (c + 1) 28 3 (.slice (some ⟨g, 0, none⟩) 1 cap') 1 [.int .i64 k1, .string nm1, .slice A1 n1 cap1] ∧
    RdAt wx rb s p3 c3 a3 ∧ p0 ≤ p3 ∧ p3 ≤ s.size ∧ Touched (w.alloc zlev) rb wx ∧ c + 1 ≤ hi1 ∧ hi1 ≤ g ∧
    (c3 = 0 → ∃ l1 : LvB, InBet wx (c + 1) hi1 l1 (.agg #[.int .i64 k1, .string nm1, .slice A1 n1 cap1]) ∧ l1.nodes ≤ p3 - p0 ∧ ∀ q, Lv.has q l1 → Nm q)

/-- .. it has its second part. -/
def Built2 (w : World) (rb : Nat) (s : ByteArray) (c : Nat) (kc : Int) (p0 : Nat) (wx : World) : Prop :=
  ∃ (k1 : Int) (nm1 : ByteArray) (A1 : Option Addr) (n1 cap1 : Nat) (k2 : Int) (nm2 : ByteArray) (A2 : Option Addr) (n2 cap2 p3 c3 a3 g cap' : Nat), LVar wx c kc (.slice (some ⟨g, 0, none⟩) 2 cap') ∧
    wx.ownsRow (c + 1) 28 3 (.slice (some ⟨g, 0, none⟩) 2 cap') 2 ([.int .i64 k1, .string nm1, .slice A1 n1 cap1] ++ [.int .i64 k2, .string nm2, .slice A2 n2 cap2]) ∧
    RdAt wx rb s p3 c3 a3 ∧ p0 ≤ p3 ∧ p3 ≤ s.size ∧ Touched (w.alloc zlev) rb wx ∧
    (c3 = 0 → ∃ l1 l2 : LvB, InAbove wx (c + 1) l1 (.agg #[.int .i64 k1, .string nm1, .slice A1 n1 cap1]) ∧ InAbove wx (c + 1) l2 (.agg #[.int .i64 k2, .string nm2, .slice A2 n2 cap2]) ∧ l1.nodes + l2.nodes ≤ p3 - p0 ∧ (∀ q, Lv.has q l1 → Nm q) ∧ ∀ q, Lv.has q l2 → Nm q)

theorem Touched.of_none {w w' : World} {m : Nat} (h : w.grownBy w' none) : Touched w m w' := ⟨h.os, h.tape, h.output, h.size, fun k hk _ => h.block k hk (by simp)⟩

/-- Behind the first append and the store. -/
theorem built1_of {w W4 w5 w6 : World} {rb c p0 p3 c3 a3 g cap' n1 cap1 : Nat} {s : ByteArray} {kc k1 : Int} {nm1 : ByteArray} {A1 : Option Addr} (hrb : rb < w.heap.size) (hc : w.heap.size + 1 ≤ c) (hz4 : W4.heap.size = c + 1)
    (HT4 : Touched (w.alloc zlev) rb W4) (HT5 : Touched W4 rb w5) (HR5 : RdAt w5 rb s p3 c3 a3) (h1 : p0 ≤ p3) (h2 : p3 ≤ s.size)
    (HIm : c3 = 0 → 0 = 0 ∧ ∃ l : LvB, InAbove w5 W4.heap.size l (.agg #[.int .i64 k1, .string nm1, .slice A1 n1 cap1]) ∧ l.nodes ≤ p3 - p0 ∧ ∀ q, Lv.has q l → Nm q)
    (HV6 : LVar w6 c kc (.slice none 0 0)) (HO6 : w6.ownsRow (c + 1) 28 3 (.slice (some ⟨g, 0, none⟩) (0 + 1) cap') (0 + 1) ([] ++ [.int .i64 k1, .string nm1, .slice A1 n1 cap1]))
    (HG6 : (w5.alloc (.cells #[.int .i64 k1, .string nm1, .slice A1 n1 cap1] 28)).grownBy w6 (Value.slice none 0 0).ownBlock)
    (HP6 : (Value.slice (some ⟨g, 0, none⟩) (0 + 1) cap').ownBlock = (Value.slice none 0 0).ownBlock ∨ (Value.slice (some ⟨g, 0, none⟩) (0 + 1) cap').ownBlock = some (w5.alloc (.cells #[.int .i64 k1, .string nm1, .slice A1 n1 cap1] 28)).heap.size) :
    Built1 w rb s c kc p0 (w6.setCell ⟨c, 2, none⟩ (.slice (some ⟨g, 0, none⟩) 1 cap')) := by
  have hz5 := HT5.size
  have hg : g = w5.heap.size + 1 := by
    rcases HP6 with h | h
    · simp [Value.ownBlock] at h
    · simpa [Value.ownBlock] using h
  have hG : (w5.alloc (.cells #[.int .i64 k1, .string nm1, .slice A1 n1 cap1] 28)).grownBy w6 none := HG6
  have hrb5 := HR5.lt
  refine ⟨k1, nm1, A1, n1, cap1, p3, c3, a3, g, cap', w5.heap.size, HV6.set _, ?_, ?_, h1, h2, ?_, by omega, by omega, fun h => ?_⟩
  · simpa using ownsRow_setCell_below HO6 (a := ⟨c, 2, none⟩) (by show c < c + 1; omega) _
  · exact ((HR5.alloc _).kept hG (by simp)).setOther (b := ⟨c, 2, none⟩) (by show c ≠ rb; omega) _
  · exact ((HT4.trans (HT5.trans (Touched.alloc _ _ _))).trans (Touched.of_none hG)).setNew (a := ⟨c, 2, none⟩) (by simp; omega) _
  · obtain ⟨_, l1, hl, hn, hm⟩ := HIm h
    refine ⟨l1, ?_, hn, hm⟩
    rw [hz4] at hl
    refine hl.bet.keep fun b hb1 hb2 => ?_
    rw [Below.heap_setCell _ _ _ _ (by show b ≠ c; omega), hG.block b (by simp; omega) (by simp)]
    exact Below.heap_alloc _ _ _ hb2

/-- Behind the second append and the store. -/
theorem built2_of {w wx w5 w6 : World} {rb c p0 pm cm p3 c3 a3 g0 cap0 g cap' hi1 n1 cap1 n2 cap2 : Nat} {s : ByteArray} {kc k1 k2 : Int} {nm1 nm2 : ByteArray} {A1 A2 : Option Addr} (hrb : rb < w.heap.size) (hc : w.heap.size + 1 ≤ c)
    (HTx : Touched (w.alloc zlev) rb wx) (hcx : c < wx.heap.size) (hhi : c + 1 ≤ hi1) (hhi2 : hi1 ≤ g0) (hg0 : g0 < wx.heap.size) (hpm : p0 ≤ pm)
    (Hx : cm = 0 → ∃ l1 : LvB, InBet wx (c + 1) hi1 l1 (.agg #[.int .i64 k1, .string nm1, .slice A1 n1 cap1]) ∧ l1.nodes ≤ pm - p0 ∧ ∀ q, Lv.has q l1 → Nm q)
    (HT5 : Touched wx rb w5) (HR5 : RdAt w5 rb s p3 c3 a3) (h1 : pm ≤ p3) (h2 : p3 ≤ s.size)
    (HIm : c3 = 0 → cm = 0 ∧ ∃ l : LvB, InAbove w5 wx.heap.size l (.agg #[.int .i64 k2, .string nm2, .slice A2 n2 cap2]) ∧ l.nodes ≤ p3 - pm ∧ ∀ q, Lv.has q l → Nm q)
    (HV6 : LVar w6 c kc (.slice (some ⟨g0, 0, none⟩) 1 cap0)) (HO6 : w6.ownsRow (c + 1) 28 3 (.slice (some ⟨g, 0, none⟩) (1 + 1) cap') (1 + 1) ([.int .i64 k1, .string nm1, .slice A1 n1 cap1] ++ [.int .i64 k2, .string nm2, .slice A2 n2 cap2]))
    (HG6 : (w5.alloc (.cells #[.int .i64 k2, .string nm2, .slice A2 n2 cap2] 28)).grownBy w6 (some g0)) :
    Built2 w rb s c kc p0 (w6.setCell ⟨c, 2, none⟩ (.slice (some ⟨g, 0, none⟩) 2 cap')) := by
  have hz5 := HT5.size
  have hrb5 := HR5.lt
  refine ⟨k1, nm1, A1, n1, cap1, k2, nm2, A2, n2, cap2, p3, c3, a3, g, cap', HV6.set _, ?_, ?_, by omega, h2, ?_, fun h => ?_⟩
  · exact ownsRow_setCell_below HO6 (a := ⟨c, 2, none⟩) (by show c < c + 1; omega) _
  · exact ((HR5.alloc _).kept HG6 (by simp; omega)).setOther (b := ⟨c, 2, none⟩) (by show c ≠ rb; omega) _
  · have hk : Touched (w.alloc zlev) rb w6 := by
      refine ⟨HG6.os.trans (HT5.os.trans HTx.os), HG6.tape.trans (HT5.tape.trans HTx.tape), HG6.output.trans (HT5.output.trans HTx.output), ?_, fun k hk hne => ?_⟩
      · have := HG6.size; have := HTx.size; simp at *; omega
      · have hk' : k < w.heap.size + 1 := by simpa using hk
        rw [HG6.block k (by simp; have := HTx.size; simp at this; omega) (by simp; omega), Below.heap_alloc _ _ _ (by have := HTx.size; simp at this; omega)]
        exact (HT5.block k (by have := HTx.size; simp at this; omega) hne).trans (HTx.block k hk hne)
    exact hk.setNew (a := ⟨c, 2, none⟩) (by simp; omega) _
  · obtain ⟨hcm, l2, hl2, hn2, hm2⟩ := HIm h
    obtain ⟨l1, hl1, hn1, hm1⟩ := Hx hcm
    refine ⟨l1, l2, ?_, ?_, by omega, hm1, hm2⟩
    · refine InBet.above (Nat.le_refl _) (hl1.keep fun b hb1 hb2 => ?_)
      rw [Below.heap_setCell _ _ _ _ (by show b ≠ c; omega), HG6.block b (by simp; omega) (by simp; omega), Below.heap_alloc _ _ _ (by omega)]
      exact HT5.at (by omega) (by omega)
    · refine InBet.above (lo := wx.heap.size) (by omega) (hl2.bet.keep fun b hb1 hb2 => ?_)
      rw [Below.heap_setCell _ _ _ _ (by show b ≠ c; omega), HG6.block b (by simp; omega) (by simp; omega)]
      exact Below.heap_alloc _ _ _ hb2

theorem Touched.undrew {w w' : World} {m : Nat} (h : Touched w.drew m w') : Touched w m w' := ⟨h.os, h.tape, h.output, h.size, h.block⟩
/-- A call of level, as one step of a region that draws its order. -/
theorem step_call {ops : Array Oper} {o : Oper} {a : Act} {w : World} {K : Act → World → Prop} {Q : Exit → Act → World → Prop} {E : Prop} {args : Array Value} {rb : Nat} {s : ByteArray} {p code : Nat}
    (hg : o.guard = none) (hrun : (execOp a.eval o).run Tryd.prog w = .ok (.enter 13 args) w) (hc : Calls Tryd.prog 13 args w fun e w' => LevelPost w rb s p code e w')
    (hK : ∀ (k : Int) (nm : ByteArray) (A : Option Addr) (n cap : Nat) (w' : World) (p' c' a' : Nat), RdAt w' rb s p' c' a' → p ≤ p' → p' ≤ s.size → Touched w rb w' →
      (c' = 0 → code = 0 ∧ ∃ l : LvB, InAbove w' w.heap.size l (.agg #[.int .i64 k, .string nm, .slice A n cap]) ∧ l.nodes ≤ p' - p ∧ ∀ q, Lv.has q l → Nm q) → K (a.put o.dst (.agg #[.int .i64 k, .string nm, .slice A n cap])) w') :
    if Region.wanted o (yielded ops a.tmps) = true then Oper.wp Tryd.prog o a w K Q else E := by
  have hw : Region.wanted o (yielded ops a.tmps) = true := by simp [Region.wanted, hg]
  rw [if_pos hw]
  unfold Oper.wp
  rw [hrun]
  refine hc.mono ?_
  rintro e w' ⟨k, nm, A, n, cap, p', c', a', rfl, h1, h2, h3, h4, h5⟩
  exact hK k nm A n cap w' p' c' a' h1 h2 h3 h4 h5

end Go.Proofs.YtpdoegjddiaaoaaDoor
