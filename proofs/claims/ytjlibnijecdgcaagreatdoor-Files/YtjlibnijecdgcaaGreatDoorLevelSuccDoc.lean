/- The document's reader: what text LevelMem says of it. -/
import Derived.Test.YtjlibnijecdgcaaGreatDoorParse
import Derived.Test.YtjlibnijecdgcaaGreatDoorLevelWordDoc
import Derived.Deep.DeepCutAuto

/- Memory of a level that is being read: the variable that is built up, its row of parts. No walk but take's contract, whatever went before. -/
namespace Go.Proofs.YtjlibnijecdgcaaGreatDoor
open Go.RowKit

section
variable {w w' : World} {c : Nat} {k : Int} {v : Value}
end

/-- take, whatever went before. -/
theorem take_any (rb : Nat) (s : ByteArray) (p code a : Nat) (w : World) (hs : s.size ≤ 200000) (hp : p ≤ s.size) (h : RdAt w rb s p code a) :
    Calls Tryz.prog 55 #[.pointer (some ⟨rb, 0, none⟩), .string ⟨#[41]⟩] w fun e w' => ∃ p' c' a' : Nat, e = .returned (.tuple #[]) ∧ RdAt w' rb s p' c' a' ∧ p ≤ p' ∧ p' ≤ s.size ∧ Touched w rb w' ∧ (c' = 0 → code = 0 ∧ p < p' ∧ SignAt s 41 p p') ∧ (c' ≠ 0 → (code ≠ 0 ∧ c' = code ∧ a' = a) ∨ (code = 0 ∧ c' = 1 ∧ a' = runTo blankB s p ∧ (tok s p).t ≠ ⟨#[41]⟩)) := by
  by_cases hc : code = 0
  · subst hc
    obtain ⟨k1, k2, k3, k4⟩ := tok_facts hp
    by_cases ht : (tok s p).t = ⟨#[41]⟩
    · rw [ht] at k2
      have k2' : (tok s p).at_ + 1 ≤ s.size := k2
      have hsg := tok_shut hp ht
      exact (take_good rb s p a w hs hp h ht).mono fun e w' ⟨he, hr, ht⟩ => ⟨_, 0, a, he, hr, by omega, k2', ht, fun _ => ⟨rfl, by omega, hsg⟩, fun h => absurd rfl h⟩
    · have hno := ht
      exact (take_bad rb s p a w hs hp h ht).mono fun e w' ⟨he, hr, ht⟩ => ⟨p, 1, _, he, hr, Nat.le_refl _, hp, ht, fun h => by omega, fun _ => .inr ⟨rfl, rfl, tok_place s p hp, hno⟩⟩
  · exact (take_not rb s p code a w hs hp hc h).mono fun e w' ⟨he, hw⟩ => ⟨p, code, a, he, by rw [hw]; exact h, Nat.le_refl _, hp, by rw [hw]; exact Touched.refl _ _, fun h => absurd h hc, fun _ => .inl ⟨hc, rfl, rfl⟩⟩

end Go.Proofs.YtjlibnijecdgcaaGreatDoor

/- The document's reader: what text LevelBuilt says of it. -/
/- A level that is being read: what stands when its parts have come. -/
namespace Go.Proofs.YtjlibnijecdgcaaGreatDoor
open Go.RowKit

/-- A level that is being built has its first part. (c: its variable's block; lo: from where its parts lie; p0: where they begin in the text.) -/
def Built1 (w : World) (rb : Nat) (s : ByteArray) (c : Nat) (kc : Int) (p0 : Nat) (wx : World) : Prop :=
  ∃ (k1 : Int) (nm1 : ByteArray) (A1 : Option Addr) (n1 cap1 p3 c3 a3 g cap' hi1 : Nat), LVar wx c kc (.slice (some ⟨g, 0, none⟩) 1 cap') ∧ wx.ownsRow (c + 1) 94 3 (.slice (some ⟨g, 0, none⟩) 1 cap') 1 [.int .i64 k1, .string nm1, .slice A1 n1 cap1] ∧
    RdAt wx rb s p3 c3 a3 ∧ p0 ≤ p3 ∧ p3 ≤ s.size ∧ Touched (w.alloc zlev) rb wx ∧ c + 1 ≤ hi1 ∧ hi1 ≤ g ∧
    (c3 = 0 → ∃ l1 : LvB, InBet wx (c + 1) hi1 l1 (.agg #[.int .i64 k1, .string nm1, .slice A1 n1 cap1]) ∧ l1.nodes ≤ p3 - p0 ∧ Reads s l1 p0 p3) ∧ (c3 ≠ 0 → c3 = 1 ∧ Fails s p0 a3)

/-- .. it has its second part. -/
def Built2 (w : World) (rb : Nat) (s : ByteArray) (c : Nat) (kc : Int) (p0 : Nat) (wx : World) : Prop :=
  ∃ (k1 : Int) (nm1 : ByteArray) (A1 : Option Addr) (n1 cap1 : Nat) (k2 : Int) (nm2 : ByteArray) (A2 : Option Addr) (n2 cap2 p3 c3 a3 g cap' : Nat), LVar wx c kc (.slice (some ⟨g, 0, none⟩) 2 cap') ∧
    wx.ownsRow (c + 1) 94 3 (.slice (some ⟨g, 0, none⟩) 2 cap') 2 ([.int .i64 k1, .string nm1, .slice A1 n1 cap1] ++ [.int .i64 k2, .string nm2, .slice A2 n2 cap2]) ∧
    RdAt wx rb s p3 c3 a3 ∧ p0 ≤ p3 ∧ p3 ≤ s.size ∧ Touched (w.alloc zlev) rb wx ∧
    (c3 = 0 → ∃ (l1 l2 : LvB) (pm : Nat), InAbove wx (c + 1) l1 (.agg #[.int .i64 k1, .string nm1, .slice A1 n1 cap1]) ∧ InAbove wx (c + 1) l2 (.agg #[.int .i64 k2, .string nm2, .slice A2 n2 cap2]) ∧ l1.nodes + l2.nodes ≤ p3 - p0 ∧ Reads s l1 p0 pm ∧ Reads s l2 pm p3) ∧ (c3 ≠ 0 → c3 = 1 ∧ (Fails s p0 a3 ∨ ∃ (l1 : LvB) (pm : Nat), Reads s l1 p0 pm ∧ Fails s pm a3))

/-- Behind the first append and the store. -/
theorem built1_of {w W4 w5 w6 : World} {rb c p0 p3 c3 a3 g cap' n1 cap1 : Nat} {s : ByteArray} {kc k1 : Int} {nm1 : ByteArray} {A1 : Option Addr} (hrb : rb < w.heap.size) (hc : w.heap.size + 1 ≤ c) (hz4 : W4.heap.size = c + 1)
    (HT4 : Touched (w.alloc zlev) rb W4) (HT5 : Touched W4 rb w5) (HR5 : RdAt w5 rb s p3 c3 a3) (h1 : p0 ≤ p3) (h2 : p3 ≤ s.size)
    (HIm : c3 = 0 → 0 = 0 ∧ ∃ l : LvB, InAbove w5 W4.heap.size l (.agg #[.int .i64 k1, .string nm1, .slice A1 n1 cap1]) ∧ l.nodes ≤ p3 - p0 ∧ Reads s l p0 p3) (HBm : c3 ≠ 0 → c3 = 1 ∧ Fails s p0 a3)
    (HV6 : LVar w6 c kc (.slice none 0 0)) (HO6 : w6.ownsRow (c + 1) 94 3 (.slice (some ⟨g, 0, none⟩) (0 + 1) cap') (0 + 1) ([] ++ [.int .i64 k1, .string nm1, .slice A1 n1 cap1]))
    (HG6 : (w5.alloc (.cells #[.int .i64 k1, .string nm1, .slice A1 n1 cap1] 94)).grownBy w6 (Value.slice none 0 0).ownBlock)
    (HP6 : (Value.slice (some ⟨g, 0, none⟩) (0 + 1) cap').ownBlock = (Value.slice none 0 0).ownBlock ∨ (Value.slice (some ⟨g, 0, none⟩) (0 + 1) cap').ownBlock = some (w5.alloc (.cells #[.int .i64 k1, .string nm1, .slice A1 n1 cap1] 94)).heap.size) :
    Built1 w rb s c kc p0 (w6.setCell ⟨c, 2, none⟩ (.slice (some ⟨g, 0, none⟩) 1 cap')) := by
  have hz5 := HT5.size
  have hg : g = w5.heap.size + 1 := by
    rcases HP6 with h | h
    · simp [Value.ownBlock] at h
    · simpa [Value.ownBlock] using h
  have hG : (w5.alloc (.cells #[.int .i64 k1, .string nm1, .slice A1 n1 cap1] 94)).grownBy w6 none := HG6
  have hrb5 := HR5.lt
  refine ⟨k1, nm1, A1, n1, cap1, p3, c3, a3, g, cap', w5.heap.size, HV6.set _, ?_, ?_, h1, h2, ?_, by omega, by omega, fun h => ?_, HBm⟩
  · simpa using ownsRow_setCell_below HO6 (a := ⟨c, 2, none⟩) (by show c < c + 1; omega) _
  · exact ((HR5.alloc _).kept hG (by simp)).setOther (b := ⟨c, 2, none⟩) (by show c ≠ rb; omega) _
  · exact ((HT4.trans (HT5.trans (Touched.alloc _ _ _))).trans (Touched.of_none hG)).setNew (a := ⟨c, 2, none⟩) (by simp; omega) _
  · obtain ⟨_, l1, hl, hn, hm⟩ := HIm h
    refine ⟨l1, ?_, hn, hm⟩
    rw [hz4] at hl
    refine hl.bet.keep fun b hb1 hb2 => ?_
    rw [Below.heap_setCell _ _ _ _ (by show b ≠ c; omega), hG.block b (by simp; omega) (by simp)]
    exact Below.heap_alloc _ _ _ hb2

/-- Behind the second append and the store. -/
theorem built2_of {w wx w5 w6 : World} {rb c p0 pm cm am p3 c3 a3 g0 cap0 g cap' hi1 n1 cap1 n2 cap2 : Nat} {s : ByteArray} {kc k1 k2 : Int} {nm1 nm2 : ByteArray} {A1 A2 : Option Addr} (hrb : rb < w.heap.size) (hc : w.heap.size + 1 ≤ c)
    (HTx : Touched (w.alloc zlev) rb wx) (hcx : c < wx.heap.size) (hhi : c + 1 ≤ hi1) (hhi2 : hi1 ≤ g0) (hg0 : g0 < wx.heap.size) (hpm : p0 ≤ pm)
    (Hx : cm = 0 → ∃ l1 : LvB, InBet wx (c + 1) hi1 l1 (.agg #[.int .i64 k1, .string nm1, .slice A1 n1 cap1]) ∧ l1.nodes ≤ pm - p0 ∧ Reads s l1 p0 pm) (Hxb : cm ≠ 0 → cm = 1 ∧ Fails s p0 am)
    (HT5 : Touched wx rb w5) (HR5 : RdAt w5 rb s p3 c3 a3) (h1 : pm ≤ p3) (h2 : p3 ≤ s.size)
    (HIm : c3 = 0 → cm = 0 ∧ ∃ l : LvB, InAbove w5 wx.heap.size l (.agg #[.int .i64 k2, .string nm2, .slice A2 n2 cap2]) ∧ l.nodes ≤ p3 - pm ∧ Reads s l pm p3) (HBm : c3 ≠ 0 → (cm ≠ 0 ∧ c3 = cm ∧ a3 = am) ∨ (cm = 0 ∧ c3 = 1 ∧ Fails s pm a3))
    (HV6 : LVar w6 c kc (.slice (some ⟨g0, 0, none⟩) 1 cap0)) (HO6 : w6.ownsRow (c + 1) 94 3 (.slice (some ⟨g, 0, none⟩) (1 + 1) cap') (1 + 1) ([.int .i64 k1, .string nm1, .slice A1 n1 cap1] ++ [.int .i64 k2, .string nm2, .slice A2 n2 cap2]))
    (HG6 : (w5.alloc (.cells #[.int .i64 k2, .string nm2, .slice A2 n2 cap2] 94)).grownBy w6 (some g0)) :
    Built2 w rb s c kc p0 (w6.setCell ⟨c, 2, none⟩ (.slice (some ⟨g, 0, none⟩) 2 cap')) := by
  have hz5 := HT5.size
  have hrb5 := HR5.lt
  refine ⟨k1, nm1, A1, n1, cap1, k2, nm2, A2, n2, cap2, p3, c3, a3, g, cap', HV6.set _, ?_, ?_, by omega, h2, ?_, fun h => ?_, fun h => ?_⟩
  · exact ownsRow_setCell_below HO6 (a := ⟨c, 2, none⟩) (by show c < c + 1; omega) _
  · exact ((HR5.alloc _).kept HG6 (by simp; omega)).setOther (b := ⟨c, 2, none⟩) (by show c ≠ rb; omega) _
  · have hk : Touched (w.alloc zlev) rb w6 := by
      refine ⟨HG6.os.trans (HT5.os.trans HTx.os), HG6.tape.trans (HT5.tape.trans HTx.tape), HG6.output.trans (HT5.output.trans HTx.output), ?_, fun k hk hne => ?_⟩
      · have := HG6.size; have := HTx.size; simp at *; omega
      · have hk' : k < w.heap.size + 1 := by simpa using hk
        rw [HG6.block k (by simp; have := HTx.size; simp at this; omega) (by simp; omega), Below.heap_alloc _ _ _ (by have := HTx.size; simp at this; omega)]
        exact (HT5.block k (by have := HTx.size; simp at this; omega) hne).trans (HTx.block k hk hne)
    exact hk.setNew (a := ⟨c, 2, none⟩) (by simp; omega) _
  · obtain ⟨hcm, l2, hl2, hn2, hm2⟩ := HIm h
    obtain ⟨l1, hl1, hn1, hm1⟩ := Hx hcm
    refine ⟨l1, l2, pm, ?_, ?_, by omega, hm1, hm2⟩
    · refine InBet.above (Nat.le_refl _) (hl1.keep fun b hb1 hb2 => ?_)
      rw [Below.heap_setCell _ _ _ _ (by show b ≠ c; omega), HG6.block b (by simp; omega) (by simp; omega), Below.heap_alloc _ _ _ (by omega)]
      exact HT5.at (by omega) (by omega)
    · refine InBet.above (lo := wx.heap.size) (by omega) (hl2.bet.keep fun b hb1 hb2 => ?_)
      rw [Below.heap_setCell _ _ _ _ (by show b ≠ c; omega), HG6.block b (by simp; omega) (by simp; omega)]
      exact Below.heap_alloc _ _ _ hb2
  · rcases HBm h with ⟨h1, h2, h3⟩ | ⟨h1, h2, h3⟩
    · obtain ⟨h4, h5⟩ := Hxb h1
      exact ⟨by omega, .inl (by rw [h3]; exact h5)⟩
    · obtain ⟨l1, _, _, hr1⟩ := Hx h1
      exact ⟨h2, .inr ⟨l1, pm, hr1, h3⟩⟩

/-- A call of level, as one step of a region that draws its order. -/
theorem step_call {ops : Array Oper} {o : Oper} {a : Act} {w : World} {K : Act → World → Prop} {Q : Exit → Act → World → Prop} {E : Prop} {args : Array Value} {rb : Nat} {s : ByteArray} {p code a0 : Nat}
    (hg : o.guard = none) (hrun : (execOp a.eval o).run Tryz.prog w = .ok (.enter 80 args) w) (hc : Calls Tryz.prog 80 args w fun e w' => LevelPost w rb s p code a0 e w')
    (hK : ∀ (k : Int) (nm : ByteArray) (A : Option Addr) (n cap : Nat) (w' : World) (p' c' a' : Nat), RdAt w' rb s p' c' a' → p ≤ p' → p' ≤ s.size → Touched w rb w' →
      (c' = 0 → code = 0 ∧ ∃ l : LvB, InAbove w' w.heap.size l (.agg #[.int .i64 k, .string nm, .slice A n cap]) ∧ l.nodes ≤ p' - p ∧ Reads s l p p') → (c' ≠ 0 → (code ≠ 0 ∧ c' = code ∧ a' = a0) ∨ (code = 0 ∧ c' = 1 ∧ Fails s p a')) → K (a.put o.dst (.agg #[.int .i64 k, .string nm, .slice A n cap])) w') :
    if Region.wanted o (yielded ops a.tmps) = true then Oper.wp Tryz.prog o a w K Q else E := by
  have hw : Region.wanted o (yielded ops a.tmps) = true := by simp [Region.wanted, hg]
  rw [if_pos hw]
  unfold Oper.wp
  rw [hrun]
  refine hc.mono ?_
  rintro e w' ⟨k, nm, A, n, cap, p', c', a', rfl, h1, h2, h3, h4, h5, h6⟩
  exact hK k nm A n cap w' p' c' a' h1 h2 h3 h4 h5 h6

end Go.Proofs.YtjlibnijecdgcaaGreatDoor

/- The document's reader: what text LevelSucc says of it. -/
/- The contract of level at a successor. -/
namespace Go.Proofs.YtjlibnijecdgcaaGreatDoor
open Go.RowKit

/-- What level leaves at 's': the result's block is filled last. -/
theorem fin1 {w wx w7 : World} {rb c p p0 p1 a a3 p3 c3 p4 c4 a4 g cap' hi1 n1 cap1 : Nat} {s : ByteArray} {k1 : Int} {nm1 : ByteArray} {A1 : Option Addr} {u0 u1 u2 : Value} (hrb : rb < w.heap.size) (hc : w.heap.size + 1 ≤ c) (hp : p + 2 ≤ p0) (hsg : SignAt s 40 p p1) (hwd : WordAt s ⟨#[115]⟩ p1 p0)
    (HO : wx.ownsRow (c + 1) 94 3 (.slice (some ⟨g, 0, none⟩) 1 cap') 1 [.int .i64 k1, .string nm1, .slice A1 n1 cap1]) (HT : Touched (w.alloc zlev) rb wx) (hh2 : hi1 ≤ g)
    (HI : c3 = 0 → ∃ l1 : LvB, InBet wx (c + 1) hi1 l1 (.agg #[.int .i64 k1, .string nm1, .slice A1 n1 cap1]) ∧ l1.nodes ≤ p3 - p0 ∧ Reads s l1 p0 p3) (HB : c3 ≠ 0 → c3 = 1 ∧ Fails s p0 a3)
    (HR7 : RdAt w7 rb s p4 c4 a4) (hp4 : p3 ≤ p4) (hp4' : p4 ≤ s.size) (hp3 : p0 ≤ p3) (HT7 : Touched wx rb w7) (HI7 : c4 = 0 → c3 = 0 ∧ p3 < p4 ∧ SignAt s 41 p3 p4) (HB7 : c4 ≠ 0 → (c3 ≠ 0 ∧ c4 = c3 ∧ a4 = a3) ∨ (c3 = 0 ∧ c4 = 1 ∧ a4 = runTo blankB s p3 ∧ (tok s p3).t ≠ ⟨#[41]⟩)) :
    LevelPost w rb s p 0 a (.returned (.agg #[.int .i64 1, .string ⟨#[]⟩, .slice (some ⟨g, 0, none⟩) 1 cap'])) (((w7.setCell ⟨w.heap.size, 0, none⟩ u0).setCell ⟨w.heap.size, 1, none⟩ u1).setCell ⟨w.heap.size, 2, none⟩ u2) := by
  have hlt := HO.lt g rfl
  have hkeep : ∀ b, c + 1 ≤ b → b < wx.heap.size → (((w7.setCell ⟨w.heap.size, 0, none⟩ u0).setCell ⟨w.heap.size, 1, none⟩ u1).setCell ⟨w.heap.size, 2, none⟩ u2).heap[b]? = wx.heap[b]? := fun b h1 h2 => by
    rw [Below.heap_setCell _ _ _ _ (by show b ≠ w.heap.size; omega), Below.heap_setCell _ _ _ _ (by show b ≠ w.heap.size; omega), Below.heap_setCell _ _ _ _ (by show b ≠ w.heap.size; omega)]
    exact HT7.at h2 (by omega)
  refine ⟨1, ⟨#[]⟩, some ⟨g, 0, none⟩, 1, cap', p4, c4, a4, rfl, ?_, by omega, hp4', ?_, fun h => ?_, fun h => .inr ⟨rfl, ?_⟩⟩
  · exact ((HR7.setOther (b := ⟨w.heap.size, 0, none⟩) (by show w.heap.size ≠ rb; omega) _).setOther (b := ⟨w.heap.size, 1, none⟩) (by show w.heap.size ≠ rb; omega) _).setOther (b := ⟨w.heap.size, 2, none⟩) (by show w.heap.size ≠ rb; omega) _
  · exact ((((Touched.alloc w rb zlev).trans (HT.trans HT7)).setNew (a := ⟨w.heap.size, 0, none⟩) (Nat.le_refl _) _).setNew (a := ⟨w.heap.size, 1, none⟩) (Nat.le_refl _) _).setNew (a := ⟨w.heap.size, 2, none⟩) (Nat.le_refl _) _
  · obtain ⟨h3, h4, h5⟩ := HI7 h
    obtain ⟨l1, hl, hn, hm⟩ := HI h3
    refine ⟨rfl, .succ l1, ⟨g, cap', _, rfl, by omega, (row_three HO (o := 0) rfl rfl rfl).of_block (hkeep g (by omega) hlt.2), InBet.above (by omega) (hl.keep fun b h1 h2 => hkeep b h1 (by omega))⟩, by simp only [Lv.nodes]; omega, ⟨p1, p0, p3, hsg, hwd, hm, h5⟩⟩
  · rcases HB7 h with ⟨h1, h2, h3⟩ | ⟨h1, h2, h3, h4⟩
    · obtain ⟨h4, h5⟩ := HB h1
      rw [h3]
      exact ⟨by omega, Fails.part (ls := []) hsg hwd (.inl ⟨rfl, rfl⟩) rfl (by decide) h5⟩
    · obtain ⟨l1, _, _, hr1⟩ := HI h1
      rw [h3]
      exact ⟨h2, Fails.close (ls := [l1]) hsg hwd (.inl ⟨rfl, rfl⟩) ⟨p3, hr1, rfl⟩ rfl h4⟩

set_option maxRecDepth 100000 in
set_option maxHeartbeats 4000000 in
theorem level_succ (N rb : Nat) (s : ByteArray) (p a : Nat) (w : World) (hs : s.size ≤ 200000) (hp : p ≤ s.size) (h : RdAt w rb s p 0 a) (ht : (tok s p).t = ⟨#[40]⟩)
    (h1 : (tok s ((tok s p).at_ + 1)).t = ⟨#[115]⟩) (hN : s.size - p < N + 1)
    (ih : ∀ (p code a : Nat) (w : World), s.size - p < N → p ≤ s.size → RdAt w rb s p code a → Calls Tryz.prog 80 #[.pointer (some ⟨rb, 0, none⟩)] w fun e w' => LevelPost w rb s p code a e w') :
    Calls Tryz.prog 80 #[.pointer (some ⟨rb, 0, none⟩)] w fun e w' => LevelPost w rb s p 0 a e w' := by
  have hal := h.alloc zlev
  have hrb := h.lt
  have HT := hide (token_calls s p rb _ hs hp hal.c0 hal.c1)
  obtain ⟨k1, k2, k3, k4⟩ := tok_facts hp
  have HN := hide (fun W => isName_calls (tok s p).t W (by omega))
  have HX := hide (next_calls rb s p a _ hs hp hal (by rw [ht]; intro e; cases e))
  rw [ht] at HT HN k2 HX
  rw [isNameB_open] at HN
  have k2' : (tok s p).at_ + 1 ≤ s.size := k2
  have HX2 : Hid (Calls Tryz.prog 57 #[.pointer (some ⟨rb, 0, none⟩)] (w.alloc zlev) fun e w' => e = .returned (.string ⟨#[40]⟩) ∧ RdAt w' rb s ((tok s p).at_ + 1) 0 a ∧ Touched (w.alloc zlev) rb w') := HX.out
  have c2 := h.c2
  obtain ⟨j1, j2, j3, j4⟩ := tok_facts k2'
  have HT2 := hide (fun W (hW : RdAt W rb s ((tok s p).at_ + 1) 0 a) => token_calls s ((tok s p).at_ + 1) rb W hs k2' hW.c0 hW.c1)
  have HX3 := hide (fun W (hW : RdAt W rb s ((tok s p).at_ + 1) 0 a) => next_calls rb s ((tok s p).at_ + 1) a W hs k2' hW (by rw [h1]; intro e; cases e))
  rw [h1] at HT2 HX3 j2
  have j2' : (tok s ((tok s p).at_ + 1)).at_ + 1 ≤ s.size := j2
  have HX4 : Hid (∀ W, RdAt W rb s ((tok s p).at_ + 1) 0 a → Calls Tryz.prog 57 #[.pointer (some ⟨rb, 0, none⟩)] W fun e w' => e = .returned (.string ⟨#[115]⟩) ∧ RdAt w' rb s ((tok s ((tok s p).at_ + 1)).at_ + 1) 0 a ∧ Touched W rb w') := HX3.out
  have HSg := hide (tok_open hp ht)
  have HWd : Hid (WordAt s ⟨#[115]⟩ ((tok s p).at_ + 1) ((tok s ((tok s p).at_ + 1)).at_ + 1)) := by
    have := tok_word k2' (by rw [h1]; decide)
    rw [h1] at this
    exact this
  clear h hal k2 k3 k4 ht HX h1 j2 j3 j4 HX3
  generalize (tok s ((tok s p).at_ + 1)).at_ = jj at *
  generalize (tok s ((tok s p).at_ + 1)).ok = o1 at *
  generalize (tok s p).at_ = k at *
  generalize (tok s p).ok = ok at *
  have HI := hide (fun p code a w h1 h2 h3 => ih p code a w h1 h2 h3)
  obtain ⟨i0, hi, hz0, hz1, hz2⟩ := info_parts Tryz.info94
  clear ih
  go_enter Tryz.func80, Tryz.ntmps80
  go_wp2_with (first
    | (go_at_call 33; refine HT.out.mono ?_; rintro e w' ⟨rfl, rfl⟩)
    | (go_at_call 79; refine (HN.out _).mono ?_; rintro e w' ⟨rfl, rfl⟩)
    | (go_at_call 57; refine HX2.out.mono ?_))
  rintro e w' ⟨rfl, hr, ht⟩
  have HR := hide hr
  have HTo := hide ht
  clear hr ht HX2 HT HN
  go_wp2_with (first
    | (go_at_call 33; refine (HT2.out _ HR.out).mono ?_; rintro e w2 ⟨rfl, rfl⟩)
    | (go_at_call 57; refine (HX4.out _ HR.out).mono ?_))
  rintro e w3 ⟨rfl, hr3, ht3⟩
  have HR3 := hide hr3
  have HT3 := hide (HTo.out.trans ht3)
  have hz3 := HT3.out.size
  simp at hz3
  have HV : Hid (LVar (w3.alloc (.cells #[.int .i64 1, .string ⟨#[]⟩, .slice none 0 0] 94)) w3.heap.size 1 (.slice none 0 0)) := by
    unfold Hid LVar; exact heap_alloc_new w3 _
  have HR4 := hide (hr3.alloc (.cells #[.int .i64 1, .string ⟨#[]⟩, .slice none 0 0] 94))
  have HT4 := hide (HT3.out.trans (Touched.alloc w3 rb (.cells #[.int .i64 1, .string ⟨#[]⟩, .slice none 0 0] 94)))
  clear hr3 ht3 HTo HR HT2 HX4 HR3 HT3
  go_upto_region 26 with fail
  generalize hW4 : w3.alloc (.cells #[.int .i64 1, .string ⟨#[]⟩, .slice none 0 0] 94) = W4 at *
  have hz4 : W4.heap.size = w3.heap.size + 1 := by rw [← hW4]; simp
  clear hW4
  have hc1 : w.heap.size + 1 ≤ w3.heap.size := hz3
  go_cut [] (fun wx => Built1 w rb s w3.heap.size 1 (jj + 1) wx)
  case first =>
    have q0 := HV.out.c0
    have q1 := HV.out.c1
    have q2 := HV.out.c2
    have q3 := HV.out.f 2
    go_region_law (first
      | (refine step_call (args := #[.pointer (some ⟨rb, 0, none⟩)]) (rb := rb) (s := s) (p := jj + 1) (code := 0) (a0 := a) rfl ?_ ?_ ?_
         · simp [go_sem]
         · exact HI.out _ _ a _ (by omega) (by omega) HR4.out
         intro k1 nm1 A1 n1 cap1 w5 p3 c3 a3 hr5 hp3 hp3' ht5 himp hbad
         replace ht5 := Touched.undrew ht5
         have hz5 : w3.heap.size + 1 ≤ w5.heap.size := Nat.le_trans (Nat.le_of_eq hz4.symm) ht5.size
         have hV5 : LVar w5 w3.heap.size 1 (.slice none 0 0) := HV.out.of_block (Touched.at ht5 (by show w3.heap.size < W4.heap.size; omega) (by omega))
         have v0 := hV5.c0
         have v1 := hV5.c1
         have v2 := hV5.c2
         have v3 := hV5.f 2
         have hlt5 : w3.heap.size < w5.heap.size := by omega
         have HV5 := hide hV5
         have HR5 := hide hr5
         have HT5 : Hid (Touched W4 rb w5) := ht5
         have HIm := hide himp
         have HBm : Hid (c3 ≠ 0 → c3 = 1 ∧ Fails s (jj + 1) a3) := fun h => (hbad h).elim (fun x => absurd rfl x.1) (fun x => x.2)
         clear hbad
         clear hr5 ht5 himp hV5)
      | (refine step_append_own rfl (.tmp 70) (.tmp 73) 40 rfl (w3.heap.size + 1) 94 i0 _ 3 48 Tryz.underlying40 hi hz0 hz1 hz2 rfl (by decide) (.slice none 0 0) 0 [] ?_ (World.ownsRow_nil _ _ _ _) ⟨w5.heap.size, 0, none⟩ 1 1 [.int .i64 k1, .string nm1, .slice A1 n1 cap1] ?_ rfl ?_ ?_ (by decide) (by unfold maxLen; omega) (by omega) ?_ ?_
         · rfl
         · rfl
         · exact three_new _ _ _ _ _
         · intro u hu; simp at hu; rcases hu with rfl | rfl | rfl <;> rfl
         · show w3.heap.size + 1 ≤ (w5.alloc _).heap.size; simp; omega
         intro v' w6 hown6 hgr6 hpl6
         obtain ⟨g, cap', rfl, hgb⟩ := shape_row hown6 (by omega)
         have hV6 : LVar w6 w3.heap.size 1 (.slice none 0 0) := (HV5.out.alloc (.cells #[.int .i64 k1, .string nm1, .slice A1 n1 cap1] 94)).of_block (hgr6.block w3.heap.size (by simp; omega) (by simp [Value.ownBlock]))
         have u2 := hV6.c2
         have u3 := hV6.f 2
         have HV6 := hide hV6
         have HO6 := hide hown6
         have HG6 := hide hgr6
         have HP6 := hide hpl6
         clear hown6 hgr6 hpl6 hV6))
    all_goals
      go_wp2_with fail
      go_meet
      case rel => exact built1_of hrb hc1 hz4 HT4.out HT5.out HR5.out hp3 hp3' (fun h => ⟨rfl, (HIm.out h).2⟩) HBm.out HV6.out HO6.out HG6.out HP6.out
  case rest =>
    obtain ⟨k1, nm1, A1, n1, cap1, p3, c3, a3, g, cap', hi1, hV, hO, hR, hp3, hp3', hT, hh1, hh2, hIm, hBm⟩ := hcut
    have HTk := hide (take_any rb s p3 c3 a3 wc hs hp3' hR)
    have hlt := hV.lt
    have HVx := hide hV
    have HOx := hide hO
    have HTx := hide hT
    have HIx := hide hIm
    have HBx := hide hBm
    clear hBm
    clear hV hO hR hT hIm HR4 HT4 HV HI hz4
    go_wp2_with (go_at_call 55; refine HTk.out.mono ?_)
    rintro e w7 ⟨p4, c4, a4, rfl, hr7, hp4, hp4', ht7, him7, hbad7⟩
    have hV7 := HVx.out.of_block (Touched.at ht7 hlt (by omega))
    have v0 := hV7.c0
    have v1 := hV7.c1
    have v2 := hV7.c2
    obtain ⟨d4, d5, d6, f4, hz7⟩ := zcells hrb (HTx.out.trans ht7)
    have HR7 := hide hr7
    have HT7 := hide ht7
    have HI7 := hide him7
    have HB7 := hide hbad7
    clear hbad7
    clear hr7 ht7 him7 hV7 HTk
    go_wp2_with fail
    refine bodyPost_ret (v := .agg #[.int .i64 1, .string ⟨#[]⟩, .slice (some ⟨g, 0, none⟩) 1 cap']) (by simp [results, Tryz.results80, go_sem, d4, d5, d6]) rfl ?_
    exact fin1 hrb hc1 (by omega) HSg.out HWd.out HOx.out HTx.out hh2 HIx.out HBx.out HR7.out hp4 hp4' hp3 HT7.out HI7.out HB7.out

end Go.Proofs.YtjlibnijecdgcaaGreatDoor
