/- The contract of the document's term at a bracket: what stands when its levels, its parts have come. -/
import Derived.Test.YtahcgpnjlmpkpaaGreatDoorDTermA
namespace Go.Proofs.YtahcgpnjlmpkpaaGreatDoor
open Go.RowKit

/-- The kind that a word has; 0: none. -/
def KindNo (q : ByteArray) (kd : Nat) : Prop := TKind q kd ∨ (kd = 0 ∧ ∀ q' kd', TKind q' kd' → q ≠ q')

theorem kindNo (q : ByteArray) : ∃ kd, KindNo q kd := by
  by_cases h : ∃ kd, TKind q kd
  · obtain ⟨kd, h⟩ := h; exact ⟨kd, .inl h⟩
  · exact ⟨0, .inr ⟨rfl, fun q' kd' h' e => h ⟨kd', by rw [e]; exact h'⟩⟩⟩

theorem dlitSame (l : List UInt8) (t : ByteArray) : (l == t.toList) = decide (t = ⟨l.toArray⟩) := by rw [BEq.comm]; exact sameLit t l
theorem dlitSame_neg {l : List UInt8} {t : ByteArray} (h : t ≠ ⟨l.toArray⟩) : (l == t.toList) = false := by rw [dlitSame]; simp [h]

set_option maxRecDepth 100000 in
set_option maxHeartbeats 8000000 in
theorem term_word (rb : Nat) (s : ByteArray) (p a wb wo wc : Nat) (w : World) (hs : s.size ≤ 20000) (hp : p ≤ s.size) (h : RdAt w rb s p 0 a) (hw : WordsAt w wb wo wc) (hr0 : rb ≠ 0) (hr1 : rb ≠ wb) (ht : (tok s p).t = ⟨#[40]⟩)
    (hno : ∀ q kd, TKind q kd → (tok s ((tok s p).at_ + 1)).t ≠ q) :
    Calls Tryz.prog 11 #[.pointer (some ⟨rb, 0, none⟩)] w fun e w' => TermPost w rb s p 0 a e w' := by
  have hal := h.alloc ztm
  have hrb := h.lt
  have HT := hide (token_calls s p rb _ hs hp hal.c0 hal.c1)
  obtain ⟨k1, k2, k3, k4⟩ := tok_facts hp
  have hok : (tok s p).ok = true := by
    cases e : (tok s p).ok
    · exact absurd (k4 e) (by rw [ht]; intro e; cases e)
    · rfl
  have HX := hide (next_calls rb s p a _ hs hp hal (by rw [ht]; intro e; cases e))
  rw [hok, ht] at HT
  rw [ht] at k2 HX
  have k2' : (tok s p).at_ + 1 ≤ s.size := k2
  have HX2 : Hid (Calls Tryz.prog 23 #[.pointer (some ⟨rb, 0, none⟩)] (w.alloc ztm) fun e w' => e = .returned (.string ⟨#[40]⟩) ∧ RdAt w' rb s ((tok s p).at_ + 1) 0 a ∧ Touched (w.alloc ztm) rb w') := HX.out
  have HK := hide k1
  have c2 := h.c2
  have HT2 := hide (fun W (hW : RdAt W rb s ((tok s p).at_ + 1) 0 a) => token_calls s ((tok s p).at_ + 1) rb W hs k2' hW.c0 hW.c1)
  have HFl : Hid (FT s 1 p (tok s ((tok s p).at_ + 1)).at_) := by unfold Hid; rw [tok_place s _ k2']; exact .inr ⟨_, tok_open hp ht, .inl ⟨hno, rfl⟩⟩
  have y1 := dlitSame_neg (hno _ 1 (.inl ⟨rfl, rfl⟩))
  have y2 := dlitSame_neg (hno _ 2 (.inr (.inl ⟨rfl, rfl⟩)))
  have y3 := dlitSame_neg (hno _ 3 (.inr (.inr (.inl ⟨rfl, rfl⟩))))
  have y4 := dlitSame_neg (hno _ 4 (.inr (.inr (.inr (.inl ⟨rfl, rfl⟩)))))
  have y5 := dlitSame_neg (hno _ 5 (.inr (.inr (.inr (.inr (.inl ⟨rfl, rfl⟩))))))
  have y6 := dlitSame_neg (hno _ 6 (.inr (.inr (.inr (.inr (.inr ⟨rfl, rfl⟩))))))
  have HWd := hide (hw.touched (Touched.alloc w rb ztm) hr0 hr1)
  clear h hal k1 k2 k3 k4 ht HX hno hw hok
  generalize (tok s ((tok s p).at_ + 1)).t = t1 at *
  generalize (tok s ((tok s p).at_ + 1)).at_ = j1 at *
  generalize (tok s ((tok s p).at_ + 1)).ok = o1 at *
  generalize (tok s p).at_ = k at *
  go_enter Tryz.func11, Tryz.ntmps11
  go_wp2_with (first
    | (go_at_call 21; refine HT.out.mono ?_; rintro e w' ⟨rfl, rfl⟩)
    | (go_at_call 23; refine HX2.out.mono ?_))
  rintro e w1 ⟨rfl, hr, ht⟩
  have HR := hide hr
  have HTo := hide ht
  have HF := hide (fun b => fail_zero rb s (k + 1) a b w1 hr)
  obtain ⟨v0, v1, v2, v3, v4, v5, v6⟩ := HWd.out.touched ht hr0 hr1
  clear hr ht
  go_upto_block 0 with (go_at_call 21; refine (HT2.out _ HR.out).mono ?_; rintro e w2 ⟨rfl, rfl⟩)
  go_wp2_with fail
  refine wp_loop_rounds 7 ?_
  iterate 6
    rw [rounds_succ]
    go_wp2_with fail
  rw [rounds_succ]
  go_wp2_with (go_at_call 22; refine (HF.out _).mono ?_)
  rintro e w3 ⟨rfl, hr3, ht3⟩
  have HT3 := hide (HTo.out.trans ht3)
  obtain ⟨d0, d1, d2, d3, d4, d5, d6⟩ := tzcells hrb HT3.out
  have HR3 := hide hr3
  clear hr3 ht3
  go_wp2_with fail
  refine bodyPost_ret (v := .agg #[.int .i64 0, .int .i64 0, .string ⟨#[]⟩, .slice none 0 0, .slice none 0 0]) (by simp [results, Tryz.results11, go_sem, d0, d1, d2, d3, d4]) rfl ?_
  have hf := filled5 hrb HR3.out ((Touched.alloc w rb ztm).trans HT3.out) (.int .i64 0) (.int .i64 0) (.string ⟨#[]⟩) (.slice none 0 0) (.slice none 0 0)
  exact ⟨0, 0, ⟨#[]⟩, none, 0, 0, none, 0, 0, k + 1, 1, j1, rfl, hf.1, by have := HK.out; omega, k2', hf.2, fun h => by omega, fun _ => .inr ⟨rfl, rfl, 1, HFl.out⟩⟩

/-- The levels have come: the variable that is built up, the reader, what was read or where it failed. (c: the variable's block; p2: where the name and the levels begin.) -/
def LvDone (w : World) (rb : Nat) (s : ByteArray) (p c kd p2 : Nat) (wx : World) : Prop :=
  ∃ (nm : ByteArray) (A : Option Addr) (la lc pk ck ak : Nat), TVar 30 wx c kd 0 nm (.slice A la lc) (.slice none 0 0) ∧ RdAt wx rb s pk ck ak ∧ p2 ≤ pk ∧ pk ≤ s.size ∧ Touched (w.alloc ztm) rb wx ∧
    (ck = 0 → ∃ ls p3, NamePart s kd nm p2 p3 ∧ LvPart s kd ls p3 pk ∧ la = ls.length ∧ LvsIn wx (fun b => c + 1 ≤ b ∧ b < wx.heap.size) A ls) ∧ (ck ≠ 0 → ck = 1 ∧ ∃ d, FT s d p ak)

/-- The parts are coming. (n0: from where their row lies; wc: the world when the levels had come.) -/
def Parting (w wc : World) (rb : Nat) (s : ByteArray) (p c kd p4 n0 : Nat) (nm : ByteArray) (rv : Value) (k : Nat) (c0 : Nat) (wr : World) : Prop :=
  ∃ (rv' : Value) (xs : List Value) (pk ck ak : Nat), TVar 30 wr c kd 0 nm rv rv' ∧ wr.ownsRow n0 30 5 rv' xs.length (flat xs) ∧ xs.length = k ∧ RdAt wr rb s pk ck ak ∧ p4 ≤ pk ∧ pk ≤ s.size ∧ Touched (w.alloc ztm) rb wr ∧ n0 ≤ wr.heap.size ∧ (∀ b, c + 1 ≤ b → b < n0 → wr.heap[b]? = wc.heap[b]?) ∧
    (ck = 0 → c0 = 0 ∧ ∃ d ts, TRow wr 30 d n0 ts rv' xs ∧ Seq (RT s d) ts p4 pk) ∧ (ck ≠ 0 → ck = 1 ∧ ∃ d, FT s d p ak)

theorem Tryz.info68' : (Tryz.prog.info? 68).map (fun i => (i.zero, i.size, i.bytes)) = some (some (.agg #[.int .i64 0, .string ⟨#[]⟩, .slice none 0 0]), 3, 48) := by kernel_rfl
theorem Tryz.info30' : (Tryz.prog.info? 30).map (fun i => (i.zero, i.size, i.bytes)) = some (some (.agg #[.int .i64 0, .int .i64 0, .string ⟨#[]⟩, .slice none 0 0, .slice none 0 0]), 5, 80) := by kernel_rfl

theorem infoParts {P : Program} {T : TypeId} {z : Value} {n b : Nat} (h : (P.info? T).map (fun i => (i.zero, i.size, i.bytes)) = some (some z, n, b)) : ∃ i, P.info? T = some i ∧ i.zero = some z ∧ i.size = n ∧ i.bytes = b := by
  cases hi : P.info? T with
  | none => rw [hi] at h; cases h
  | some i => rw [hi] at h; simp at h; exact ⟨i, rfl, h.1, h.2.1, h.2.2⟩

/-- A call of term, as one step of a region that draws its order. -/
theorem step_term {ops : Array Oper} {o : Oper} {a : Act} {w : World} {K : Act → World → Prop} {Q : Exit → Act → World → Prop} {E : Prop} {args : Array Value} {rb : Nat} {s : ByteArray} {p code a0 : Nat}
    (hg : o.guard = none) (hrun : (execOp a.eval o).run Tryz.prog w = .ok (.enter 11 args) w) (hc : Calls Tryz.prog 11 args w fun e w' => TermPost w rb s p code a0 e w')
    (hK : ∀ (k n : Int) (nm : ByteArray) (A : Option Addr) (la lc : Nat) (A' : Option Addr) (ta tc : Nat) (w' : World) (p' c' a' : Nat), RdAt w' rb s p' c' a' → p ≤ p' → p' ≤ s.size → Touched w rb w' →
      (c' = 0 → code = 0 ∧ p < p' ∧ ∃ (d : Nat) (t : Tm), InTm w' (fun b => w.heap.size ≤ b) d t (.agg #[.int .i64 k, .int .i64 n, .string nm, .slice A la lc, .slice A' ta tc]) ∧ RT s d t p p') →
      (c' ≠ 0 → (code ≠ 0 ∧ c' = code ∧ a' = a0) ∨ (code = 0 ∧ c' = 1 ∧ ∃ d, FT s d p a')) → K (a.put o.dst (.agg #[.int .i64 k, .int .i64 n, .string nm, .slice A la lc, .slice A' ta tc])) w') :
    if Region.wanted o (yielded ops a.tmps) = true then Oper.wp Tryz.prog o a w K Q else E := by
  have hw : Region.wanted o (yielded ops a.tmps) = true := by simp [Region.wanted, hg]
  rw [if_pos hw]
  unfold Oper.wp
  rw [hrun]
  refine hc.mono ?_
  rintro e w' ⟨k, n, nm, A, la, lc, A', ta, tc, p', c', a', rfl, h1, h2, h3, h4, h5, h6⟩
  exact hK k n nm A la lc A' ta tc w' p' c' a' h1 h2 h3 h4 h5 h6

theorem shape5 {w : World} {base T : Nat} {v : Value} {n : Nat} {xs : List Value} (h : w.ownsRow base T 5 v n xs) (hn : 0 < n) : ∃ g cap, v = .slice (some ⟨g, 0, none⟩) n cap ∧ base ≤ g := by
  rcases h.2 with ⟨_, h0⟩ | ⟨g, cap, _, e, hb, _⟩
  · omega
  · exact ⟨g, cap, e, hb⟩

end Go.Proofs.YtahcgpnjlmpkpaaGreatDoor
