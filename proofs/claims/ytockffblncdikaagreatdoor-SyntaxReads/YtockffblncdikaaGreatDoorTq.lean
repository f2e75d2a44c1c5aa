/- The contract of tactic. -/
import Derived.Test.YtockffblncdikaaGreatDoorCh
import Derived.Deep.DeepCutAuto
import Derived.Deep.CutBlock
namespace Go.Proofs.YtockffblncdikaaGreatDoor
open Go.RowKit
set_option maxRecDepth 100000
set_option maxHeartbeats 16000000
theorem shN_cases (k : Nat) (h1 : 1 <= k) (hk : k < 14) : (k = 9 /\ shN k = (true, false, false, true)) \/ (k = 10 /\ shN k = (false, false, true, false)) \/ (k ≠ 9 /\ k ≠ 10 /\ ∃ b1 b3, shN k = (false, b1, false, b3)) \/ (k ≠ 9 /\ k ≠ 10 /\ shN k = (true, false, false, false)) := by
 have : k = 1 \/ k = 2 \/ k = 3 \/ k = 4 \/ k = 5 \/ k = 6 \/ k = 7 \/ k = 8 \/ k = 9 \/ k = 10 \/ k = 11 \/ k = 12 \/ k = 13 := by omega
 rcases this with rfl | rfl | rfl | rfl | rfl | rfl | rfl | rfl | rfl | rfl | rfl | rfl | rfl <;> first | exact .inl ⟨rfl, rfl⟩ | exact .inr (.inl ⟨rfl, rfl⟩) | exact .inr (.inr (.inl ⟨by decide, by decide, _, _, rfl⟩)) | exact .inr (.inr (.inr ⟨by decide, by decide, rfl⟩))
theorem wd_few : ∀ k, k < 14 -> (tacWs.getD k ⟨#[]⟩).size <= 100 := by decide +kernel
theorem TxIn.here2 {w : World} {n1 : Nat} {A : Option Addr} {ts : List ByteArray} (h : TxIn w n1 A ts) : TxIn w w.heap.size A ts := fun i hi => by
 obtain ⟨b, e, _, h2⟩ := h i hi; exact ⟨b, e, World.block_lt_of_cell? _ _ h2, h2⟩
theorem tok_toks : ∀ ts : List ByteArray, (ts.map Pc.tok).flatMap Pc.toks = ts
 | [] => rfl
 | t :: ts => by
   have := tok_toks ts; show t :: (ts.map Pc.tok).flatMap Pc.toks = t :: ts; rw [this]
section
variable {n0 pb : Nat} {wb : Wk} {tg : Bool} {l : List UInt8} {B : Prop} {w0 : World} {tk : List ByteArray}
theorem Wr.words {W0 : World} (h : Wr B n0 w0 pb wb l tg tk W0) : ∃ tb c, ∀ W, Below W0.heap.size W0 W -> W.cell? ⟨pb, 9, none⟩ = some (.slice (some ⟨tb, 0, none⟩) 14 c) /\ ∀ k, k < 14 -> W.cell? ⟨tb, k, none⟩ = some (.string (tacWs.getD k ⟨#[]⟩)) := by
 obtain ⟨l', tg', ⟨pp, bv, tv, mb, tac, hX⟩, _⟩ := h; obtain ⟨tb, c, e, h5, h6, h7, _, _, h9, _⟩ := hX.rest.tac; have c9 := hX.c.2.2.2.2.2.2.2.2.2.1; rw [e] at c9
 exact ⟨tb, c, fun W hW => ⟨cell_later hW c9, fun k hk => cell_later hW (h9 k hk)⟩⟩
theorem Wr.keep {W : World} {wbb : Bool} {k k' : Nat} {o : Option (Array Value)} {cs : Array Value} (h : Wr B n0 w0 pb ⟨wbb, k, o⟩ l tg tk W) (hb : W.heap[k']? = some (.cells cs 148 (0, 0))) : Wr B n0 w0 pb ⟨wbb, k', some cs⟩ l tg tk W := by
 obtain ⟨l', tg', ⟨pp, bv, tv, mb, tac, hX⟩, hr⟩ := h; obtain ⟨tb, c, e, h5, h6, h7, h8, h8', h9, _⟩ := hX.rest.tac
 exact ⟨l', tg', ⟨pp, bv, tv, mb, tac, hX.blk, hX.few, hX.rest.lo, hX.rest.stk, hX.rest.ok, hX.rest.map, hX.rest.buf, ⟨tb, c, e, h5, h6, h7, h8, h8', h9, fun cs' e => by injection e with e; subst e; exact hb⟩⟩, hr⟩
theorem Wr.drop {W : World} {wbb : Bool} {k k' : Nat} {o : Option (Array Value)} (h : Wr B n0 w0 pb ⟨wbb, k, o⟩ l tg tk W) : Wr B n0 w0 pb ⟨wbb, k', none⟩ l tg tk W := by
 obtain ⟨l', tg', ⟨pp, bv, tv, mb, tac, hX⟩, hr⟩ := h; obtain ⟨tb, c, e, h5, h6, h7, h8, h8', h9, _⟩ := hX.rest.tac
 exact ⟨l', tg', ⟨pp, bv, tv, mb, tac, hX.blk, hX.few, hX.rest.lo, hX.rest.stk, hX.rest.ok, hX.rest.map, hX.rest.buf, ⟨tb, c, e, h5, h6, h7, h8, h8', h9, fun cs' e => by cases e⟩⟩, hr⟩
theorem Wr.kept {W : World} {wbb : Bool} {k : Nat} {cs : Array Value} (h : Wr B n0 w0 pb ⟨wbb, k, some cs⟩ l tg tk W) : W.heap[k]? = some (.cells cs 148 (0, 0)) := by
 obtain ⟨l', tg', ⟨pp, bv, tv, mb, tac, hX⟩, hr⟩ := h; exact hX.rest.tac.kp cs rfl
theorem ptactic_calls {wbb : Bool} {kk0 : Nat} (tf : Ex -> List ByteArray) (t : Tc) {b o : Nat} (h8 : 8 < n0) (hT : Tb w0) (w : World) (h : Wr B n0 w0 pb ⟨wbb, kk0, none⟩ l tg tk w) (hin : TacAt w0 n0 t b o) (hk1 : 1 <= t.kd) (hk2 : t.kd < 14) (hnum : t.num < 100) (hok : ∀ e ∈ t.xs, Sp e (tf e) /\ ExFit 1000000 e) (hnm : ∀ q ∈ t.nms, q.size <= 100) (hnl : t.nms.length <= 1000000) (hxl : t.xs.length <= 1000000)
 (hB : B \/ ((∀ e ∈ t.xs, xw e + 10 <= 33554432) /\ (l ++ tokT tg (tk ++ tacK tf t)).length < 8388608)) :
 Calls Tryz.prog 79 #[.pointer (some ⟨pb, 0, none⟩), .pointer (some ⟨b, o, none⟩)] w fun e w' => PrR B n0 w0 pb ⟨wbb, kk0, none⟩ l tg (tk ++ tacK tf t) e w' := by
 obtain ⟨A, c, A', c', hb0, c0, c2, c3, c4, hts, hxs⟩ := hin; obtain ⟨s0, s1, s2, s3⟩ := sh_cells hT.ts t.kd hk2; have hlt := h.lt; have hnw : n0 <= w.heap.size := by omega
 obtain ⟨tb, tc, hwd⟩ := h.words; obtain ⟨wd, hwd0⟩ : ∃ wd, wd = tacWs.getD t.kd ⟨#[]⟩ := ⟨_, rfl⟩
 have hwdk : wd = tacWords.getD (t.kd - 1) ⟨#[]⟩ := by
  rw [hwd0]; obtain ⟨k, hk⟩ : ∃ k, t.kd = k + 1 := ⟨t.kd - 1, by omega⟩; rw [hk]
  rfl
 have hwf : wd.size <= 100 := by rw [hwd0]; exact wd_few _ hk2
 obtain ⟨pcs, hpcs⟩ : ∃ pcs, pcs = t.nms.map Pc.tok := ⟨_, rfl⟩; obtain ⟨t1, ht1⟩ : ∃ t1, t1 = tk ++ [wd] := ⟨_, rfl⟩; obtain ⟨t2, ht2⟩ : ∃ t2, t2 = t1 ++ t.nms := ⟨_, rfl⟩
 obtain ⟨t3, ht3⟩ : ∃ t3, t3 = t2 ++ (if t.kd = 9 then [sColon] else []) := ⟨_, rfl⟩; obtain ⟨t4, ht4⟩ : ∃ t4, t4 = t3 ++ (if t.kd = 10 then [numB t.num] else []) := ⟨_, rfl⟩
 have e4 : tk ++ tacK tf t = t4 ++ t.xs.flatMap tf := by rw [ht4, ht3, ht2, ht1, hwdk]; unfold tacK; simp
 have e3 : tk ++ tacK tf t = t3 ++ ((if t.kd = 10 then [numB t.num] else []) ++ t.xs.flatMap tf) := by rw [e4, ht4]; simp
 have e2 : tk ++ tacK tf t = t2 ++ ((if t.kd = 9 then [sColon] else []) ++ ((if t.kd = 10 then [numB t.num] else []) ++ t.xs.flatMap tf)) := by rw [e3, ht3]; simp
 have e1 : tk ++ tacK tf t = t1 ++ (t.nms ++ ((if t.kd = 9 then [sColon] else []) ++ ((if t.kd = 10 then [numB t.num] else []) ++ t.xs.flatMap tf))) := by rw [e2, ht2]; simp
 have HR : ∀ a r, tk ++ tacK tf t = a ++ r -> B \/ (l ++ tokT tg a).length < 8388608 := fun a r e => hB.imp id fun ⟨_, h2⟩ => by rw [e, tokT_room] at h2; omega
 have hpl : pcs.length = t.nms.length := by rw [hpcs]; simp
 have KP1 : Hid (∀ wk W0 W, Wr B n0 w0 pb wk l tg tk W0 -> Below W0.heap.size W0 W -> Calls Tryz.prog 49 #[.pointer (some ⟨pb, 0, none⟩), .slice (some ⟨W.heap.size, 0, none⟩) 1 1] (W.alloc (.cells #[.string wd, .pointer none, .pointer none, .int .i64 0, .bool false, .int .i64 0] 106)) fun e w' => PrR B n0 w0 pb wk l tg t1 e w') := hide fun wk W0 W hW0 hW => by
  have := hW0.made (W := W) (c := 1) [Pc.tok wd] #[.string wd, .pointer none, .pointer none, .int .i64 0, .bool false, .int .i64 0] rfl h8 hT (oks_cons (show wd.size <= 100 from hwf) oks_nil) (by simp) hW ((HR _ _ e1).imp id fun h => ⟨show 1 + 0 <= 33554432 by decide, by rw [ht1] at h; exact h⟩)
  rw [ht1]; exact this
 have KWs : Hid (∀ W, Below n0 w0 W -> Calls Tryz.prog 52 #[.slice A t.nms.length c] W fun e w' => ∃ A k, e = .returned (.slice A pcs.length k) /\ Hid (PsIn w' W.heap.size A pcs /\ Below W.heap.size W w')) := hide fun W hW => by
  refine (words_calls t.nms A c W hnl (hts.later hW).here2).mono ?_; rintro e w' ⟨v, rfl, hr, hb⟩; obtain ⟨A, k, rfl, hp⟩ := hr.open; rw [<- hpcs] at hp ⊢; exact ⟨A, k, rfl, hide ⟨hp, hb⟩⟩
 have hpt : pcs.flatMap Pc.toks = t.nms := by rw [hpcs, tok_toks]
 have hpo : ∀ p ∈ pcs, p.Ok w0 n0 := by rw [hpcs]; exact tok_oks hnm
 have hpw : wtS pcs <= 33554432 := by
  have h2 : wtS pcs = t.nms.length := by rw [hpcs, tok_wt]
  omega
 have KP2 : Hid (∀ wk W0 W n1 A k, Wr B n0 w0 pb wk l tg t1 W0 -> W0.heap.size <= n1 -> PsIn W n1 A pcs -> Below W0.heap.size W0 W -> Calls Tryz.prog 49 #[.pointer (some ⟨pb, 0, none⟩), .slice A pcs.length k] W fun e w' => PrR B n0 w0 pb wk l tg t2 e w') := hide fun wk W0 W n1 A k hW0 hn hp hb => by
  have := hW0.print pcs (c := k) h8 hT hn hp hpo (by omega) hb ((HR _ _ e2).imp id fun h => ⟨hpw, by rw [ht2, <- hpt] at h; exact h⟩); rw [hpt, <- ht2] at this; exact this
 have KP3 : Hid (t.kd = 9 -> ∀ wk W0 W, Wr B n0 w0 pb wk l tg t2 W0 -> Below W0.heap.size W0 W -> Calls Tryz.prog 49 #[.pointer (some ⟨pb, 0, none⟩), .slice (some ⟨W.heap.size, 0, none⟩) 1 1] (W.alloc (.cells #[.string sColon, .pointer none, .pointer none, .int .i64 0, .bool false, .int .i64 0] 106)) fun e w' => PrR B n0 w0 pb wk l tg t3 e w') := hide fun hk wk W0 W hW0 hW => by
  rw [if_pos hk] at ht3
  have := hW0.made (W := W) (c := 1) [Pc.tok sColon] #[.string sColon, .pointer none, .pointer none, .int .i64 0, .bool false, .int .i64 0] rfl h8 hT (oks_cons (show sColon.size <= 100 by decide) oks_nil) (by simp) hW ((HR _ _ e3).imp id fun h => ⟨show 1 + 0 <= 33554432 by decide, by rw [ht3] at h; exact h⟩)
  rw [ht3]; exact this
 have KN3 : Hid (t.kd ≠ 9 -> t3 = t2) := hide fun hk => by rw [ht3, if_neg hk, List.append_nil]
 have KI : Hid (∀ W, Below n0 w0 W -> Calls Tryz.prog 101 #[.int .i64 (t.num : Nat)] W fun e w' => e = .returned (.string (numB t.num)) /\ Below W.heap.size W w') := hide fun W hW => itoa_calls t.num (by omega) W (hT.low hW h8).pw
 have KP4 : Hid (t.kd = 10 -> ∀ wk W0 W, Wr B n0 w0 pb wk l tg t3 W0 -> Below W0.heap.size W0 W -> Calls Tryz.prog 49 #[.pointer (some ⟨pb, 0, none⟩), .slice (some ⟨W.heap.size, 0, none⟩) 1 1] (W.alloc (.cells #[.string (numB t.num), .pointer none, .pointer none, .int .i64 0, .bool false, .int .i64 0] 106)) fun e w' => PrR B n0 w0 pb wk l tg t4 e w') := hide fun hk wk W0 W hW0 hW => by
  rw [if_pos hk] at ht4
  have := hW0.made (W := W) (c := 1) [Pc.tok (numB t.num)] #[.string (numB t.num), .pointer none, .pointer none, .int .i64 0, .bool false, .int .i64 0] rfl h8 hT (oks_cons (show (numB t.num).size <= 100 from num_few _ hnum) oks_nil) (by simp) hW ((HR _ _ e4).imp id fun h => ⟨show 1 + 0 <= 33554432 by decide, by rw [ht4] at h; exact h⟩)
  rw [ht4]; exact this
 have KN4 : Hid (t.kd ≠ 10 -> t4 = t3) := hide fun hk => by rw [ht4, if_neg hk, List.append_nil]
 have KX : Hid (∀ j (hj : j < t.xs.length), ∃ g, A' = some ⟨g, 0, none⟩ /\ ∀ wk W0 W, Wr B n0 w0 pb wk l tg (t4 ++ (t.xs.take j).flatMap tf) W0 -> Below W0.heap.size W0 W -> Calls Tryz.prog 49 #[.pointer (some ⟨pb, 0, none⟩), .slice (some ⟨W.heap.size, 0, none⟩) 1 1] (W.alloc (.cells #[.string ⟨#[]⟩, .pointer (some ⟨g, j * 9, none⟩), .pointer none, .int .i64 0, .bool false, .int .i64 0] 106)) fun e w' => PrR B n0 w0 pb wk l tg (t4 ++ (t.xs.take (j + 1)).flatMap tf) e w') := hide fun j hj => by
  obtain ⟨g, eg, hX⟩ := hxs j hj; have hbo := hok _ (List.getElem_mem hj); have hbw : B \/ xw t.xs[j] + 10 <= 33554432 := hB.imp id fun h => h.1 _ (List.getElem_mem hj)
  have hks : (t.xs.take (j + 1)).flatMap tf = (t.xs.take j).flatMap tf ++ tf t.xs[j] := by rw [List.take_succ_eq_append_getElem hj, List.flatMap_append]; simp
  have hsp : t.xs.flatMap tf = (t.xs.take (j + 1)).flatMap tf ++ (t.xs.drop (j + 1)).flatMap tf := by rw [<- List.flatMap_append, List.take_append_drop]
  generalize t.xs[j] = x at *; refine ⟨g, eg, fun wk W0 W hW0 hW => ?_⟩; have htk : [Pc.ex x (tf x) g (j * 9) 0].flatMap Pc.toks = tf x := by simp [Pc.toks, brk]
  have hrm : B \/ (wtS [Pc.ex x (tf x) g (j * 9) 0] <= 33554432 /\ (l ++ tokT tg ((t4 ++ (t.xs.take j).flatMap tf) ++ tf x)).length < 8388608) := by
   rcases hbw with hbw | hbw
   . exact .inl hbw
   . refine (HR ((t4 ++ (t.xs.take j).flatMap tf) ++ tf x) ((t.xs.drop (j + 1)).flatMap tf) (by rw [e4, hsp, hks]; simp)).imp id fun h => ⟨?_, h⟩
     show (xw x + 3 * 0) + 0 <= _; omega
  have := hW0.made (W := W) (c := 1) [Pc.ex x (tf x) g (j * 9) 0] #[.string ⟨#[]⟩, .pointer (some ⟨g, j * 9, none⟩), .pointer none, .int .i64 0, .bool false, .int .i64 0] rfl h8 hT (oks_cons ⟨hX, hbo.1, by omega, hbo.2⟩ oks_nil) (by simp) hW (by rw [htk]; exact hrm)
  rw [htk, List.append_assoc, <- hks] at this; exact this
 have HC : Hid (∀ W, Below n0 w0 W -> W.cell? ⟨b, o, none⟩ = some (.int .i64 (t.kd : Nat)) /\ W.cell? ⟨b, o + 2, none⟩ = some (.slice A t.nms.length c) /\ W.cell? ⟨b, o + 3, none⟩ = some (.int .i64 (t.num : Nat)) /\ W.cell? ⟨b, o + 4, none⟩ = some (.slice A' t.xs.length c')) := hide fun W hW => by
  have hk : ∀ q, W.cell? ⟨b, q, none⟩ = w0.cell? ⟨b, q, none⟩ := fun q => World.cell?_of_block (hW.block b hb0)
  exact ⟨(hk _).trans c0, (hk _).trans c2, (hk _).trans c3, (hk _).trans c4⟩
 have hlow := h.low; have hk3 : ∀ q, w.cell? ⟨3, q, none⟩ = w0.cell? ⟨3, q, none⟩ := fun q => World.cell?_of_block (hlow.block 3 (by omega))
 replace s0 := (hk3 _).trans s0; replace s1 := (hk3 _).trans s1; replace s2 := (hk3 _).trans s2; replace s3 := (hk3 _).trans s3
 have HLow : Hid (∀ wk tk W, Wr B n0 w0 pb wk l tg tk W -> Below n0 w0 W /\ n0 <= W.heap.size) := hide fun wk tk W hW => ⟨hW.low, by have := hW.lt; omega⟩
 have KWc := kwc_word
 have KE : Hid (∀ (g k : Nat) (W : World), Calls Tryz.prog 54 #[.pointer (some ⟨g, k, none⟩), .int .i64 0] W fun e' w' => ∃ v, e' = .returned (.agg v) /\ (v = #[.string ⟨#[]⟩, .pointer (some ⟨g, k, none⟩), .pointer none, .int .i64 0, .bool false, .int .i64 0] /\ Below W.heap.size W w')) := hide fun g k W => (exprIn_calls (holeX 0) [] g k 0 W).mono fun e w' ⟨h1, h2⟩ => ⟨_, h1, rfl, h2⟩
 have HX0 : Hid (t4 ++ (t.xs.take 0).flatMap tf = t4) := hide (by simp); have HXn : Hid (t4 ++ (t.xs.take t.xs.length).flatMap tf = tk ++ tacK tf t) := hide (by rw [List.take_length, e4])
 obtain ⟨fin, hfin⟩ : ∃ fin, fin = tk ++ tacK tf t := ⟨_, rfl⟩; rw [<- hfin] at HXn ⊢; obtain ⟨c0, c2, c3, c4⟩ := HC.out w hlow; have HBw := hide hlow
 have HWd : Hid (∀ W, Below w.heap.size w W -> W.cell? ⟨pb, 9, none⟩ = some (.slice (some ⟨tb, 0, none⟩) 14 tc) /\ W.cell? ⟨tb, t.kd, none⟩ = some (.string wd)) := hide fun W hW => ⟨(hwd W hW).1, by rw [hwd0]; exact (hwd W hW).2 _ hk2⟩
 have hcs := hide (shN_cases t.kd hk1 hk2); have H0 := hide h; clear h hok hB HR hT hpt hpo hpw e1 e2 e3 e4 ht1 ht2 ht3 ht4 hpcs hts hxs hfin hwd0 hwdk hwf hwd hnm hb0 hk3 hpl hlow c2 c3 c4 hnum hnl hlt
 obtain ⟨kd, hkd⟩ : ∃ kd, kd = t.kd := ⟨_, rfl⟩; obtain ⟨nnm, hnnm⟩ : ∃ nnm, nnm = t.nms.length := ⟨_, rfl⟩; obtain ⟨num, hnum⟩ : ∃ num, num = t.num := ⟨_, rfl⟩; obtain ⟨nxs, hnxs⟩ : ∃ nxs, nxs = t.xs.length := ⟨_, rfl⟩
 rw [<- hkd] at hk1 hk2 KP3 KN3 KP4 KN4 HWd s0 s1 s2 s3 c0 hcs; rw [<- hnnm] at KWs; rw [<- hnum] at KI KP4; rw [<- hkd, <- hnnm, <- hnum, <- hnxs] at HC; rw [<- hnxs] at HXn hxl; have HNx := hide hnxs
 clear hkd hnnm hnum hnxs; have hk5 : decide ((kd : Int) < 1) = false := by simp; omega
 have hk6 : decide ((13 : Int) < (kd : Int)) = false := by simp; omega
 have hk7 : ¬ (kd : Int) < 1 := by omega
 have hk8 : ¬ (13 : Int) < (kd : Int) := by omega
 have hkk14 : (kd : Int) < 14 := by omega
 rcases hcs.out with ⟨hk, hsh⟩ | ⟨hk, hsh⟩ | ⟨hk, hk', b1, b3, hsh⟩ | ⟨hk, hk', hsh⟩
 all_goals
  rw [hsh] at s0 s1 s2 s3
  simp only at s0 s1 s2 s3
  clear hsh hcs
 focus
  have HKd := hide hk; clear KN3; clear hk; have HBa : Hid (Below w.heap.size w (w.alloc (.cells #[.bool true, .bool false, .bool false, .bool true] 148))) := hide ((Below.refl _ _).alloc (Nat.le_refl _) _)
  have hsb := heap_alloc_new w (.cells #[.bool true, .bool false, .bool false, .bool true] 148)
  obtain ⟨wk, hwk⟩ : ∃ wk : Wk, wk = ⟨wbb, w.heap.size, some #[.bool true, .bool false, .bool false, .bool true]⟩ := ⟨_, rfl⟩
  have HDr : Hid (∀ tk W, Wr B n0 w0 pb wk l tg tk W -> Wr B n0 w0 pb ⟨wbb, kk0, none⟩ l tg tk W) := hide fun tk W h => by subst hwk; exact h.drop
  have HKe : Hid (∀ tk W, Wr B n0 w0 pb wk l tg tk W -> W.heap[w.heap.size]? = some (.cells #[.bool true, .bool false, .bool false, .bool true] 148 (0, 0))) := hide fun tk W h => by subst hwk; exact h.kept
  go_enter Tryz.func79, Tryz.ntmps79
  go_upto_region 2 with fail
  obtain ⟨W2, hW2⟩ : ∃ W2, W2 = w.alloc (.cells #[.bool true, .bool false, .bool false, .bool true] 148) := ⟨_, rfl⟩; have hsz2 : w.heap.size < W2.heap.size := by rw [hW2]; simp
  rw [<- hW2] at HBa hsb ⊢; have HW0 : Hid (Wr B n0 w0 pb wk l tg tk W2) := hide (by rw [hwk]; exact (H0.out.later HBa.out).keep hsb)
  have HG : Hid (∀ W, Below W2.heap.size W2 W -> W.cell? ⟨pb, 9, none⟩ = some (.slice (some ⟨tb, 0, none⟩) 14 tc) /\ W.cell? ⟨b, o, none⟩ = some (.int .i64 (kd : Nat)) /\ W.cell? ⟨tb, kd, none⟩ = some (.string wd)) := hide fun W hW => by
   have h1 := HBa.out.trans (hW.mono (Nat.le_of_lt hsz2)); obtain ⟨h2, h3⟩ := HWd.out W h1; exact ⟨h2, (HC.out W (HBw.out.trans (h1.mono hnw))).1, h3⟩
  clear c0 s0 s1 s2 s3 hW2 HWd hsb HBa H0 hwk
  go_cut [] (fun wx => Hid (Wr B n0 w0 pb wk l tg t1 wx))
  case first =>
   have hb : Hid (Below W2.heap.size W2 W2.drew) := hide (Below.refl _ _).drew; obtain ⟨S1, S2, S3⟩ := HG.out _ hb.out
   go_region_law (first
    | (first | (refine step_cop (f := 50) rfl ?_ (KWc.out wd _) ?_; · (simp [go_sem]; done))
       rintro v w1 ⟨rfl, hq⟩; replace hb := hide (hb.out.trans (hq.mono hb.out.size)); obtain ⟨S1, S2, S3⟩ := HG.out _ hb.out; clear hq)
    | (refine step_pr (f := 49) rfl ?_ (KP1.out _ _ _ HW0.out hb.out) ?_ ?_
       . simp [go_sem]; done
       . intro fb w9 h9
         exact ⟨rfl, .inr ⟨⟨fb, rfl⟩, h9⟩⟩
       intro w9 HW9))
   all_goals
    clear HG hb HW0 KP1
    go_wp2_with fail
    go_meet
    exact HW9
  have HW1 := hcut; clear hcut HG HW0 KP1 hsz2; have HB1 := hide (HLow.out _ _ _ HW1.out).1; obtain ⟨_, c2, _, _⟩ := HC.out wc HB1.out; have K52 := hide (KWs.out wc HB1.out)
  go_wp2_with (first
   | (go_at_call 52; refine K52.out.mono ?_; rintro e w10 ⟨A1, k1, rfl, H10⟩; have K49 := hide (KP2.out _ wc w10 wc.heap.size A1 k1 HW1.out (Nat.le_refl _) H10.out.1 H10.out.2))
   | (go_at_call 49; refine K49.out.mono ?_))
  intro e w9 h9; clear K49 K52 KWs KP2 H10 c2 HB1 HW1
  rcases Or.symm h9 with ⟨⟨fb, rfl⟩, HF⟩ | ⟨rfl, HW9⟩
  . go_wp2_with fail
    exact ⟨rfl, .inr ⟨⟨fb, rfl⟩, HF⟩⟩
  obtain ⟨p0, p1, p2, p3⟩ := cells4 (HKe.out _ _ HW9.out); have KWd := hide (KWc.out sColon w9)
  go_wp2_with (first
   | (go_at_call 50; refine KWd.out.mono ?_; rintro e w20 ⟨v, rfl, rfl, hb20⟩; have K3 := hide (KP3.out HKd.out _ w9 w20 HW9.out hb20))
   | (go_at_call 49; refine K3.out.mono ?_))
  intro e w12 h9; clear K3 KP3 KWd hb20 HW9 p0 p1 p2 p3
  rcases Or.symm h9 with ⟨⟨fb, rfl⟩, HF⟩ | ⟨rfl, HW9⟩
  . go_wp2_with fail
    exact ⟨rfl, .inr ⟨⟨fb, rfl⟩, HF⟩⟩
  obtain ⟨p0, p1, p2, p3⟩ := cells4 (HKe.out _ _ HW9.out); have HW4 : Hid (Wr B n0 w0 pb wk l tg (t4 ++ (t.xs.take 0).flatMap tf) w12) := hide (by rw [HX0.out, KN4.out (by rw [HKd.out]; decide)]; exact HW9.out)
  obtain ⟨_, _, _, c4⟩ := HC.out w12 (HLow.out _ _ _ HW9.out).1; clear HW9 KN4 KP4 KI HX0 HKd HKe
  go_wp2_with fail
 rotate_left
 focus
  have HKd := hide hk; clear KN4; clear hk; have HBa : Hid (Below w.heap.size w (w.alloc (.cells #[.bool false, .bool false, .bool true, .bool false] 148))) := hide ((Below.refl _ _).alloc (Nat.le_refl _) _)
  have hsb := heap_alloc_new w (.cells #[.bool false, .bool false, .bool true, .bool false] 148)
  obtain ⟨wk, hwk⟩ : ∃ wk : Wk, wk = ⟨wbb, w.heap.size, some #[.bool false, .bool false, .bool true, .bool false]⟩ := ⟨_, rfl⟩
  have HDr : Hid (∀ tk W, Wr B n0 w0 pb wk l tg tk W -> Wr B n0 w0 pb ⟨wbb, kk0, none⟩ l tg tk W) := hide fun tk W h => by subst hwk; exact h.drop
  have HKe : Hid (∀ tk W, Wr B n0 w0 pb wk l tg tk W -> W.heap[w.heap.size]? = some (.cells #[.bool false, .bool false, .bool true, .bool false] 148 (0, 0))) := hide fun tk W h => by subst hwk; exact h.kept
  go_enter Tryz.func79, Tryz.ntmps79
  go_upto_region 2 with fail
  obtain ⟨W2, hW2⟩ : ∃ W2, W2 = w.alloc (.cells #[.bool false, .bool false, .bool true, .bool false] 148) := ⟨_, rfl⟩; have hsz2 : w.heap.size < W2.heap.size := by rw [hW2]; simp
  rw [<- hW2] at HBa hsb ⊢; have HW0 : Hid (Wr B n0 w0 pb wk l tg tk W2) := hide (by rw [hwk]; exact (H0.out.later HBa.out).keep hsb)
  have HG : Hid (∀ W, Below W2.heap.size W2 W -> W.cell? ⟨pb, 9, none⟩ = some (.slice (some ⟨tb, 0, none⟩) 14 tc) /\ W.cell? ⟨b, o, none⟩ = some (.int .i64 (kd : Nat)) /\ W.cell? ⟨tb, kd, none⟩ = some (.string wd)) := hide fun W hW => by
   have h1 := HBa.out.trans (hW.mono (Nat.le_of_lt hsz2)); obtain ⟨h2, h3⟩ := HWd.out W h1; exact ⟨h2, (HC.out W (HBw.out.trans (h1.mono hnw))).1, h3⟩
  clear c0 s0 s1 s2 s3 hW2 HWd hsb HBa H0 hwk
  go_cut [] (fun wx => Hid (Wr B n0 w0 pb wk l tg t1 wx))
  case first =>
   have hb : Hid (Below W2.heap.size W2 W2.drew) := hide (Below.refl _ _).drew; obtain ⟨S1, S2, S3⟩ := HG.out _ hb.out
   go_region_law (first
    | (first | (refine step_cop (f := 50) rfl ?_ (KWc.out wd _) ?_; · (simp [go_sem]; done))
       rintro v w1 ⟨rfl, hq⟩; replace hb := hide (hb.out.trans (hq.mono hb.out.size)); obtain ⟨S1, S2, S3⟩ := HG.out _ hb.out; clear hq)
    | (refine step_pr (f := 49) rfl ?_ (KP1.out _ _ _ HW0.out hb.out) ?_ ?_
       . simp [go_sem]; done
       . intro fb w9 h9
         exact ⟨rfl, .inr ⟨⟨fb, rfl⟩, h9⟩⟩
       intro w9 HW9))
   all_goals
    clear HG hb HW0 KP1
    go_wp2_with fail
    go_meet
    exact HW9
  have HW1 := hcut; clear hcut HG HW0 KP1 hsz2; have HB1 := hide (HLow.out _ _ _ HW1.out).1; obtain ⟨_, c2, _, _⟩ := HC.out wc HB1.out; have K52 := hide (KWs.out wc HB1.out)
  go_wp2_with (first
   | (go_at_call 52; refine K52.out.mono ?_; rintro e w10 ⟨A1, k1, rfl, H10⟩; have K49 := hide (KP2.out _ wc w10 wc.heap.size A1 k1 HW1.out (Nat.le_refl _) H10.out.1 H10.out.2))
   | (go_at_call 49; refine K49.out.mono ?_))
  intro e w9 h9; clear K49 K52 KWs KP2 H10 c2 HB1 HW1
  rcases Or.symm h9 with ⟨⟨fb, rfl⟩, HF⟩ | ⟨rfl, HW9⟩
  . go_wp2_with fail
    exact ⟨rfl, .inr ⟨⟨fb, rfl⟩, HF⟩⟩
  obtain ⟨p0, p1, p2, p3⟩ := cells4 (HKe.out _ _ HW9.out); have HB9 := hide (HLow.out _ _ _ HW9.out); obtain ⟨_, _, c3, _⟩ := HC.out w9 HB9.out.1
  have HW3 : Hid (Wr B n0 w0 pb wk l tg t3 w9) := hide (by rw [KN3.out (by rw [HKd.out]; decide)]; exact HW9.out); have KI9 := hide (KI.out w9 HB9.out.1); clear HW9
  go_wp2_with (first
   | (go_at_call 101; refine KI9.out.mono ?_; rintro e w20 ⟨rfl, hb20⟩)
   | (go_at_call 50; refine (KWc.out (numB num) w20).mono ?_; rintro e w21 ⟨v, rfl, rfl, hb21⟩; have K3 := hide (KP4.out HKd.out _ w9 w21 HW3.out (hb20.trans (hb21.mono hb20.size))))
   | (go_at_call 49; refine K3.out.mono ?_))
  intro e w12 h9; clear K3 KP4 KI KI9 hb20 hb21 HW3 p0 p1 p2 p3 c3 HB9 KN3 KP3
  rcases Or.symm h9 with ⟨⟨fb, rfl⟩, HF⟩ | ⟨rfl, HW9⟩
  . go_wp2_with fail
    exact ⟨rfl, .inr ⟨⟨fb, rfl⟩, HF⟩⟩
  have HW4 : Hid (Wr B n0 w0 pb wk l tg (t4 ++ (t.xs.take 0).flatMap tf) w12) := hide (by rw [HX0.out]; exact HW9.out); obtain ⟨_, _, _, c4⟩ := HC.out w12 (HLow.out _ _ _ HW9.out).1; clear HW9 HX0 HKd HKe
  go_wp2_with fail
 rotate_left
 focus
  have HKd := hide hk; have HKd2 := hide hk'; clear hk hk'; have HBa : Hid (Below w.heap.size w (w.alloc (.cells #[.bool false, .bool b1, .bool false, .bool b3] 148))) := hide ((Below.refl _ _).alloc (Nat.le_refl _) _)
  have hsb := heap_alloc_new w (.cells #[.bool false, .bool b1, .bool false, .bool b3] 148); obtain ⟨wk, hwk⟩ : ∃ wk : Wk, wk = ⟨wbb, w.heap.size, some #[.bool false, .bool b1, .bool false, .bool b3]⟩ := ⟨_, rfl⟩
  have HDr : Hid (∀ tk W, Wr B n0 w0 pb wk l tg tk W -> Wr B n0 w0 pb ⟨wbb, kk0, none⟩ l tg tk W) := hide fun tk W h => by subst hwk; exact h.drop
  have HKe : Hid (∀ tk W, Wr B n0 w0 pb wk l tg tk W -> W.heap[w.heap.size]? = some (.cells #[.bool false, .bool b1, .bool false, .bool b3] 148 (0, 0))) := hide fun tk W h => by subst hwk; exact h.kept
  go_enter Tryz.func79, Tryz.ntmps79
  go_upto_region 2 with fail
  obtain ⟨W2, hW2⟩ : ∃ W2, W2 = w.alloc (.cells #[.bool false, .bool b1, .bool false, .bool b3] 148) := ⟨_, rfl⟩; have hsz2 : w.heap.size < W2.heap.size := by rw [hW2]; simp
  rw [<- hW2] at HBa hsb ⊢; have HW0 : Hid (Wr B n0 w0 pb wk l tg tk W2) := hide (by rw [hwk]; exact (H0.out.later HBa.out).keep hsb)
  have HG : Hid (∀ W, Below W2.heap.size W2 W -> W.cell? ⟨pb, 9, none⟩ = some (.slice (some ⟨tb, 0, none⟩) 14 tc) /\ W.cell? ⟨b, o, none⟩ = some (.int .i64 (kd : Nat)) /\ W.cell? ⟨tb, kd, none⟩ = some (.string wd)) := hide fun W hW => by
   have h1 := HBa.out.trans (hW.mono (Nat.le_of_lt hsz2)); obtain ⟨h2, h3⟩ := HWd.out W h1; exact ⟨h2, (HC.out W (HBw.out.trans (h1.mono hnw))).1, h3⟩
  clear c0 s0 s1 s2 s3 hW2 HWd hsb HBa H0 hwk
  go_cut [] (fun wx => Hid (Wr B n0 w0 pb wk l tg t1 wx))
  case first =>
   have hb : Hid (Below W2.heap.size W2 W2.drew) := hide (Below.refl _ _).drew; obtain ⟨S1, S2, S3⟩ := HG.out _ hb.out
   go_region_law (first
    | (first | (refine step_cop (f := 50) rfl ?_ (KWc.out wd _) ?_; · (simp [go_sem]; done))
       rintro v w1 ⟨rfl, hq⟩; replace hb := hide (hb.out.trans (hq.mono hb.out.size)); obtain ⟨S1, S2, S3⟩ := HG.out _ hb.out; clear hq)
    | (refine step_pr (f := 49) rfl ?_ (KP1.out _ _ _ HW0.out hb.out) ?_ ?_
       . simp [go_sem]; done
       . intro fb w9 h9
         exact ⟨rfl, .inr ⟨⟨fb, rfl⟩, h9⟩⟩
       intro w9 HW9))
   all_goals
    clear HG hb HW0 KP1
    go_wp2_with fail
    go_meet
    exact HW9
  have HW1 := hcut; clear hcut HG HW0 KP1 hsz2; have HB1 := hide (HLow.out _ _ _ HW1.out).1; obtain ⟨_, c2, _, _⟩ := HC.out wc HB1.out; have K52 := hide (KWs.out wc HB1.out)
  go_wp2_with (first
   | (go_at_call 52; refine K52.out.mono ?_; rintro e w10 ⟨A1, k1, rfl, H10⟩; have K49 := hide (KP2.out _ wc w10 wc.heap.size A1 k1 HW1.out (Nat.le_refl _) H10.out.1 H10.out.2))
   | (go_at_call 49; refine K49.out.mono ?_))
  intro e w9 h9; clear K49 K52 KWs KP2 H10 c2 HB1 HW1
  rcases Or.symm h9 with ⟨⟨fb, rfl⟩, HF⟩ | ⟨rfl, HW9⟩
  . go_wp2_with fail
    exact ⟨rfl, .inr ⟨⟨fb, rfl⟩, HF⟩⟩
  obtain ⟨p0, p1, p2, p3⟩ := cells4 (HKe.out _ _ HW9.out); have HW4 : Hid (Wr B n0 w0 pb wk l tg (t4 ++ (t.xs.take 0).flatMap tf) w9) := hide (by rw [HX0.out, KN4.out HKd2.out, KN3.out HKd.out]; exact HW9.out)
  obtain ⟨_, _, _, c4⟩ := HC.out w9 (HLow.out _ _ _ HW9.out).1; clear HW9 HX0 HKd HKd2 HKe KN3 KN4 KP3 KP4 KI
  go_wp2_with fail
 rotate_left
 focus
  have HKd := hide hk; have HKd2 := hide hk'; clear hk hk'
  have HBa : Hid (Below w.heap.size w (w.alloc (.cells #[.bool true, .bool false, .bool false, .bool false] 148))) := hide ((Below.refl _ _).alloc (Nat.le_refl _) _)
  have hsb := heap_alloc_new w (.cells #[.bool true, .bool false, .bool false, .bool false] 148)
  obtain ⟨wk, hwk⟩ : ∃ wk : Wk, wk = ⟨wbb, w.heap.size, some #[.bool true, .bool false, .bool false, .bool false]⟩ := ⟨_, rfl⟩
  have HDr : Hid (∀ tk W, Wr B n0 w0 pb wk l tg tk W -> Wr B n0 w0 pb ⟨wbb, kk0, none⟩ l tg tk W) := hide fun tk W h => by subst hwk; exact h.drop
  have HKe : Hid (∀ tk W, Wr B n0 w0 pb wk l tg tk W -> W.heap[w.heap.size]? = some (.cells #[.bool true, .bool false, .bool false, .bool false] 148 (0, 0))) := hide fun tk W h => by subst hwk; exact h.kept
  go_enter Tryz.func79, Tryz.ntmps79
  go_upto_region 2 with fail
  obtain ⟨W2, hW2⟩ : ∃ W2, W2 = w.alloc (.cells #[.bool true, .bool false, .bool false, .bool false] 148) := ⟨_, rfl⟩; have hsz2 : w.heap.size < W2.heap.size := by rw [hW2]; simp
  rw [<- hW2] at HBa hsb ⊢; have HW0 : Hid (Wr B n0 w0 pb wk l tg tk W2) := hide (by rw [hwk]; exact (H0.out.later HBa.out).keep hsb)
  have HG : Hid (∀ W, Below W2.heap.size W2 W -> W.cell? ⟨pb, 9, none⟩ = some (.slice (some ⟨tb, 0, none⟩) 14 tc) /\ W.cell? ⟨b, o, none⟩ = some (.int .i64 (kd : Nat)) /\ W.cell? ⟨tb, kd, none⟩ = some (.string wd)) := hide fun W hW => by
   have h1 := HBa.out.trans (hW.mono (Nat.le_of_lt hsz2)); obtain ⟨h2, h3⟩ := HWd.out W h1; exact ⟨h2, (HC.out W (HBw.out.trans (h1.mono hnw))).1, h3⟩
  clear c0 s0 s1 s2 s3 hW2 HWd hsb HBa H0 hwk
  go_cut [] (fun wx => Hid (Wr B n0 w0 pb wk l tg t1 wx))
  case first =>
   have hb : Hid (Below W2.heap.size W2 W2.drew) := hide (Below.refl _ _).drew; obtain ⟨S1, S2, S3⟩ := HG.out _ hb.out
   go_region_law (first
    | (first | (refine step_cop (f := 50) rfl ?_ (KWc.out wd _) ?_; · (simp [go_sem]; done))
       rintro v w1 ⟨rfl, hq⟩; replace hb := hide (hb.out.trans (hq.mono hb.out.size)); obtain ⟨S1, S2, S3⟩ := HG.out _ hb.out; clear hq)
    | (refine step_pr (f := 49) rfl ?_ (KP1.out _ _ _ HW0.out hb.out) ?_ ?_
       . simp [go_sem]; done
       . intro fb w9 h9
         exact ⟨rfl, .inr ⟨⟨fb, rfl⟩, h9⟩⟩
       intro w9 HW9))
   all_goals
    clear HG hb HW0 KP1
    go_wp2_with fail
    go_meet
    exact HW9
  have HW1 := hcut; clear hcut HG HW0 KP1 hsz2; have HB1 := hide (HLow.out _ _ _ HW1.out).1; obtain ⟨_, c2, _, _⟩ := HC.out wc HB1.out; have K52 := hide (KWs.out wc HB1.out)
  go_wp2_with (first
   | (go_at_call 52; refine K52.out.mono ?_; rintro e w10 ⟨A1, k1, rfl, H10⟩; have K49 := hide (KP2.out _ wc w10 wc.heap.size A1 k1 HW1.out (Nat.le_refl _) H10.out.1 H10.out.2))
   | (go_at_call 49; refine K49.out.mono ?_))
  intro e w9 h9; clear K49 K52 KWs KP2 H10 c2 HB1 HW1
  rcases Or.symm h9 with ⟨⟨fb, rfl⟩, HF⟩ | ⟨rfl, HW9⟩
  . go_wp2_with fail
    exact ⟨rfl, .inr ⟨⟨fb, rfl⟩, HF⟩⟩
  obtain ⟨p0, p1, p2, p3⟩ := cells4 (HKe.out _ _ HW9.out); have HW4 : Hid (Wr B n0 w0 pb wk l tg (t4 ++ (t.xs.take 0).flatMap tf) w9) := hide (by rw [HX0.out, KN4.out HKd2.out, KN3.out HKd.out]; exact HW9.out)
  obtain ⟨_, _, _, c4⟩ := HC.out w9 (HLow.out _ _ _ HW9.out).1; clear HW9 HX0 HKd HKd2 HKe KN3 KN4 KP3 KP4 KI
  go_wp2_with fail
 rotate_left
 all_goals
  go_loopg [71] nxs (fun g i wr => ∃ j : Nat, j + g = nxs /\ i = .int .i64 (j : Nat) /\ Hid (Wr B n0 w0 pb wk l tg (t4 ++ (t.xs.take j).flatMap tf) wr))
  case atStart => exact ⟨0, by omega, rfl, HW4⟩
  case round =>
   clear HW4 c4; obtain ⟨j, hj, rfl, HW⟩ := hrel
   by_cases hg0 : gk = 0
   . subst hg0
     have hj' : j = nxs := by omega
     subst hj'; have HZ : Hid (PrR B n0 w0 pb ⟨wbb, kk0, none⟩ l tg fin (.returned (.tuple #[])) wr) := hide (.inl ⟨rfl, hide (by have := HW.out; rw [HXn.out] at this; exact HDr.out _ _ this)⟩); clear HW hj HC KX
     go_wp2_with fail
     go_end0; exact HZ.out
   . obtain ⟨g', rfl⟩ : ∃ g', gk = g' + 1 := ⟨gk - 1, by omega⟩
     have hjl : j < nxs := by omega
     have hjn : (j : Int) < (nxs : Int) := by omega
     obtain ⟨g, rfl, K9⟩ := KX.out j (by rw [<- HNx.out]; exact hjl); obtain ⟨_, _, _, c4⟩ := HC.out wr (HLow.out _ _ _ HW.out).1; have K54 := hide (KE.out g (j * 9) wr); have K9' := hide (K9 wk wr); clear K9 HXn HC
     go_wp2_with (first
      | (go_at_call 54; refine K54.out.mono ?_; rintro e w20 ⟨v, rfl, rfl, hb20⟩; have K49 := hide (K9'.out w20 HW.out hb20))
      | (go_at_call 49; refine K49.out.mono ?_))
     intro e w12 h9; clear K49 K54 K9' hb20 HW c4
     rcases Or.symm h9 with ⟨⟨fb, rfl⟩, HF⟩ | ⟨rfl, HW9⟩
     . go_wp2_with fail
       exact ⟨rfl, .inr ⟨⟨fb, rfl⟩, HF⟩⟩
     go_wp2_with fail
     go_roundg g'
     case measure => omega
     case rel => exact ⟨j + 1, by omega, by go_num, HW9⟩
end
end Go.Proofs.YtockffblncdikaaGreatDoor
