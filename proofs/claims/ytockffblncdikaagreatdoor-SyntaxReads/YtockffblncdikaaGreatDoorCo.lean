/- The contract of command. -/
import Derived.Test.YtockffblncdikaaGreatDoorCh
import Derived.Deep.DeepCutAuto
import Derived.Deep.CutBlock
namespace Go.Proofs.YtockffblncdikaaGreatDoor
open Go.RowKit
set_option maxRecDepth 100000
set_option maxHeartbeats 16000000
theorem TxIn.here {w : World} {n1 : Nat} {A : Option Addr} {ts : List ByteArray} (h : TxIn w n1 A ts) : TxIn w w.heap.size A ts := fun i hi => by
 obtain ⟨b, e, _, h2⟩ := h i hi; exact ⟨b, e, World.block_lt_of_cell? _ _ h2, h2⟩
section
variable {n0 pb : Nat} {wb : Wk} {l : List UInt8} {B : Prop} {w0 : World}
theorem pcommand_calls (tf : Ex -> List ByteArray) (c : Cm) {b o : Nat} (h8 : 8 < n0) (hT : Tb w0) (w : World) (t : List UInt8) (h : WrL B n0 w0 pb wb l t w) (hin : ComAt w0 n0 c b o) (hok : CmK tf c)
 (KPf : ∀ (At : Option Addr) (nt : Nat) (l' : List UInt8) (tk : List ByteArray) (W : World), c.kd = 3 /\ c.tac = true -> TcsIn w0 (fun b => b < n0) At c.tcs -> Wr B n0 w0 pb wb l' true tk W -> (B \/ (l' ++ tokT true (tk ++ tacsK tf wBy c.tcs)).length < 8388608) -> Calls Tryz.prog 56 #[.pointer (some ⟨pb, 0, none⟩), .slice At c.tcs.length nt] W fun e w' => PrR B n0 w0 pb wb l' true (tk ++ tacsK tf wBy c.tcs) e w')
 (hB : B \/ (CmW c /\ (l ++ (t ++ (tokT true (comK tf c) ++ [10]))).length < 8388608)) :
 Calls Tryz.prog 33 #[.pointer (some ⟨pb, 0, none⟩), .pointer (some ⟨b, o, none⟩)] w fun e w' => PcR B n0 w0 pb wb l (t ++ (tokT true (comK tf c) ++ [10])) e w' := by
 obtain ⟨l', hP, hlow, hll, hs, hg⟩ := h
 have hB' : B \/ (CmW c /\ (l' ++ tokT true (comK tf c)).length + 1 < 8388608) := by
  rcases hB with hB | ⟨h1, h2⟩
  . exact .inl hB
  . rcases hs with hs | hs
    . exact .inl hs
    . refine .inr ⟨h1, ?_⟩
      rw [hg hs]
      simp at h2 ⊢
      omega
 have HE : Hid (∀ W, Wr B n0 w0 pb wb l' true (comK tf c) W -> Calls Tryz.prog 57 #[.pointer (some ⟨pb, 0, none⟩), .string ⟨#[10]⟩] W fun e w' => (e = .returned (.tuple #[]) /\ (∃ u, w'.cell? ⟨pb, 5, none⟩ = some u) /\ w'.frozen? ⟨pb, 5, none⟩ = false /\ Hid (WrL B n0 w0 pb wb l (t ++ (tokT true (comK tf c) ++ [10])) (w'.setCell ⟨pb, 5, none⟩ (.bool true)))) \/ ((∃ fb, e = .panicked [{ v := .iface 41 (.pointer (some ⟨fb, 0, none⟩)), recovered := false }]) /\ Hid (B /\ Thr n0 w0 e w'))) := hide fun W hW => com_end hW hll hg (hB'.imp id fun h => h.2)
 have HR : ∀ a r, comK tf c = a ++ r -> B \/ (CmW c /\ (l' ++ tokT true a).length < 8388608) := fun a r e => hB'.imp id fun ⟨h1, h2⟩ => ⟨h1, by rw [e, tokT_room] at h2; omega⟩
 have HW0 : Hid (Wr B n0 w0 pb wb l' true [] w) := hide (Wr.start hP hlow hs); have hnw : n0 <= w.heap.size := by have := hP.lo; have := hP.lt; omega
 obtain ⟨Ap, np, Ab, nb, At, nt, Ac, nc, hb0, c0, c2, c3, c4, c23, c24, c25, hty, hvl, hps, hbs, hts, hcs⟩ := hin.open; have ck := kind_cell hT.cw hok.kd; have hkf := kind_few hok.kd
 have HC : Hid (∀ W, Below n0 w0 W -> W.cell? ⟨b, o, none⟩ = some (.int .i64 (c.kd : Nat)) /\ W.cell? ⟨b, o + 2, none⟩ = some (.string c.nm) /\ W.cell? ⟨b, o + 3, none⟩ = some (.slice Ap c.ps.length np) /\ W.cell? ⟨b, o + 4, none⟩ = some (.slice Ab c.bs.length nb) /\ W.cell? ⟨b, o + 23, none⟩ = some (.bool c.tac) /\ W.cell? ⟨b, o + 24, none⟩ = some (.slice At c.tcs.length nt) /\ W.cell? ⟨b, o + 25, none⟩ = some (.slice Ac c.cts.length nc) /\ W.cell? ⟨0, c.kd, none⟩ = some (.string (kindW c.kd))) := hide fun W hW => by
  have hk : ∀ q, W.cell? ⟨b, q, none⟩ = w0.cell? ⟨b, q, none⟩ := fun q => World.cell?_of_block (hW.block b hb0)
  have hk0 : W.cell? ⟨0, c.kd, none⟩ = w0.cell? ⟨0, c.kd, none⟩ := World.cell?_of_block (hW.block 0 (by omega))
  exact ⟨(hk _).trans c0, (hk _).trans c2, (hk _).trans c3, (hk _).trans c4, (hk _).trans c23, (hk _).trans c24, (hk _).trans c25, hk0.trans ck⟩
 obtain ⟨kw, hkw⟩ : ∃ kw, kw = kindW c.kd := ⟨_, rfl⟩; obtain ⟨pcs, hpcs⟩ : ∃ pcs, pcs = c.ps.map Pc.tok := ⟨_, rfl⟩; obtain ⟨lst, hlst⟩ : ∃ lst, lst = lstP pcs := ⟨_, rfl⟩
 obtain ⟨t1, ht1⟩ : ∃ t1, t1 = [kw, c.nm] := ⟨_, rfl⟩; obtain ⟨t2, ht2⟩ : ∃ t2, t2 = t1 ++ parK c.ps := ⟨_, rfl⟩; obtain ⟨t3, ht3⟩ : ∃ t3, t3 = t2 ++ c.bs.flatMap (bindK tf) := ⟨_, rfl⟩
 obtain ⟨t4, ht4⟩ : ∃ t4, t4 = t3 ++ sColon :: tf c.ty := ⟨_, rfl⟩; obtain ⟨t5, ht5⟩ : ∃ t5, t5 = t4 ++ tailK tf c := ⟨_, rfl⟩; have e5 : comK tf c = t5 ++ [sDot] := by rw [ht5, ht4, ht3, ht2, ht1, hkw]; rfl
 have e4 : comK tf c = t4 ++ (tailK tf c ++ [sDot]) := by rw [e5, ht5]; simp
 have e3 : comK tf c = t3 ++ (sColon :: tf c.ty ++ (tailK tf c ++ [sDot])) := by rw [e4, ht4]; simp
 have e2 : comK tf c = t2 ++ (c.bs.flatMap (bindK tf) ++ (sColon :: tf c.ty ++ (tailK tf c ++ [sDot]))) := by rw [e3, ht3]; simp
 have e1 : comK tf c = t1 ++ (parK c.ps ++ (c.bs.flatMap (bindK tf) ++ (sColon :: tf c.ty ++ (tailK tf c ++ [sDot])))) := by rw [e2, ht2]; simp
 have hpl : pcs.length = c.ps.length := by rw [hpcs]; simp
 have hpl2 := hok.pl; have hll2 : lst.length <= 1000000000 := by rw [hlst]; have := lst_len pcs; omega
 have KP1 : Hid (∀ W, Below w.heap.size w W -> Calls Tryz.prog 49 #[.pointer (some ⟨pb, 0, none⟩), .slice (some ⟨W.heap.size, 0, none⟩) 2 2] (W.alloc (.cells #[.string kw, .pointer none, .pointer none, .int .i64 0, .bool false, .int .i64 0, .string c.nm, .pointer none, .pointer none, .int .i64 0, .bool false, .int .i64 0] 106)) fun e w' => PrR B n0 w0 pb wb l' true t1 e w') := hide fun W hW => by
  have := HW0.out.made (W := W) (c := 2) [Pc.tok kw, Pc.tok c.nm] #[.string kw, .pointer none, .pointer none, .int .i64 0, .bool false, .int .i64 0, .string c.nm, .pointer none, .pointer none, .int .i64 0, .bool false, .int .i64 0] rfl h8 hT (oks_cons (show kw.size <= 100 by rw [hkw]; exact hkf) (oks_cons (show c.nm.size <= 100 from hok.nm) oks_nil)) (by simp) hW ((HR _ _ e1).imp id fun h => ⟨show 1 + (1 + 0) <= 33554432 by decide, by have := h.2; rw [ht1] at this; exact this⟩)
  rw [ht1]; exact this
 have KWs : Hid (∀ W, Below n0 w0 W -> Calls Tryz.prog 52 #[.slice Ap c.ps.length np] W fun e w' => ∃ A k, e = .returned (.slice A pcs.length k) /\ Hid (PsIn w' W.heap.size A pcs /\ Below W.heap.size W w')) := hide fun W hW => by
  refine (words_calls c.ps Ap np W hpl2 (hps.later hW).here).mono ?_; rintro e w' ⟨v, rfl, hr, hb⟩; obtain ⟨A, k, rfl, hp⟩ := hr.open; rw [<- hpcs] at hp ⊢; exact ⟨A, k, rfl, hide ⟨hp, hb⟩⟩
 have KLs : Hid (∀ W n1 A k, PsIn W n1 A pcs -> Calls Tryz.prog 51 #[.slice A pcs.length k] W fun e w' => ∃ A' k', e = .returned (.slice A' lst.length k') /\ Hid (PsIn w' W.heap.size A' lst /\ Below W.heap.size W w')) := hide fun W n1 A k hp => by
  refine (listed_calls pcs A k n1 W (by omega) hp).mono ?_; rintro e w' ⟨v, rfl, hr, hb⟩; obtain ⟨A', k', rfl, hp'⟩ := hr.open; rw [<- hlst] at hp' ⊢; exact ⟨A', k', rfl, hide ⟨hp', hb⟩⟩
 have hpt : lst.flatMap Pc.toks = parK c.ps := by rw [hlst, hpcs, par_toks]
 have hpo : ∀ p ∈ lst, p.Ok w0 n0 := by rw [hlst, hpcs]; exact lst_ok (tok_oks hok.ps)
 have hpw : wtS lst <= 33554432 := by
  have h1 := lst_wt pcs; have h2 : wtS pcs = c.ps.length := by rw [hpcs, tok_wt]
  rw [hlst]; omega
 have KP2 : Hid (∀ W0 W n1 A k, Wr B n0 w0 pb wb l' true t1 W0 -> W0.heap.size <= n1 -> PsIn W n1 A lst -> Below W0.heap.size W0 W -> Calls Tryz.prog 49 #[.pointer (some ⟨pb, 0, none⟩), .slice A lst.length k] W fun e w' => PrR B n0 w0 pb wb l' true t2 e w') := hide fun W0 W n1 A k hW0 hn hp hb => by
  have := hW0.print lst (c := k) h8 hT hn hp hpo hll2 hb ((HR _ _ e2).imp id fun h => ⟨hpw, by have := h.2; rw [ht2, <- hpt] at this; exact this⟩); rw [hpt, <- ht2] at this; exact this
 have KB : Hid (∀ j (hj : j < c.bs.length), ∃ g, Ab = some ⟨g, 0, none⟩ /\ ∃ (q : ByteArray) (im : Bool), (∀ W, Below n0 w0 W -> W.cell? ⟨g, j * 11, none⟩ = some (.string q) /\ W.cell? ⟨g, j * 11 + 1, none⟩ = some (.bool im)) /\ ∀ W0 W, Wr B n0 w0 pb wb l' true (t2 ++ (c.bs.take j).flatMap (bindK tf)) W0 -> Below W0.heap.size W0 W -> Calls Tryz.prog 49 #[.pointer (some ⟨pb, 0, none⟩), .slice (some ⟨W.heap.size, 0, none⟩) 5 5] (W.alloc (.cells #[.string (if im = true then sBrace else sOpen), .pointer none, .pointer none, .int .i64 0, .bool false, .int .i64 0, .string q, .pointer none, .pointer none, .int .i64 0, .bool false, .int .i64 0, .string sColon, .pointer none, .pointer none, .int .i64 0, .bool false, .int .i64 0, .string ⟨#[]⟩, .pointer (some ⟨g, j * 11 + 2, none⟩), .pointer none, .int .i64 0, .bool false, .int .i64 0, .string (if im = true then sUnbrace else sShut), .pointer none, .pointer none, .int .i64 0, .bool false, .int .i64 0] 106)) fun e w' => PrR B n0 w0 pb wb l' true (t2 ++ (c.bs.take (j + 1)).flatMap (bindK tf)) e w') := hide fun j hj => by
  obtain ⟨g, eg, hgl, hg0, hg1, hX⟩ := hbs.at j hj; obtain ⟨bd, hbd⟩ : ∃ bd, bd = c.bs[j] := ⟨_, rfl⟩; have hbo := hok.bs _ (List.getElem_mem hj)
  have hbw : B \/ xw c.bs[j].ty + 10 <= 33554432 := hB'.imp id fun h => h.1.bs _ (List.getElem_mem hj)
  have hks : (c.bs.take (j + 1)).flatMap (bindK tf) = (c.bs.take j).flatMap (bindK tf) ++ bindK tf c.bs[j] := by rw [List.take_succ_eq_append_getElem hj, List.flatMap_append]; simp
  have hsp : c.bs.flatMap (bindK tf) = (c.bs.take (j + 1)).flatMap (bindK tf) ++ (c.bs.drop (j + 1)).flatMap (bindK tf) := by rw [<- List.flatMap_append, List.take_append_drop]
  rw [<- hbd] at hg0 hg1 hX hbo hbw hks
  refine ⟨g, eg, bd.nm, bd.im, fun W hW => ⟨(World.cell?_of_block (a := ⟨g, j * 11, none⟩) (hW.block g hgl)).trans hg0, (World.cell?_of_block (a := ⟨g, j * 11 + 1, none⟩) (hW.block g hgl)).trans hg1⟩, fun W0 W hW0 hW => ?_⟩
  have hob : ∀ q ∈ [Pc.tok (if bd.im = true then sBrace else sOpen), Pc.tok bd.nm, Pc.tok sColon, Pc.ex bd.ty (tf bd.ty) g (j * 11 + 2) 0, Pc.tok (if bd.im = true then sUnbrace else sShut)], q.Ok w0 n0 := oks_cons (show (if bd.im = true then sBrace else sOpen).size <= 100 by split <;> decide) (oks_cons (show bd.nm.size <= 100 from hbo.1) (oks_cons (show sColon.size <= 100 by decide) (oks_cons ⟨hX, hbo.2.1, by omega, hbo.2.2⟩ (oks_cons (show (if bd.im = true then sUnbrace else sShut).size <= 100 by split <;> decide) oks_nil))))
  have htk : [Pc.tok (if bd.im = true then sBrace else sOpen), Pc.tok bd.nm, Pc.tok sColon, Pc.ex bd.ty (tf bd.ty) g (j * 11 + 2) 0, Pc.tok (if bd.im = true then sUnbrace else sShut)].flatMap Pc.toks = bindK tf bd := by
   unfold bindK binK
   cases bd.im <;> simp [Pc.toks, brk]
  have hrm : B \/ (wtS [Pc.tok (if bd.im = true then sBrace else sOpen), Pc.tok bd.nm, Pc.tok sColon, Pc.ex bd.ty (tf bd.ty) g (j * 11 + 2) 0, Pc.tok (if bd.im = true then sUnbrace else sShut)] <= 33554432 /\ (l' ++ tokT true ((t2 ++ (c.bs.take j).flatMap (bindK tf)) ++ bindK tf bd)).length < 8388608) := by
   rcases hbw with hbw | hbw
   . exact .inl hbw
   . refine (HR ((t2 ++ (c.bs.take j).flatMap (bindK tf)) ++ bindK tf bd) ((c.bs.drop (j + 1)).flatMap (bindK tf) ++ (sColon :: tf c.ty ++ (tailK tf c ++ [sDot]))) (by rw [e2, hsp, hks]; simp)).imp id fun h => ⟨?_, h.2⟩
     show 1 + (1 + (1 + ((xw bd.ty + 3 * 0) + (1 + 0)))) <= _; omega
  have := hW0.made (W := W) (c := 5) _ #[.string (if bd.im = true then sBrace else sOpen), .pointer none, .pointer none, .int .i64 0, .bool false, .int .i64 0, .string bd.nm, .pointer none, .pointer none, .int .i64 0, .bool false, .int .i64 0, .string sColon, .pointer none, .pointer none, .int .i64 0, .bool false, .int .i64 0, .string ⟨#[]⟩, .pointer (some ⟨g, j * 11 + 2, none⟩), .pointer none, .int .i64 0, .bool false, .int .i64 0, .string (if bd.im = true then sUnbrace else sShut), .pointer none, .pointer none, .int .i64 0, .bool false, .int .i64 0] rfl h8 hT hob (by simp) hW (by rw [htk]; exact hrm)
  rw [htk, List.append_assoc, <- hks] at this; exact this
 have KP4 : Hid (∀ W0 W, Wr B n0 w0 pb wb l' true t3 W0 -> Below W0.heap.size W0 W -> Calls Tryz.prog 49 #[.pointer (some ⟨pb, 0, none⟩), .slice (some ⟨W.heap.size, 0, none⟩) 2 2] (W.alloc (.cells #[.string sColon, .pointer none, .pointer none, .int .i64 0, .bool false, .int .i64 0, .string ⟨#[]⟩, .pointer (some ⟨b, o + 5, none⟩), .pointer none, .int .i64 0, .bool false, .int .i64 0] 106)) fun e w' => PrR B n0 w0 pb wb l' true t4 e w') := hide fun W0 W hW0 hW => by
  have htk : [Pc.tok sColon, Pc.ex c.ty (tf c.ty) b (o + 5) 0].flatMap Pc.toks = sColon :: tf c.ty := by simp [Pc.toks, brk]
  have := hW0.made (W := W) (c := 2) [Pc.tok sColon, Pc.ex c.ty (tf c.ty) b (o + 5) 0] #[.string sColon, .pointer none, .pointer none, .int .i64 0, .bool false, .int .i64 0, .string ⟨#[]⟩, .pointer (some ⟨b, o + 5, none⟩), .pointer none, .int .i64 0, .bool false, .int .i64 0] rfl h8 hT (oks_cons (show sColon.size <= 100 by decide) (oks_cons ⟨hty, hok.ty.1, by omega, hok.ty.2⟩ oks_nil)) (by simp) hW ((HR _ _ e4).imp id fun h => ⟨show 1 + ((xw c.ty + 3 * 0) + 0) <= _ by have := h.1.ty; omega, by rw [htk, <- ht4]; exact h.2⟩)
  rw [htk, <- ht4] at this; exact this
 have KP5 : Hid (c.kd = 2 \/ (c.kd = 3 /\ c.tac = false) -> ∀ W0 W, Wr B n0 w0 pb wb l' true t4 W0 -> Below W0.heap.size W0 W -> Calls Tryz.prog 49 #[.pointer (some ⟨pb, 0, none⟩), .slice (some ⟨W.heap.size, 0, none⟩) 2 2] (W.alloc (.cells #[.string sBe, .pointer none, .pointer none, .int .i64 0, .bool false, .int .i64 0, .string ⟨#[]⟩, .pointer (some ⟨b, o + 14, none⟩), .pointer none, .int .i64 0, .bool false, .int .i64 0] 106)) fun e w' => PrR B n0 w0 pb wb l' true t5 e w') := hide fun hv W0 W hW0 hW => by
  have etl : tailK tf c = sBe :: tf c.vl := by
   unfold tailK; rw [if_neg (by omega), if_neg (by rintro ⟨h1, h2⟩; rcases hv with h3 | ⟨_, h3⟩; (· omega); (· rw [h2] at h3; cases h3)), if_neg (by omega)]
  have htk : [Pc.tok sBe, Pc.ex c.vl (tf c.vl) b (o + 14) 0].flatMap Pc.toks = tailK tf c := by rw [etl]; simp [Pc.toks, brk]
  have := hW0.made (W := W) (c := 2) [Pc.tok sBe, Pc.ex c.vl (tf c.vl) b (o + 14) 0] #[.string sBe, .pointer none, .pointer none, .int .i64 0, .bool false, .int .i64 0, .string ⟨#[]⟩, .pointer (some ⟨b, o + 14, none⟩), .pointer none, .int .i64 0, .bool false, .int .i64 0] rfl h8 hT (oks_cons (show sBe.size <= 100 by decide) (oks_cons ⟨hvl, (hok.vl hv).1, by omega, (hok.vl hv).2⟩ oks_nil)) (by simp) hW ((HR _ _ e5).imp id fun h => ⟨show 1 + ((xw c.vl + 3 * 0) + 0) <= _ by have := h.1.vl hv; omega, by rw [htk, <- ht5]; exact h.2⟩)
  rw [htk, <- ht5] at this; exact this
 have KCt : Hid (c.kd = 4 -> ∀ W, Wr B n0 w0 pb wb l' true t4 W -> Calls Tryz.prog 55 #[.pointer (some ⟨pb, 0, none⟩), .slice Ac c.cts.length nc] W fun e w' => PrR B n0 w0 pb wb l' true t5 e w') := hide fun hv W hW => by
  have etl : tailK tf c = c.cts.flatMap (ctorK tf) := by
   unfold tailK; rw [if_pos hv]
  rw [ht5, etl]; exact pctors_calls tf c.cts h8 hT W hW hcs hok.cts hok.cl ((HR _ _ e5).imp id fun h => ⟨h.1.cts, by have := h.2; rw [ht5, etl] at this; exact this⟩)
 have KPr : Hid (c.kd = 3 /\ c.tac = true -> ∀ W, Wr B n0 w0 pb wb l' true t4 W -> Calls Tryz.prog 56 #[.pointer (some ⟨pb, 0, none⟩), .slice At c.tcs.length nt] W fun e w' => PrR B n0 w0 pb wb l' true t5 e w') := hide fun hv W hW => by
  have etl : tailK tf c = tacsK tf wBy c.tcs := by
   unfold tailK; rw [if_neg (by omega), if_pos hv]
  rw [ht5, etl]; exact KPf At nt l' t4 W hv hts hW ((HR _ _ e5).imp id fun h => by have := h.2; rw [ht5, etl] at this; exact this)
 have KAx : Hid (c.kd = 1 -> t5 = t4) := hide fun hv => by
  rw [ht5]; unfold tailK; rw [if_neg (by omega), if_neg (by omega), if_pos hv, List.append_nil]
 have KP6 : Hid (∀ W0 W, Wr B n0 w0 pb wb l' true t5 W0 -> Below W0.heap.size W0 W -> Calls Tryz.prog 49 #[.pointer (some ⟨pb, 0, none⟩), .slice (some ⟨W.heap.size, 0, none⟩) 1 1] (W.alloc (.cells #[.string sDot, .pointer none, .pointer none, .int .i64 0, .bool false, .int .i64 0] 106)) fun e w' => PrR B n0 w0 pb wb l' true (comK tf c) e w') := hide fun W0 W hW0 hW => by
  have := hW0.made (W := W) (c := 1) [Pc.tok sDot] #[.string sDot, .pointer none, .pointer none, .int .i64 0, .bool false, .int .i64 0] rfl h8 hT (oks_cons (show sDot.size <= 100 by decide) oks_nil) (by simp) hW ((HR (comK tf c) [] (by simp)).imp id fun h => ⟨show 1 + 0 <= 33554432 by decide, by rw [show [Pc.tok sDot].flatMap Pc.toks = [sDot] from rfl, <- e5]; exact h.2⟩)
  rw [show [Pc.tok sDot].flatMap Pc.toks = [sDot] from rfl, <- e5] at this; exact this
 have KWc := kwc_word
 have KE : Hid (∀ (g k : Nat) (W : World), Calls Tryz.prog 54 #[.pointer (some ⟨g, k, none⟩), .int .i64 0] W fun e' w' => ∃ v, e' = .returned (.agg v) /\ (v = #[.string ⟨#[]⟩, .pointer (some ⟨g, k, none⟩), .pointer none, .int .i64 0, .bool false, .int .i64 0] /\ Below W.heap.size W w')) := hide fun g k W => (exprIn_calls c.ty (tf c.ty) g k 0 W).mono fun e w' ⟨h1, h2⟩ => ⟨_, h1, rfl, h2⟩
 have HLow : Hid (∀ tk W, Wr B n0 w0 pb wb l' true tk W -> Below n0 w0 W) := hide fun tk W hW => hW.low
 obtain ⟨hk1, hk2⟩ := hok.kd; have hbl := hok.bl; have hT0 : Hid (t2 ++ (c.bs.take 0).flatMap (bindK tf) = t2) := hide (by simp)
 have hTn : Hid (t2 ++ (c.bs.take c.bs.length).flatMap (bindK tf) = t3) := hide (by rw [List.take_length, ht3]); have HB := HW0.out.low; have HBw := hide HB
 clear hP hlow hll hs hg hB hB' HR hin hok hT KPf hpt hpo hpw e1 e2 e3 e4 e5 ht1 ht2 ht3 ht4 ht5 hlst hpcs hll2 hty hvl hps hbs hts hcs c0 c2 c3 c4 c23 c24 c25 ck hb0 hkf hpl hpl2 HB; rw [<- hkw] at HC; clear hkw
 obtain ⟨kd, hkd⟩ : ∃ kd, kd = c.kd := ⟨_, rfl⟩; obtain ⟨nm, hnm⟩ : ∃ nm, nm = c.nm := ⟨_, rfl⟩; obtain ⟨tac, htac⟩ : ∃ tac, tac = c.tac := ⟨_, rfl⟩; obtain ⟨nbs, hnbs⟩ : ∃ nbs, nbs = c.bs.length := ⟨_, rfl⟩
 obtain ⟨nts, hnts⟩ : ∃ nts, nts = c.tcs.length := ⟨_, rfl⟩; obtain ⟨ncs, hncs⟩ : ∃ ncs, ncs = c.cts.length := ⟨_, rfl⟩; obtain ⟨nps, hnps⟩ : ∃ nps, nps = c.ps.length := ⟨_, rfl⟩
 rw [<- hkd, <- hnm, <- htac, <- hnbs, <- hnts, <- hncs, <- hnps] at HC; rw [<- hkd] at hk1 hk2 KCt KAx; rw [<- hkd, <- htac] at KP5 KPr; rw [<- hnm] at KP1; rw [<- hnbs] at hbl; rw [<- hncs] at KCt; rw [<- hnts] at KPr
 rw [<- hnps] at KWs; have HNb := hide hnbs; have HKv : Hid (kd = 2 \/ (kd = 3 /\ tac = false) \/ kd = 1 \/ kd = 4 \/ (kd = 3 /\ tac = true)) := hide (by cases tac <;> simp <;> omega)
 clear hkd hnm htac hnbs hnts hncs hnps; have hk3 : decide ((kd : Int) < 1) = false := by simp; omega
 have hk4 : decide ((kd : Int) > 4) = false := by simp; omega
 have hk5 : decide ((4 : Int) < (kd : Int)) = false := by simp; omega
 have hk6 : ¬ (4 : Int) < (kd : Int) := by omega
 have hk7 : ¬ (kd : Int) < 1 := by omega
 have hkn : (kd : Int) < 5 := by omega
 have hkm : kd < 5 := by omega
 have HG1 : Hid (∀ W, Below w.heap.size w W -> W.cell? ⟨0, kd, none⟩ = some (.string kw) /\ W.cell? ⟨b, o + 2, none⟩ = some (.string nm)) := hide fun W hW => by
  obtain ⟨_, h2, _, _, _, _, _, h3⟩ := HC.out W (HBw.out.trans (hW.mono hnw)); exact ⟨h3, h2⟩
 obtain ⟨c0, -⟩ := HC.out w HBw.out; clear HW0
 go_enter Tryz.func33, Tryz.ntmps33
 go_upto_region 3 with fail
 go_cut [] (fun wx => Hid (Wr B n0 w0 pb wb l' true t1 wx))
 case first =>
  have hb : Hid (Below w.heap.size w w.drew) := hide (Below.refl _ _).drew; obtain ⟨S1, S2⟩ := HG1.out _ hb.out
  go_region_law (first
   | (first | (refine step_cop (f := 50) rfl ?_ (KWc.out kw _) ?_; · (simp [go_sem]; done)) | (refine step_cop (f := 50) rfl ?_ (KWc.out nm _) ?_; · (simp [go_sem]; done))
      rintro v w1 ⟨rfl, hq⟩; replace hb := hide (hb.out.trans (hq.mono hb.out.size)); obtain ⟨S1, S2⟩ := HG1.out _ hb.out; clear hq)
   | (refine step_pr (f := 49) rfl ?_ (KP1.out _ hb.out) ?_ ?_
      . simp [go_sem]; done
      . intro fb w9 h9
        exact ⟨rfl, .inr ⟨⟨fb, rfl⟩, h9⟩⟩
      intro w9 HW9))
  all_goals
   clear KP1 HG1 hb HBw HKv HNb KP6 KAx KPr KCt KP5 KP4 KB KP2 KLs KWs HE
   go_wp2_with fail
   go_meet
   exact HW9
 case rest =>
  have HW1 := hcut; clear hcut KP1 HG1 HBw c0; have HB1 := hide (HLow.out _ _ HW1.out); obtain ⟨_, _, c3, _⟩ := HC.out wc HB1.out; have K52 := hide (KWs.out wc HB1.out)
  go_wp2_with (go_at_call 52; refine K52.out.mono ?_)
  intro e w10 A1 k1 h10 H10; subst h10; have K51 := hide (KLs.out w10 _ A1 k1 H10.out.1); clear K52 KWs KLs
  go_wp2_with (go_at_call 51; refine K51.out.mono ?_)
  intro e w11 h11; obtain ⟨A2, k2, rfl, H11⟩ := h11; have K49 := hide (KP2.out wc w11 w10.heap.size A2 k2 HW1.out H10.out.2.size H11.out.1 (H10.out.2.trans (H11.out.2.mono H10.out.2.size)))
  clear K51 KP2 H10 H11 HB1 HW1 c3
  go_wp2_with (go_at_call 49; refine K49.out.mono ?_)
  intro e w12 h9; clear K49
  rcases h9 with ⟨rfl, HW9⟩ | ⟨⟨fb, rfl⟩, HF⟩
  rotate_left
  . go_wp2_with fail
    exact ⟨rfl, .inr ⟨⟨fb, rfl⟩, HF⟩⟩
  have HW2 : Hid (Wr B n0 w0 pb wb l' true (t2 ++ (c.bs.take 0).flatMap (bindK tf)) w12) := hide (by rw [hT0.out]; exact HW9.out); obtain ⟨_, _, _, c4, _⟩ := HC.out w12 (HLow.out _ _ HW9.out); clear HW9 hT0
  go_wp2_with fail
  go_loopg [44] nbs (fun g i wr => ∃ j : Nat, j + g = nbs /\ i = .int .i64 (j : Nat) /\ Hid (Wr B n0 w0 pb wb l' true (t2 ++ (c.bs.take j).flatMap (bindK tf)) wr))
  case atStart => exact ⟨0, by omega, rfl, HW2⟩
  case round =>
   clear HW2 c4; obtain ⟨j, hj, rfl, HW⟩ := hrel; have hnw0 : n0 <= wr.heap.size := by have := HW.out.lt; omega
   have HBr := hide (HLow.out _ _ HW.out); obtain ⟨_, _, _, c4, _⟩ := HC.out wr HBr.out
   by_cases hg0 : gk = 0
   . subst hg0
     have hj' : j = nbs := by omega
     subst hj'; have HW3 : Hid (Wr B n0 w0 pb wb l' true t3 wr) := hide (by have := HW.out; rw [HNb.out, hTn.out] at this; exact this); have hb : Hid (Below wr.heap.size wr wr.drew) := hide (Below.refl _ _).drew
     clear HW hj KB HNb hTn c4
     go_upto_region 12 with fail
     go_cut [] (fun wx => Hid (Wr B n0 w0 pb wb l' true t4 wx))
     case first =>
      go_region_law (first
       | (first | (refine step_cop (f := 50) rfl ?_ (KWc.out sColon _) ?_; · (simp [go_sem]; done)) | (refine step_cop (f := 54) rfl ?_ (KE.out b (o + 5) _) ?_; · (simp [go_sem]; done))
          rintro v w1 ⟨rfl, hq⟩; replace hb := hide (hb.out.trans (hq.mono hb.out.size)); clear hq)
       | (refine step_pr (f := 49) rfl ?_ (KP4.out wr _ HW3.out hb.out) ?_ ?_
          . simp [go_sem]; done
          . intro fb w9 h9
            exact ⟨rfl, .inr ⟨⟨fb, rfl⟩, h9⟩⟩
          intro w9 HW9))
      all_goals
       clear hb HKv KP6 KAx KPr KCt KP5 KP4 HE HBr HW3
       go_wp2_with fail
       go_meet
       exact HW9
     case rest =>
      have HW4 := hcut; clear hcut
      go_upto_block 2 with fail
      go_cut [] (fun wx => Hid (Wr B n0 w0 pb wb l' true t5 wx))
      case first =>
       obtain ⟨_, _, _, _, c23, c24, c25, _⟩ := HC.out wc (HLow.out _ _ HW4.out)
       rcases HKv.out with hk | hk | hk | hk | hk
       . subst hk
         have K5 := hide (KP5.out (.inl rfl)); clear KP5 KPr KCt KAx HKv HC
         go_upto_region 18 with fail
         have hb : Hid (Below wc.heap.size wc wc.drew) := hide (Below.refl _ _).drew
         go_region_law (first
          | (first | (refine step_cop (f := 50) rfl ?_ (KWc.out sBe _) ?_; · (simp [go_sem]; done)) | (refine step_cop (f := 54) rfl ?_ (KE.out b (o + 14) _) ?_; · (simp [go_sem]; done))
             rintro v w1 ⟨rfl, hq⟩; replace hb := hide (hb.out.trans (hq.mono hb.out.size)); clear hq)
          | (refine step_pr (f := 49) rfl ?_ (K5.out wc _ HW4.out hb.out) ?_ ?_
             . simp [go_sem]; done
             . intro fb w9 h9
               exact ⟨rfl, .inr ⟨⟨fb, rfl⟩, h9⟩⟩
             intro w9 HW9))
         all_goals
          clear hb K5 KP6 HE
          go_wp2_with fail
          go_meet
          exact HW9
       . obtain ⟨hk, hk'⟩ := hk
         subst hk; subst hk'; have K5 := hide (KP5.out (.inr ⟨rfl, rfl⟩)); clear KP5 KPr KCt KAx HKv HC
         go_upto_region 18 with fail
         have hb : Hid (Below wc.heap.size wc wc.drew) := hide (Below.refl _ _).drew
         go_region_law (first
          | (first | (refine step_cop (f := 50) rfl ?_ (KWc.out sBe _) ?_; · (simp [go_sem]; done)) | (refine step_cop (f := 54) rfl ?_ (KE.out b (o + 14) _) ?_; · (simp [go_sem]; done))
             rintro v w1 ⟨rfl, hq⟩; replace hb := hide (hb.out.trans (hq.mono hb.out.size)); clear hq)
          | (refine step_pr (f := 49) rfl ?_ (K5.out wc _ HW4.out hb.out) ?_ ?_
             . simp [go_sem]; done
             . intro fb w9 h9
               exact ⟨rfl, .inr ⟨⟨fb, rfl⟩, h9⟩⟩
             intro w9 HW9))
         all_goals
          clear hb K5 KP6 HE
          go_wp2_with fail
          go_meet
          exact HW9
       . subst hk
         have HW5 : Hid (Wr B n0 w0 pb wb l' true t5 wc) := hide (by rw [KAx.out rfl]; exact HW4.out); clear KP5 KPr KCt KAx HKv HC
         go_wp2_with fail
         go_meet
         exact HW5
       . subst hk
         have K5 := hide (KCt.out rfl wc HW4.out); clear KP5 KPr KCt KAx HKv HC
         go_wp2_with (go_at_call 55; refine K5.out.mono ?_)
         intro e w9 h9; clear K5
         rcases h9 with ⟨rfl, HW9⟩ | ⟨⟨fb, rfl⟩, HF⟩
         rotate_left
         . go_wp2_with fail
           exact ⟨rfl, .inr ⟨⟨fb, rfl⟩, HF⟩⟩
         go_wp2_with fail
         go_meet
         exact HW9
       . obtain ⟨hk, hk'⟩ := hk
         subst hk; subst hk'; have K5 := hide (KPr.out ⟨rfl, rfl⟩ wc HW4.out); clear KP5 KPr KCt KAx HKv HC
         go_wp2_with (go_at_call 56; refine K5.out.mono ?_)
         intro e w9 h9; clear K5
         rcases h9 with ⟨rfl, HW9⟩ | ⟨⟨fb, rfl⟩, HF⟩
         rotate_left
         . go_wp2_with fail
           exact ⟨rfl, .inr ⟨⟨fb, rfl⟩, HF⟩⟩
         go_wp2_with fail
         go_meet
         exact HW9
      case rest =>
       have HW5 := hcut; clear hcut HW4; have KWd := hide (KWc.out sDot wc); clear KP5 KPr KCt KAx HKv HC
       go_wp2_with (first
        | (go_at_call 50; refine KWd.out.mono ?_; rintro e w20 ⟨v, rfl, rfl, hb20⟩; have K6 := hide (KP6.out wc w20 HW5.out hb20))
        | (go_at_call 49; refine K6.out.mono ?_))
       intro e w9 h9; clear KP6 K6 hb20 KWd
       rcases h9 with ⟨rfl, HW9⟩ | ⟨⟨fb, rfl⟩, HF⟩
       rotate_left
       . go_wp2_with fail
         exact ⟨rfl, .inr ⟨⟨fb, rfl⟩, HF⟩⟩
       have K7 := hide (HE.out w9 HW9.out); clear HE HW9 HW5
       go_wp2_with (go_at_call 57; refine K7.out.mono ?_)
       intro e w7 h7; clear K7
       rcases h7 with ⟨rfl, ⟨u, hu⟩, hfr, HZ⟩ | ⟨⟨fb, rfl⟩, HF⟩
       rotate_left
       . go_wp2_with fail
         exact ⟨rfl, .inr ⟨⟨fb, rfl⟩, HF⟩⟩
       go_wp2_with fail
       go_end0; exact .inl ⟨rfl, HZ⟩
   . obtain ⟨g', rfl⟩ : ∃ g', gk = g' + 1 := ⟨gk - 1, by omega⟩
     have hjl : j < nbs := by omega
     have hjn : (j : Int) < (nbs : Int) := by omega
     obtain ⟨g, rfl, q, im, hgc, KPb⟩ := KB.out j (by rw [<- HNb.out]; exact hjl); have HKb := hide (KPb wr)
     have HGc : Hid (∀ W, Below wr.heap.size wr W -> W.cell? ⟨g, j * 11, none⟩ = some (.string q) /\ W.cell? ⟨g, j * 11 + 1, none⟩ = some (.bool im)) := hide fun W hW => hgc W (HBr.out.trans (hW.mono (Nat.le_trans hnw0 (Nat.le_refl _))))
     obtain ⟨-, g1⟩ := HGc.out wr (Below.refl _ _); have K53 := hide (brackets_calls im wr); clear hgc KPb KB HC HBr HKv KP6 KAx KPr KCt KP5 KP4 HE HNb hTn; generalize (if im = true then sBrace else sOpen) = br1 at *
     generalize (if im = true then sUnbrace else sShut) = br2 at *
     go_wp2_with (go_at_call 53; refine K53.out.mono ?_)
     intro r w1 h1; obtain ⟨rfl, hw1⟩ := h1; have hw1' := hw1.symm; subst hw1'; clear hw1 K53 g1 c4; have hb : Hid (Below wr.heap.size wr wr.drew) := hide (Below.refl _ _).drew; have S1 := (HGc.out _ hb.out).1
     go_upto_region 10 with fail
     go_region_law (first
      | (first | (refine step_cop (f := 50) rfl ?_ (KWc.out br1 _) ?_; · (simp [go_sem]; done)) | (refine step_cop (f := 50) rfl ?_ (KWc.out q _) ?_; · (simp [go_sem]; done)) | (refine step_cop (f := 50) rfl ?_ (KWc.out sColon _) ?_; · (simp [go_sem]; done)) | (refine step_cop (f := 54) rfl ?_ (KE.out g (j * 11 + 2) _) ?_; · (simp [go_sem]; done)) | (refine step_cop (f := 50) rfl ?_ (KWc.out br2 _) ?_; · (simp [go_sem]; done))
         rintro v w1 ⟨rfl, hq⟩; replace hb := hide (hb.out.trans (hq.mono hb.out.size)); have S1 := (HGc.out _ hb.out).1; clear hq)
      | (refine step_pr (f := 49) rfl ?_ (HKb.out _ HW.out hb.out) ?_ ?_
         . simp [go_sem]; done
         . intro fb w9 h9
           exact ⟨rfl, .inr ⟨⟨fb, rfl⟩, h9⟩⟩
         intro w9 HW9))
     all_goals
      clear HKb HGc KWc KE hb HW
      go_wp2_with fail
      go_roundg g'
      case measure => omega
      case rel => exact ⟨j + 1, by omega, by go_num, HW9⟩
end
end Go.Proofs.YtockffblncdikaaGreatDoor
