/- The contract of textOf. -/
import Derived.Test.YtockffblncdikaaGreatDoorCo
import Derived.Test.YtockffblncdikaaGreatDoorTq
import Derived.Test.YtockffblncdikaaGreatDoorBv
import Derived.Test.YtockffblncdikaaGreatDoorWs
import Derived.Test.YtockffblncdikaaGreatDoorCn
import Derived.Test.YtockffblncdikaaGreatDoorCh
import Derived.Maps.OwnSet
import Derived.Laws.MakeOwn
import Derived.Maps.RangeWalk
import Derived.OwnWalk
namespace Go.Proofs.YtockffblncdikaaGreatDoor
open Go.RowKit
set_option maxRecDepth 100000
set_option maxHeartbeats 16000000
section
variable {n0 pb kk : Nat} {wbb : Bool} {B : Prop} {w0 : World}
theorem both_rooms {B P Q R : Prop} (h1 : B \/ (P /\ Q)) (h2 : B \/ R) : B \/ (P /\ R) := by
 rcases h1 with h1 | h1
 . exact .inl h1
 . exact h2.imp id fun h => ⟨h1.1, h⟩
theorem cms_calls (tf : Ex -> List ByteArray) (cs : List Cm) {A : Option Addr} {c : Nat} (h8 : 8 < n0) (hT : Tb w0) (w : World) (h : WrL B n0 w0 pb ⟨wbb, kk, none⟩ [] [] w) (hin : CmsIn w0 (fun b => b < n0) A cs) (hok : ∀ c ∈ cs, CmAll tf c) (hlen : cs.length <= 1000000) (hB : B \/ ((∀ c ∈ cs, CmLight c) /\ (linesK tf cs).length < 8388608)) :
 Calls Tryz.prog 21 #[.pointer (some ⟨pb, 0, none⟩), .slice A cs.length c] w fun e w' => PcR B n0 w0 pb ⟨wbb, kk, none⟩ [] (linesK tf cs) e w' := by
 refine pcommands_calls tf cs w h hlen (fun h0 => by obtain ⟨b, e, _⟩ := hin.at 0 h0; exact ⟨b, e⟩) (fun j hj b t W eA hW hR => ?_) (hB.imp id fun h => by simpa using h.2); obtain ⟨b', e', hc⟩ := hin.at j hj
 have eb : b = b' := by
  rw [eA] at e'; injection e' with e'; injection e' with e' _ _
 subst eb; have ha := hok _ (List.getElem_mem hj)
 refine pcommand_calls tf cs[j] h8 hT W t hW hc ha.cm (fun At nt l' tk W' hk hts hW' hR' => ?_) (both_rooms (hB.imp id fun h => ⟨(h.1 _ (List.getElem_mem hj)).cm, trivial⟩) hR)
 refine pproof_calls tf cs[j].tcs h8 hT W' hW' ha.tl (fun h0 => by obtain ⟨b, e, _⟩ := hts.at 0 h0; exact ⟨b, e⟩) (fun i hi b2 tk' W2 e2 hW2 hR2 => ?_) hR'; obtain ⟨b3, e3, hc3⟩ := hts.at i hi
 have eb : b2 = b3 := by
  rw [e2] at e3; injection e3 with e3; injection e3 with e3 _ _
 subst eb; have ht := ha.tc _ (List.getElem_mem hi)
 exact ptactic_calls tf _ h8 hT W2 hW2 hc3 ht.kd.1 ht.kd.2 ht.num ht.xs ht.nm ht.nl ht.xl (both_rooms (hB.imp id fun h => ⟨(h.1 _ (List.getElem_mem hj)).tc _ (List.getElem_mem hi), trivial⟩) hR2)
end
section
variable {n0 pb n kk : Nat} {ko : Option (Array Value)} {tg : Bool} {st : List Pc} {tv tac : Value} {mb : Nat}
theorem grow22_calls (m : Nat) (hm : m <= 8589934592) (w : World) (h : PX w n0 pb ⟨true, kk, ko⟩ n [] tg st (.pointer none) (.slice none 0 0) tv mb tac) :
 Calls Tryz.prog 22 #[.pointer (some ⟨pb, 0, none⟩), .int .i64 (m : Nat)] w fun e w' => ∃ pp bv, e = .returned (.tuple #[]) /\ Hid (PX w' n0 pb ⟨true, kk, ko⟩ n [] tg st pp bv tv mb tac /\ Below n0 w w') := by
 have HC := hide (copyCheck_calls w h); have mixed := Tryz.mixed; have hlo := h.rest.lo; clear h; have hq : decide ((m : Int) < 0) = false := by simp
 by_cases h0 : m = 0
 . subst h0
   go_enter Tryz.func22, Tryz.ntmps22
   go_wp2_with (go_at_call 34; refine HC.out.mono ?_)
   rintro e w1 ⟨rfl, hX, hb, -⟩; obtain ⟨_, c1, _⟩ := hX.c
   have HF : Hid (∀ W, Below w1.heap.size w1 W -> PX W n0 pb ⟨true, kk, ko⟩ n [] tg st (.pointer (some ⟨pb, 0, none⟩)) (.slice none 0 0) tv mb tac /\ Below n0 w W) := hide fun W hW => ⟨hX.later hW, hb.trans (hW.mono (by have := hX.lt; omega))⟩
   have d1 : w1.drew.cell? ⟨pb, 1, none⟩ = some (.slice none 0 0) := c1; clear hX hb HC
   go_wp2_with fail
   go_region_o
   all_goals
    go_wp2_with fail
    go_end0; exact ⟨_, _, rfl, HF.out _ (Below.refl _ _).drew⟩
 . have hq2 : decide ((0 : Int) < (m : Int)) = true := by simp; omega
   have hq3 : (0 : Int) < (m : Int) := by omega
   have hq4 : 0 < m := by omega
   go_enter Tryz.func22, Tryz.ntmps22
   go_wp2_with (go_at_call 34; refine HC.out.mono ?_)
   rintro e w1 ⟨rfl, hX, hb, -⟩; obtain ⟨_, c1, _⟩ := hX.c
   have KG : Hid (∀ W, Below w1.heap.size w1 W -> Calls Tryz.prog 35 #[.pointer (some ⟨pb, 0, none⟩), .int .i64 (m : Nat)] W fun e w' => ∃ pp bv, e = .returned (.tuple #[]) /\ Hid (PX w' n0 pb ⟨true, kk, ko⟩ n [] tg st pp bv tv mb tac /\ Below n0 w w')) := hide fun W hW => by
    have hbW : Below n0 w W := hb.trans (hW.mono (by have := hX.lt; omega)); refine (grow_calls m hm W (hX.later hW)).mono ?_; rintro e w' ⟨bv', he, h1, h2⟩; exact ⟨_, bv', he, hide ⟨h1, hbW.trans h2⟩⟩
   have d1 : w1.drew.cell? ⟨pb, 1, none⟩ = some (.slice none 0 0) := c1; clear hX hb HC
   go_wp2_with fail
   go_region_o
   all_goals
    go_wp2_with (go_at_call 35; refine (KG.out _ (Below.refl _ _).drew).mono ?_)
    intro e w3 h3; obtain ⟨pp, bv, rfl, HF⟩ := h3; clear KG
    go_wp2_with fail
    go_end0; exact ⟨pp, bv, rfl, HF⟩
end
def TwR (w : World) (e : Ending) (w' : World) : Prop := ∃ (tb c : Nat) (cs : Array Value), e = .returned (.slice (some ⟨tb, 0, none⟩) 14 c) /\ Hid (w.heap.size <= tb /\ tb < w'.heap.size /\ Below w.heap.size w w' /\ w'.heap[tb]? = some (.cells cs 9 (0, 0)) /\ ∀ k, k < 14 -> cs[k]? = some (.string (tacWs.getD k ⟨#[]⟩)))
theorem newPrinter_calls (KT : ∀ W : World, Calls Tryz.prog 32 #[] W fun e w' => TwR W e w') (w : World) :
 Calls Tryz.prog 20 #[.int .i64 8589934592, .int .i64 33554432] w fun e w' => ∃ pb mb tac, e = .returned (.pointer (some ⟨pb, 0, none⟩)) /\ PX w' w.heap.size pb ⟨false, 0, none⟩ 0 [] true [] (.pointer none) (.slice none 0 0) (.slice none 0 0) mb tac /\ Below w.heap.size w w' := by
 have HKT := hide KT; clear KT; have hmk : (Instr.makeMap 73 none).run Tryz.prog w = .ok (.map (some w.heap.size)) (w.alloc (.map #[] 0)) := by rfl
 have K := hide (HKT.out (w.alloc (.map #[] 0))); clear HKT
 go_enter Tryz.func20, Tryz.ntmps20
 go_wp2_with (go_at_call 32; refine K.out.mono ?_)
 intro e w1 h1; obtain ⟨tb, c, cs, rfl, H⟩ := h1; clear K
 go_wp2_with fail
 go_ret; obtain ⟨h1, h2, h3, h4, h5⟩ := H.out; have hz : (w.alloc (.map #[] 0)).heap.size = w.heap.size + 1 := by simp
 have hb1 : Below w.heap.size w (w.alloc (.map #[] 0)) := (Below.refl _ _).alloc (Nat.le_refl _) _; have hz1 := h3.size; have hb2 : Below w.heap.size w w1 := hb1.trans (h3.mono hb1.size)
 have hm : w1.heap[w.heap.size]? = some (.map #[] 0) := (h3.block _ (by omega)).trans (heap_alloc_new w _); refine ⟨w1.heap.size, w.heap.size, .slice (some ⟨tb, 0, none⟩) 14 c, rfl, ?_, hb2.alloc (by omega) _⟩
 generalize hW : w1.alloc _ = W; have hBW : Below w1.heap.size w1 W := hW ▸ (Below.refl _ _).alloc (Nat.le_refl _) _; have hbk : W.heap[w1.heap.size]? = _ := hW ▸ heap_alloc_new w1 _
 have hsz : w1.heap.size < W.heap.size := (Array.getElem?_eq_some_iff.1 hbk).1
 refine ⟨hbk, by decide, by omega, World.ownsRow_nil _ _ _ _, fun p hp => (by simp at hp), ⟨Nat.le_refl _, #[], 0, (hBW.block _ (by omega)).trans hm, fun h => absurd h (by decide), fun e he => (by simp at he)⟩, fun h => (nomatch (show false = true from h)), ⟨tb, c, rfl, by omega, by omega, by omega, fun cs' T f h => ?_, fun es c' h => ?_, fun k hk => ?_, fun cs h => (by cases h)⟩⟩
 . rw [hBW.block tb h2, h4] at h
   injection h with h; injection h with _ h _; exact h.symm
 . rw [hBW.block tb h2, h4] at h
   cases h
 . exact cell_of ((hBW.block tb h2).trans h4) k (h5 k hk)
end Go.Proofs.YtockffblncdikaaGreatDoor
namespace Go.Proofs.YtockffblncdikaaGreatDoor
open Go.RowKit Go.Maps
set_option maxRecDepth 100000
set_option maxHeartbeats 16000000
def TMC (w0 : World) (b n : Nat) (f : ByteArray -> Nat) (ls : List ByteArray) (w : World) : Prop := w0.heap.size <= b /\ Below w0.heap.size w0 w /\ ∃ D : DataW Empty, w.ownsMap Tryz.prog 9 (plainElem Tryz.prog 3) b n D /\ (∀ p : ByteArray, p.size <= 200000 -> D.atKey (.string p.data.toList) (.lit (.int .i64 0)) = .lit (.int .i64 (f p : Nat))) /\ ∀ kl, Maps.has D kl = true -> ∃ q ∈ ls, kl = .string q.data.toList
theorem TMC.made (w : World) : TMC w w.heap.size 0 (fun _ => 0) [] (w.alloc (.map #[] 0)) := ⟨Nat.le_refl _, (Below.refl _ _).alloc (Nat.le_refl _) _, .map [], World.ownsMap_made _ _ _ _, fun _ _ => rfl, fun kl h => by simp [Maps.has] at h⟩
theorem wpList_insTC {w0 w : World} {ops : Array Oper} {rest : List Oper} {o : Oper} {a : Act} {Q : Exit -> Act -> World -> Prop} {b n : Nat} {f : ByteArray -> Nat} {ls : List ByteArray} (hg : o.guard = none) (m x v : Operand) (hop : o.op = Op.insert 50 m x v) (p : ByteArray) (c : Nat)
 (hm : a.eval m = .map (some b)) (h : TMC w0 b n f ls w) (hn : n < 100) (hx : a.eval x = .string p) (hp : p.size <= 200000) (hv : a.eval v = .int .i64 (c : Nat)) (hc : c <= 100)
 (hK : ∀ w', TMC w0 b (n + 1) (fun q => if q = p then c else f q) (p :: ls) w' -> wpList Tryz.prog ops Q rest (a.put o.dst undef) w') : wpList Tryz.prog ops Q (o :: rest) a w := by
 obtain ⟨hb, hB, D, ho, hf, hls⟩ := h; refine wpList_plain hg fun K' hK' => ?_
 obtain ⟨w', hrun, r1, r2⟩ := ho.update (t := 50) (string_keyed Tryz.underlying9) Tryz.underlying50 (by unfold maxLen; omega) (WideMaps.keyOf_string_mk Tryz.underlying9 (by unfold maxLen; omega : p.size <= maxLen)) (d := .lit (.int .i64 (c : Nat))) (ps := []) (plainElem_int Tryz.underlying3 (WalkArith.wf_i64 (n := (c : Int)) (by omega)))
 unfold Oper.wp
 simp [execOp, hop, hm, hx, hv, hrun, Result.andThen]
 refine hK' _ _ (hK w' ⟨hb, hB.grown r2 hB.size (fun k e => by injection e with e; omega), _, r1, fun q hq => ?_, fun kl hkl => ?_⟩)
 . by_cases e : q = p
   . subst e
     simp only [if_true]
     exact atKey_put_same ho.isMap ((string_keyed Tryz.underlying9).key (WideMaps.keyOf_string_mk Tryz.underlying9 (by unfold maxLen; omega : q.size <= maxLen))) _ _
   . show _ = DataW.lit (.int .i64 ((if q = p then c else f q : Nat) : Nat))
     rw [if_neg e, <- hf q hq]; exact atKey_put_other (fun e' => e (WideShapes.bytes_inj (by injection e'))) _ _
 . by_cases e : kl = .string p.data.toList
   . exact ⟨p, by simp, e⟩
   . rw [has_put_other e] at hkl
     obtain ⟨q, hq, e2⟩ := hls kl hkl; exact ⟨q, by simp [hq], e2⟩
theorem words_all (q : ByteArray) : (if q = ⟨#[115, 121, 109, 109]⟩ then 13 else if q = ⟨#[115, 105, 109, 112, 108]⟩ then 12 else if q = ⟨#[101, 120, 105, 115, 116, 115]⟩ then 11 else if q = ⟨#[99, 111, 110, 115, 116, 114, 117, 99, 116, 111, 114]⟩ then 10 else if q = ⟨#[104, 97, 118, 101]⟩ then 9 else if q = ⟨#[114, 101, 119, 114, 105, 116, 101]⟩ then 8 else if q = ⟨#[99, 97, 115, 101, 115]⟩ then 7 else if q = ⟨#[105, 110, 100, 117, 99, 116, 105, 111, 110]⟩ then 6 else if q = ⟨#[114, 101, 102, 108]⟩ then 5 else if q = ⟨#[97, 115, 115, 117, 109, 112, 116, 105, 111, 110]⟩ then 4 else if q = ⟨#[97, 112, 112, 108, 121]⟩ then 3 else if q = ⟨#[101, 120, 97, 99, 116]⟩ then 2 else if q = ⟨#[105, 110, 116, 114, 111]⟩ then 1 else 0 : Nat) = wordNo q tacWords 1 := by
 by_cases h : q ∈ tacWords
 . have hall : ∀ q ∈ tacWords, (if q = ⟨#[115, 121, 109, 109]⟩ then 13 else if q = ⟨#[115, 105, 109, 112, 108]⟩ then 12 else if q = ⟨#[101, 120, 105, 115, 116, 115]⟩ then 11 else if q = ⟨#[99, 111, 110, 115, 116, 114, 117, 99, 116, 111, 114]⟩ then 10 else if q = ⟨#[104, 97, 118, 101]⟩ then 9 else if q = ⟨#[114, 101, 119, 114, 105, 116, 101]⟩ then 8 else if q = ⟨#[99, 97, 115, 101, 115]⟩ then 7 else if q = ⟨#[105, 110, 100, 117, 99, 116, 105, 111, 110]⟩ then 6 else if q = ⟨#[114, 101, 102, 108]⟩ then 5 else if q = ⟨#[97, 115, 115, 117, 109, 112, 116, 105, 111, 110]⟩ then 4 else if q = ⟨#[97, 112, 112, 108, 121]⟩ then 3 else if q = ⟨#[101, 120, 97, 99, 116]⟩ then 2 else if q = ⟨#[105, 110, 116, 114, 111]⟩ then 1 else 0 : Nat) = wordNo q tacWords 1 := by decide +kernel
   exact hall q h
 . rw [wordNo_none tacWords 1 fun x hx e => h (by rw [e]; exact hx)]
   simp only [tacWords, List.mem_cons, List.not_mem_nil, not_or, or_false] at h
   obtain ⟨h1, h2, h3, h4, h5, h6, h7, h8, h9, h10, h11, h12, h13⟩ := h
   rw [if_neg h13, if_neg h12, if_neg h11, if_neg h10, if_neg h9, if_neg h8, if_neg h7, if_neg h6, if_neg h5, if_neg h4, if_neg h3, if_neg h2, if_neg h1]
abbrev tacRev : List ByteArray := tacWords.reverse
theorem tacticKinds2_calls (w : World) : Calls Tryz.prog 17 #[] w fun e w' => ∃ mb, e = .returned (.map (some mb)) /\ w.heap.size <= mb /\ Below w.heap.size w w' /\ mb < w'.heap.size /\ ∃ D : DataW Empty, w'.ownsMap Tryz.prog 9 (plainElem Tryz.prog 3) mb 13 D /\ (∀ t : ByteArray, t.size <= 200000 -> D.atKey (.string t.data.toList) (.lit (.int .i64 0)) = .lit (.int .i64 (wordNo t tacWords 1 : Nat))) /\ ∀ kl, Maps.has D kl = true -> ∃ q ∈ tacRev, kl = .string q.data.toList := by
 have H0 := TMC.made w; have hmk : (Instr.makeMap 50 none).run Tryz.prog w = .ok (.map (some w.heap.size)) (w.alloc (.map #[] 0)) := by rfl
 go_enter Tryz.func17, Tryz.ntmps17
 go_wp2_with (first | (refine wpList_insTC (w0 := w) rfl _ _ _ rfl ⟨#[105, 110, 116, 114, 111]⟩ 1 rfl (by assumption) (by omega) rfl (by decide) rfl (by omega) ?_; intro w' hw') | (refine wpList_insTC (w0 := w) rfl _ _ _ rfl ⟨#[101, 120, 97, 99, 116]⟩ 2 rfl (by assumption) (by omega) rfl (by decide) rfl (by omega) ?_; intro w' hw') | (refine wpList_insTC (w0 := w) rfl _ _ _ rfl ⟨#[97, 112, 112, 108, 121]⟩ 3 rfl (by assumption) (by omega) rfl (by decide) rfl (by omega) ?_; intro w' hw') | (refine wpList_insTC (w0 := w) rfl _ _ _ rfl ⟨#[97, 115, 115, 117, 109, 112, 116, 105, 111, 110]⟩ 4 rfl (by assumption) (by omega) rfl (by decide) rfl (by omega) ?_; intro w' hw') | (refine wpList_insTC (w0 := w) rfl _ _ _ rfl ⟨#[114, 101, 102, 108]⟩ 5 rfl (by assumption) (by omega) rfl (by decide) rfl (by omega) ?_; intro w' hw') | (refine wpList_insTC (w0 := w) rfl _ _ _ rfl ⟨#[105, 110, 100, 117, 99, 116, 105, 111, 110]⟩ 6 rfl (by assumption) (by omega) rfl (by decide) rfl (by omega) ?_; intro w' hw') | (refine wpList_insTC (w0 := w) rfl _ _ _ rfl ⟨#[99, 97, 115, 101, 115]⟩ 7 rfl (by assumption) (by omega) rfl (by decide) rfl (by omega) ?_; intro w' hw') | (refine wpList_insTC (w0 := w) rfl _ _ _ rfl ⟨#[114, 101, 119, 114, 105, 116, 101]⟩ 8 rfl (by assumption) (by omega) rfl (by decide) rfl (by omega) ?_; intro w' hw') | (refine wpList_insTC (w0 := w) rfl _ _ _ rfl ⟨#[104, 97, 118, 101]⟩ 9 rfl (by assumption) (by omega) rfl (by decide) rfl (by omega) ?_; intro w' hw') | (refine wpList_insTC (w0 := w) rfl _ _ _ rfl ⟨#[99, 111, 110, 115, 116, 114, 117, 99, 116, 111, 114]⟩ 10 rfl (by assumption) (by omega) rfl (by decide) rfl (by omega) ?_; intro w' hw') | (refine wpList_insTC (w0 := w) rfl _ _ _ rfl ⟨#[101, 120, 105, 115, 116, 115]⟩ 11 rfl (by assumption) (by omega) rfl (by decide) rfl (by omega) ?_; intro w' hw') | (refine wpList_insTC (w0 := w) rfl _ _ _ rfl ⟨#[115, 105, 109, 112, 108]⟩ 12 rfl (by assumption) (by omega) rfl (by decide) rfl (by omega) ?_; intro w' hw') | (refine wpList_insTC (w0 := w) rfl _ _ _ rfl ⟨#[115, 121, 109, 109]⟩ 13 rfl (by assumption) (by omega) rfl (by decide) rfl (by omega) ?_; intro w' hw'))
 go_ret; obtain ⟨h1, h2, D, h4, h5, h6⟩ := (by assumption : TMC w w.heap.size 13 _ _ _)
 exact ⟨_, rfl, h1, h2, h4.lt, D, h4, fun t ht => (h5 t ht).trans (congrArg (fun n : Nat => DataW.lit (Lit.int .i64 (n : Int))) (words_all t)), h6⟩
theorem tacticKinds_calls (w : World) : Calls Tryz.prog 17 #[] w fun e w' => ∃ mb, e = .returned (.map (some mb)) /\ w.heap.size <= mb /\ Below w.heap.size w w' /\ mb < w'.heap.size /\ ∃ D : DataW Empty, w'.ownsMap Tryz.prog 9 (plainElem Tryz.prog 3) mb 13 D /\ ∀ t : ByteArray, t.size <= 200000 -> D.atKey (.string t.data.toList) (.lit (.int .i64 0)) = .lit (.int .i64 (wordNo t tacWords 1 : Nat)) :=
 (tacticKinds2_calls w).mono fun _ _ ⟨mb, h1, h2, h3, h4, D, h5, h6, _⟩ => ⟨mb, h1, h2, h3, h4, D, h5, h6⟩
end Go.Proofs.YtockffblncdikaaGreatDoor
namespace Go.Proofs.YtockffblncdikaaGreatDoor
open Go.RowKit Go.Maps
set_option maxRecDepth 100000
set_option maxHeartbeats 16000000
theorem tac_back : ∀ q ∈ tacRev, 1 <= wordNo q tacWords 1 /\ wordNo q tacWords 1 < 14 /\ tacWs.getD (wordNo q tacWords 1) ⟨#[]⟩ = q /\ q.size <= 200000 := by decide +kernel
theorem tac_forth0 : ∀ j, j < 14 -> 1 <= j -> wordNo (tacWs.getD j ⟨#[]⟩) tacWords 1 = j /\ (tacRev.any fun x => decide (x = tacWs.getD j ⟨#[]⟩)) = true := by decide +kernel
theorem tac_forth (j : Nat) (h1 : j < 14) (h2 : 1 <= j) : wordNo (tacWs.getD j ⟨#[]⟩) tacWords 1 = j /\ tacWs.getD j ⟨#[]⟩ ∈ tacRev := by
 obtain ⟨h3, h4⟩ := tac_forth0 j h1 h2; obtain ⟨x, hx, e⟩ := List.any_eq_true.1 h4; rw [decide_eq_true_eq] at e; exact ⟨h3, e ▸ hx⟩
def TwC (left : Lit -> Bool) (cs : Array Value) : Prop := cs.size = 14 /\ ∀ j, j < 14 -> cs[j]? = some (.string (tacWs.getD j ⟨#[]⟩)) \/ (1 <= j /\ left (.string (tacWs.getD j ⟨#[]⟩).data.toList) = true)
theorem TwC.start {D : DataW Empty} (h : ∀ t : ByteArray, t.size <= 200000 -> D.atKey (.string t.data.toList) (.lit (.int .i64 0)) = .lit (.int .i64 (wordNo t tacWords 1 : Nat))) : TwC (Maps.has D) (Array.replicate 14 (.string ⟨#[]⟩)) := by
 refine ⟨by simp, fun j hj => ?_⟩
 by_cases h0 : j = 0
 . subst h0
   exact .inl rfl
 . refine .inr ⟨by omega, ?_⟩
   obtain ⟨e1, e2⟩ := tac_forth j hj (by omega); have h1 := h _ (tac_back _ e2).2.2.2; rw [e1] at h1
   cases hh : Maps.has D (.string (tacWs.getD j ⟨#[]⟩).data.toList) with
   | true => rfl
   | false =>
     rw [atKey_of_not_has hh] at h1
     simp at h1
     omega
theorem TwC.store {left : Lit -> Bool} {cs : Array Value} {q : ByteArray} (h : TwC left cs) (hq : q ∈ tacRev) : TwC (fun z => left z && !z.sameKey (.string q.data.toList)) (cs.setIfInBounds (wordNo q tacWords 1) (.string q)) := by
 obtain ⟨b1, b2, b3, _⟩ := tac_back q hq; refine ⟨by rw [Array.size_setIfInBounds]; exact h.1, fun j hj => ?_⟩
 by_cases e : j = wordNo q tacWords 1
 . subst e
   refine .inl ?_; rw [Array.getElem?_setIfInBounds_self_of_lt (by rw [h.1]; exact b2), b3]
 . rw [Array.getElem?_setIfInBounds_ne (fun e' => e e'.symm)]
   refine (h.2 j hj).imp id fun ⟨h1, h2⟩ => ⟨h1, ?_⟩
   show (left _ && !(_ : Bool)) = true; rw [h2, Bool.true_and]; have hne : tacWs.getD j ⟨#[]⟩ ≠ q := fun e2 => e (by rw [<- e2]; exact (tac_forth j hj h1).1.symm)
   rw [sameKey_ne (fun e2 => hne (WideShapes.bytes_inj (by injection e2)))]
   rfl
theorem TwC.done {left : Lit -> Bool} {cs : Array Value} (h : TwC left cs) (hl : ∀ kl, left kl = false) : ∀ k, k < 14 -> cs[k]? = some (.string (tacWs.getD k ⟨#[]⟩)) := fun k hk => by
 rcases h.2 k hk with h1 | ⟨_, h1⟩
 . exact h1
 . rw [hl] at h1
   cases h1
abbrev noWords : Array Value := Array.replicate 14 (.string ⟨#[]⟩)
theorem made14 : madeCells (Value.string ⟨#[]⟩).cells 14 = noWords := by
 unfold madeCells; show (Array.range 14).map (fun i => (#[Value.string ⟨#[]⟩] : Array Value)[i % 1]!) = _
 apply Array.ext
 . simp
 . intro i h1 h2
   simp [Nat.mod_one]
theorem tacticWords_calls (w : World) : Calls Tryz.prog 32 #[] w fun e w' => TwR w e w' := by
 have hmk : (Instr.makeSlice 54 (.int .i64 14) (.int .i64 14)).run Tryz.prog w = .ok (.slice (some ⟨w.heap.size, 0, none⟩) 14 14) (w.alloc (.cells noWords 9)) := by
  obtain ⟨i0, hi, hz0, hz1, hz2⟩ := infoParts Tryz.info9'
  have := run_makeSlice (P := Tryz.prog) w 54 9 i0 (.string ⟨#[]⟩) Tryz.underlying54 hi hz0 .i64 .i64 14 14 (by omega) (by omega) (by rw [hz1]; decide) (by rw [hz2]; decide) (by decide); rw [hz1] at this; rw [this]
  show Result.ok _ (w.alloc (.cells (madeCells (Value.string ⟨#[]⟩).cells 14) 9)) = _; rw [made14]
  rfl
 have hB0 : Below w.heap.size w (w.alloc (.cells noWords 9)) := (Below.refl _ _).alloc (Nat.le_refl _) _; have hn0 := heap_alloc_new w (.cells noWords 9)
 have hz0 : (w.alloc (.cells noWords 9)).heap.size = w.heap.size + 1 := by simp
 have KK := hide (tacticKinds2_calls (w.alloc (.cells noWords 9)))
 go_enter Tryz.func32, Tryz.ntmps32
 generalize hnw : noWords = nw at *
 go_wp2_with (first | (go_at_call 17; refine KK.out.mono ?_; intro e w1 h1; obtain ⟨mb, rfl, hmb, hB1, hml, D, ho, ha, hk⟩ := h1) | (at_range; refine wpList_range_own _ rfl _ 50 rfl 9 3 (string_keyed Tryz.underlying9) Tryz.underlying50 _ mb 13 D rfl ho ?_; intro w2 hrg0 hg0 hs0))
 have HS0 := TwC.start ha; rw [show (Array.replicate 14 (.string ⟨#[]⟩) : Array Value) = nw from hnw] at HS0; replace HS0 := hide HS0
 have hwn : (w.alloc (.cells nw 9)).heap[w.heap.size]? = some (.cells nw 9 (0, 0)) := hn0; have hz1 := hB1.size; have hz2 := hg0.size
 have HB2 : Hid (Below w.heap.size w w2) := hide (hB0.trans ((hB1.mono (by omega)).grown hg0 (by omega) (fun k e => by cases e)))
 have hb2 : w2.heap[w.heap.size]? = some (.cells nw 9 (0, 0)) := (hg0.block _ (by omega) (by simp)).trans ((hB1.block _ (by omega)).trans hn0); have HA := hide ha; have HK := hide hk; clear hB1 ha hk hB0 hn0 hwn
 go_frame
 go_loopw [2] (fun _ wr => ∃ (left : Lit -> Bool) (cnt : Nat) (cs : Array Value), wr.ranges Tryz.prog 9 (plainElem Tryz.prog 3) mb w1.heap.size 13 D left cnt /\ Hid (TwC left cs) /\ Hid (wr.heap[w.heap.size]? = some (.cells cs 9 (0, 0))) /\ Hid (Below w.heap.size w wr) /\ Hid (∀ kl, left kl = true -> Maps.has D kl = true)) (fun _ wr => wr.rangeLeft mb w1.heap.size)
 case atStart => exact ⟨_, _, nw, hrg0, HS0, hb2, HB2, hide fun _ h => h⟩
 case round =>
  obtain ⟨left, cnt, cs, hrg, HC, HW, HB, HL⟩ := hrel
  go_wp2_with (first
   | (at_next; refine wpList_next_ranges _ rfl _ rfl 9 (string_keyed Tryz.underlying9) (plainElem Tryz.prog 3) Value.string (Value.int .i64) (fun key kl hkey => by obtain ⟨x, rfl, _⟩ := WideMaps.string_of_keyOf Tryz.underlying9 hkey; exact ⟨x, rfl⟩) (fun v y hv => by obtain ⟨c, rfl, _⟩ := plainElem_int_inv Tryz.underlying3 hv; exact ⟨c, rfl⟩) mb w1.heap.size 13 D left cnt rfl hrg ?_ ?_)
   | go_in)
  . intro _ hl0
    have HZ : Hid (TwR w (.returned (.slice (some ⟨w.heap.size, 0, none⟩) 14 14)) wr) := hide ⟨w.heap.size, 14, cs, rfl, hide ⟨Nat.le_refl _, (Array.getElem?_eq_some_iff.1 HW.out).1, HB.out, HW.out, HC.out.done hl0⟩⟩
    clear HC HW HB HL HA HK HS0 HB2
    go_wp2_with fail
    go_ret; exact HZ.out
  . intro q c kl y ys w3 cnt3 hkey hlk hy hat hrg3 hlt3 hg3 hs3 hen
    obtain ⟨q', e1, rfl, hq'⟩ := WideMaps.string_of_keyOf Tryz.underlying9 hkey; injection e1 with e1; subst e1; obtain ⟨q2, hq2, e2⟩ := HK.out _ (HL.out _ hlk)
    have e3 : q = q2 := WideShapes.bytes_inj (by injection e2); subst e3; obtain ⟨b1, b2, b3, b4⟩ := tac_back q hq2; obtain ⟨c', e4, hy2, _⟩ := plainElem_int_inv Tryz.underlying3 hy
    have hc : c = ((wordNo q tacWords 1 : Nat) : Int) := by
     have h1 := HA.out q b4; injection hy2 with hy2 _; rw [hat _] at h1; replace h1 := hy2.symm.trans h1; injection e4 with _ e4; subst e4
     simpa using h1
    subst hc; have hmb' : w.heap.size < mb := by omega
    have hit : w.heap.size < w1.heap.size := by omega
    have hW3 : w3.heap[w.heap.size]? = some (.cells cs 9 (0, 0)) := (hg3.block _ (Array.getElem?_eq_some_iff.1 HW.out).1 (by simp; omega)).trans HW.out
    have hB3 : Below w.heap.size w w3 := HB.out.grown hg3 HB.out.size (fun k e => by injection e with e; omega); have hst := HC.out.store hq2; obtain ⟨k, hk⟩ : ∃ k, k = wordNo q tacWords 1 := ⟨_, rfl⟩
    rw [<- hk] at hst b1 b2 b3 hen ⊢; have hkk : (k : Int) < 14 := by omega
    have hcl : ∃ u, w3.cell? ⟨w.heap.size, k, none⟩ = some u := ⟨_, cell_of hW3 k (Array.getElem?_eq_getElem (by have := HC.out.1; omega))⟩; obtain ⟨u, hcl⟩ := hcl; have hfr := frozen_of hW3
    have HR4 : Hid ((w3.setCell ⟨w.heap.size, k, none⟩ (.string q)).ranges Tryz.prog 9 (plainElem Tryz.prog 3) mb w1.heap.size 13 D (fun z => left z && !z.sameKey (.string q.data.toList)) cnt3 /\ Hid (TwC (fun z => left z && !z.sameKey (.string q.data.toList)) (cs.setIfInBounds k (.string q))) /\ Hid ((w3.setCell ⟨w.heap.size, k, none⟩ (.string q)).heap[w.heap.size]? = some (.cells (cs.setIfInBounds k (.string q)) 9 (0, 0))) /\ Hid (Below w.heap.size w (w3.setCell ⟨w.heap.size, k, none⟩ (.string q))) /\ Hid (∀ kl, (left kl && !kl.sameKey (.string q.data.toList)) = true -> Maps.has D kl = true)) := hide ⟨hrg3.kept (setCell_grown w3 w.heap.size k (.string q)) (by simp; omega) (by simp; omega), hide hst, hide (heap_setCell_same w3 _ k _ _ _ hW3), hide (hB3.setCell (p := ⟨w.heap.size, k, none⟩) (Nat.le_refl _) _), hide fun kl h => HL.out kl (by rw [Bool.and_eq_true] at h; exact h.1)⟩
    have HM : Hid ((w3.setCell ⟨w.heap.size, k, none⟩ (.string q)).rangeLeft mb w1.heap.size < wr.rangeLeft mb w1.heap.size) := hide (by rw [HR4.out.1.left_eq, hrg.left_eq]; exact hlt3)
    clear hrg3 hst hW3 hB3 hg3 hat hy hy2 HC HW HB HL HA HK HS0 HB2 hrg hrg0 hg0 hb2 ho KK hmk e4 hkey hlk hq2 e2 hk
    go_wp2_with (first | go_in)
    go_roundw
    case rel => exact ⟨_, cnt3, _, HR4.out.1, HR4.out.2.1, HR4.out.2.2.1, HR4.out.2.2.2.1, HR4.out.2.2.2.2⟩
    case measure => exact HM.out
section
variable {n0 pb kk : Nat} {ko : Option (Array Value)} {tg : Bool} {st : List Pc} {tv tac : Value} {mb : Nat} {B : Prop}
theorem PX.setWr {W : World} (h : PX W n0 pb ⟨false, kk, ko⟩ 0 [] tg st (.pointer none) (.slice none 0 0) tv mb tac) : PX (W.setCell ⟨pb, 2, none⟩ (.bool true)) n0 pb ⟨true, kk, ko⟩ 0 [] tg st (.pointer none) (.slice none 0 0) tv mb tac := by
 have hr := h.setRest 2 (.bool true); exact ⟨heap_setCell_same W pb 2 _ _ _ h.blk, h.few, hr.lo, hr.stk, hr.ok, hr.map, fun _ => ⟨.inl rfl, ⟨rfl, .inl ⟨rfl, rfl⟩⟩⟩, hr.tac⟩
def XoR (B : Prop) (l : List UInt8) (w : World) (e : Ending) (w' : World) : Prop := (∃ s : ByteArray, e = .returned (.string s) /\ Hid (Below w.heap.size w w' /\ (B \/ s.size < 8388608) /\ (s.size < 8388608 -> s.data.toList = l))) \/ ((∃ fb, e = .panicked [{ v := .iface 41 (.pointer (some ⟨fb, 0, none⟩)), recovered := false }]) /\ Hid (B /\ Thr w.heap.size w e w'))
theorem step_gr {ops : Array Oper} {o : Oper} {a : Act} {w : World} {K : Act -> World -> Prop} {Q : Exit -> Act -> World -> Prop} {E : Prop} {args : Array Value} {f : FuncId} {R : World -> Prop}
 (hg : o.guard = none) (hrun : (execOp a.eval o).run Tryz.prog w = .ok (.enter f args) w) (hc : Calls Tryz.prog f args w fun e w' => e = .returned (.tuple #[]) /\ R w')
 (hK : ∀ w' : World, R w' -> K (a.put o.dst (.tuple #[])) w') :
 if Region.wanted o (yielded ops a.tmps) = true then Oper.wp Tryz.prog o a w K Q else E := by
 have hw : Region.wanted o (yielded ops a.tmps) = true := by simp [Region.wanted, hg]
 rw [if_pos hw]; unfold Oper.wp; rw [hrun]; refine hc.mono ?_; rintro e w' ⟨rfl, h⟩; exact hK w' h
theorem textOf_calls (tf : Ex -> List ByteArray) (cs : List Cm) {A : Option Addr} {c : Nat} (w : World) (hT : Tb w) (hin : CmsIn w (fun b => b < w.heap.size) A cs) (hok : ∀ c ∈ cs, CmAll tf c) (hlen : cs.length <= 1000000) (hB : B \/ ((∀ c ∈ cs, CmLight c) /\ (linesK tf cs).length < 8388608)) :
 Calls Tryz.prog 13 #[.slice A cs.length c, .int .i64 8589934592] w fun e w' => XoR B (linesK tf cs) w e w' := by
 have KN : Hid (∀ W : World, Calls Tryz.prog 20 #[.int .i64 8589934592, .int .i64 33554432] W fun e w' => ∃ pb mb tac, e = .returned (.pointer (some ⟨pb, 0, none⟩)) /\ Hid (PX w' W.heap.size pb ⟨false, 0, none⟩ 0 [] true [] (.pointer none) (.slice none 0 0) (.slice none 0 0) mb tac /\ Below W.heap.size W w')) := hide fun W => (newPrinter_calls tacticWords_calls W).mono fun e w' ⟨pb, mb, tac, he, h⟩ => ⟨pb, mb, tac, he, h⟩
 have KC : Hid (∀ (w0 W : World) (pb : Nat) (b : Bool) (pp bv tv : Value) (mb : Nat) (tac : Value), Below w.heap.size w w0 -> PX W w0.heap.size pb ⟨b, 0, none⟩ 0 [] true [] pp bv tv mb tac -> Below w0.heap.size w0 W -> Calls Tryz.prog 21 #[.pointer (some ⟨pb, 0, none⟩), .slice A cs.length c] W fun e w' => PcR B w0.heap.size w0 pb ⟨b, 0, none⟩ [] (linesK tf cs) e w') := hide fun w0 W pb b pp bv tv mb tac h0 hX hb => by
  have hT0 := hT.later h0
  refine cms_calls tf cs hT0.lt hT0 W ⟨[], ⟨pp, bv, tv, mb, tac, hX⟩, hb, Nat.le_refl _, hB.imp id fun _ => by decide, fun _ => rfl⟩ (hin.keep fun b hl hs => ⟨Nat.lt_of_lt_of_le hs h0.size, h0.block b hs⟩) hok hlen hB
 have KC1 := hide fun W pb mb tac => KC.out w W pb false (.pointer none) (.slice none 0 0) (.slice none 0 0) mb tac (Below.refl _ _)
 clear hT hin hok hB; generalize linesK tf cs = L at *; generalize cs.length = n at *
 go_enter Tryz.func13, Tryz.ntmps13
 go_wp2_with (go_at_call 20; refine (KN.out w).mono ?_)
 intro e w1 h1; obtain ⟨pb1, mb1, tac1, rfl, H1⟩ := h1; have K1 := hide (KC1.out w1 pb1 mb1 tac1 H1.out.1 H1.out.2); clear KC1 H1
 go_wp2_with (go_at_call 21; refine K1.out.mono ?_)
 intro e w2 h2; clear K1
 rcases h2 with ⟨rfl, HW2⟩ | ⟨⟨fb, rfl⟩, HF⟩
 rotate_left
 . go_wp2_with fail
   exact ⟨rfl, .inr ⟨⟨fb, rfl⟩, HF⟩⟩
 obtain ⟨l1, hP1, hb2, -, hs1, hg1⟩ := HW2.out; have hm := hP1.few; have c3 := hP1.cells.2.1; have HB2 := hide hb2; obtain ⟨m, hmm⟩ : ∃ m, m = l1.length := ⟨_, rfl⟩; rw [<- hmm] at hm c3
 have HG3 : Hid (∀ W, Below w2.heap.size w2 W -> W.cell? ⟨pb1, 3, none⟩ = some (.int .i64 (m : Nat))) := hide fun W hW => cell_later hW c3
 clear hP1 hb2 hs1 hg1 c3 HW2 hmm
 go_wp2_with (go_at_call 20; refine (KN.out w2).mono ?_)
 intro e w3 h3; obtain ⟨pb2, mb2, tac2, rfl, H3⟩ := h3; clear KN; have hX4 := H3.out.1.setWr
 have hb4 : Below w2.heap.size w2 (w3.setCell ⟨pb2, 2, none⟩ (.bool true)) := H3.out.2.setCell (p := ⟨pb2, 2, none⟩) H3.out.1.rest.lo _; obtain ⟨_, _, c2, _, _, _, _, _, _, _, cf⟩ := H3.out.1.c; have HX4 := hide hX4
 have HB4 := hide hb4; clear hX4 hb4 H3
 go_upto_region 5 with fail
 clear c2 cf; generalize w3.setCell ⟨pb2, 2, none⟩ (.bool true) = W4 at *
 have KG : Hid (∀ W, Below W4.heap.size W4 W -> Calls Tryz.prog 22 #[.pointer (some ⟨pb2, 0, none⟩), .int .i64 (m : Nat)] W fun e w' => e = .returned (.tuple #[]) /\ ∃ pp bv, Hid (PX w' w2.heap.size pb2 ⟨true, 0, none⟩ 0 [] true [] pp bv (.slice none 0 0) mb2 tac2 /\ Below w2.heap.size w2 w')) := hide fun W hW => by
  have hbW := HB4.out.trans (hW.mono HB4.out.size); refine (grow22_calls m hm W (HX4.out.later hW)).mono ?_; rintro e w' ⟨pp, bv, he, h⟩; exact ⟨he, pp, bv, hide ⟨h.out.1, hbW.trans h.out.2⟩⟩
 have S1 : W4.drew.cell? ⟨pb1, 3, none⟩ = some (.int .i64 (m : Nat)) := HG3.out _ HB4.out.drew; have hb : Hid (Below W4.heap.size W4 W4.drew) := hide (Below.refl _ _).drew
 go_region_law (first
  | (refine step_gr (f := 22) rfl ?_ (KG.out _ hb.out) ?_
     . simp [go_sem]; done
     rintro w5 ⟨pp5, bv5, H5⟩))
 all_goals
  clear KG HX4 HB4 HG3 hb S1; have K6 := hide (KC.out w2 w5 pb2 true pp5 bv5 (.slice none 0 0) mb2 tac2 HB2.out H5.out.1 H5.out.2); clear KC H5
  go_wp2_with (go_at_call 21; refine K6.out.mono ?_)
  intro e w6 h6; clear K6; have hz2 := HB2.out.size
  rcases h6 with ⟨rfl, HW6⟩ | ⟨⟨fb, rfl⟩, HF⟩
  rotate_left
  . have HZ : Hid (XoR B L w (.panicked [{ v := .iface 41 (.pointer (some ⟨fb, 0, none⟩)), recovered := false }]) w6) := hide (.inr ⟨⟨fb, rfl⟩, hide ⟨HF.out.1, HB2.out.trans (HF.out.2.1.mono hz2), fb, rfl⟩⟩)
    go_wp2_with fail
    exact ⟨rfl, HZ.out⟩
  obtain ⟨l2, ⟨pp, bv, tv, mb, tac, hX6⟩, hb6, -, hs2, hg2⟩ := HW6.out; have K7 := hide (bString_calls w6 hX6)
  have HZ : Hid (∀ w7, Below w2.heap.size w6 w7 -> XoR B L w (.returned (.string ⟨l2.toArray⟩)) w7) := hide fun w7 hb7 => .inl ⟨_, rfl, hide ⟨HB2.out.trans ((hb6.trans hb7).mono hz2), hs2, fun h => hg2 h⟩⟩
  clear hX6 hb6 hs2 hg2 HW6
  go_wp2_with (go_at_call 23; refine K7.out.mono ?_)
  rintro e w7 ⟨rfl, -, hb7, -⟩; have HZ7 := hide (HZ.out w7 hb7); clear K7 HZ hb7
  go_wp2_with fail
  go_ret; exact HZ7.out
end
end Go.Proofs.YtockffblncdikaaGreatDoor
