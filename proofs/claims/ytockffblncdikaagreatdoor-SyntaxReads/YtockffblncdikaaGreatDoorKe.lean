/- The contract of expr, by kinds. -/
import Derived.Test.YtockffblncdikaaGreatDoorKb
import Derived.Test.YtockffblncdikaaGreatDoorCd
import Derived.Test.YtockffblncdikaaGreatDoorRt
namespace Go.Proofs.YtockffblncdikaaGreatDoor
open Go.RowKit
set_option maxRecDepth 100000
set_option maxHeartbeats 16000000
section
variable {n0 pb : Nat} {wb : Wk} {tg : Bool} {l : List UInt8} {st : List Pc} {B : Prop}
theorem StepG.outer {w w1 w' : World} {e : Ex} {t : List ByteArray} {b o k : Nat} {st0 : List Pc} {r : Ending} (h : StepG B n0 w1 pb wb l tg (st ++ st0) t (xw e - 1) r w') (hb : Below n0 w w1) (h0 : wtS st0 <= 1) (hp : popT st0 = []) (hk : inK e k t = t) : StepR B n0 w pb wb l tg st (.ex e t b o k) r w' := by
 rcases h with ⟨l', tg', st2, he, hP, hB, hlen, hl, hw, hg⟩ | ⟨hB, ht⟩
 . rw [List.append_assoc] at hP hlen
   refine .inl ⟨l', tg', st0 ++ st2, he, hP, hb.trans hB, hlen, hl, ?_, fun h8 => ?_⟩
   . rw [wtS_append]
     show _ < xw e + 3 * k; omega
   . obtain ⟨h1, h2, h3⟩ := hg h8
     refine ⟨h1, h2, ?_⟩; rw [popT_append, hp, h3, List.append_nil]; exact hk.symm
 . exact .inr ⟨hB, ht.from hb⟩
theorem rep_calls (e : Ex) (t : List ByteArray) (b o k : Nat) (w : World) (h : PS w n0 pb wb l tg st) (hX : XAt w (fun b => b < n0) e b o) (hst : st.length <= 33554432) (hB : B \/ (wtS st + (xw e + 3 * k) <= 33554432 /\ l.length < 8388608)) : Calls Tryz.prog 93 #[.pointer (some ⟨pb, 0, none⟩), .pointer (some ⟨b, o, none⟩)] w fun r w' =>
 (r = .returned (.bool false) /\ ∃ st0, Hid (PS w' n0 pb wb l tg (st ++ st0) /\ Below n0 w w' /\ (st ++ st0).length <= 33554432 /\ wtS st0 <= 1 /\ popT st0 = [])) \/ (r = .returned (.bool true) /\ Hid (StepR B n0 w pb wb l tg st (.ex e t b o k) (.returned (.tuple #[])) w')) \/ ((∃ fb, r = .panicked [{ v := .iface 41 (.pointer (some ⟨fb, 0, none⟩)), recovered := false }]) /\ Hid (StepR B n0 w pb wb l tg st (.ex e t b o k) r w')) := by
 have hx0 : 0 < xw e := by obtain ⟨kd, a, nm, ex, gi, inf, im, ls, xs⟩ := e; rw [xw_node]; omega
 have hr : Calls Tryz.prog 93 #[.pointer (some ⟨pb, 0, none⟩), .pointer (some ⟨b, o, none⟩)] w fun r w' => RepR B n0 w pb wb l tg st e b o r w' := by
  by_cases h0 : e.xs.length = 0
  . exact repeat_none e b o w h hX h0
  . exact repeat_some e b o w h hX (by omega) hst (hB.imp id fun ⟨h1, h2⟩ => ⟨by omega, h2⟩)
 refine hr.mono ?_; intro r w' hh
 rcases hh with ⟨he, hb, h1 | ⟨f, h1, h2, h3⟩⟩ | ⟨he, hb, l', tg', h1, h2, h3⟩ | ⟨hB', ht⟩
 . exact .inl ⟨he, [], by rw [List.append_nil]; exact ⟨h1.2, hb, hst, by decide, rfl⟩⟩
 . exact .inl ⟨he, [.en e b o f], h2, hb, by rw [List.length_append]; exact h3, by simp [wtS, Pc.wt], by simp [popT, Pc.toks]⟩
 . refine .inr (.inl ⟨he, ?_⟩)
   exact .inl ⟨l', tg', [], rfl, by rw [List.append_nil]; exact h3, hb, by rw [List.append_nil]; exact hst, h2, by show 0 < xw e + 3 * k; omega, fun h8 => by omega⟩
 . obtain ⟨hb, fb, he⟩ := ht
   exact .inr (.inr ⟨⟨fb, he⟩, .inr ⟨hB', hb, fb, he⟩⟩)
theorem XAt.kind {w : World} {S : Nat -> Prop} {e : Ex} {b o : Nat} (h : XAt w S e b o) : S b /\ w.cell? ⟨b, o, none⟩ = some (.int .i64 (e.kd : Nat)) := by
 obtain ⟨kd, a, nm, ex, gi, inf, im, ls, xs⟩ := e; obtain ⟨_, _, _, _, _, h1, h2, _⟩ := h.open; exact ⟨h1, h2⟩
theorem expr_k1 (e : Ex) (t : List ByteArray) (hs : Sp e t) (b o k : Nat) (hkd : e.kd = 1) (hrk : k <= rkX e) (w : World) (hP : PS w n0 pb wb l tg st) (hX : XAt w (fun b => b < n0) e b o) (hst : st.length <= 33554432) (hB : B \/ (wtS st + (xw e + 3 * k) <= 33554432 /\ l.length < 8388608))
 (KC : ∀ (W1 : World) (st1 : List Pc), PS W1 n0 pb wb l tg st1 -> Below n0 w W1 -> st1.length <= 33554432 -> (B \/ wtS st1 + (xw e - 1) <= 33554432) -> Calls Tryz.prog 94 #[.pointer (some ⟨pb, 0, none⟩), .pointer (some ⟨b, o, none⟩)] W1 fun r w' => StepG B n0 W1 pb wb l tg st1 t (xw e - 1) r w') :
 Calls Tryz.prog 76 #[.pointer (some ⟨pb, 0, none⟩), .pointer (some ⟨b, o, none⟩), .int .i64 (k : Nat)] w fun r w' => StepR B n0 w pb wb l tg st (.ex e t b o k) r w' := by
 have KR : Hid (Calls Tryz.prog 92 #[.pointer (some ⟨b, o, none⟩)] w fun r w' => r = .returned (.int .i64 (rkX e : Nat)) /\ w' = w) := hide (rankOf_calls e t hs b o w hX)
 have KP := hide (rep_calls e t b o k w hP hX hst hB); have HKC := hide KC; have HK : Hid (inK e k t = t) := hide (by show brk (decide (rkX e < k)) t = t; rw [decide_eq_false (by omega)]; rfl); have HX := hide hX.kind
 have HB : Hid (∀ st0, wtS st0 <= 1 -> B \/ wtS (st ++ st0) + (xw e - 1) <= 33554432) := hide fun st0 h0 => hB.imp id fun ⟨h1, _⟩ => by
  have hx0 : 24 <= xw e := by obtain ⟨kd, a, nm, ex, gi, inf, im, ls, xs⟩ := e; rw [xw_node]; omega
  rw [wtS_append]; omega
 have hlt : ((rkX e : Int) < (k : Int)) = False := by simp; omega
 have HKd := hide hkd; generalize rkX e = rk at *; clear KC hP hX hst hB hs hkd hrk
 go_enter Tryz.func76, Tryz.ntmps76
 go_wp2_with (go_at_call 92; refine KR.out.mono ?_)
 intro r w1 h1; obtain ⟨rfl, hw1⟩ := h1; have hw1' := hw1.symm; subst hw1'; clear hw1 KR
 go_wp2_with (go_at_call 93; refine KP.out.mono ?_)
 intro r w2 h2; clear KP
 rcases h2 with ⟨rfl, st0, H0⟩ | ⟨rfl, HF⟩ | ⟨⟨fb, rfl⟩, HF⟩
 rotate_left
 . go_wp2_with fail
   go_end0; exact HF.out
 . go_wp2_with fail
   exact ⟨rfl, HF.out⟩
 have hc : w2.cell? ⟨b, o, none⟩ = some (.int .i64 1) := by
  have := (World.cell?_of_block (a := ⟨b, o, none⟩) (H0.out.2.1.block b HX.out.1)).trans HX.out.2; rw [HKd.out] at this; exact this
 have KF := hide (HKC.out w2 (st ++ st0) H0.out.1 H0.out.2.1 H0.out.2.2.1 (HB.out st0 H0.out.2.2.2.1)); clear HKC HB
 go_wp2_with (go_at_call 94; refine KF.out.mono ?_)
 intro r w9 h9; have HF : Hid (StepR B n0 w pb wb l tg st (.ex e t b o k) r w9) := hide (h9.outer H0.out.2.1 H0.out.2.2.2.1 H0.out.2.2.2.2 HK.out)
 rcases h9.form with rfl | ⟨fb, rfl⟩
 . clear h9 KF
   go_wp2_with fail
   go_end0; exact HF.out
 . clear h9 KF
   go_wp2_with fail
   exact ⟨rfl, HF.out⟩
theorem expr_k2 (e : Ex) (t : List ByteArray) (hs : Sp e t) (b o k : Nat) (hkd : e.kd = 2) (hrk : k <= rkX e) (w : World) (hP : PS w n0 pb wb l tg st) (hX : XAt w (fun b => b < n0) e b o) (hst : st.length <= 33554432) (hB : B \/ (wtS st + (xw e + 3 * k) <= 33554432 /\ l.length < 8388608))
 (KC : ∀ (W1 : World) (st1 : List Pc), PS W1 n0 pb wb l tg st1 -> Below n0 w W1 -> st1.length <= 33554432 -> (B \/ wtS st1 + (xw e - 1) <= 33554432) -> Calls Tryz.prog 95 #[.pointer (some ⟨pb, 0, none⟩), .pointer (some ⟨b, o, none⟩)] W1 fun r w' => StepG B n0 W1 pb wb l tg st1 t (xw e - 1) r w') :
 Calls Tryz.prog 76 #[.pointer (some ⟨pb, 0, none⟩), .pointer (some ⟨b, o, none⟩), .int .i64 (k : Nat)] w fun r w' => StepR B n0 w pb wb l tg st (.ex e t b o k) r w' := by
 have KR : Hid (Calls Tryz.prog 92 #[.pointer (some ⟨b, o, none⟩)] w fun r w' => r = .returned (.int .i64 (rkX e : Nat)) /\ w' = w) := hide (rankOf_calls e t hs b o w hX)
 have KP := hide (rep_calls e t b o k w hP hX hst hB); have HKC := hide KC; have HK : Hid (inK e k t = t) := hide (by show brk (decide (rkX e < k)) t = t; rw [decide_eq_false (by omega)]; rfl); have HX := hide hX.kind
 have HB : Hid (∀ st0, wtS st0 <= 1 -> B \/ wtS (st ++ st0) + (xw e - 1) <= 33554432) := hide fun st0 h0 => hB.imp id fun ⟨h1, _⟩ => by
  have hx0 : 24 <= xw e := by obtain ⟨kd, a, nm, ex, gi, inf, im, ls, xs⟩ := e; rw [xw_node]; omega
  rw [wtS_append]; omega
 have hlt : ((rkX e : Int) < (k : Int)) = False := by simp; omega
 have HKd := hide hkd; generalize rkX e = rk at *; clear KC hP hX hst hB hs hkd hrk
 go_enter Tryz.func76, Tryz.ntmps76
 go_wp2_with (go_at_call 92; refine KR.out.mono ?_)
 intro r w1 h1; obtain ⟨rfl, hw1⟩ := h1; have hw1' := hw1.symm; subst hw1'; clear hw1 KR
 go_wp2_with (go_at_call 93; refine KP.out.mono ?_)
 intro r w2 h2; clear KP
 rcases h2 with ⟨rfl, st0, H0⟩ | ⟨rfl, HF⟩ | ⟨⟨fb, rfl⟩, HF⟩
 rotate_left
 . go_wp2_with fail
   go_end0; exact HF.out
 . go_wp2_with fail
   exact ⟨rfl, HF.out⟩
 have hc : w2.cell? ⟨b, o, none⟩ = some (.int .i64 2) := by
  have := (World.cell?_of_block (a := ⟨b, o, none⟩) (H0.out.2.1.block b HX.out.1)).trans HX.out.2; rw [HKd.out] at this; exact this
 have KF := hide (HKC.out w2 (st ++ st0) H0.out.1 H0.out.2.1 H0.out.2.2.1 (HB.out st0 H0.out.2.2.2.1)); clear HKC HB
 go_wp2_with (go_at_call 95; refine KF.out.mono ?_)
 intro r w9 h9; have HF : Hid (StepR B n0 w pb wb l tg st (.ex e t b o k) r w9) := hide (h9.outer H0.out.2.1 H0.out.2.2.2.1 H0.out.2.2.2.2 HK.out)
 rcases h9.form with rfl | ⟨fb, rfl⟩
 . clear h9 KF
   go_wp2_with fail
   go_end0; exact HF.out
 . clear h9 KF
   go_wp2_with fail
   exact ⟨rfl, HF.out⟩
theorem expr_k4 (e : Ex) (t : List ByteArray) (hs : Sp e t) (b o k : Nat) (hkd : e.kd = 4) (hrk : k <= rkX e) (w : World) (hP : PS w n0 pb wb l tg st) (hX : XAt w (fun b => b < n0) e b o) (hst : st.length <= 33554432) (hB : B \/ (wtS st + (xw e + 3 * k) <= 33554432 /\ l.length < 8388608))
 (KC : ∀ (W1 : World) (st1 : List Pc), PS W1 n0 pb wb l tg st1 -> Below n0 w W1 -> st1.length <= 33554432 -> (B \/ wtS st1 + (xw e - 1) <= 33554432) -> Calls Tryz.prog 96 #[.pointer (some ⟨pb, 0, none⟩), .pointer (some ⟨b, o, none⟩)] W1 fun r w' => StepG B n0 W1 pb wb l tg st1 t (xw e - 1) r w') :
 Calls Tryz.prog 76 #[.pointer (some ⟨pb, 0, none⟩), .pointer (some ⟨b, o, none⟩), .int .i64 (k : Nat)] w fun r w' => StepR B n0 w pb wb l tg st (.ex e t b o k) r w' := by
 have KR : Hid (Calls Tryz.prog 92 #[.pointer (some ⟨b, o, none⟩)] w fun r w' => r = .returned (.int .i64 (rkX e : Nat)) /\ w' = w) := hide (rankOf_calls e t hs b o w hX)
 have KP := hide (rep_calls e t b o k w hP hX hst hB); have HKC := hide KC; have HK : Hid (inK e k t = t) := hide (by show brk (decide (rkX e < k)) t = t; rw [decide_eq_false (by omega)]; rfl); have HX := hide hX.kind
 have HB : Hid (∀ st0, wtS st0 <= 1 -> B \/ wtS (st ++ st0) + (xw e - 1) <= 33554432) := hide fun st0 h0 => hB.imp id fun ⟨h1, _⟩ => by
  have hx0 : 24 <= xw e := by obtain ⟨kd, a, nm, ex, gi, inf, im, ls, xs⟩ := e; rw [xw_node]; omega
  rw [wtS_append]; omega
 have hlt : ((rkX e : Int) < (k : Int)) = False := by simp; omega
 have HKd := hide hkd; generalize rkX e = rk at *; clear KC hP hX hst hB hs hkd hrk
 go_enter Tryz.func76, Tryz.ntmps76
 go_wp2_with (go_at_call 92; refine KR.out.mono ?_)
 intro r w1 h1; obtain ⟨rfl, hw1⟩ := h1; have hw1' := hw1.symm; subst hw1'; clear hw1 KR
 go_wp2_with (go_at_call 93; refine KP.out.mono ?_)
 intro r w2 h2; clear KP
 rcases h2 with ⟨rfl, st0, H0⟩ | ⟨rfl, HF⟩ | ⟨⟨fb, rfl⟩, HF⟩
 rotate_left
 . go_wp2_with fail
   go_end0; exact HF.out
 . go_wp2_with fail
   exact ⟨rfl, HF.out⟩
 have hc : w2.cell? ⟨b, o, none⟩ = some (.int .i64 4) := by
  have := (World.cell?_of_block (a := ⟨b, o, none⟩) (H0.out.2.1.block b HX.out.1)).trans HX.out.2; rw [HKd.out] at this; exact this
 have KF := hide (HKC.out w2 (st ++ st0) H0.out.1 H0.out.2.1 H0.out.2.2.1 (HB.out st0 H0.out.2.2.2.1)); clear HKC HB
 go_wp2_with (go_at_call 96; refine KF.out.mono ?_)
 intro r w9 h9; have HF : Hid (StepR B n0 w pb wb l tg st (.ex e t b o k) r w9) := hide (h9.outer H0.out.2.1 H0.out.2.2.2.1 H0.out.2.2.2.2 HK.out)
 rcases h9.form with rfl | ⟨fb, rfl⟩
 . clear h9 KF
   go_wp2_with fail
   go_end0; exact HF.out
 . clear h9 KF
   go_wp2_with fail
   exact ⟨rfl, HF.out⟩
theorem expr_k5 (e : Ex) (t : List ByteArray) (hs : Sp e t) (b o k : Nat) (hkd : e.kd = 5) (hrk : k <= rkX e) (w : World) (hP : PS w n0 pb wb l tg st) (hX : XAt w (fun b => b < n0) e b o) (hst : st.length <= 33554432) (hB : B \/ (wtS st + (xw e + 3 * k) <= 33554432 /\ l.length < 8388608))
 (KC : ∀ (W1 : World) (st1 : List Pc), PS W1 n0 pb wb l tg st1 -> Below n0 w W1 -> st1.length <= 33554432 -> (B \/ wtS st1 + (xw e - 1) <= 33554432) -> Calls Tryz.prog 97 #[.pointer (some ⟨pb, 0, none⟩), .string wFun, .pointer (some ⟨b, o, none⟩), .string sTo] W1 fun r w' => StepG B n0 W1 pb wb l tg st1 t (xw e - 1) r w') :
 Calls Tryz.prog 76 #[.pointer (some ⟨pb, 0, none⟩), .pointer (some ⟨b, o, none⟩), .int .i64 (k : Nat)] w fun r w' => StepR B n0 w pb wb l tg st (.ex e t b o k) r w' := by
 have KR : Hid (Calls Tryz.prog 92 #[.pointer (some ⟨b, o, none⟩)] w fun r w' => r = .returned (.int .i64 (rkX e : Nat)) /\ w' = w) := hide (rankOf_calls e t hs b o w hX)
 have KP := hide (rep_calls e t b o k w hP hX hst hB); have HKC := hide KC; have HK : Hid (inK e k t = t) := hide (by show brk (decide (rkX e < k)) t = t; rw [decide_eq_false (by omega)]; rfl); have HX := hide hX.kind
 have HB : Hid (∀ st0, wtS st0 <= 1 -> B \/ wtS (st ++ st0) + (xw e - 1) <= 33554432) := hide fun st0 h0 => hB.imp id fun ⟨h1, _⟩ => by
  have hx0 : 24 <= xw e := by obtain ⟨kd, a, nm, ex, gi, inf, im, ls, xs⟩ := e; rw [xw_node]; omega
  rw [wtS_append]; omega
 have hlt : ((rkX e : Int) < (k : Int)) = False := by simp; omega
 have HKd := hide hkd; generalize rkX e = rk at *; clear KC hP hX hst hB hs hkd hrk
 go_enter Tryz.func76, Tryz.ntmps76
 go_wp2_with (go_at_call 92; refine KR.out.mono ?_)
 intro r w1 h1; obtain ⟨rfl, hw1⟩ := h1; have hw1' := hw1.symm; subst hw1'; clear hw1 KR
 go_wp2_with (go_at_call 93; refine KP.out.mono ?_)
 intro r w2 h2; clear KP
 rcases h2 with ⟨rfl, st0, H0⟩ | ⟨rfl, HF⟩ | ⟨⟨fb, rfl⟩, HF⟩
 rotate_left
 . go_wp2_with fail
   go_end0; exact HF.out
 . go_wp2_with fail
   exact ⟨rfl, HF.out⟩
 have hc : w2.cell? ⟨b, o, none⟩ = some (.int .i64 5) := by
  have := (World.cell?_of_block (a := ⟨b, o, none⟩) (H0.out.2.1.block b HX.out.1)).trans HX.out.2; rw [HKd.out] at this; exact this
 have KF := hide (HKC.out w2 (st ++ st0) H0.out.1 H0.out.2.1 H0.out.2.2.1 (HB.out st0 H0.out.2.2.2.1)); clear HKC HB
 go_wp2_with (go_at_call 97; refine KF.out.mono ?_)
 intro r w9 h9; have HF : Hid (StepR B n0 w pb wb l tg st (.ex e t b o k) r w9) := hide (h9.outer H0.out.2.1 H0.out.2.2.2.1 H0.out.2.2.2.2 HK.out)
 rcases h9.form with rfl | ⟨fb, rfl⟩
 . clear h9 KF
   go_wp2_with fail
   go_end0; exact HF.out
 . clear h9 KF
   go_wp2_with fail
   exact ⟨rfl, HF.out⟩
theorem expr_k6 (e : Ex) (t : List ByteArray) (hs : Sp e t) (b o k : Nat) (hkd : e.kd = 6) (hrk : k <= rkX e) (w : World) (hP : PS w n0 pb wb l tg st) (hX : XAt w (fun b => b < n0) e b o) (hst : st.length <= 33554432) (hB : B \/ (wtS st + (xw e + 3 * k) <= 33554432 /\ l.length < 8388608))
 (KC : ∀ (W1 : World) (st1 : List Pc), PS W1 n0 pb wb l tg st1 -> Below n0 w W1 -> st1.length <= 33554432 -> (B \/ wtS st1 + (xw e - 1) <= 33554432) -> Calls Tryz.prog 98 #[.pointer (some ⟨pb, 0, none⟩), .pointer (some ⟨b, o, none⟩)] W1 fun r w' => StepG B n0 W1 pb wb l tg st1 t (xw e - 1) r w') :
 Calls Tryz.prog 76 #[.pointer (some ⟨pb, 0, none⟩), .pointer (some ⟨b, o, none⟩), .int .i64 (k : Nat)] w fun r w' => StepR B n0 w pb wb l tg st (.ex e t b o k) r w' := by
 have KR : Hid (Calls Tryz.prog 92 #[.pointer (some ⟨b, o, none⟩)] w fun r w' => r = .returned (.int .i64 (rkX e : Nat)) /\ w' = w) := hide (rankOf_calls e t hs b o w hX)
 have KP := hide (rep_calls e t b o k w hP hX hst hB); have HKC := hide KC; have HK : Hid (inK e k t = t) := hide (by show brk (decide (rkX e < k)) t = t; rw [decide_eq_false (by omega)]; rfl); have HX := hide hX.kind
 have HB : Hid (∀ st0, wtS st0 <= 1 -> B \/ wtS (st ++ st0) + (xw e - 1) <= 33554432) := hide fun st0 h0 => hB.imp id fun ⟨h1, _⟩ => by
  have hx0 : 24 <= xw e := by obtain ⟨kd, a, nm, ex, gi, inf, im, ls, xs⟩ := e; rw [xw_node]; omega
  rw [wtS_append]; omega
 have hlt : ((rkX e : Int) < (k : Int)) = False := by simp; omega
 have HKd := hide hkd; generalize rkX e = rk at *; clear KC hP hX hst hB hs hkd hrk
 go_enter Tryz.func76, Tryz.ntmps76
 go_wp2_with (go_at_call 92; refine KR.out.mono ?_)
 intro r w1 h1; obtain ⟨rfl, hw1⟩ := h1; have hw1' := hw1.symm; subst hw1'; clear hw1 KR
 go_wp2_with (go_at_call 93; refine KP.out.mono ?_)
 intro r w2 h2; clear KP
 rcases h2 with ⟨rfl, st0, H0⟩ | ⟨rfl, HF⟩ | ⟨⟨fb, rfl⟩, HF⟩
 rotate_left
 . go_wp2_with fail
   go_end0; exact HF.out
 . go_wp2_with fail
   exact ⟨rfl, HF.out⟩
 have hc : w2.cell? ⟨b, o, none⟩ = some (.int .i64 6) := by
  have := (World.cell?_of_block (a := ⟨b, o, none⟩) (H0.out.2.1.block b HX.out.1)).trans HX.out.2; rw [HKd.out] at this; exact this
 have KF := hide (HKC.out w2 (st ++ st0) H0.out.1 H0.out.2.1 H0.out.2.2.1 (HB.out st0 H0.out.2.2.2.1)); clear HKC HB
 go_wp2_with (go_at_call 98; refine KF.out.mono ?_)
 intro r w9 h9; have HF : Hid (StepR B n0 w pb wb l tg st (.ex e t b o k) r w9) := hide (h9.outer H0.out.2.1 H0.out.2.2.2.1 H0.out.2.2.2.2 HK.out)
 rcases h9.form with rfl | ⟨fb, rfl⟩
 . clear h9 KF
   go_wp2_with fail
   go_end0; exact HF.out
 . clear h9 KF
   go_wp2_with fail
   exact ⟨rfl, HF.out⟩
end
end Go.Proofs.YtockffblncdikaaGreatDoor
