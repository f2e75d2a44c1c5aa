/- The contracts of fault.Caught and of Parse. -/
import Derived.Test.YtockffblncdikaaGreatDoorXo
import Derived.Defers
import Derived.Recover
namespace Go.Proofs.YtockffblncdikaaGreatDoor
open Go.RowKit
set_option maxRecDepth 100000
set_option maxHeartbeats 16000000
theorem Tryz.size76 : (Tryz.prog.info? 48).map (·.size) = some 5 := by kernel_rfl
abbrev st00 : FS := ⟨⟨0, ⟨#[]⟩, 0⟩, 0, 0, 0⟩
theorem first_step (s : ByteArray) : FS.step s st00 = ⟨(lex s 0).1, (lex s 0).2, 0, 0⟩ := rfl
theorem first_ok (s : ByteArray) : (FS.step s st00).Ok s := by
 rw [first_step]; exact ⟨⟨0, lex_fit (Nat.zero_le _)⟩, by simp⟩
theorem first_left (s : ByteArray) : (FS.step s st00).left s < 2 * s.size + 2 := by
 unfold FS.left
 split <;> omega
def textG (s : ByteArray) : List Cm × FS := commandsN s (2 * s.size + 2) (2 * s.size + 2) [] (FS.step s st00)
theorem newScanner_calls (s : ByteArray) (w : World) (hs : s.size <= 200000) (ht : Tb w) :
 Calls Tryz.prog 16 #[.string s] w fun e w' => ∃ (k : Nat) (t : ByteArray) (r : Nat), e = .returned (.agg #[.string s, .int .i64 (k : Nat), .int .i64 ((lex s 0).1.at_ : Nat), .string t, .int .i64 (r : Nat)]) /\ PT (lex s 0).1 (lex s 0).2 k t r /\ t.size <= s.size /\ Below w.heap.size w w' := by
 have hB2 : Below w.heap.size w ((w.alloc (.cells #[.string ⟨#[]⟩, .int .i64 0, .int .i64 0, .string ⟨#[]⟩, .int .i64 0] 48)).alloc (.cells #[.string s, .int .i64 0, .int .i64 0, .string ⟨#[]⟩, .int .i64 0] 48)) := ((Below.refl _ _).alloc (Nat.le_refl _) _).alloc (by simp) _
 have hbv := heap_alloc2_new w (.cells #[.string ⟨#[]⟩, .int .i64 0, .int .i64 0, .string ⟨#[]⟩, .int .i64 0] 48) (.cells #[.string s, .int .i64 0, .int .i64 0, .string ⟨#[]⟩, .int .i64 0] 48)
 have hbr := heap_alloc2_old w (.cells #[.string ⟨#[]⟩, .int .i64 0, .int .i64 0, .string ⟨#[]⟩, .int .i64 0] 48) (.cells #[.string s, .int .i64 0, .int .i64 0, .string ⟨#[]⟩, .int .i64 0] 48); have ht10 := ht.lt
 have KA := hide (advance_calls (w.heap.size + 1) 48 [] s 0 0 ⟨#[]⟩ 0 _ hbv hs (Nat.zero_le _) (ht.sg.later hB2) (by omega)); have HB2 := hide hB2
 have hsz : ((w.alloc (.cells #[.string ⟨#[]⟩, .int .i64 0, .int .i64 0, .string ⟨#[]⟩, .int .i64 0] 48)).alloc (.cells #[.string s, .int .i64 0, .int .i64 0, .string ⟨#[]⟩, .int .i64 0] 48)).heap.size = w.heap.size + 2 := by simp
 generalize lex s 0 = lx at *
 go_enter Tryz.func16, Tryz.ntmps16
 go_upto_region 2 with fail
 clear hbv hB2; generalize ((w.alloc (.cells #[.string ⟨#[]⟩, .int .i64 0, .int .i64 0, .string ⟨#[]⟩, .int .i64 0] 48)).alloc (.cells #[.string s, .int .i64 0, .int .i64 0, .string ⟨#[]⟩, .int .i64 0] 48)) = W2 at *
 go_wp2_with (go_at_call 24; refine KA.out.mono ?_)
 rintro e W3 ⟨rfl, hS3, hT3⟩; obtain ⟨k, t, r, hw3, hp3, hz3⟩ := hS3; have hbr3 := (hT3.at (k := w.heap.size) (by omega) (by omega)).trans hbr; have c0 := hw3.c0; have c1 := hw3.c1; have c2 := hw3.c2; have c3 := hw3.c3
 have c4 := hw3.c4; obtain ⟨r0, r1, r2, r3, r4, rf⟩ := cells5 hbr3; have HR5 := hide (set5 hbr3 (.string s) (.int .i64 (k : Nat)) (.int .i64 (lx.1.at_ : Nat)) (.string t) (.int .i64 (r : Nat))); have HP3 := hide hp3
 have HB3 : Hid (Below w.heap.size w W3) := hide (HB2.out.trans (hT3.below (by omega) (by omega))); clear hw3 hp3 hbr3 hbr hT3 KA hsz
 go_wp2_with fail
 refine bodyPost_ret (results_cell_row rfl _ _ w.heap.size 48 _ (0, 0) _ rfl HR5.out Tryz.underlying48 rfl Tryz.size76) rfl ?_
 exact ⟨k, t, r, rfl, HP3.out, hz3, ((((HB3.out.setCell (p := ⟨w.heap.size, 0, none⟩) (Nat.le_refl _) _).setCell (p := ⟨w.heap.size, 1, none⟩) (Nat.le_refl _) _).setCell (p := ⟨w.heap.size, 2, none⟩) (Nat.le_refl _) _).setCell (p := ⟨w.heap.size, 3, none⟩) (Nat.le_refl _) _).setCell (p := ⟨w.heap.size, 4, none⟩) (Nat.le_refl _) _⟩
theorem newReader_calls (s : ByteArray) (w : World) (hs : s.size <= 200000) (ht : Tb w) :
 Calls Tryz.prog 9 #[.string s] w fun e w' => ∃ (rb : Nat) (mv : Value), e = .returned (.pointer (some ⟨rb, 0, none⟩)) /\ w.heap.size <= rb /\ Rdy w' rb mv s (FS.step s st00) /\ Below w.heap.size w w' := by
 have KS := hide (newScanner_calls s w hs ht); have HT := hide ht; have ht10 := ht.lt; clear ht
 go_enter Tryz.func9, Tryz.ntmps9
 go_wp2_with (go_at_call 16; refine KS.out.mono ?_)
 intro e W1 h1; obtain ⟨k, t, r, rfl, hp1, hz1, hB1⟩ := h1; have KT := hide (tacticKinds_calls W1); have HP1 := hide hp1; have HB1 := hide hB1; have hl1 := hB1.size; clear hp1 hB1 KS
 go_wp2_with (go_at_call 17; refine KT.out.mono ?_)
 intro e W2 h2; obtain ⟨mb, rfl, hmb, hB2, hml, D, ho, ha⟩ := h2; have HB2 := hide (HB1.out.trans (hB2.mono hl1)); have hl2 := hB2.size
 have HTm : Hid (Rdy (W2.alloc (.cells #[.string s, .int .i64 (k : Nat), .int .i64 ((lex s 0).1.at_ : Nat), .string t, .int .i64 (r : Nat), .map (some mb), .int .i64 4194304] 53)) W2.heap.size (.map (some mb)) s (FS.step s st00)) := by
  refine ⟨⟨rfl, 4194304, k, t, r, heap_alloc_new _ _, HP1.out, hz1⟩, first_ok s, HT.out.later (HB2.out.alloc (by omega) _), ⟨mb, D, rfl, by omega, by simp; omega, ho.alloc _, ha⟩, hs, by omega⟩
 clear hB2 hml ho ha KT HP1 HB1 HT; generalize (lex s 0).1.at_ = ta at *
 go_wp2_with fail
 go_ret; exact ⟨W2.heap.size, .map (some mb), rfl, by omega, HTm.out, HB2.out.alloc (by omega) _⟩
theorem commandsN_end {s : ByteArray} (n : Nat) : ∀ (m : Nat) (l : List Cm) (st : FS), st.Ok s -> st.left s < m -> (commandsN s n m l st).2.code = 0 -> (commandsN s n m l st).2.t.kd = 0
 | 0, _, _, _, h, _ => absurd h (by omega)
 | m + 1, l, st, ho, h, hc => by
   simp only [commandsN] at hc ⊢
   by_cases hp : st.code = 0 /\ st.t.kd ≠ 0
   . rw [if_pos hp] at hc ⊢
     by_cases hk : kindNo st = 0
     . have hcf : (commandF s n st).2.code ≠ 0 := by rw [commandF_zero hk]; unfold FS.fail; rw [if_pos hp.1]; simp
       rw [commands_stop (fun h => hcf h.1)] at hc; exact absurd hc hcf
     . have := commandF_left (n := n) ho hp.1 hk
       exact commandsN_end n m _ _ (commandF_fwd n st ho).ok (by omega) hc
   . rw [if_neg hp] at hc ⊢
     have hc' : st.code = 0 := hc; exact Decidable.byContradiction fun h => hp ⟨hc', h⟩
theorem textG_end {s : ByteArray} (h : Lost (textG s).2) : (textG s).2.code ≠ 0 := fun hc => by
 have h0 := commandsN_end (s := s) (2 * s.size + 2) (2 * s.size + 2) [] (FS.step s st00) (first_ok s) (first_left s) hc
 rcases h with h | h
 . exact h hc
 . have h0' : (textG s).2.t.kd = 0 := h0
   omega
def TextBad (s : ByteArray) (code a : Nat) : Prop := (s.size <= 200000 /\ (textG s).2.code ≠ 0 /\ code = 1 /\ a = (textG s).2.fat) \/ (200000 < s.size /\ code = 2 /\ a = 0)
def TextIs (s : ByteArray) : Prop := s.size <= 200000 /\ (textG s).2.code = 0
def Work (w : World) (s : ByteArray) (e : Ending) (w' : World) : Prop :=
 (∃ (A : Option Addr) (c : Nat), TextIs s /\ e = .returned (.slice A (textG s).1.length c) /\ CmsIn w' (fun b => w.heap.size <= b) A (textG s).1 /\ Below w.heap.size w w') \/ ∃ code a, TextBad s code a /\ Threw w w.heap.size code a e w'
def Answer (w : World) (s : ByteArray) (e : Ending) (w' : World) : Prop :=
 (∃ (A : Option Addr) (c : Nat), TextIs s /\ e = .returned (.tuple #[.slice A (textG s).1.length c, .nilIface]) /\ CmsIn w' (fun b => w.heap.size <= b) A (textG s).1 /\ Below w.heap.size w w') \/
 (∃ code a, TextBad s code a /\ ∃ N : Nat, e = .returned (.tuple #[.slice none 0 0, .iface 41 (.pointer (some ⟨N, 0, none⟩))]) /\ w.heap.size <= N /\ w'.heap[N]? = some (.cells #[.int .i64 (code : Nat), .int .i64 (a : Nat)] 77 (0, 0)) /\ Below w.heap.size w w')
theorem closure_calls (s : ByteArray) (xb : Nat) (w : World) (hm : s.size <= maxLen) (ht : Tb w) (c3 : w.cell? ⟨xb, 0, none⟩ = some (.string s)) :
 Calls Tryz.prog 7 #[.pointer (some ⟨xb, 0, none⟩)] w fun e w' => Work w s e w' := by
 unfold maxLen at hm
 by_cases hs : s.size <= 200000
 . have KN := hide (newReader_calls s w hs ht)
   have hs' : ¬ 200000 < s.size := by omega
   have q1 : decide ((200000 : Int) < (s.size : Int)) = false := by simp; omega
   have HFl : Hid (∀ W rb mv, Rdy W rb mv s (FS.step s st00) -> Calls Tryz.prog 10 #[.pointer (some ⟨rb, 0, none⟩)] W fun e w' => RX W rb mv s (textG s).2 (CmsR W (textG s).1) e w') := hide fun W rb mv hW => file_calls (2 * s.size + 2) (by omega) _ W hW (first_left s)
   have HEn := hide (textG_end (s := s))
   have HWk : Hid (∀ W rb mv e w', Below w.heap.size w W -> w.heap.size <= rb -> RX W rb mv s (textG s).2 (CmsR W (textG s).1) e w' -> Work w s e w') := hide fun W rb mv e w' hB hrb h => by
    have hz := hB.size
    rcases h with ⟨hc, ⟨A, c, he, hL⟩, hR, hT⟩ | ⟨hc, hth⟩
    . exact .inl ⟨A, c, ⟨hs, hc⟩, he, hL.keep fun b _ hb => ⟨Nat.le_trans hz hb, rfl⟩, hB.trans (hT.below hz hrb)⟩
    . have hcc := HEn.out hc
      obtain ⟨fb, he, hfb, hfc, hT⟩ := hth; have hBt : Below w.heap.size w w' := hB.trans (hT.below hz hrb)
      exact .inr ⟨1, (textG s).2.fat, .inl ⟨hs, hcc, rfl, rfl⟩, fb, he, Nat.le_trans hz hfb, by rw [fp_of hcc] at hfc; exact hfc, Touched.of_below hBt⟩
   clear ht
   go_enter Tryz.func7, Tryz.ntmps7
   go_wp2_with (go_at_call 9; refine KN.out.mono ?_)
   intro e W1 h1; obtain ⟨rb, mv, rfl, hrb, hR1, hB1⟩ := h1; have KF := hide (HFl.out W1 rb mv hR1); have HB1 := hide hB1; clear hR1 hB1 KN HFl
   go_wp2_with (go_at_call 10; refine KF.out.mono ?_)
   intro e W2 h2; have HF := hide (HWk.out W1 rb mv e W2 HB1.out hrb h2)
   rcases h2 with ⟨-, ⟨A, c, rfl, -⟩, -, -⟩ | ⟨-, fb, rfl, -⟩
   . clear KF HWk HEn
     go_wp2_with fail
     go_ret; exact HF.out
   . clear KF HWk HEn
     go_wp2_with fail
     exact ⟨rfl, HF.out⟩
 . have K := hide (throw_calls 2 w.heap.size w)
   have hs' : 200000 < s.size := by omega
   have q1 : decide ((200000 : Int) < (s.size : Int)) = true := by simp; omega
   clear hs
   go_enter Tryz.func7, Tryz.ntmps7
   go_wp2_with (go_at_call 8; refine K.out.mono ?_)
   intro e w1 h1; have HF : Hid (Work w s e w1) := .inr ⟨2, 0, .inr ⟨hs', rfl, rfl⟩, h1⟩; obtain ⟨fb, rfl, -⟩ := h1
   go_wp2_with fail
   exact ⟨rfl, HF.out⟩
theorem catch_idle (p q : Addr) (w : World) :
 CallsD Tryz.prog 14 #[.pointer (some p), .pointer (some q)] .returning w fun e u' w' => e = .returned (.tuple #[]) /\ u' = .returning /\ w' = w := by
 refine callsD_of_wpS Tryz.func14 rfl fun c₀ cs hu => ?_
 apply wpS_seq
 apply wpS_region
 simp [wpOpsS, go_sem, recoverD, hu, Tryz.ntmps14, Exit.thenS]
 apply wpS_seq
 apply wpS_seq
 apply wpS_region
 simp [wpOpsS, go_sem, Exit.thenS]
 refine wpS_cond (t := true) (by simp [Act.eval, Array.replicate]) ?_
 simp only [if_true]
 refine wpS_of_wp (wp_ret ?_)
 cases c₀
 simp_all [bodyPostS, results, Tryz.results14, Exit.thenS]
theorem Tryz.isFault (v : Value) (w : World) : (Instr.typeAssert (.iface 41 v) 20 41 true).run Tryz.prog w = .ok (.tuple #[v, .bool true]) w := by kernel_rfl
theorem catch_throw (b c fb : Nat) (x y : Value) (w : World) (hb : w.heap[b]? = some (.cells #[x] 23 (0, 0))) (hc : w.heap[c]? = some (.cells #[y] 25 (0, 0))) (hne : b ≠ c) :
 CallsD Tryz.prog 14 #[.pointer (some ⟨b, 0, none⟩), .pointer (some ⟨c, 0, none⟩)] (.panicking [{ v := .iface 41 (.pointer (some ⟨fb, 0, none⟩)), recovered := false }]) w fun e u' w' =>
  e = .returned (.tuple #[]) /\ u' = .panicking [{ v := .iface 41 (.pointer (some ⟨fb, 0, none⟩)), recovered := true }] /\
  w' = (w.setCell ⟨b, 0, none⟩ (.slice none 0 0)).setCell ⟨c, 0, none⟩ (.iface 41 (.pointer (some ⟨fb, 0, none⟩))) := by
 have hbl : b < w.heap.size := (Array.getElem?_eq_some_iff.1 hb).1; have hcl : c < w.heap.size := (Array.getElem?_eq_some_iff.1 hc).1; have b0 : w.cell? ⟨b, 0, none⟩ = some x := by simp [World.cell?, hb]
 have bf : ∀ i, w.frozen? ⟨b, i, none⟩ = false := fun i => by simp [World.frozen?, hb]
 have c0 : w.cell? ⟨c, 0, none⟩ = some y := by simp [World.cell?, hc]
 have cf : ∀ i, w.frozen? ⟨c, i, none⟩ = false := fun i => by simp [World.frozen?, hc]
 have hne' : ¬ b = c := hne; have hne2 : ¬ c = b := fun e => hne e.symm
 have hta := Tryz.isFault; clear hb hc hne; refine callsD_of_wpS Tryz.func14 rfl fun c₀ cs hu => ?_
 apply wpS_seq
 apply wpS_region
 simp [wpOpsS, go_sem, recoverD, hu, Tryz.ntmps14, Exit.thenS]
 apply wpS_seq
 apply wpS_seq
 apply wpS_region
 simp [wpOpsS, go_sem, Exit.thenS]
 refine wpS_cond (t := false) (by simp [Act.eval, Array.replicate]) ?_
 simp only [Bool.false_eq_true, if_false]
 refine wpS_of_wp (wp_skip ?_)
 simp only [Exit.thenS]
 refine wpS_of_wp ?_
 change Code.wp _ _ _ { tmps := #[.pointer (some ⟨b, 0, none⟩), .pointer (some ⟨c, 0, none⟩), .iface 41 (.pointer (some ⟨fb, 0, none⟩)), undef, undef, undef, .iface 41 (.pointer (some ⟨fb, 0, none⟩)), .iface 41 (.pointer (some ⟨fb, 0, none⟩)), .bool false, undef, undef, undef, undef, undef, undef, undef, undef, undef, undef, undef], defers := [] } w
 go_wp2_with fail
 simp [bodyPostS, results, Tryz.results14, go_sem]
theorem caught_calls (p3 : Value) (s : ByteArray) (w : World) (K : ∀ W, Below w.heap.size w W -> Calls Tryz.prog 7 #[p3] W fun e w' => Work W s e w') :
 Calls Tryz.prog 6 #[.func (.func 7) #[] #[p3]] w fun e w' => Answer w s e w' := by
 have hold : Below w.heap.size w ((w.alloc (.cells #[.slice none 0 0] 23)).alloc (.cells #[.nilIface] 25)) := ((Below.refl _ _).alloc (Nat.le_refl _) _).alloc (by simp) _; have K1 := hide (K _ hold); have HO := hide hold
 have hmf : ∀ (fn : Fn) (first cap : Array Value) (w : World), (Instr.makeFunc fn first cap).run Tryz.prog w = .ok (.func fn first cap) w := fun _ _ _ _ => rfl
 clear K hold
 go_enter_defers Tryz.func6, Tryz.ntmps6
 go_wp2_with (go_at_call 7; refine K1.out.mono ?_)
 intro e w1 h1
 have hh : Touched ((w.alloc (.cells #[.slice none 0 0] 23)).alloc (.cells #[.nilIface] 25)) (w.heap.size + 2) w1 := by
  rcases h1 with ⟨_, _, _, _, _, hB⟩ | ⟨_, _, _, _, _, _, _, hT⟩
  . exact Touched.of_below hB
  . simpa using hT
 have hz1 := hh.size
 simp at hz1
 have hb0 : w1.heap[w.heap.size]? = some (.cells #[.slice none 0 0] 23 (0, 0)) := by
  rw [hh.block w.heap.size (by simp; omega) (by simp), Below.heap_alloc _ _ _ (by simp)]; exact heap_alloc_new w _
 have hb1 : w1.heap[w.heap.size + 1]? = some (.cells #[.nilIface] 25 (0, 0)) := by
  rw [hh.block (w.heap.size + 1) (by simp) (by simp)]; have := heap_alloc_new (w.alloc (.cells #[.slice none 0 0] 23)) (.cells #[.nilIface] 25)
  simpa using this
 have hB : Below w.heap.size w w1 := ((Touched.of_below HO.out).trans hh).below (B := w.heap.size) (Nat.le_refl _) (by omega)
 have hBs : ∀ u v, Below w.heap.size w ((w1.setCell ⟨w.heap.size, 0, none⟩ u).setCell ⟨w.heap.size + 1, 0, none⟩ v) := fun u v => (hB.setCell (p := ⟨w.heap.size, 0, none⟩) (Nat.le_refl _) _).setCell (p := ⟨w.heap.size + 1, 0, none⟩) (Nat.le_succ _) _
 have d0 : w1.cell? ⟨w.heap.size, 0, none⟩ = some (.slice none 0 0) := by simp [World.cell?, hb0]
 have d3 : ∀ i, w1.frozen? ⟨w.heap.size, i, none⟩ = false := fun i => by simp [World.frozen?, hb0]
 have e4 : w1.cell? ⟨w.heap.size + 1, 0, none⟩ = some .nilIface := by simp [World.cell?, hb1]
 have e5 : ∀ i, w1.frozen? ⟨w.heap.size + 1, i, none⟩ = false := fun i => by simp [World.frozen?, hb1]
 have d4 : w.heap.size < w1.heap.size := by omega
 have e7 : w.heap.size + 1 < w1.heap.size := by omega
 have HBs := hide hBs; have Hb0 := hide hb0; have Hb1 := hide hb1; clear hh hB hBs hb0 hb1
 rcases h1 with ⟨A, c, hR, rfl, hV, -⟩ | ⟨code, a, hno, fb, rfl, hfb, hfc, -⟩
 . have HF : Hid (∀ W, (∀ b, b ≠ w.heap.size -> b ≠ w.heap.size + 1 -> W.heap[b]? = w1.heap[b]?) -> Below w.heap.size w W -> Answer w s (.returned (.tuple #[.slice A (textG s).1.length c, .nilIface])) W) := fun W hW hb =>
    .inl ⟨A, c, hR, rfl, hV.keep fun b _ hS => by simp at hS; exact ⟨by omega, hW b (by omega) (by omega)⟩, hb⟩
   clear hR hV
   go_wp2_with fail
   refine leaves_cons (f := 14) (args := #[.pointer (some ⟨w.heap.size, 0, none⟩), .pointer (some ⟨w.heap.size + 1, 0, none⟩)]) (by simp) (by simp [go_sem]) ?_
   refine (catch_idle ⟨w.heap.size, 0, none⟩ ⟨w.heap.size + 1, 0, none⟩ _).mono ?_; rintro e u' w'' ⟨rfl, rfl, rfl⟩
   simp [Leaves, settle, results, Tryz.results6, go_sem, d0, e4]
   refine HF.out _ (fun b h0 h1 => ?_) (HBs.out _ _); rw [Below.heap_setCell _ _ _ _ (by show b ≠ w.heap.size + 1; exact h1), Below.heap_setCell _ _ _ _ (by show b ≠ w.heap.size; exact h0)]
 . have KC := hide (catch_throw w.heap.size (w.heap.size + 1) fb _ _ w1 Hb0.out Hb1.out (by omega))
   have HF : Hid (∀ W, W.heap[fb]? = some (.cells #[.int .i64 (code : Nat), .int .i64 (a : Nat)] 77 (0, 0)) -> Below w.heap.size w W -> Answer w s (.returned (.tuple #[.slice none 0 0, .iface 41 (.pointer (some ⟨fb, 0, none⟩))])) W) := fun W hfW hb => .inr ⟨code, a, hno, fb, rfl, by simp at hfb; omega, hfW, hb⟩
   have Hfb : Hid (w.heap.size + 2 <= fb) := by unfold Hid; simp at hfb; omega
   have Hfc := hide hfc; clear hno hfb hfc
   go_wp2_with fail
   refine leaves_cons (f := 14) (args := #[.pointer (some ⟨w.heap.size, 0, none⟩), .pointer (some ⟨w.heap.size + 1, 0, none⟩)]) (by simp) (by simp [go_sem]) ?_; refine KC.out.mono ?_; intro e u' W hW
   obtain ⟨rfl, rfl, hW⟩ := hW
   have g0 : W.cell? ⟨w.heap.size, 0, none⟩ = some (.slice none 0 0) := by
    rw [hW]
    simp [World.cell?, World.setCell, Array.getElem?_modify, Hb0.out]
   have g1 : W.cell? ⟨w.heap.size + 1, 0, none⟩ = some (.iface 41 (.pointer (some ⟨fb, 0, none⟩))) := by
    rw [hW]
    simp [World.cell?, World.setCell, Array.getElem?_modify, Hb1.out]
   have HB := hide (HBs.out (.slice none 0 0) (.iface 41 (.pointer (some ⟨fb, 0, none⟩)))); rw [<- hW] at HB
   have HW2 : Hid (W.heap[fb]? = some (.cells #[.int .i64 (code : Nat), .int .i64 (a : Nat)] 77 (0, 0))) := by
    have := Hfb.out; rw [hW, Below.heap_setCell _ _ _ _ (by show fb ≠ w.heap.size + 1; omega), Below.heap_setCell _ _ _ _ (by show fb ≠ w.heap.size; omega)]; exact Hfc.out
   clear hW KC
   simp [Leaves, settle, results, Tryz.results6, go_sem, g0, g1]
   exact HF.out W HW2.out HB.out
theorem Answer.from {w w0 w' : World} {s : ByteArray} {e : Ending} (h : Answer w s e w') (hb : Below w0.heap.size w0 w) : Answer w0 s e w' := by
 have hz := hb.size
 rcases h with ⟨A, c, hR, he, hV, hB⟩ | ⟨code, a, hno, N, he, hN, hc, hB⟩
 . exact .inl ⟨A, c, hR, he, hV.keep fun b _ hS => ⟨Nat.le_trans hz hS, rfl⟩, hb.trans (hB.mono hz)⟩
 . exact .inr ⟨code, a, hno, N, he, by omega, hc, hb.trans (hB.mono hz)⟩
theorem Answer.form {w w' : World} {s : ByteArray} {e : Ending} (h : Answer w s e w') : ∃ (A : Option Addr) (n c : Nat) (f : Value), e = .returned (.tuple #[.slice A n c, f]) := by
 rcases h with ⟨A, c, _, he, _⟩ | ⟨_, _, _, N, he, _⟩
 . exact ⟨_, _, _, _, he⟩
 . exact ⟨_, _, _, _, he⟩
theorem parse_calls (s : ByteArray) (w : World) (hm : s.size <= maxLen) (ht : Tb w) : Calls Tryz.prog 4 #[.string s] w fun e w' => Answer w s e w' := by
 have hold : Below w.heap.size w (w.alloc (.cells #[.string s] 9)) := (Below.refl _ _).alloc (Nat.le_refl _) _
 have x3 : (w.alloc (.cells #[.string s] 9)).cell? ⟨w.heap.size, 0, none⟩ = some (.string s) := cell_of (heap_alloc_new _ _) 0 rfl
 have K1 := hide (caught_calls (.pointer (some ⟨w.heap.size, 0, none⟩)) s (w.alloc (.cells #[.string s] 9)) fun W hW => closure_calls s w.heap.size W hm ((ht.later hold).later hW) (cell_later hW x3))
 have HO := hide hold; have hmf : ∀ (fn : Fn) (first cap : Array Value) (w : World), (Instr.makeFunc fn first cap).run Tryz.prog w = .ok (.func fn first cap) w := fun _ _ _ _ => rfl
 clear hold x3 ht
 go_enter Tryz.func4, Tryz.ntmps4
 go_wp2_with (go_at_call 6; refine K1.out.mono ?_)
 intro e w1 h1; obtain ⟨A, n, c, f, rfl⟩ := h1.form; have HF := hide (h1.from HO.out); clear h1 K1
 go_wp2_with fail
 refine bodyPost_ret (v := .tuple #[.slice A n c, f]) (by simp [results, Tryz.results4, go_sem]) rfl ?_; exact HF.out
end Go.Proofs.YtockffblncdikaaGreatDoor
