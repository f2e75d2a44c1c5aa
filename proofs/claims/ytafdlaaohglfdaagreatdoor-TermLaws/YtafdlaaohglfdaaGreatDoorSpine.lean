/- The contract of Spine of package term. -/
import Derived.Test.YtafdlaaohglfdaaGreatDoorRSpine
import Derived.Test.YtafdlaaohglfdaaGreatDoorReverse
import Derived.Test.YtafdlaaohglfdaaGreatDoorApplyP
import Derived.Laws.OwnMore

namespace Go.Proofs.YtafdlaaohglfdaaGreatDoor
open Go.RowKit

instance : Inhabited T5 := ⟨⟨0, 0, ⟨#[]⟩, none, 0, 0, none, 0, 0⟩⟩

theorem Lies5.five {w : World} {g o : Nat} {x : T5} (h : Lies5 w g o x) : Five w g o x.v := ⟨x.k, x.n, x.nm, x.A, x.la, x.lc, x.A', x.ta, x.tc, rfl, h.c0, h.c1, h.c2, h.c3, h.c4⟩

theorem GRow.cells5 {W : World} {B n0 d g cap : Nat} {ts : List Tm} {xs : List Value} (h : GRow (TK d ts) W 29 5 B n0 ts.length (.slice (some ⟨g, 0, none⟩) ts.length cap) xs) : ∃ f : Nat → T5, ∀ i (hi : i < ts.length), Lies5 W g (i * 5) (f i) ∧ InTm W (fun b => (b < B ∨ n0 ≤ b) ∧ b ≠ g) d ts[i] (f i).v := by
  have ex : ∀ i (hi : i < ts.length), ∃ x : T5, Lies5 W g (i * 5) x ∧ InTm W (fun b => (b < B ∨ n0 ≤ b) ∧ b ≠ g) d ts[i] x.v := fun i hi => by
    have hix : i < xs.length := by rw [h.len]; exact hi
    obtain ⟨_, hin⟩ := h.parts i hix
    obtain ⟨k, n, nm, A1, m1, c1, A2, m2, c2, ev⟩ := hin.form
    have hg := fun q (hq : q < 5) => flat_get xs i _ q h.forms (by rw [List.getElem?_eq_getElem hix, ev]) hq
    have hc := h.own.cells (g := g) rfl
    have hin' : InTm W (fun b => (b < B ∨ n0 ≤ b) ∧ b ≠ g) d ts[i] xs[i] := hin.keep fun b _ hS => ⟨⟨hS.1, fun e => hS.2 (by rw [e]; rfl)⟩, rfl⟩
    rw [ev] at hin'
    refine ⟨⟨k, n, nm, A1, m1, c1, A2, m2, c2⟩, ⟨?_, ?_, ?_, ?_, ?_⟩, hin'⟩
    · have := hc _ _ (hg 0 (by omega)); rw [Addr.add_lit] at this; simpa using this
    · have := hc _ _ (hg 1 (by omega)); rw [Addr.add_lit] at this; simpa using this
    · have := hc _ _ (hg 2 (by omega)); rw [Addr.add_lit] at this; simpa using this
    · have := hc _ _ (hg 3 (by omega)); rw [Addr.add_lit] at this; simpa using this
    · have := hc _ _ (hg 4 (by omega)); rw [Addr.add_lit] at this; simpa using this
  refine ⟨fun i => if hi : i < ts.length then (ex i hi).choose else default, fun i hi => ?_⟩
  simp only [dif_pos hi]
  exact (ex i hi).choose_spec

/-- A row that is turned: what it holds then; the variable and the result's block stay. -/
def Turned (w : World) (d : Nat) (L : List Tm) (rv : Value) (c : Nat) (wr w' : World) : Prop :=
  LstT w' (fun b => b ≠ w.heap.size + 1) d L.reverse rv ∧ (∀ b, b < c → w'.heap[b]? = wr.heap[b]?) ∧ wr.heap.size ≤ w'.heap.size ∧ Below w.heap.size w w'

theorem reverse_row {w wr : World} {B d : Nat} {L : List Tm} {rv : Value} {xs : List Value} {k n k' n' : Int} {nm nm' : ByteArray} {v v' u u' : Value} (hr : GRow (TK d L) wr 29 5 B (w.heap.size + 2) L.length rv xs) (hv : TVar 29 wr w.heap.size k n nm v v') (hz : TVar 29 wr (w.heap.size + 1) k' n' nm' u u') (ho : Below w.heap.size w wr) (hB : B ≤ w.heap.size) (hn : L.length ≤ 1000000) :
    Calls Tryz.prog 29 #[rv] wr fun e w' => e = .returned (.tuple #[]) ∧ Turned w d L rv (w.heap.size + 2) wr w' := by
  have hl1 := hv.lt
  have hl2 := hz.lt
  rcases hr.own.2 with ⟨rfl, h0⟩ | ⟨g, cap, cur, rfl, hb, _⟩
  · have hL : L = [] := List.length_eq_zero_iff.1 h0
    subst hL
    refine (reverse_nil 0 wr).mono ?_
    rintro e w' ⟨rfl, rfl⟩
    exact ⟨rfl, ⟨none, 0, rfl, fun i hi => absurd hi (by simp)⟩, fun _ _ => rfl, Nat.le_refl _, ho⟩
  · obtain ⟨f, hf⟩ := hr.cells5
    refine (reverse_calls g L.length cap f wr hn (fun i hi => (hf i hi).1) hr.own.frozenAt).mono ?_
    rintro e w' ⟨rfl, hl, ht⟩
    have hbl := fun b (hb : b < wr.heap.size) (hne : b ≠ g) => ht.block b hb (by simpa using fun e => hne e)
    refine ⟨rfl, ⟨some ⟨g, 0, none⟩, cap, by rw [List.length_reverse], fun i hi => ?_⟩, fun b hb' => hbl b (Nat.lt_of_lt_of_le hb' (by omega)) (by omega), ht.size, ?_⟩
    · have hi' : i < L.length := by simpa using hi
      have e : L.reverse[i] = L[L.length - 1 - i] := List.getElem_reverse ..
      rw [e]
      exact ⟨g, (f (L.length - 1 - i)).v, rfl, by omega, (hl i hi').five, (hf (L.length - 1 - i) (by omega)).2.keep fun b hb hS => ⟨by rcases hS.1 with h | h <;> omega, hbl b hb hS.2⟩⟩
    · exact ho.trans (ht.below (B := w.heap.size) (by omega) (by omega))

set_option maxRecDepth 100000 in
set_option maxHeartbeats 4000000 in
theorem spine_calls (B d : Nat) (t : Tm) (v : Value) (w : World) (hd : d ≤ 1000000) (hB : B ≤ w.heap.size) (hwf : WfT d t) (hin : InTm w (fun b => b < B) d t v) :
    Calls Tryz.prog 12 #[v] w fun e w' => Spined w (d + 1) (headT d t) (backT d t).reverse e w' := by
  obtain ⟨k, nn, nm, A, la, lc, A', ta, tc, rfl⟩ := hin.form
  have hS : SpSt w B (d + 1) 0 d (backT d t) t ((w.alloc (.cells #[.int .i64 k, .int .i64 nn, .string nm, .slice A la lc, .slice A' ta tc] 29)).alloc ztm) (.slice none 0 0) [] := by
    have ho : Below w.heap.size w ((w.alloc (.cells #[.int .i64 k, .int .i64 nn, .string nm, .slice A la lc, .slice A' ta tc] 29)).alloc ztm) := ((Below.refl _ _).alloc (Nat.le_refl _) _).alloc (by simp) _
    refine ⟨⟨k, nn, nm, A, la, lc, A', ta, tc, ?_, hin.keep fun b hbl hS => ⟨hS, ho.block b hbl⟩⟩, ?_, ho, GRow.start _ _ _ _ _ _⟩
    · exact TVar.alloc (by exact heap_alloc_new _ _) _
    · have := heap_alloc_new (w.alloc (.cells #[.int .i64 k, .int .i64 nn, .string nm, .slice A la lc, .slice A' ta tc] 29)) ztm
      simpa [TVar] using this
  have hL := backT_len d t
  have HS := hide hS
  have HWf := hide hwf
  obtain ⟨i0, hi, hz0, hz1, hz2⟩ := info_parts Tryz.info29
  clear hS hin hwf
  generalize hLe : backT d t = L at *
  generalize hHe : headT d t = H at *
  have HL := hide hLe
  have HHd := hide hHe
  clear hLe hHe
  go_enter Tryz.func12, Tryz.ntmps12
  go_wp2_with fail
  go_loopg [4] (d) (fun g rv wr => ∃ (k0 e : Nat) (u : Tm) (xs : List Value), e ≤ g ∧ k0 + (backT e u).length = L.length ∧ L.drop k0 = backT e u ∧ H = headT e u ∧ WfT e u ∧ SpSt w B (d + 1) k0 e L u wr rv xs ∧ k0 + e ≤ d)
  case atStart => exact ⟨0, d, t, [], Nat.le_refl _, by rw [HL.out]; omega, by rw [HL.out]; rfl, HHd.out.symm, HWf.out, HS.out, by omega⟩
  case round =>
    obtain ⟨k0, e, u, xs, hg, hlen, hdrop, hhead, hwu, hS, hke⟩ := hrel
    cases e with
    | zero => exact absurd hwu (by simp [WfT])
    | succ e =>
    have HS1 := hide hS
    obtain ⟨⟨_, _, _, _, _, _, _, _, _, hv0, hin0⟩, hz, ho, hr⟩ := hS
    obtain ⟨A3, c3, A4, c4, hv, hin, hparts⟩ := var_open hv0 hin0
    have g0 := hv.c0
    have g1 := hv.c1
    have g2 := hv.c2
    have g3 := hv.c3
    have g4 := hv.c4
    have gl := hv.lt
    have gf := hv.f
    have xl := hz.lt
    have hsz := ho.size
    obtain ⟨a1, a2, a3, a4, a5, a6, a7, a8, a9, a10⟩ := hwu
    by_cases hk3 : u.kd = 3
    · have q0 : ((u.kd : Int) == 3) = true := by simp; omega
      have h2 : u.ts.length = 2 := by rw [a8, hk3]; rfl
      obtain ⟨b1, x, eb, hb1, h5, hin1⟩ := hparts 1 (by omega)
      obtain ⟨b2, y, eb2, hb2, h6, hin2⟩ := hparts 0 (by omega)
      rw [eb] at eb2
      injection eb2 with eb2
      injection eb2 with eb2 _
      subst eb2
      subst eb
      rw [h2] at g4
      obtain ⟨k7, n7, nm7, A7, l7, c7, A8, l8, c8, rfl, e0, e1, e2, e3, e4⟩ := h5
      obtain ⟨k9, n9, nm9, A9, l9, c9, A0, l0, c0, rfl, f0, f1, f2, f3, f4⟩ := h6
      simp only [Nat.one_mul, Nat.zero_mul, Nat.zero_add, Nat.reduceAdd] at e0 e1 e2 e3 e4 f0 f1 f2 f3 f4
      obtain ⟨ao, cc, rfl, hao⟩ := hr.shape
      have hst := spine_step (d := e) hk3
      have hk0 : k0 < L.length := by rw [hst.2] at hlen; simp only [List.length_cons] at hlen; omega
      have hLk : L[k0] = u.ts[1] := by
        have h7 : L[k0]? = some (u.ch 1) := by
          have := congrArg (fun l => l[0]?) hdrop
          simp only [List.getElem?_drop, Nat.add_zero, hst.2, List.getElem?_cons_zero] at this
          exact this
        rw [List.getElem?_eq_getElem hk0] at h7
        injection h7 with h7
        rw [h7, Tm.ch_eq (by omega)]
      have HRow := hide hr
      have K1 : Hid (Calls Tryz.prog 28 #[.agg #[.int .i64 k7, .int .i64 n7, .string nm7, .slice A7 l7 c7, .slice A8 l8 c8]] wr fun en w' => MadeT B wr (e + 1) L[k0] en w') := by
        rw [hLk]
        exact copyT_calls B e u.ts[1] _ wr (by omega) (by omega) (a10 1 (by omega)) hin1
      have HIn2 := hide hin2
      have HO := hide ho
      have hnext : L.drop (k0 + 1) = backT e (u.ch 0) := by
        have := congrArg List.tail hdrop
        rw [hst.2, List.tail_cons, List.tail_drop] at this
        exact this
      have HN : Hid (k0 + 1 + (backT e (u.ch 0)).length = L.length ∧ L.drop (k0 + 1) = backT e (u.ch 0) ∧ H = headT e (u.ch 0) ∧ WfT e (u.ch 0)) := ⟨by rw [hst.2] at hlen; simp only [List.length_cons] at hlen; omega, hnext, by rw [hhead, hst.1], by rw [Tm.ch_eq (by omega)]; exact a10 0 (by omega)⟩
      have hch : u.ts[0] = u.ch 0 := (Tm.ch_eq (by omega)).symm
      rw [hch] at HIn2
      have hao' : ∀ g, ao = some g → g.block ≠ w.heap.size ∧ g.block ≠ b1 ∧ g.block < wr.heap.size := fun g e => by have := hao g e; omega
      have HAo := hide hao
      clear hv0 hin0 hz ho hr hv hin hparts hin1 hin2 hlen hdrop hhead a3 a4 a5 a7 a8 a9 a10 hLk hst hnext hch hao hao'
      go_wp2_with (go_at_call 28; refine K1.out.mono ?_)
      rintro en w5 ⟨k5, n5, nm5, A5, l5, c5, A6, l6, c6, rfl, hin5, hb5⟩
      have hz5 := hb5.size
      have HIn5 := hide (hin5.deeper (e := d + 1) (by omega))
      have HB5 := hide hb5
      have HR5 := hide (GRow.later (TK.keeps _ _) HRow.out hb5)
      clear hin5 hb5 K1
      go_wp2_with (at_builtin; refine wpList_append_placed _ rfl _ _ 27 rfl (w.heap.size + 2) 29 i0 _ 5 80 Tryz.underlying27 hi hz0 hz1 hz2 rfl (by decide) (.slice ao k0 cc) k0 (flat xs) ?z1 (HR5.out.own.alloc _) ⟨w5.heap.size, 0, none⟩ 1 1 [.int .i64 k5, .int .i64 n5, .string nm5, .slice A5 l5 c5, .slice A6 l6 c6] ?z2 rfl ?z3 ?z4 (by decide) ?z5 ?z6 ?z7 ?_)
      case z1 => rfl
      case z2 => rfl
      case z3 => exact five_new _ _ _ _ _ _ _
      case z4 => intro u hu; simp at hu; rcases hu with rfl | rfl | rfl | rfl | rfl <;> rfl
      case z5 => unfold maxLen; omega
      case z6 => omega
      case z7 => simp; omega
      intro v' w6 hown6 hgr6 hpl6
      obtain ⟨hS6, hblk⟩ := HS1.out.next hB HB5.out hk0 HIn5.out rfl hown6 hgr6 (by simpa using hpl6) HIn2.out
      have HS6 := hide hS6
      have hne : ∀ b, b < w.heap.size + 2 → (Value.slice ao k0 cc).ownBlock ≠ some b := fun b hb e => by have := (HRow.out.own.lt b e).1; omega
      have hcc : ∀ b o u, b < w.heap.size + 2 → wr.cell? ⟨b, o, none⟩ = some u → w6.cell? ⟨b, o, none⟩ = some u := fun b o u hb hc => by
        rw [World.cell?_of_block (hblk b (by omega) (hne b hb))]; exact hc
      have p0 := hcc _ _ _ (by omega) g0
      have p1 := hcc _ _ _ (by omega) g1
      have p2 := hcc _ _ _ (by omega) g2
      have p3 := hcc _ _ _ (by omega) g3
      have p4 := hcc _ _ _ (by omega) g4
      have pf : ∀ i, w6.frozen? ⟨w.heap.size, i, none⟩ = false := fun i => by rw [World.frozen?_of_block (hblk _ gl (hne w.heap.size (by omega)))]; exact gf i
      have r0 := hcc _ _ _ (by omega) f0
      have r1 := hcc _ _ _ (by omega) f1
      have r2 := hcc _ _ _ (by omega) f2
      have r3 := hcc _ _ _ (by omega) f3
      have r4 := hcc _ _ _ (by omega) f4
      have pl : w.heap.size < w6.heap.size := Nat.lt_of_lt_of_le gl (Nat.le_trans (Nat.le_trans hz5 (by simp)) hgr6.size)
      clear hS6 hblk hne hcc hown6 hgr6 hpl6 g0 g1 g2 g3 g4 gf e0 e1 e2 e3 e4 f0 f1 f2 f3 f4
      go_wp2_with fail
      go_roundg (e)
      case measure => omega
      case rel => exact ⟨k0 + 1, e, u.ch 0, _, Nat.le_refl _, HN.out.1, HN.out.2.1, HN.out.2.2.1, HN.out.2.2.2, HS6.out, by omega⟩
    · have q0 : ((u.kd : Int) == 3) = false := by simp; omega
      have hend := spine_end (d := e) hk3
      have hkl : k0 = L.length := by rw [hend.2] at hlen; simp at hlen; omega
      have hHu : H = u := by rw [hhead, hend.1]
      subst hkl
      have HVr := hide hv
      have HZr := hide hz
      have KR := hide (reverse_row hr hv hz ho hB (by omega))
      obtain ⟨ao, cc, rfl, _⟩ := hr.shape
      have HWu : Hid (WfT (e + 1) u) := ⟨a1, a2, a3, a4, a5, a6, a7, a8, a9, a10⟩
      have HIu := hide hin
      clear hv0 hin0 hz ho hr hv hin hparts hlen hdrop hhead a3 a4 a5 a7 a8 a9 a10 hend HS1 HS HWf HL HHd
      subst hHu
      go_wp2_with (go_at_call 29; refine KR.out.mono ?_)
      rintro en w7 ⟨rfl, hlst, hsame, hsz7, hold7⟩
      have hv7 := HVr.out.of_block (hsame w.heap.size (by omega))
      have hz7 := HZr.out.of_block (hsame (w.heap.size + 1) (by omega))
      have g0 := hv7.c0
      have g1 := hv7.c1
      have g2 := hv7.c2
      have g3 := hv7.c3
      have g4 := hv7.c4
      have K3 := hide (copyT_calls B (e + 1) H _ w7 (by omega) (by omega) HWu.out (HIu.out.keep fun b _ hS => ⟨hS, hsame b (by omega)⟩))
      have HL7 := hide hlst
      have HO7 := hide hold7
      have HZ7 := hide hz7
      clear hlst hsame hold7 hz7 hv7 KR
      go_wp2_with (go_at_call 28; refine K3.out.mono ?_)
      rintro en w8 ⟨k5, n5, nm5, A5, l5, c5, A6, l6, c6, rfl, hin8, hb8⟩
      have hz8 := HZ7.out.of_block (hb8.block _ HZ7.out.lt)
      have x0 := hz8.c0
      have x1 := hz8.c1
      have x2 := hz8.c2
      have x3 := hz8.c3
      have x4 := hz8.c4
      have xf := hz8.f
      have xl2 := hz8.lt
      have h78 := hb8.size
      have HR : Hid (InTm (set5 w8 (w.heap.size + 1) (.int .i64 k5) (.int .i64 n5) (.string nm5) (.slice A5 l5 c5) (.slice A6 l6 c6)) (fun _ => True) (d + 1) H (.agg #[.int .i64 k5, .int .i64 n5, .string nm5, .slice A5 l5 c5, .slice A6 l6 c6]) ∧
          LstT (set5 w8 (w.heap.size + 1) (.int .i64 k5) (.int .i64 n5) (.string nm5) (.slice A5 l5 c5) (.slice A6 l6 c6)) (fun _ => True) (d + 1) L.reverse (.slice ao L.length cc) ∧ Below w.heap.size w (set5 w8 (w.heap.size + 1) (.int .i64 k5) (.int .i64 n5) (.string nm5) (.slice A5 l5 c5) (.slice A6 l6 c6))) := by
        refine ⟨(hin8.deeper (by omega)).keep fun b hb hS => ⟨trivial, set5_block (by rcases hS with h | h <;> omega)⟩, HL7.out.keep fun b hb hS => ⟨trivial, by rw [set5_block hS]; exact hb8.block b hb⟩, set5_below (by omega) (HO7.out.trans (hb8.mono HO7.out.size))⟩
      clear hz8 hin8 hb8 K3 g0 g1 g2 g3 g4
      go_wp2_with fail
      refine bodyPost_ret (v := .tuple #[.agg #[.int .i64 k5, .int .i64 n5, .string nm5, .slice A5 l5 c5, .slice A6 l6 c6], .slice ao L.length cc]) (by simp [results, Tryz.results12, go_sem, x0, x1, x2, x3, x4]) rfl ?_
      exact ⟨_, _, _, _, _, _, _, _, _, ao, cc, by rw [List.length_reverse], HR.out.1, by rw [List.length_reverse]; exact HR.out.2.1, HR.out.2.2⟩
end Go.Proofs.YtafdlaaohglfdaaGreatDoor
