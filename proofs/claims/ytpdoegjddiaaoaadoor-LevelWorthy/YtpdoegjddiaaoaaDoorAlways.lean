/- The contract of always: it tells whether the test holds of all numbers that are tried. -/
import Derived.Test.YtpdoegjddiaaoaaDoorTryAll
import Derived.Test.YtpdoegjddiaaoaaDoorParams
import Derived.Test.YtpdoegjddiaaoaaDoorWritten
namespace Go.Proofs.YtpdoegjddiaaoaaDoor
open Go.RowKit Go.Maps

theorem Names.of_owns {w : World} {base : Nat} {v : Value} {ns : List ByteArray} (h : w.ownsRow base 9 1 v ns.length (ns.map .string)) : Names w base v ns := by
  have hlt := h.lt
  have hcells := fun g hg => h.cells (g := g) hg
  rcases h.2 with ⟨rfl, hn⟩ | ⟨g, cap, cur, rfl, hb, hg, h1, h2, _⟩
  · exact ⟨none, 0, by rw [hn], by omega, by unfold maxLen; omega, fun i hi => absurd hi (by omega)⟩
  · refine ⟨some ⟨g, 0, none⟩, cap, rfl, h1, h2, fun i hi => ⟨g, 0, rfl, hb, ?_⟩⟩
    have := hcells g rfl i (.string ns[i]) (by simp [hi])
    rwa [Addr.add_lit] at this

/-- The world when always has laid its arguments' blocks. -/
abbrev three (w : World) (FH : FuncId) (a0 a1 a2 b0 b1 b2 : Value) : World :=
  ((w.alloc (.cells #[a0, a1, a2] 28)).alloc (.cells #[b0, b1, b2] 28)).alloc (.cells #[.func (.func FH) #[] #[]] 55)

/-- .. and, behind written's call, the pair's. -/
abbrev pairw (q : World) (a0 a1 a2 b0 b1 b2 : Value) : World :=
  (q.alloc (.cells #[a0, a1, a2, b0, b1, b2] 28)).alloc (.cells #[.int .i64 2, .string ⟨#[]⟩, .slice (some ⟨q.heap.size, 0, none⟩) 2 2] 28)

theorem past {w : World} {o : Obj} {n i : Nat} (hn : n < w.heap.size) : (w.alloc o).cell? ⟨n, i, none⟩ = w.cell? ⟨n, i, none⟩ := World.cell?_alloc_past o n i hn

section
variable {w q W : World} {FH : FuncId} {a0 a1 a2 b0 b1 b2 : Value}
theorem three_size : (three w FH a0 a1 a2 b0 b1 b2).heap.size = w.heap.size + 3 := by simp [three]
theorem three_old : Below w.heap.size w (three w FH a0 a1 a2 b0 b1 b2) := by
  repeat' (first | exact Below.refl _ _ | refine Below.alloc ?_ ?_ _)
  all_goals (simp; try omega)
theorem pair_size : (pairw q a0 a1 a2 b0 b1 b2).heap.size = q.heap.size + 2 := by simp [pairw]
theorem pair_old : Below q.heap.size q (pairw q a0 a1 a2 b0 b1 b2) := by
  repeat' (first | exact Below.refl _ _ | refine Below.alloc ?_ ?_ _)
  all_goals (simp; try omega)
theorem five_a (h : Below (w.heap.size + 3) (three w FH a0 a1 a2 b0 b1 b2) W) : W.cell? ⟨w.heap.size, 0, none⟩ = some a0 ∧ W.cell? ⟨w.heap.size, 1, none⟩ = some a1 ∧ W.cell? ⟨w.heap.size, 2, none⟩ = some a2 := by
  refine ⟨?_, ?_, ?_⟩ <;> (rw [h.cell (by simp), past, past] <;> simp <;> omega)
theorem five_b (h : Below (w.heap.size + 3) (three w FH a0 a1 a2 b0 b1 b2) W) : W.cell? ⟨w.heap.size + 1, 0, none⟩ = some b0 ∧ W.cell? ⟨w.heap.size + 1, 1, none⟩ = some b1 ∧ W.cell? ⟨w.heap.size + 1, 2, none⟩ = some b2 := by
  refine ⟨?_, ?_, ?_⟩ <;> (rw [h.cell (by simp), past] <;> simp [World.cell?_alloc_at])
theorem five_h (h : Below (w.heap.size + 3) (three w FH a0 a1 a2 b0 b1 b2) W) : W.cell? ⟨w.heap.size + 1 + 1, 0, none⟩ = some (.func (.func FH) #[] #[]) := by
  rw [h.cell (by simp)]; simp [three, World.cell?_alloc_at]
theorem five_both (h : Below (q.heap.size + 2) (pairw q a0 a1 a2 b0 b1 b2) W) : W.cell? ⟨q.heap.size + 1, 0, none⟩ = some (.int .i64 2) ∧ W.cell? ⟨q.heap.size + 1, 1, none⟩ = some (.string ⟨#[]⟩) ∧ W.cell? ⟨q.heap.size + 1, 2, none⟩ = some (.slice (some ⟨q.heap.size, 0, none⟩) 2 2) := by
  refine ⟨?_, ?_, ?_⟩ <;> (rw [h.cell (by simp)]; simp [pairw, World.cell?_alloc_at])
theorem five_six {k k2 : Int} {nm nm2 : ByteArray} {A A2 : Option Addr} {n cap n2 cap2 : Nat} (h : Below (q.heap.size + 2) (pairw q (.int .i64 k) (.string nm) (.slice A n cap) (.int .i64 k2) (.string nm2) (.slice A2 n2 cap2)) W) :
    Three W q.heap.size 0 (.agg #[.int .i64 k, .string nm, .slice A n cap]) ∧ Three W q.heap.size 3 (.agg #[.int .i64 k2, .string nm2, .slice A2 n2 cap2]) := by
  refine ⟨⟨k, nm, A, n, cap, rfl, ?_, ?_, ?_⟩, ⟨k2, nm2, A2, n2, cap2, rfl, ?_, ?_, ?_⟩⟩ <;> (rw [h.cell (by simp), past] <;> simp [World.cell?_alloc_at])
end

/-- The world when always has laid its last five blocks. -/
abbrev lastw (w2 : World) (G : Nat) (f27 : Value) : World :=
  ((((w2.alloc (.cells #[.int .i64 (G : Nat)] 3)).alloc (.map #[] 0)).alloc (.cells #[.map (some (w2.heap.size + 1))] 71)).alloc (.cells #[.func (.func 35) #[] #[.pointer (some ⟨w2.heap.size + 1 + 1, 0, none⟩)]] 53)).alloc (.cells #[f27] 74)

section
variable {w2 W : World} {G : Nat} {f27 : Value}
theorem last_size : (lastw w2 G f27).heap.size = w2.heap.size + 5 := by simp
theorem last_old : Below w2.heap.size w2 (lastw w2 G f27) := by
  repeat' (first | exact Below.refl _ _ | refine Below.alloc ?_ ?_ _)
  all_goals (simp; try omega)
theorem last_G : (lastw w2 G f27).cell? ⟨w2.heap.size, 0, none⟩ = some (.int .i64 (G : Nat)) := by
  rw [past, past, past, past] <;> simp <;> omega
theorem last_ns : (lastw w2 G f27).cell? ⟨w2.heap.size + 1 + 1, 0, none⟩ = some (.map (some (w2.heap.size + 1))) := by
  rw [past, past] <;> simp [World.cell?_alloc_at]
theorem last_num : (lastw w2 G f27).cell? ⟨w2.heap.size + 1 + 1 + 1, 0, none⟩ = some (.func (.func 35) #[] #[.pointer (some ⟨w2.heap.size + 1 + 1, 0, none⟩)]) := by
  rw [past] <;> simp [World.cell?_alloc_at]
theorem last_t : (lastw w2 G f27).cell? ⟨w2.heap.size + 1 + 1 + 1 + 1, 0, none⟩ = some f27 := by
  simp [World.cell?_alloc_at]
theorem last_map : MapIs (lastw w2 G f27) (w2.heap.size + 1) 0 (fun _ => 0) (fun _ => false) := by
  have := MapIs.made (w2.alloc (.cells #[.int .i64 (G : Nat)] 3))
  simp at this
  exact ((this.alloc _).alloc _).alloc _
end

set_option maxHeartbeats 2000000 in
theorem always_calls (FH : FuncId) (hold : Nat → Nat → Bool) (hrefl : ∀ x, hold x x = true) (hent : ∀ (args : Array Value) (w' : World), Sem.run Tryd.prog (callFunc FH args) w' = .ok (.enter FH args) w')
    (hhold : ∀ (x y : Nat) (w' : World), Calls Tryd.prog FH #[.int .i64 (x : Nat), .int .i64 (y : Nat)] w' fun e w'' => e = .returned (.bool (hold x y)) ∧ w'' = w')
    (a b : LvB) (va vb : Value) (B : Nat) (w : World) (hBw : B ≤ w.heap.size) (ha : InLv w B a va) (hb : InLv w B b vb) (na : a.nodes ≤ 1000) (nb : b.nodes ≤ 1000) (ma : ∀ p, Lv.has p a → p.size ≤ 1000) (mb : ∀ p, Lv.has p b → p.size ≤ 1000) (hlen : puts (b.addP (a.addP [])).length ≤ 1000000) :
    Calls Tryd.prog 19 #[va, vb, .func (.func FH) #[] #[]] w fun e w' => e = .returned (.bool (tryB hold a b (fun q => decide (0 < Lv.gcount q false (.max a b))) (a.worth (fun _ => 1) + b.worth (fun _ => 1) + 1) (b.addP (a.addP [])) true (fun _ => 0))) ∧ Below w.heap.size w w' := by
  obtain ⟨A1, cap1, e1⟩ := ha.form
  obtain ⟨A2, cap2, e2⟩ := hb.form
  have HWr : Hid (∀ W, Below w.heap.size w W → _) := fun W (hW : Below w.heap.size w W) => written_calls a.nodes a b va vb B W (Nat.le_refl _) (Nat.le_trans hBw hW.size) (ha.below (hW.mono hBw)) (hb.below (hW.mono hBw))
  by_cases hab : a = b
  · rw [eqB_true hab] at HWr
    have HT : Hid (tryB hold a b (fun q => decide (0 < Lv.gcount q false (.max a b))) (a.worth (fun _ => 1) + b.worth (fun _ => 1) + 1) (b.addP (a.addP [])) true (fun _ => 0) = true) := tryB_all (fun τ => by rw [hab]; exact hrefl _) _ _ _
    subst e1
    subst e2
    clear ha hb ma mb hhold hent hab
    go_enter Tryd.func19, Tryd.ntmps19
    go_wp2_with (go_at_call 32; refine (HWr.out _ ?_).mono ?_)
    · exact three_old
    intro e q he hbq
    subst he
    have HQ0 : Hid (Below (w.heap.size + 1 + 1 + 1) (three w FH (.int .i64 a.kind) (.string a.nm) (.slice A1 a.kids.length cap1) (.int .i64 b.kind) (.string b.nm) (.slice A2 b.kids.length cap2)) q) := hbq
    have HQ : Hid (Below w.heap.size w q) := three_old.trans (HQ0.out.mono (by omega))
    clear hbq
    go_wp2_with fail
    go_ret
    rw [HT.out]
    exact ⟨rfl, HQ.out⟩
  rw [eqB_false hab] at HWr
  have HG : Hid (∀ W (b0 cap : Nat), Below w.heap.size w W → b0 < W.heap.size → Three W b0 0 va → Three W b0 3 vb → _) := fun W b0 cap (hW : Below w.heap.size w W) (hb0 : b0 < W.heap.size) h1 h2 =>
    gates_calls (.max a b) (.agg #[.int .i64 2, .string ⟨#[]⟩, .slice (some ⟨b0, 0, none⟩) 2 cap]) W.heap.size W (Nat.le_refl _) ⟨b0, cap, va, vb, rfl, hb0, h1, h2, (ha.below (hW.mono hBw)).mono (Nat.le_trans hBw hW.size), (hb.below (hW.mono hBw)).mono (Nat.le_trans hBw hW.size)⟩ (fun p hp => hp.elim (ma p) (mb p)) (by simp only [Lv.nodes]; omega)
  have HPm : Hid (∀ W (b0 cap : Nat), Below w.heap.size w W → b0 < W.heap.size → Three W b0 0 va → Three W b0 3 vb → _) := fun W b0 cap (hW : Below w.heap.size w W) (hb0 : b0 < W.heap.size) h1 h2 =>
    params_calls (.max a b) (.agg #[.int .i64 2, .string ⟨#[]⟩, .slice (some ⟨b0, 0, none⟩) 2 cap]) W.heap.size W (Nat.le_refl _) ⟨b0, cap, va, vb, rfl, hb0, h1, h2, (ha.below (hW.mono hBw)).mono (Nat.le_trans hBw hW.size), (hb.below (hW.mono hBw)).mono (Nat.le_trans hBw hW.size)⟩ (fun p hp => hp.elim (ma p) (mb p)) (by simp only [Lv.nodes]; omega)
  have HGr : Hid (∀ W, Below w.heap.size w W → _) := fun W (hW : Below w.heap.size w W) => great_calls a b va vb B W (Nat.le_trans hBw hW.size) (ha.below (hW.mono hBw)) (hb.below (hW.mono hBw)) na nb ma mb
  have HA := hide ha
  have HBb := hide hb
  have HMA := hide ma
  have HMB := hide mb
  have HH := hide hhold
  have HEn := hide hent
  have wa := Lv.worth_le (σ := fun _ => 1) (n := 1) a fun _ _ => Nat.le_refl _
  have wb := Lv.worth_le (σ := fun _ => 1) (n := 1) b fun _ _ => Nat.le_refl _
  have sa := a.succs_le
  have sb := b.succs_le
  subst e1
  subst e2
  clear ha hb ma mb hhold hent
  have hmm := @run_makeMap Tryd.prog
  generalize a.worth (fun _ => 1) = xa at *
  generalize b.worth (fun _ => 1) = xb at *
  clear hab
  go_enter Tryd.func19, Tryd.ntmps19
  go_wp2_with (go_at_call 32; refine (HWr.out _ ?_).mono ?_)
  · exact three_old
  rintro e q ⟨rfl, hbq⟩
  have HQ : Hid (Below (w.heap.size + 3) (three w FH (.int .i64 a.kind) (.string a.nm) (.slice A1 a.kids.length cap1) (.int .i64 b.kind) (.string b.nm) (.slice A2 b.kids.length cap2)) q) := by rw [three_size] at hbq; exact hbq
  clear hbq HWr
  have hzq := HQ.out.size
  rw [three_size] at hzq
  obtain ⟨pa0, pa1, pa2⟩ := five_a HQ.out
  obtain ⟨pb0, pb1, pb2⟩ := five_b HQ.out
  have kq0 : w.heap.size < q.heap.size := by omega
  have kq1 : w.heap.size + 1 < q.heap.size := by omega
  have oq : Hid (Below w.heap.size w q) := three_old.trans (HQ.out.mono (by omega))
  go_wp2_with (go_at_call 33; refine (HG.out (pairw q (.int .i64 a.kind) (.string a.nm) (.slice A1 a.kids.length cap1) (.int .i64 b.kind) (.string b.nm) (.slice A2 b.kids.length cap2)) q.heap.size 2 ?_ ?_ ?_ ?_).mono ?_)
  · exact oq.out.trans (pair_old.mono (by omega))
  · rw [pair_size]; omega
  · exact (five_six (Below.refl _ _)).1
  · exact (five_six (Below.refl _ _)).2
  rintro e w1 ⟨mg, Sg, rfl, hmg, hmap, hbel⟩
  rw [pair_size] at hmg hbel
  have HF1 := hide hbel
  have HMg := hide hmap
  have hmgl := hmap.lt
  have hz1 := hbel.size
  rw [pair_size] at hz1
  have o3 := HQ.out.trans ((pair_old.trans (hbel.mono (by omega))).mono hzq)
  have o1 : Hid (Below w.heap.size w w1) := three_old.trans (o3.mono (by omega))
  have HO3 := hide o3
  have fa := five_a o3
  have fb := five_b o3
  obtain ⟨fa0, fa1, fa2⟩ := fa
  obtain ⟨fb0, fb1, fb2⟩ := fb
  have k0 : w.heap.size < w1.heap.size := by omega
  have k1 : w.heap.size + 1 < w1.heap.size := by omega
  clear hbel hmap o3 HG pa0 pa1 pa2 pb0 pb1 pb2 kq0 kq1 oq HQ
  go_wp2_with (go_at_call 34; refine (HGr.out _ ?_).mono ?_)
  · exact o1.out.trans (((Below.refl _ _).alloc (Nat.le_refl _) _).mono (by omega))
  rintro e w2 ⟨rfl, hbel⟩
  have hz2 := hbel.size
  simp at hz2
  have HF2 : Hid (Below (w1.heap.size + 1) (w1.alloc (.cells #[.map (some mg)] 71)) w2) := by simpa [Hid] using hbel
  have HF3 : Hid (Below w1.heap.size w1 w2) := ((Below.refl _ _).alloc (Nat.le_refl _) _).trans (HF2.out.mono (by omega))
  have HF4 := hide (HF1.out.trans (HF3.out.mono (by omega)))
  have HF5 := hide (HO3.out.trans (HF3.out.mono (by omega)))
  have o2 : Hid (Below w.heap.size w w2) := o1.out.trans (HF3.out.mono (by omega))
  have cg := HF2.out.cell (p := ⟨w1.heap.size, 0, none⟩) (by simp)
  rw [World.cell?_alloc_new] at cg
  simp at cg
  have HMg2 := hide (HMg.out.below HF3.out hmgl)
  clear hbel fa0 fa1 fa2 fb0 fb1 fb2 HMg HGr HF3 HF2 HF1 HO3 o1
  generalize hGd : xa + xb + 1 = G at *
  have hG : G ≤ 1000000 := by omega
  have HGd := hide hGd
  clear hGd
  have hsm : ∀ p, p ∈ b.addP (a.addP []) → p.size ≤ 1000 := fun p hp => by
    rcases Lv.addP_mem b _ p hp with h | h
    · rcases Lv.addP_mem a _ p h with h | h
      · simp at h
      · exact HMA.out p h
    · exact HMB.out p h
  have HTr : Hid (∀ W nv, Hid (Names W (w2.heap.size + 5) nv (b.addP (a.addP []))) → Below (w2.heap.size + 5) (lastw w2 G (.func (.func 36) #[] #[.pointer (some ⟨w.heap.size + 1 + 1, 0, none⟩), .pointer (some ⟨w.heap.size, 0, none⟩), .pointer (some ⟨w2.heap.size + 1 + 1 + 1, 0, none⟩), .pointer (some ⟨w.heap.size + 1, 0, none⟩), .pointer (some ⟨w2.heap.size + 1 + 1, 0, none⟩), .pointer (some ⟨w2.heap.size + 1 + 1 + 1 + 1, 0, none⟩), .pointer (some ⟨w1.heap.size, 0, none⟩), .pointer (some ⟨w2.heap.size, 0, none⟩)])) W →
      Calls Tryd.prog 36 #[nv, .bool true, .pointer (some ⟨w.heap.size + 1 + 1, 0, none⟩), .pointer (some ⟨w.heap.size, 0, none⟩), .pointer (some ⟨w2.heap.size + 1 + 1 + 1, 0, none⟩), .pointer (some ⟨w.heap.size + 1, 0, none⟩), .pointer (some ⟨w2.heap.size + 1 + 1, 0, none⟩), .pointer (some ⟨w2.heap.size + 1 + 1 + 1 + 1, 0, none⟩), .pointer (some ⟨w1.heap.size, 0, none⟩), .pointer (some ⟨w2.heap.size, 0, none⟩)] W fun e w' =>
        e = .returned (.bool (tryB hold a b (fun q => decide (0 < Lv.gcount q false (.max a b))) G (b.addP (a.addP [])) true (fun _ => 0))) ∧ Hid (Below w.heap.size w w')) := fun W nv hN hW => by
    have hold2 : Below w2.heap.size w2 W := last_old.trans (hW.mono (by omega))
    have oW : Below w.heap.size w W := o2.out.trans (hold2.mono (by omega))
    have hf := HF5.out.trans (hold2.mono (by omega))
    have h5 := five_h hf
    obtain ⟨p0, p1, p2⟩ := five_a hf
    obtain ⟨r0, r1, r2⟩ := five_b hf
    have hE : Env W FH a b A1 A2 cap1 cap2 G (w2.heap.size + 1) mg _ (w.heap.size + 1 + 1) w.heap.size (w2.heap.size + 1 + 1 + 1) (w.heap.size + 1) (w2.heap.size + 1 + 1) (w2.heap.size + 1 + 1 + 1 + 1) w1.heap.size w2.heap.size B (fun q => Lv.gcount q false (.max a b)) Sg :=
      ⟨h5, p0, p1, p2, r0, r1, r2, (hW.cell (by simp)).trans last_num, (hW.cell (by simp)).trans last_ns, (hW.cell (by simp)).trans last_t, cell_later hold2 cg, (hW.cell (by simp)).trans last_G, HMg2.out.below hold2 (by omega), HA.out.below (oW.mono hBw), HBb.out.below (oW.mono hBw)⟩
    have hP : Apart (w2.heap.size + 1) mg (w.heap.size + 1 + 1) w.heap.size (w2.heap.size + 1 + 1 + 1) (w.heap.size + 1) (w2.heap.size + 1 + 1) (w2.heap.size + 1 + 1 + 1 + 1) w1.heap.size w2.heap.size B := by
      constructor <;> omega
    refine (try_calls FH hold a b A1 A2 cap1 cap2 G (w2.heap.size + 1) mg _ _ _ _ _ _ _ _ _ B (w2.heap.size + 5) _ Sg hG HEn.out HH.out na nb HMA.out HMB.out hP (by omega) (b.addP (a.addP [])) hsm nv true (fun _ => 0) 0 (fun _ => false) W hE hN.out (last_map.below hW (by omega)) (by omega) (fun _ => by omega)).mono ?_
    rintro e w' ⟨rfl, _, ht⟩
    exact ⟨rfl, oW.trans (ht.below (by have := oW.size; omega) (by omega))⟩
  have HP2 : Hid (∀ W, Below (w2.heap.size + 5) (lastw w2 G (.func (.func 36) #[] #[.pointer (some ⟨w.heap.size + 1 + 1, 0, none⟩), .pointer (some ⟨w.heap.size, 0, none⟩), .pointer (some ⟨w2.heap.size + 1 + 1 + 1, 0, none⟩), .pointer (some ⟨w.heap.size + 1, 0, none⟩), .pointer (some ⟨w2.heap.size + 1 + 1, 0, none⟩), .pointer (some ⟨w2.heap.size + 1 + 1 + 1 + 1, 0, none⟩), .pointer (some ⟨w1.heap.size, 0, none⟩), .pointer (some ⟨w2.heap.size, 0, none⟩)])) W →
      Calls Tryd.prog 37 #[.agg #[.int .i64 2, .string ⟨#[]⟩, .slice (some ⟨q.heap.size, 0, none⟩) 2 2]] W fun e w' => ∃ nv, e = .returned nv ∧ Hid (Names w' (w2.heap.size + 5) nv (b.addP (a.addP []))) ∧ Hid (Below (w2.heap.size + 5) (lastw w2 G (.func (.func 36) #[] #[.pointer (some ⟨w.heap.size + 1 + 1, 0, none⟩), .pointer (some ⟨w.heap.size, 0, none⟩), .pointer (some ⟨w2.heap.size + 1 + 1 + 1, 0, none⟩), .pointer (some ⟨w.heap.size + 1, 0, none⟩), .pointer (some ⟨w2.heap.size + 1 + 1, 0, none⟩), .pointer (some ⟨w2.heap.size + 1 + 1 + 1 + 1, 0, none⟩), .pointer (some ⟨w1.heap.size, 0, none⟩), .pointer (some ⟨w2.heap.size, 0, none⟩)])) w') ∧ w'.cell? ⟨w2.heap.size + 1 + 1 + 1 + 1, 0, none⟩ = some (.func (.func 36) #[] #[.pointer (some ⟨w.heap.size + 1 + 1, 0, none⟩), .pointer (some ⟨w.heap.size, 0, none⟩), .pointer (some ⟨w2.heap.size + 1 + 1 + 1, 0, none⟩), .pointer (some ⟨w.heap.size + 1, 0, none⟩), .pointer (some ⟨w2.heap.size + 1 + 1, 0, none⟩), .pointer (some ⟨w2.heap.size + 1 + 1 + 1 + 1, 0, none⟩), .pointer (some ⟨w1.heap.size, 0, none⟩), .pointer (some ⟨w2.heap.size, 0, none⟩)])) := fun W hW => by
    have hold2 : Below w2.heap.size w2 W := last_old.trans (hW.mono (by omega))
    have oW : Below w.heap.size w W := o2.out.trans (hold2.mono (by omega))
    have hf := HF4.out.trans (hold2.mono (by omega))
    have hs := hW.size
    rw [last_size] at hs
    refine (HPm.out W q.heap.size 2 oW (by omega) (five_six hf).1 (five_six hf).2).mono ?_
    rintro e w' ⟨nv, rfl, ho, hb⟩
    have hN := Names.of_owns ho
    have hW' := hW.trans (hb.mono hs)
    refine ⟨nv, rfl, ?_, hW', (hW'.cell (by simp)).trans last_t⟩
    obtain ⟨A, cap, e, h1, h2, hc⟩ := hN
    refine ⟨A, cap, e, h1, h2, fun i hi => ?_⟩
    obtain ⟨b', o', e', hb', hcl⟩ := hc i hi
    exact ⟨b', o', e', by omega, hcl⟩
  obtain ⟨g0, g1, g2⟩ := five_both HF4.out
  have l0 := cell_later (last_old (G := G) (f27 := (.func (.func 36) #[] #[.pointer (some ⟨w.heap.size + 1 + 1, 0, none⟩), .pointer (some ⟨w.heap.size, 0, none⟩), .pointer (some ⟨w2.heap.size + 1 + 1 + 1, 0, none⟩), .pointer (some ⟨w.heap.size + 1, 0, none⟩), .pointer (some ⟨w2.heap.size + 1 + 1, 0, none⟩), .pointer (some ⟨w2.heap.size + 1 + 1 + 1 + 1, 0, none⟩), .pointer (some ⟨w1.heap.size, 0, none⟩), .pointer (some ⟨w2.heap.size, 0, none⟩)]))) g0
  have l1 := cell_later (last_old (G := G) (f27 := (.func (.func 36) #[] #[.pointer (some ⟨w.heap.size + 1 + 1, 0, none⟩), .pointer (some ⟨w.heap.size, 0, none⟩), .pointer (some ⟨w2.heap.size + 1 + 1 + 1, 0, none⟩), .pointer (some ⟨w.heap.size + 1, 0, none⟩), .pointer (some ⟨w2.heap.size + 1 + 1, 0, none⟩), .pointer (some ⟨w2.heap.size + 1 + 1 + 1 + 1, 0, none⟩), .pointer (some ⟨w1.heap.size, 0, none⟩), .pointer (some ⟨w2.heap.size, 0, none⟩)]))) g1
  have l2 := cell_later (last_old (G := G) (f27 := (.func (.func 36) #[] #[.pointer (some ⟨w.heap.size + 1 + 1, 0, none⟩), .pointer (some ⟨w.heap.size, 0, none⟩), .pointer (some ⟨w2.heap.size + 1 + 1 + 1, 0, none⟩), .pointer (some ⟨w.heap.size + 1, 0, none⟩), .pointer (some ⟨w2.heap.size + 1 + 1, 0, none⟩), .pointer (some ⟨w2.heap.size + 1 + 1 + 1 + 1, 0, none⟩), .pointer (some ⟨w1.heap.size, 0, none⟩), .pointer (some ⟨w2.heap.size, 0, none⟩)]))) g2
  have l3 := last_t (w2 := w2) (G := G) (f27 := (.func (.func 36) #[] #[.pointer (some ⟨w.heap.size + 1 + 1, 0, none⟩), .pointer (some ⟨w.heap.size, 0, none⟩), .pointer (some ⟨w2.heap.size + 1 + 1 + 1, 0, none⟩), .pointer (some ⟨w.heap.size + 1, 0, none⟩), .pointer (some ⟨w2.heap.size + 1 + 1, 0, none⟩), .pointer (some ⟨w2.heap.size + 1 + 1 + 1 + 1, 0, none⟩), .pointer (some ⟨w1.heap.size, 0, none⟩), .pointer (some ⟨w2.heap.size, 0, none⟩)]))
  unfold lastw at l0 l1 l2 l3
  clear g0 g1 g2
  clear HPm HMA HMB HH HEn HA HBb hsm HF4 HF5 HMg2 cg
  generalize htv : tryB hold a b (fun q => decide (0 < Lv.gcount q false (.max a b))) G (b.addP (a.addP [])) true (fun _ => 0) = tv at *
  have HTV := hide htv
  clear htv
  go_wp2_with fail
  have HB := hide (Below.refl (w2.heap.size + 5) (lastw w2 G (.func (.func 36) #[] #[.pointer (some ⟨w.heap.size + 1 + 1, 0, none⟩), .pointer (some ⟨w.heap.size, 0, none⟩), .pointer (some ⟨w2.heap.size + 1 + 1 + 1, 0, none⟩), .pointer (some ⟨w.heap.size + 1, 0, none⟩), .pointer (some ⟨w2.heap.size + 1 + 1, 0, none⟩), .pointer (some ⟨w2.heap.size + 1 + 1 + 1 + 1, 0, none⟩), .pointer (some ⟨w1.heap.size, 0, none⟩), .pointer (some ⟨w2.heap.size, 0, none⟩)]))).drew
  go_region_with (first
    | (go_at_call 37; refine (HP2.out _ ?_).mono ?_; exact HB.out; rintro e w' ⟨nv, rfl, HN, HB, t0⟩)
    | (go_at_call 36; refine (HTr.out _ _ HN ?_).mono ?_; exact HB.out; rintro e w' ⟨rfl, HB9⟩))
  all_goals
    go_wp2_with fail
    go_ret
    refine ⟨?_, HB9.out⟩
    rw [HGd.out, HTV.out]
    rfl

end Go.Proofs.YtpdoegjddiaaoaaDoor
