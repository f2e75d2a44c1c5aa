/- The contracts of api.Code, of the statement's faulty and levelParsed, and its loop. -/
import Derived.Test.YtmpepnckfghepaaDoorAs
import Derived.Test.YtmpepnckfghepaaDoorUnique
import Derived.Test.YtmpepnckfghepaaDoorParsed
import Derived.Test.YtmpepnckfghepaaDoorParse
import Derived.Test.YtmpepnckfghepaaDoorRefSameLv
namespace Go.Proofs.YtmpepnckfghepaaDoor
open Go.RowKit

/-- errors.As finds the fault. -/
theorem as_fault (N t : Nat) (w : World) (hg : Tabs w) (ht : w.heap[t]? = some (.cells #[.pointer none] 62 (0, 0))) :
    Calls Tryd.prog 25 #[.iface 62 (.pointer (some ⟨N, 0, none⟩)), .iface 64 (.pointer (some ⟨t, 0, none⟩))] w fun e w' => e = .returned (.bool true) ∧ w'.heap[t]? = some (.cells #[.pointer (some ⟨N, 0, none⟩)] 62 (0, 0)) ∧ Touched w t w' := by
  have hlt : t < w.heap.size := (Array.getElem?_eq_some_iff.1 ht).1
  refine (as_hit ⟨N, 0, none⟩ ⟨t, 0, none⟩ (.pointer none) w hg.ty (by simp [World.cell?, ht]) (by simp [World.frozen?, ht])).mono ?_
  rintro e w' ⟨rfl, rfl⟩
  refine ⟨rfl, ?_, ?_⟩
  · have h4 : ((((w.alloc (.cells #[.pointer (some ⟨t, 0, none⟩)] 64)).alloc (.cells #[.pointer (some ⟨9, 64, none⟩), .pointer (some ⟨w.heap.size, 0, none⟩), .int .u64 150] 79)).alloc (.cells #[.pointer (some ⟨9, 64, none⟩), .pointer (some ⟨w.heap.size, 0, none⟩), .int .u64 150] 79)).alloc (.cells #[.pointer (some ⟨N, 0, none⟩)] 62)).heap[t]? = some (.cells #[.pointer none] 62 (0, 0)) := by
      rw [Below.heap_alloc _ _ _ (by simp; omega), Below.heap_alloc _ _ _ (by simp; omega), Below.heap_alloc _ _ _ (by simp; omega), Below.heap_alloc _ _ _ hlt]
      exact ht
    generalize ((((w.alloc _).alloc _).alloc _).alloc _) = W at h4 ⊢
    simp [World.setCell, Array.getElem?_modify, h4]
  · exact ((((Touched.alloc w t _).trans (Touched.alloc _ t _)).trans (Touched.alloc _ t _)).trans (Touched.alloc _ t _)).setSelf rfl _

set_option maxHeartbeats 1000000 in
theorem code_nil (w : World) : Calls Tryd.prog 13 #[.nilIface] w fun e w' => e = .returned (.tuple #[.int .i64 0, .int .i64 0]) ∧ w' = w := by
  go_enter Tryd.func13, Tryd.ntmps13
  go_wp2_with fail
  go_ret2
  exact ⟨rfl, rfl⟩

set_option maxRecDepth 100000 in
set_option maxHeartbeats 4000000 in
theorem code_fault (N code a : Nat) (w : World) (hg : Tabs w) (hF : w.heap[N]? = some (.cells #[.int .i64 (code : Nat), .int .i64 (a : Nat)] 35 (0, 0))) :
    Calls Tryd.prog 13 #[.iface 62 (.pointer (some ⟨N, 0, none⟩))] w fun e w' => e = .returned (.tuple #[.int .i64 (code : Nat), .int .i64 (a : Nat)]) ∧ Below w.heap.size w w' := by
  have hlN : N < w.heap.size := (Array.getElem?_eq_some_iff.1 hF).1
  have K1 := hide (as_fault N w.heap.size _ (hg.below ((Below.refl _ _).alloc (Nat.le_refl _) (.cells #[.pointer none] 62)) hg.lt) (heap_alloc_new w (.cells #[.pointer none] 62)))
  have HF := hide hF
  clear hg hF
  go_enter Tryd.func13, Tryd.ntmps13
  go_wp2_with (go_at_call 25; refine K1.out.mono ?_)
  rintro e w1 ⟨rfl, h1, hT⟩
  have hz := hT.size
  simp at hz
  have hN1 : w1.heap[N]? = some (.cells #[.int .i64 (code : Nat), .int .i64 (a : Nat)] 35 (0, 0)) := by
    rw [hT.block N (by simp; omega) (by simp; omega), Below.heap_alloc _ _ _ hlN]
    exact HF.out
  have x0 : w1.cell? ⟨w.heap.size, 0, none⟩ = some (.pointer (some ⟨N, 0, none⟩)) := by simp [World.cell?, h1]
  have y0 : w1.cell? ⟨N, 0, none⟩ = some (.int .i64 (code : Nat)) := by simp [World.cell?, hN1]
  have y1 : w1.cell? ⟨N, 1, none⟩ = some (.int .i64 (a : Nat)) := by simp [World.cell?, hN1]
  have HB : Hid (Below w.heap.size w w1) := ((Touched.alloc w w.heap.size _).trans hT).below (Nat.le_refl _) (Nat.le_refl _)
  clear hN1 h1 hT
  go_wp2_with fail
  go_region
  all_goals
    go_wp2_with fail
    go_ret2
    exact ⟨rfl, HB.out.drew⟩

set_option maxHeartbeats 1000000 in
theorem faulty_none (a : Nat) (w : World) : Calls Tryd.prog 7 #[.nilIface, .agg #[.int .i64 (0 : Nat), .int .i64 (a : Nat)]] w fun e w' => e = .returned (.bool true) ∧ Below w.heap.size w w' := by
  have K := hide (fun W => code_nil W)
  go_enter Tryd.func7, Tryd.ntmps7
  go_wp2_with (go_at_call 13; refine (K.out _).mono ?_)
  rintro e w' ⟨rfl, rfl⟩
  go_wp2_with fail
  go_ret
  exact ⟨rfl, (Below.refl _ _).alloc (Nat.le_refl _) _⟩

set_option maxHeartbeats 1000000 in
theorem faulty_same (N code a : Nat) (w : World) (hg : Tabs w) (hF : w.heap[N]? = some (.cells #[.int .i64 (code : Nat), .int .i64 (a : Nat)] 35 (0, 0))) (hc : code ≠ 0) :
    Calls Tryd.prog 7 #[.iface 62 (.pointer (some ⟨N, 0, none⟩)), .agg #[.int .i64 (code : Nat), .int .i64 (a : Nat)]] w fun e w' => e = .returned (.bool true) ∧ Below w.heap.size w w' := by
  have hlN : N < w.heap.size := (Array.getElem?_eq_some_iff.1 hF).1
  have K := hide (code_fault N code a (w.alloc (.cells #[.int .i64 (code : Nat), .int .i64 (a : Nat)] 35)) (hg.below ((Below.refl _ _).alloc (Nat.le_refl _) _) hg.lt) (by rw [Below.heap_alloc _ _ _ hlN]; exact hF))
  have e0 : ((code : Int) == 0) = false := by simp; omega
  clear hg hF hc
  go_enter Tryd.func7, Tryd.ntmps7
  go_wp2_with (go_at_call 13; refine K.out.mono ?_)
  rintro e w1 ⟨rfl, hb⟩
  have x0 : w1.cell? ⟨w.heap.size, 0, none⟩ = some (.int .i64 (code : Nat)) := by rw [hb.cell (by simp)]; simp
  have x1 : w1.cell? ⟨w.heap.size, 1, none⟩ = some (.int .i64 (a : Nat)) := by rw [hb.cell (by simp)]; simp
  have HB : Hid (Below w.heap.size w w1) := ((Below.refl w.heap.size w).alloc (Nat.le_refl _) _).trans (hb.mono (by simp))
  clear hb
  go_wp2_with fail
  go_ret
  exact ⟨by simp, HB.out⟩

/-- What the statement's step comes to, whatever the text is: a value and an error of the program, the same value and the same fault of the document. -/
structure Answers (s : ByteArray) (l : LvB) (ev : World → Value → Prop) (code a : Nat) : Prop where
  prog : ∀ W, Tabs W → Calls Tryd.prog 5 #[.string s] W fun e w' => ∃ (k : Int) (nm : ByteArray) (A : Option Addr) (n cap : Nat) (er : Value), e = .returned (.tuple #[.agg #[.int .i64 k, .string nm, .slice A n cap], er]) ∧ (er = .nilIface ∨ ∃ T v, er = .iface T v) ∧ InLv w' w'.heap.size l (.agg #[.int .i64 k, .string nm, .slice A n cap]) ∧ ev w' er ∧ Below W.heap.size W w'
  doc : ∀ W, Calls Tryd.prog 6 #[.string s] W fun e w' => ∃ (k : Int) (nm : ByteArray) (A : Option Addr) (n cap a' : Nat), e = .returned (.tuple #[.agg #[.int .i64 k, .string nm, .slice A n cap], .agg #[.int .i64 (code : Nat), .int .i64 (a' : Nat)]]) ∧ (code ≠ 0 → a' = a) ∧ InLv w' w'.heap.size l (.agg #[.int .i64 k, .string nm, .slice A n cap]) ∧ Below W.heap.size W w'
  keep : ∀ W W' v, ev W v → Below W.heap.size W W' → ev W' v
  test : ∀ W a' v, Tabs W → ev W v → (code ≠ 0 → a' = a) → Calls Tryd.prog 7 #[v, .agg #[.int .i64 (code : Nat), .int .i64 (a' : Nat)]] W fun e w' => e = .returned (.bool true) ∧ Below W.heap.size W w'

/-- The error is that fault. -/
def IsFault (code a : Nat) (W : World) (v : Value) : Prop := ∃ N : Nat, v = .iface 62 (.pointer (some ⟨N, 0, none⟩)) ∧ W.heap[N]? = some (.cells #[.int .i64 (code : Nat), .int .i64 (a : Nat)] 35 (0, 0))

theorem IsFault.answers {s : ByteArray} {code a : Nat} (hc : code ≠ 0) (hp : ∀ W, Tabs W → Calls Tryd.prog 5 #[.string s] W fun e w' => Faulted W code a e w')
    (hd : ∀ W, Calls Tryd.prog 6 #[.string s] W fun e w' => e = .returned (.tuple #[.agg #[.int .i64 0, .string ⟨#[]⟩, .slice none 0 0], .agg #[.int .i64 (code : Nat), .int .i64 (a : Nat)]]) ∧ Below W.heap.size W w') : Answers s .zero (IsFault code a) code a where
  prog W hW := (hp W hW).mono fun e w' ⟨N, he, hF, hb⟩ => ⟨0, ⟨#[]⟩, none, 0, 0, _, he, .inr ⟨_, _, rfl⟩, rfl, ⟨N, rfl, hF⟩, hb⟩
  doc W := (hd W).mono fun e w' ⟨he, hb⟩ => ⟨0, ⟨#[]⟩, none, 0, 0, a, he, fun _ => rfl, rfl, hb⟩
  keep W W' v := by
    rintro ⟨N, rfl, hF⟩ hb
    exact ⟨N, rfl, by rw [hb.block N (Array.getElem?_eq_some_iff.1 hF).1]; exact hF⟩
  test W a' v hT := by
    rintro ⟨N, rfl, hF⟩ ha
    rw [ha hc]
    exact faulty_same N code a W hT hF hc

/-- Every text has its answer. -/
theorem answers (s : ByteArray) (hm : s.size ≤ maxLen) : ∃ l ev code a, Answers s l ev code a ∧ l.nodes ≤ 20001 := by
  by_cases hs : s.size ≤ 20000
  · obtain ⟨e, w', fr, hP, _⟩ := parse_short s default hs []
    obtain ⟨k, nm, A, n, cap, c, a, _, _, h0, h1⟩ := hP
    by_cases hc : c = 0
    · obtain ⟨_, l, p', _, hn, hr, he⟩ := h0 hc
      refine ⟨l, fun _ v => v = .nilIface, 0, 0, ⟨fun W hW => ?_, fun W => ?_, fun _ _ _ h _ => h, fun W a' v _ hv _ => by rw [hv]; exact faulty_none a' W⟩, by omega⟩
      · exact (parse_good s l p' W hs hr he hW).mono fun e w' ⟨k, nm, A, n, cap, he, hi, hb⟩ => ⟨k, nm, A, n, cap, _, he, .inl rfl, hi, rfl, hb⟩
      · refine (parse_short s W hs).mono ?_
        rintro e w' ⟨k, nm, A, n, cap, c, a, rfl, hb, g0, g1⟩
        by_cases hc' : c = 0
        · obtain ⟨_, l', q', hi, _, hr', he'⟩ := g0 hc'
          have := Right.unique ⟨p', hr, he⟩ ⟨q', hr', he'⟩
          subst this hc'
          exact ⟨k, nm, A, n, cap, a, rfl, fun h => absurd rfl h, hi, hb⟩
        · rcases (g1 hc').2 with ⟨h, _⟩ | ⟨_, _, hw⟩
          · omega
          · exact absurd hw (Right.no ⟨p', hr, he⟩)
    · rcases (h1 hc).2 with ⟨h, _⟩ | ⟨_, _, hw⟩
      · omega
      · refine ⟨.zero, _, 1, a, IsFault.answers (by decide) (fun W hW => parse_bad s 1 a W hW fun W' hW' => ?_) fun W => ?_, by simp [Lv.nodes]⟩
        · rcases hw with hf | ⟨l, p', hr, hne, rfl⟩
          · exact read_fails s a W' hs hf hW'
          · exact read_more s l p' W' hs hr hne hW'
        · refine (parse_short s W hs).mono ?_
          rintro e w' ⟨k, nm, A, n, cap, c, a', rfl, hb, g0, g1⟩
          by_cases hc' : c = 0
          · obtain ⟨_, l', q', hi, _, hr', he'⟩ := g0 hc'
            exact absurd hw (Right.no ⟨q', hr', he'⟩)
          · obtain ⟨⟨rfl, rfl, rfl, rfl, rfl⟩, h⟩ := g1 hc'
            rcases h with ⟨h, _⟩ | ⟨_, rfl, hw'⟩
            · omega
            · rw [hw'.unique hw]
              exact ⟨rfl, hb⟩
  · refine ⟨.zero, _, 2, 0, IsFault.answers (by decide) (fun W hW => parse_bad s 2 0 W hW fun W' _ => read_long s W' (by omega) hm) fun W => ?_, by simp [Lv.nodes]⟩
    refine (parse_long s W (by omega) hm).mono ?_
    rintro e w' ⟨k, nm, A, n, cap, c, a', rfl, hb, g0, g1⟩
    by_cases hc' : c = 0
    · have := (g0 hc').1; omega
    · obtain ⟨⟨rfl, rfl, rfl, rfl, rfl⟩, h⟩ := g1 hc'
      rcases h with ⟨_, rfl, rfl⟩ | ⟨h, _⟩
      · exact ⟨rfl, hb⟩
      · omega

set_option maxRecDepth 100000 in
set_option maxHeartbeats 4000000 in
theorem levelParsed_calls (s : ByteArray) (w : World) (hm : s.size ≤ maxLen) (ht : Tabs w) : Calls Tryd.prog 4 #[.string s] w fun e w' => e = .returned (.bool true) ∧ Below w.heap.size w w' := by
  obtain ⟨l, ev, code, a, hA, hl⟩ := answers s hm
  have K5 := hide (hA.prog w ht)
  have HA := hide hA
  have HTb := hide ht
  have hlt := ht.lt
  clear hA ht
  go_enter Tryd.func4, Tryd.ntmps4
  go_wp2_with (go_at_call 5; refine K5.out.mono ?_)
  rintro e w1 ⟨k, nm, A, n, cap, er, rfl, her, hin1, hev1, hb1⟩
  have K6 := hide (HA.out.doc (w1.alloc (.cells #[.int .i64 k, .string nm, .slice A n cap] 29)))
  have HI1 := hide hin1
  have HE1 := hide hev1
  have HB1 := hide hb1
  have hz1 := hb1.size
  have HEr := hide her
  clear hin1 hev1 hb1 her
  go_wp2_with (go_at_call 6; refine K6.out.mono ?_)
  rintro e w2 ⟨k2, nm2, A2, n2, cap2, a2, rfl, ha2, hin2, hb2⟩
  have hz2 := hb2.size
  simp at hz2
  have hba : Below w1.heap.size w1 (w1.alloc (.cells #[.int .i64 k, .string nm, .slice A n cap] 29)) := (Below.refl _ _).alloc (Nat.le_refl _) _
  have hw2 : Below w1.heap.size w1 w2 := hba.trans (hb2.mono (by simp))
  have hw3 : Below w2.heap.size w2 ((w2.alloc (.cells #[.int .i64 k2, .string nm2, .slice A2 n2 cap2] 29)).alloc (.cells #[.int .i64 (code : Nat), .int .i64 (a2 : Nat)] 35)) := ((Below.refl _ _).alloc (Nat.le_refl _) _).alloc (by simp) _
  have hold : Below w.heap.size w w2 := HB1.out.trans (hw2.mono hz1)
  have hT3 : Tabs ((w2.alloc (.cells #[.int .i64 k2, .string nm2, .slice A2 n2 cap2] 29)).alloc (.cells #[.int .i64 (code : Nat), .int .i64 (a2 : Nat)] 35)) := (HTb.out.below hold hlt).below hw3 (by omega)
  have K7 := hide (HA.out.test _ a2 er hT3 (HA.out.keep _ _ _ (HA.out.keep _ _ _ HE1.out hw2) hw3) ha2)
  have x0 : w2.cell? ⟨w1.heap.size, 0, none⟩ = some (.int .i64 k) := by rw [hb2.cell (by simp)]; simp
  have x1 : w2.cell? ⟨w1.heap.size, 1, none⟩ = some (.string nm) := by rw [hb2.cell (by simp)]; simp
  have x2 : w2.cell? ⟨w1.heap.size, 2, none⟩ = some (.slice A n cap) := by rw [hb2.cell (by simp)]; simp
  have HW2 := hide hw2
  have HW3 := hide hw3
  have HO := hide hold
  have HI2 := hide hin2
  clear hba hw2 hw3 hold hT3 hb2 hin2 ha2
  go_wp2_with (go_at_call 7; refine K7.out.mono ?_)
  rintro e w4 ⟨rfl, hb4⟩
  have hz4 := hb4.size
  simp at hz4
  have hw4 : Below w2.heap.size w2 w4 := HW3.out.trans (hb4.mono (by simp; omega))
  have y0 : w4.cell? ⟨w1.heap.size, 0, none⟩ = some (.int .i64 k) := by rw [hw4.cell (by show w1.heap.size < w2.heap.size; omega)]; exact x0
  have y1 : w4.cell? ⟨w1.heap.size, 1, none⟩ = some (.string nm) := by rw [hw4.cell (by show w1.heap.size < w2.heap.size; omega)]; exact x1
  have y2 : w4.cell? ⟨w1.heap.size, 2, none⟩ = some (.slice A n cap) := by rw [hw4.cell (by show w1.heap.size < w2.heap.size; omega)]; exact x2
  have z0 : w4.cell? ⟨w2.heap.size, 0, none⟩ = some (.int .i64 k2) := by rw [hb4.cell (by simp; omega), World.cell?_alloc_past _ _ _ (by simp)]; simp
  have z1 : w4.cell? ⟨w2.heap.size, 1, none⟩ = some (.string nm2) := by rw [hb4.cell (by simp; omega), World.cell?_alloc_past _ _ _ (by simp)]; simp
  have z2 : w4.cell? ⟨w2.heap.size, 2, none⟩ = some (.slice A2 n2 cap2) := by rw [hb4.cell (by simp; omega), World.cell?_alloc_past _ _ _ (by simp)]; simp
  have hwa : Below w1.heap.size w1 w4 := HW2.out.trans (hw4.mono HW2.out.size)
  have K8 := hide (rsameLv_calls 20001 l l _ _ w4.heap.size w4 hl (Nat.le_refl _) ((HI1.out.below hwa).mono hwa.size) ((HI2.out.below hw4).mono hw4.size))
  rw [eqB_true rfl] at K8
  have HO4 := hide (HO.out.trans (hw4.mono HO.out.size))
  clear hb4 hw4 hwa x0 x1 x2
  go_wp2_with (go_at_call 8; refine K8.out.mono ?_)
  rintro e w5 ⟨rfl, hb5⟩
  have HO5 := hide (HO4.out.trans (hb5.mono HO4.out.size))
  clear hb5
  go_wp2_with fail
  go_ret
  exact ⟨rfl, HO5.out⟩

end Go.Proofs.YtmpepnckfghepaaDoor
