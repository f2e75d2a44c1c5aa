/- The contract of Print. -/
import Derived.Test.YtockffblncdikaaGreatDoorXo
import Derived.Test.YtockffblncdikaaGreatDoorPs
namespace Go.Proofs.YtockffblncdikaaGreatDoor
open Go.RowKit
set_option maxRecDepth 100000
set_option maxHeartbeats 16000000
theorem pcatch_idle (p q : Addr) (w : World) :
 CallsD Tryz.prog 19 #[.pointer (some p), .pointer (some q)] .returning w fun e u' w' => e = .returned (.tuple #[]) /\ u' = .returning /\ w' = w := by
 refine callsD_of_wpS Tryz.func19 rfl fun c₀ cs hu => ?_
 apply wpS_seq
 apply wpS_region
 simp [wpOpsS, go_sem, recoverD, hu, Tryz.ntmps19, Exit.thenS]
 apply wpS_seq
 apply wpS_seq
 apply wpS_region
 simp [wpOpsS, go_sem, Exit.thenS]
 refine wpS_cond (t := true) (by simp [Act.eval, Array.replicate]) ?_
 simp only [if_true]
 refine wpS_of_wp (wp_ret ?_)
 cases c₀
 simp_all [bodyPostS, results, Tryz.results19, Exit.thenS]
theorem pcatch_throw (b c fb : Nat) (x y : Value) (w : World) (hb : w.heap[b]? = some (.cells #[x] 9 (0, 0))) (hc : w.heap[c]? = some (.cells #[y] 25 (0, 0))) (hne : b ≠ c) :
 CallsD Tryz.prog 19 #[.pointer (some ⟨b, 0, none⟩), .pointer (some ⟨c, 0, none⟩)] (.panicking [{ v := .iface 41 (.pointer (some ⟨fb, 0, none⟩)), recovered := false }]) w fun e u' w' =>
  e = .returned (.tuple #[]) /\ u' = .panicking [{ v := .iface 41 (.pointer (some ⟨fb, 0, none⟩)), recovered := true }] /\
  w' = (w.setCell ⟨b, 0, none⟩ (.string ⟨#[]⟩)).setCell ⟨c, 0, none⟩ (.iface 41 (.pointer (some ⟨fb, 0, none⟩))) := by
 have hbl : b < w.heap.size := (Array.getElem?_eq_some_iff.1 hb).1; have hcl : c < w.heap.size := (Array.getElem?_eq_some_iff.1 hc).1; have b0 : w.cell? ⟨b, 0, none⟩ = some x := by simp [World.cell?, hb]
 have bf : ∀ i, w.frozen? ⟨b, i, none⟩ = false := fun i => by simp [World.frozen?, hb]
 have c0 : w.cell? ⟨c, 0, none⟩ = some y := by simp [World.cell?, hc]
 have cf : ∀ i, w.frozen? ⟨c, i, none⟩ = false := fun i => by simp [World.frozen?, hc]
 have hne' : ¬ b = c := hne; have hne2 : ¬ c = b := fun e => hne e.symm
 have hta := Tryz.isFault; clear hb hc hne; refine callsD_of_wpS Tryz.func19 rfl fun c₀ cs hu => ?_
 apply wpS_seq
 apply wpS_region
 simp [wpOpsS, go_sem, recoverD, hu, Tryz.ntmps19, Exit.thenS]
 apply wpS_seq
 apply wpS_seq
 apply wpS_region
 simp [wpOpsS, go_sem, Exit.thenS]
 refine wpS_cond (t := false) (by simp [Act.eval, Array.replicate]) ?_
 simp only [Bool.false_eq_true, if_false]
 refine wpS_of_wp (wp_skip ?_)
 simp only [Exit.thenS]
 refine wpS_of_wp ?_
 change Code.wp _ _ _ { tmps := #[.pointer (some ⟨b, 0, none⟩), .pointer (some ⟨c, 0, none⟩), .iface 41 (.pointer (some ⟨fb, 0, none⟩)), undef, undef, undef, .iface 41 (.pointer (some ⟨fb, 0, none⟩)), .iface 41 (.pointer (some ⟨fb, 0, none⟩)), .bool false, undef, undef, undef, undef, undef, undef, undef, undef, undef, undef, undef], defers := [] } w
 go_wp2_with fail
 simp [bodyPostS, results, Tryz.results19, go_sem]
def Pg (B : Prop) (L : List UInt8) (s : ByteArray) : Prop := (B /\ s = ⟨#[]⟩) \/ ((B \/ s.size < 8388608) /\ (s.size < 8388608 -> s.data.toList = L))
theorem pcaught_calls {B : Prop} {L : List UInt8} (p3 : Value) (w : World) (K : ∀ W, Below w.heap.size w W -> Calls Tryz.prog 12 #[p3] W fun e w' => XoR B L W e w') :
 Calls Tryz.prog 11 #[.func (.func 12) #[] #[p3]] w fun e w' => ∃ (s : ByteArray) (f : Value), e = .returned (.tuple #[.string s, f]) /\ Hid (Below w.heap.size w w' /\ Pg B L s) := by
 have hold : Below w.heap.size w ((w.alloc (.cells #[.string ⟨#[]⟩] 9)).alloc (.cells #[.nilIface] 25)) := ((Below.refl _ _).alloc (Nat.le_refl _) _).alloc (by simp) _; have K1 := hide (K _ hold); have HO := hide hold
 have hmf : ∀ (fn : Fn) (first cap : Array Value) (w : World), (Instr.makeFunc fn first cap).run Tryz.prog w = .ok (.func fn first cap) w := fun _ _ _ _ => rfl
 clear K hold
 go_enter_defers Tryz.func11, Tryz.ntmps11
 go_wp2_with (go_at_call 12; refine K1.out.mono ?_)
 intro e w1 h1
 have hh : Below ((w.alloc (.cells #[.string ⟨#[]⟩] 9)).alloc (.cells #[.nilIface] 25)).heap.size ((w.alloc (.cells #[.string ⟨#[]⟩] 9)).alloc (.cells #[.nilIface] 25)) w1 := by
  rcases h1 with ⟨_, _, h⟩ | ⟨_, h⟩
  . exact h.out.1
  . exact h.out.2.1
 have hz1 := hh.size
 simp at hz1
 have hb0 : w1.heap[w.heap.size]? = some (.cells #[.string ⟨#[]⟩] 9 (0, 0)) := by
  rw [hh.block w.heap.size (by simp; omega), Below.heap_alloc _ _ _ (by simp)]; exact heap_alloc_new w _
 have hb1 : w1.heap[w.heap.size + 1]? = some (.cells #[.nilIface] 25 (0, 0)) := by
  rw [hh.block (w.heap.size + 1) (by simp)]; have := heap_alloc_new (w.alloc (.cells #[.string ⟨#[]⟩] 9)) (.cells #[.nilIface] 25)
  simpa using this
 have hB : Below w.heap.size w w1 := HO.out.trans (hh.mono (by simp; omega))
 have hBs : ∀ u v, Below w.heap.size w ((w1.setCell ⟨w.heap.size, 0, none⟩ u).setCell ⟨w.heap.size + 1, 0, none⟩ v) := fun u v => (hB.setCell (p := ⟨w.heap.size, 0, none⟩) (Nat.le_refl _) _).setCell (p := ⟨w.heap.size + 1, 0, none⟩) (Nat.le_succ _) _
 have d0 : w1.cell? ⟨w.heap.size, 0, none⟩ = some (.string ⟨#[]⟩) := by simp [World.cell?, hb0]
 have d3 : ∀ i, w1.frozen? ⟨w.heap.size, i, none⟩ = false := fun i => by simp [World.frozen?, hb0]
 have e4 : w1.cell? ⟨w.heap.size + 1, 0, none⟩ = some .nilIface := by simp [World.cell?, hb1]
 have e5 : ∀ i, w1.frozen? ⟨w.heap.size + 1, i, none⟩ = false := fun i => by simp [World.frozen?, hb1]
 have d4 : w.heap.size < w1.heap.size := by omega
 have e7 : w.heap.size + 1 < w1.heap.size := by omega
 have HBs := hide hBs; have Hb0 := hide hb0; have Hb1 := hide hb1; clear hh hB hBs hb0 hb1
 rcases h1 with ⟨s, rfl, H⟩ | ⟨⟨fb, rfl⟩, H⟩
 . have HF : Hid (Pg B L s) := hide (.inr ⟨H.out.2.1, H.out.2.2⟩)
   clear H
   go_wp2_with fail
   refine leaves_cons (f := 19) (args := #[.pointer (some ⟨w.heap.size, 0, none⟩), .pointer (some ⟨w.heap.size + 1, 0, none⟩)]) (by simp) (by simp [go_sem]) ?_
   refine (pcatch_idle ⟨w.heap.size, 0, none⟩ ⟨w.heap.size + 1, 0, none⟩ _).mono ?_; rintro e u' w'' ⟨rfl, rfl, rfl⟩
   simp [Leaves, settle, results, Tryz.results11, go_sem, d0, e4]
   exact hide ⟨HBs.out _ _, HF.out⟩
 . have KC := hide (pcatch_throw w.heap.size (w.heap.size + 1) fb _ _ w1 Hb0.out Hb1.out (by omega))
   have HF : Hid (Pg B L ⟨#[]⟩) := hide (.inl ⟨H.out.1, rfl⟩); clear H
   go_wp2_with fail
   refine leaves_cons (f := 19) (args := #[.pointer (some ⟨w.heap.size, 0, none⟩), .pointer (some ⟨w.heap.size + 1, 0, none⟩)]) (by simp) (by simp [go_sem]) ?_; refine KC.out.mono ?_; intro e u' W hW
   obtain ⟨rfl, rfl, hW⟩ := hW
   have g0 : W.cell? ⟨w.heap.size, 0, none⟩ = some (.string ⟨#[]⟩) := by
    rw [hW]
    simp [World.cell?, World.setCell, Array.getElem?_modify, Hb0.out]
   have g1 : W.cell? ⟨w.heap.size + 1, 0, none⟩ = some (.iface 41 (.pointer (some ⟨fb, 0, none⟩))) := by
    rw [hW]
    simp [World.cell?, World.setCell, Array.getElem?_modify, Hb1.out]
   have HB := hide (HBs.out (.string ⟨#[]⟩) (.iface 41 (.pointer (some ⟨fb, 0, none⟩)))); rw [<- hW] at HB; clear hW KC
   simp [Leaves, settle, results, Tryz.results11, go_sem, g0, g1]
   exact hide ⟨HB.out, HF.out⟩
theorem pclosure_calls {B : Prop} (tf : Ex -> List ByteArray) (cs : List Cm) {A : Option Addr} {c : Nat} (xb : Nat) (w : World) (c3 : w.cell? ⟨xb, 0, none⟩ = some (.slice A cs.length c)) (hT : Tb w) (hin : CmsIn w (fun b => b < w.heap.size) A cs) (hok : ∀ c ∈ cs, CmAll tf c) (hlen : cs.length <= 1000000) (hB : B \/ ((∀ c ∈ cs, CmLight c) /\ (linesK tf cs).length < 8388608)) :
 Calls Tryz.prog 12 #[.pointer (some ⟨xb, 0, none⟩)] w fun e w' => XoR B (linesK tf cs) w e w' := by
 have K := hide (textOf_calls tf cs (c := c) w hT hin hok hlen hB); clear hT hin hok hB; generalize linesK tf cs = L at *; generalize cs.length = n at *
 go_enter Tryz.func12, Tryz.ntmps12
 go_wp2_with (go_at_call 13; refine K.out.mono ?_)
 intro e w1 h1; have HF := hide h1; clear K
 rcases h1 with ⟨s, rfl, -⟩ | ⟨⟨fb, rfl⟩, -⟩
 . go_wp2_with fail
   go_ret; exact HF.out
 . go_wp2_with fail
   exact ⟨rfl, HF.out⟩
theorem pprint_calls {B : Prop} (tf : Ex -> List ByteArray) (cs : List Cm) {A : Option Addr} {c : Nat} (w : World) (hT : Tb w) (hin : CmsIn w (fun b => b < w.heap.size) A cs) (hok : ∀ c ∈ cs, CmAll tf c) (hlen : cs.length <= 1000000) (hB : B \/ ((∀ c ∈ cs, CmLight c) /\ (linesK tf cs).length < 8388608)) :
 Calls Tryz.prog 5 #[.slice A cs.length c] w fun e w' => ∃ s : ByteArray, e = .returned (.string s) /\ Hid (Below w.heap.size w w' /\ Pg B (linesK tf cs) s) := by
 have hold : Below w.heap.size w (w.alloc (.cells #[.slice A cs.length c] 23)) := (Below.refl _ _).alloc (Nat.le_refl _) _
 have x3 : (w.alloc (.cells #[.slice A cs.length c] 23)).cell? ⟨w.heap.size, 0, none⟩ = some (.slice A cs.length c) := cell_of (heap_alloc_new _ _) 0 rfl
 have K1 := hide (pcaught_calls (B := B) (L := linesK tf cs) (.pointer (some ⟨w.heap.size, 0, none⟩)) (w.alloc (.cells #[.slice A cs.length c] 23)) fun W hW => pclosure_calls tf cs w.heap.size W (cell_later hW x3) ((hT.later hold).later hW) (hin.keep fun b hl hs => ⟨Nat.lt_of_lt_of_le hs (Nat.le_trans hold.size hW.size), (hW.block b (Nat.lt_of_lt_of_le hs hold.size)).trans (hold.block b hs)⟩) hok hlen hB)
 have HO := hide hold; have hmf : ∀ (fn : Fn) (first cap : Array Value) (w : World), (Instr.makeFunc fn first cap).run Tryz.prog w = .ok (.func fn first cap) w := fun _ _ _ _ => rfl
 clear hold x3 hT hin hok hB; generalize linesK tf cs = L at *; generalize cs.length = n at *
 go_enter Tryz.func5, Tryz.ntmps5
 go_wp2_with (go_at_call 11; refine K1.out.mono ?_)
 intro e w1 h1; obtain ⟨s, f, rfl, H⟩ := h1; have HF : Hid (Below w.heap.size w w1 /\ Pg B L s) := hide ⟨HO.out.trans (H.out.1.mono HO.out.size), H.out.2⟩; clear H K1
 go_wp2_with fail
 go_ret; exact ⟨s, rfl, HF⟩
end Go.Proofs.YtockffblncdikaaGreatDoor
