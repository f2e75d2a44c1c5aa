/- The contract of the document's Params: the parameters of a level behind those that are there. -/
import Derived.Test.YtpdoegjddiaaoaaDoorAppend
import Derived.Test.YtpdoegjddiaaoaaDoorAmong
namespace Go.Proofs.YtpdoegjddiaaoaaDoor
open Go.RowKit

/-- The parameters of a level behind those that are there. -/
def Lv.addP : LvB → List ByteArray → List ByteArray
  | .zero, ns => ns
  | .succ a, ns => Lv.addP a ns
  | .max a b, ns => Lv.addP b (Lv.addP a ns)
  | .imax a b, ns => Lv.addP b (Lv.addP a ns)
  | .param p, ns => if hasB p ns then ns else ns ++ [p]

theorem Lv.addP_len : ∀ (l : LvB) (ns : List ByteArray), (l.addP ns).length ≤ ns.length + l.nodes
  | .zero, ns => by simp [addP]
  | .succ a, ns => by have := Lv.addP_len a ns; simp only [addP, nodes]; omega
  | .max a b, ns => by have := Lv.addP_len a ns; have := Lv.addP_len b (a.addP ns); simp only [addP, nodes]; omega
  | .imax a b, ns => by have := Lv.addP_len a ns; have := Lv.addP_len b (a.addP ns); simp only [addP, nodes]; omega
  | .param p, ns => by simp only [addP, nodes]; split <;> simp

/-- .. of its first parts. -/
def Lv.addKids (l : LvB) (k : Nat) (ns : List ByteArray) : List ByteArray := (l.kids.take k).foldl (fun ms a => Lv.addP a ms) ns

theorem Lv.addKids_snoc (l : LvB) (k : Nat) (ns : List ByteArray) (h : k < l.kids.length) : l.addKids (k + 1) ns = Lv.addP l.kids[k] (l.addKids k ns) := by
  unfold addKids; rw [List.take_succ_eq_append_getElem h, List.foldl_append]; rfl
theorem Lv.addKids_all (l : LvB) (ns : List ByteArray) (h : l.kind ≠ 4) : l.addKids l.kids.length ns = l.addP ns := by
  cases l <;> simp [addKids, kids, addP, kind] at h ⊢
theorem Lv.addKids_len (l : LvB) (k : Nat) (ns : List ByteArray) (h : k < l.kids.length) : (l.addKids k ns).length + (l.kids[k]).nodes ≤ ns.length + l.nodes := by
  cases l with
  | zero => simp [kids] at h
  | param => simp [kids] at h
  | succ a => match k, h with | 0, _ => simp [kids, nodes, addKids]
  | max a b => match k, h with | 0, _ => simp [kids, nodes, addKids]; omega | 1, _ => have := Lv.addP_len a ns; simp [kids, nodes, addKids]; omega
  | imax a b => match k, h with | 0, _ => simp [kids, nodes, addKids]; omega | 1, _ => have := Lv.addP_len a ns; simp [kids, nodes, addKids]; omega

theorem Tryd.info9 : (Tryd.prog.info? 9).map (fun i => (i.zero, i.size, i.bytes)) = some (some (.string ⟨#[]⟩), 1, 16) := by kernel_rfl

theorem one_new (w : World) (s : ByteArray) (t : TypeId) : ∀ j u, [Value.string s][j]? = some u → (w.alloc (.cells #[.string s] t)).cell? ((⟨w.heap.size, 0, none⟩ : Addr).add j) = some u := cell_one_new w (.string s) t

set_option maxHeartbeats 400000 in
theorem rparams_param (p : ByteArray) (av : Value) (ns : List ByteArray) (base : Nat) (w : World) (hb : base ≤ w.heap.size) (hown : w.ownsRow base 9 1 av ns.length (ns.map .string)) (hlen : ns.length ≤ 2000000) :
    Calls Tryd.prog 6 #[.agg #[.int .i64 4, .string p, .slice none 0 0], av] w fun e w' => ∃ v', e = .returned v' ∧ w'.ownsRow base 9 1 v' (Lv.addP (.param p) ns).length ((Lv.addP (.param p) ns).map .string) ∧ Grew w av w' v' := by
  have HA := hide (fun W (hs : InStrs W W.heap.size av ns) => among_calls p ns av _ W hs)
  have hs := InStrs.of_owns (hown.alloc (.cells #[.int .i64 4, .string p, .slice none 0 0] 28)) (by unfold maxLen; omega)
  have HS := hide hs
  have HO := hide hown
  clear hs hown
  obtain ⟨i0, hi, hz0, hz1, hz2⟩ := info_parts Tryd.info9
  by_cases hh : hasB p ns = true
  · have HE : Hid (Lv.addP (.param p) ns = ns) := by simp [Hid, Lv.addP, hh]
    go_enter Tryd.func6, Tryd.ntmps6
    go_wp2_with (go_at_call 15; refine (HA.out _ ?_).mono ?_)
    · exact HS.out
    rintro e w' ⟨rfl, rfl⟩
    go_wp2_with fail
    go_ret
    refine ⟨av, rfl, ?_, Grew.alloc _⟩
    rw [HE.out]
    exact HO.out.alloc _
  · have hh' : hasB p ns = false := by simpa using hh
    have HE : Hid (Lv.addP (.param p) ns = ns ++ [p]) := by simp [Hid, Lv.addP, hh']
    clear hh
    go_enter Tryd.func6, Tryd.ntmps6
    go_wp2_with (go_at_call 15; refine (HA.out _ ?_).mono ?_)
    · exact HS.out
    rintro e w' ⟨rfl, rfl⟩
    go_wp2_with (at_builtin; refine wpList_append_placed _ rfl _ _ 33 rfl base 9 i0 (.string ⟨#[]⟩) 1 16 Tryd.underlying33 hi hz0 hz1 hz2 rfl (by decide) _ _ _ rfl ((HO.out.alloc _).alloc _) ⟨w.heap.size + 1, 0, none⟩ 1 1 [.string p] rfl rfl ?c1 ?c2 (by decide) ?c3 ?c4 ?c5 ?_)
    case c1 =>
      have := cell_one_new (w.alloc (Obj.cells #[Value.int IntKind.i64 4, Value.string p, Value.slice none 0 0] 28)) (.string p) 9
      simpa using this
    case c2 => intro u hu; simp at hu; subst hu; rfl
    case c3 => unfold maxLen; omega
    case c4 => omega
    case c5 => simp; omega
    intro v' w' hown' hgrow hpl
    go_wp2_with fail
    go_ret
    refine ⟨v', rfl, ?_, ?_⟩
    · rw [HE.out]; simpa using hown'
    · exact (Grew.alloc _).trans ((Grew.alloc _).trans ⟨hgrow, hpl.imp id fun e k hk => by rw [e] at hk; injection hk with hk; simp; omega⟩)

set_option maxHeartbeats 400000 in
theorem rparams_calls (N : Nat) : ∀ (l : LvB) (v av : Value) (ns : List ByteArray) (B base : Nat) (w : World), l.nodes ≤ N → B ≤ base → base ≤ w.heap.size → InLv w B l v → w.ownsRow base 9 1 av ns.length (ns.map .string) → ns.length + l.nodes ≤ 2000000 →
    Calls Tryd.prog 6 #[v, av] w fun e w' => ∃ v', e = .returned v' ∧ w'.ownsRow base 9 1 v' (l.addP ns).length ((l.addP ns).map .string) ∧ Grew w av w' v' := by
  induction N with
  | zero => intro l v av ns B base w h; cases l <;> simp [Lv.nodes] at h
  | succ N ih =>
    intro l v av ns B base w hN hBb hbw hl hown hlen
    by_cases hp : l.kind = 4
    · cases l <;> simp [Lv.kind] at hp
      rename_i p
      have e : v = _ := hl
      subst e
      exact rparams_param p av ns base w hbw hown (by omega)
    · obtain ⟨A, cap, rfl, hk⟩ := hl.shape
      have HK := hide hk
      have IH := hide ih
      have HE := hide (l.addKids_all ns hp)
      have hk2 := l.kids_le
      have hk4 := l.kind_le
      have hq : ((l.kind : Int) == 4) = false := by simp; omega
      have HO := hide hown
      have hblk := hown.lt
      have HBL := hide hblk
      clear hk ih hl hp hown hblk
      go_enter Tryd.func6, Tryd.ntmps6
      go_wp2_with fail
      go_loopg [1, 6] (l.kids.length) (fun g av' i wr => ∃ k : Nat, k + g = l.kids.length ∧ i = .int .i64 k ∧ wr.ownsRow base 9 1 av' (l.addKids k ns).length ((l.addKids k ns).map .string) ∧ Grew (w.alloc (.cells #[.int .i64 l.kind, .string l.nm, .slice A l.kids.length cap] 28)) av wr av')
      case atStart => exact ⟨0, by omega, rfl, by simpa [Lv.addKids] using HO.out.alloc _, Grew.refl _ _⟩
      case round =>
        obtain ⟨k, hkg, rfl, hown', hgr⟩ := hrel
        have hz := hgr.1.size
        simp at hz
        have hne : some w.heap.size ≠ av.ownBlock := fun e => by have := (HBL.out _ e.symm).2; omega
        have hb2 : wr.cell? ⟨w.heap.size, 2, none⟩ = some (.slice A l.kids.length cap) := by rw [hgr.cell (by simp) hne]; simp
        have HG := hide hgr
        have HO' := hide hown'
        have hBw : Below base w wr := ((Grew.alloc _).trans hgr).below hbw fun k hk => (HBL.out k hk).1
        clear hgr hown' hne
        by_cases hlt : k < l.kids.length
        · obtain ⟨b, x, rfl, hbB, h3, hin⟩ := HK.out k hlt
          obtain ⟨k', nm', A', n', cap', rfl, c0, c1, c2⟩ := h3
          have d0 : wr.cell? ⟨b, k * 3, none⟩ = some (.int .i64 k') := by rw [hBw.cell (by show b < base; omega)]; exact c0
          have d1 : wr.cell? ⟨b, k * 3 + 1, none⟩ = some (.string nm') := by rw [hBw.cell (by show b < base; omega)]; exact c1
          have d2 : wr.cell? ⟨b, k * 3 + 2, none⟩ = some (.slice A' n' cap') := by rw [hBw.cell (by show b < base; omega)]; exact c2
          have HI : Hid (InLv wr B l.kids[k] (.agg #[.int .i64 k', .string nm', .slice A' n' cap'])) := InLv.below (hBw.mono hBb) hin
          have hnk := Lv.kid_nodes hlt
          have HSn := hide (l.addKids_snoc k ns hlt)
          have hsk := l.addKids_len k ns hlt
          clear c0 c1 c2 hin hBw
          go_wp2_with (go_at_call 6; refine (IH.out _ _ _ (l.addKids k ns) B base _ (by omega) hBb (by omega) HI.out HO'.out (by omega)).mono ?_; rintro e w' ⟨v', rfl, hown2, hgr2⟩)
          go_roundg (l.kids.length - (k + 1))
          case measure => omega
          case rel => exact ⟨k + 1, by omega, by go_num, by rw [HSn.out]; exact hown2, HG.out.trans hgr2⟩
        · go_wp2_with fail
          go_ret
          have hke : k = l.kids.length := by omega
          refine ⟨_, rfl, ?_, (Grew.alloc _).trans HG.out⟩
          rw [← HE.out, ← hke]
          exact HO'.out

end Go.Proofs.YtpdoegjddiaaoaaDoor
