/- The contract of declarations. -/
import Derived.Test.YtjlibnijecdgcaaGreatDoorFDecl
import Derived.Defers
import Derived.Recover
import Derived.Below

namespace Go.Proofs.YtjlibnijecdgcaaGreatDoor
open Go.RowKit

def DK (D : Nat) (ds : List Dc) (W : World) (S : Nat → Prop) (j : Nat) (v : Value) : Prop := ∃ h : j < ds.length, DeclV W S D ds[j] v
theorem DK.keeps (D : Nat) (ds : List Dc) : Keeps (DK D ds) := fun _ _ _ _ _ _ h ⟨hj, hp⟩ => ⟨hj, hp.keep h⟩

/-- While declarations are read. -/
structure DsRd (w : World) (sc : Nat) (s : ByteArray) (D p : Nat) (ds : List Dc) (pk : Nat) (rv : Value) (W : World) : Prop where
  seq : SeqG (DeclAt s D) ds p pk
  le : pk ≤ s.size
  few : ds.length ≤ pk
  scan : ScAt W sc s pk
  old : Touched w sc W
  row : ∃ xs, GRow (DK D ds) W 46 15 0 w.heap.size ds.length rv xs

/-- What declarations comes to. -/
def DsEnd (w : World) (sc : Nat) (s : ByteArray) (D p : Nat) (e : Ending) (w' : World) : Prop :=
  (∃ ds p' A c xs, DeclsAt s D ds p p' ∧ runTo blankB s p' = s.size ∧ p' ≤ s.size ∧ ds.length ≤ s.size ∧ e = .returned (.slice A ds.length c) ∧ GRow (DK D ds) w' 46 15 0 w.heap.size ds.length (.slice A ds.length c) xs ∧ ScAt w' sc s p' ∧ Touched w sc w') ∨
    (∃ a, bDecls s D p a ∧ Thrown w sc a e w')

theorem Tryz.info46' : (Tryz.prog.info? 46).map (fun i => (i.zero, i.size, i.bytes)) = some (some (.agg #[.int .i64 0, .string ⟨#[]⟩, .slice none 0 0, .int .i64 0, .int .i64 0, .string ⟨#[]⟩, .slice none 0 0, .slice none 0 0, .int .i64 0, .int .i64 0, .string ⟨#[]⟩, .slice none 0 0, .slice none 0 0, .int .i64 0, .slice none 0 0]), 15, 240) := by kernel_rfl
theorem fifteen_new (w : World) (u0 u1 u2 u3 u4 u5 u6 u7 u8 u9 u10 u11 u12 u13 u14 : Value) (t : TypeId) : ∀ j u, [u0, u1, u2, u3, u4, u5, u6, u7, u8, u9, u10, u11, u12, u13, u14][j]? = some u → (w.alloc (.cells #[u0, u1, u2, u3, u4, u5, u6, u7, u8, u9, u10, u11, u12, u13, u14] t)).cell? ((⟨w.heap.size, 0, none⟩ : Addr).add j) = some u := by
  intro j u h
  rw [Addr.add_lit, Nat.zero_add]
  have hb := heap_alloc_new w (.cells #[u0, u1, u2, u3, u4, u5, u6, u7, u8, u9, u10, u11, u12, u13, u14] t)
  unfold World.cell?
  rw [hb]
  have e : ([u0, u1, u2, u3, u4, u5, u6, u7, u8, u9, u10, u11, u12, u13, u14].toArray)[j]? = some u := by rw [List.getElem?_toArray]; exact h
  exact e

/-- One more. -/
theorem DsRd.next {w wr w2 w6 : World} {sc D p pk n0 : Nat} {s : ByteArray} {d : Dc} {ds : List Dc} {rv v' : Value} {xs : List Value} {a : Array Value} (hn0 : n0 = w.heap.size) (hsc : sc < w.heap.size) (hM : DsRd w sc s D p ds pk rv wr) (hrow : GRow (DK D ds) wr 46 15 0 n0 ds.length rv xs)
    (hB : Touched wr sc w2) (hin : DeclV w2 (fun b => wr.heap.size ≤ b) D d (.agg a)) (ha : a.size = 15)
    (hown : w6.ownsRow n0 46 15 v' (ds.length + 1) (flat xs ++ a.toList)) (hgr : (w2.alloc (.cells a 46)).grownBy w6 rv.ownBlock)
    (hpl : v'.ownBlock = rv.ownBlock ∨ v'.ownBlock = some (w2.alloc (.cells a 46)).heap.size) :
    GRow (DK D (ds ++ [d])) w6 46 15 0 n0 (ds ++ [d]).length v' (xs ++ [.agg a]) ∧ Touched w sc w6 ∧ (∀ b, b < w2.heap.size → b < w.heap.size → w6.heap[b]? = w2.heap[b]?) := by
  subst hn0
  have hzo := hM.old.size
  have hzb := hB.size
  have hlow : ∀ b, b < w.heap.size → rv.ownBlock ≠ some b := fun b hb e => by have := (hrow.own.lt b e).1; omega
  have hblk : ∀ b, b < w2.heap.size → b < w.heap.size → w6.heap[b]? = w2.heap[b]? := fun b hb hbw => by
    rw [hgr.block b (by simp; omega) (fun e => hlow b hbw e.symm), Below.heap_alloc _ _ _ hb]
  refine ⟨?_, ⟨hgr.os.trans (hB.os.trans hM.old.os), hgr.tape.trans (hB.tape.trans hM.old.tape), hgr.output.trans (hB.output.trans hM.old.output), by have := hgr.size; simp at this; omega, fun b hb hne => ?_⟩, hblk⟩
  · have h1 : GRow (DK D (ds ++ [d])) w2 46 15 0 w.heap.size ds.length rv xs := (hrow.touched (DK.keeps _ _) hB hsc).imp fun S j v hj ⟨hj', hv⟩ => ⟨by simp; omega, by rw [List.getElem_append_left hj']; exact hv⟩
    have hl : (ds ++ [d]).length = ds.length + 1 := by simp
    rw [hl]
    refine GRow.push (DK.keeps _ _) h1 (m := wr.heap.size) (Nat.zero_le _) hzo (fun g e => (hrow.own.lt g e).2) (Below.refl _ _) ⟨by simp, ?_⟩ ha hown hgr hpl
    have e1 : (ds ++ [d])[ds.length]'(by simp) = d := by rw [List.getElem_append_right (Nat.le_refl _)]; simp
    rw [e1]
    exact hin.keep fun b _ hb => ⟨.inr hb, rfl⟩
  · rw [hblk b (by omega) hb, hB.block b (by omega) hne]
    exact hM.old.block b hb hne

theorem end_no_decl {s : ByteArray} {D p p1 : Nat} {d : Dc} (h : runTo blankB s p = s.size) (hd : DeclAt s D d p p1) : False := by
  obtain ⟨_, _, _, _, _, _, _, _, h1, _⟩ := hd
  have := h1.1
  omega
theorem names_mono {s : ByteArray} : ∀ {qs : List ByteArray} {p p' : Nat}, NamesAt s qs p p' → p ≤ p'
  | [], _, _, h => by rw [show _ = _ from h]; exact Nat.le_refl _
  | _ :: _, _, _, ⟨_, h1, h2⟩ => by have := h1.lt.1; have := names_mono h2; omega
theorem ctors_mono {s : ByteArray} {D : Nat} (hs : s.size ≤ 200000) : ∀ {cs : List (ByteArray × Tm)} {p p' : Nat}, CtorsAt s D cs p p' → p ≤ p'
  | [], _, _, h => by rw [show _ = _ from h]; exact Nat.le_refl _
  | _ :: _, _, _, ⟨_, ⟨_, _, _, _, h1, h2, h3, h4, h5⟩, h6⟩ => by have := h1.lt; have := h2.lt.1; have := h3.lt.1; have := h4.lt hs; have := h5.lt; have := ctors_mono hs h6; omega
theorem DeclAt.lt {s : ByteArray} {D p p' : Nat} {d : Dc} (hs : s.size ≤ 200000) (h : DeclAt s D d p p') : p < p' ∧ p' ≤ s.size := by
  obtain ⟨a1, a2, a3, a4, a5, a6, a7, a8, h1, _, h2, h3, ⟨b1, b2, g1, g2, g3⟩, h5, h6, h7, h8, h9⟩ := h
  have x1 := h1.lt
  have x2 := h2.lt.1
  have x3 := h3.lt.1
  have x4 := g1.lt
  have x5 : b1 ≤ b2 := names_mono g2
  have x6 := g3.lt
  have x7 : a4 ≤ a5 := by
    rcases h5 with ⟨_, h5⟩ | ⟨_, _, h5⟩
    · have := runTo_ge blankB s a4
      have := digitEnd_ge s (runTo blankB s a4)
      rw [h5.2.2.1]; omega
    · omega
  have x8 := h6.lt hs
  have x9 : a6 ≤ a7 := by
    rcases h7 with ⟨_, h7⟩ | ⟨_, _, h7⟩
    · have := h7.lt hs; omega
    · omega
  have x10 : a7 ≤ a8 := by
    rcases h8 with ⟨_, h8⟩ | ⟨_, _, h8⟩
    · exact ctors_mono hs h8
    · omega
  have x11 := h9.lt
  exact ⟨by omega, h9.le⟩

set_option maxRecDepth 100000 in
set_option maxHeartbeats 16000000 in
theorem decls_total (sc : Nat) (s : ByteArray) (p D : Nat) (w : World) (hs : s.size ≤ 200000) (hp : p ≤ s.size) (h : ScAt w sc s p) (ht : Tabs3 w) (hsc : 11 < sc) (hD : 200000 < D) :
    Calls Tryz.prog 14 #[.pointer (some ⟨sc, 0, none⟩)] w fun e w' => DsEnd w sc s D p e w' := by
  have hlt := h.lt
  have HTb := hide ht
  obtain ⟨i0, hi, hz0, hz1, hz2⟩ := infoParts Tryz.info46'
  have HSt : Hid (DsRd w sc s D p [] p (.slice none 0 0) w) := ⟨rfl, hp, by simp, h, Touched.refl _ _, [], GRow.start _ _ _ _ _ _⟩
  clear h ht
  go_enter Tryz.func14, Tryz.ntmps14
  go_wp2_with fail
  go_loopg [3] (s.size - p) (fun g v wr => ∃ (ds : List Dc) (pk : Nat), pk + g = s.size ∧ Hid (DsRd w sc s D p ds pk v wr))
  case atStart => exact ⟨[], p, by omega, HSt.out⟩
  case round =>
    clear HSt
    obtain ⟨ds, pk, hpk, HM⟩ := hrel
    obtain ⟨xs, hrow⟩ := HM.out.row
    obtain ⟨ao, cc, hu⟩ := own_row_slice hrow.own
    subst hu
    have HR := hide hrow
    clear hrow
    have htw := HTb.out.touched HM.out.old hsc
    have hslt := HM.out.scan.lt
    have KB := hide (before_end sc s pk wr hs HM.out.le HM.out.scan htw.b.a)
    by_cases hc : runTo blankB s pk = s.size
    · rw [show decide (runTo blankB s pk = s.size) = true from by simp [hc]] at KB
      have HX := hide hc
      clear hc
      go_wp2_with (go_at_call 31; refine KB.out.mono ?_)
      intro e W1 h9
      first | (subst h9; intro hb1) | (obtain ⟨rfl, hb1⟩ := h9)
      have HF : Hid (DsEnd w sc s D p (.returned (.slice ao ds.length cc)) W1) := .inl ⟨ds, pk, ao, cc, xs, declsAt_iff.2 HM.out.seq, HX.out, HM.out.le, by have := HM.out.few; have := HM.out.le; omega, rfl, HR.out.later (DK.keeps _ _) hb1, HM.out.scan.below hb1, HM.out.old.trans (Touched.of_below hb1)⟩
      clear hb1 KB htw
      go_wp2_with fail
      go_ret
      exact HF.out
    · rw [show decide (runTo blankB s pk = s.size) = false from by simp [hc]] at KB
      have HNc := hide hc
      clear hc
      go_wp2_with (go_at_call 31; refine KB.out.mono ?_)
      intro e W1 h9
      first | (subst h9; intro hb1) | (obtain ⟨rfl, hb1⟩ := h9)
      have K2 := hide (decl_total sc s pk D W1 hs HM.out.le (HM.out.scan.below hb1) (htw.later hb1) hsc hD)
      have HB1 := hide hb1
      clear hb1 KB htw
      go_wp2_with (go_at_call 32; refine K2.out.mono ?_)
      intro e w2 h9
      rcases h9 with ⟨d, p2, v2, hd2, rfl, hV2, hS2, hT2⟩ | ⟨aft, hft, hth⟩
      rotate_left
      · have HF : Hid (DsEnd w sc s D p e w2) := .inr ⟨_, ⟨ds, pk, HM.out.seq, HNc.out, hft⟩, hth.from (HM.out.old.trans (Touched.of_below HB1.out))⟩
        obtain ⟨fb, rfl, -⟩ := hth
        go_wp2_with fail
        exact ⟨rfl, HF.out⟩
      have hB : Touched wr sc w2 := (Touched.of_below HB1.out).trans hT2
      have hVr : DeclV w2 (fun b => wr.heap.size ≤ b) D d v2 := hV2.keep fun b _ hb => ⟨Nat.le_trans HB1.out.size hb, rfl⟩
      have HV := hide hVr
      obtain ⟨Ap, cp, kt, nt, nmt, At, lt, ct, At', lt', ct', kv, nv, nmv, Av, lv, cv, Av', lv', cv', Ac, cd, rfl, -, -, -, -⟩ := hV2
      obtain ⟨hlt2, hle2⟩ := hd2.lt hs
      have hzw := HM.out.old.size
      have hz2' := hB.size
      have hfew := HM.out.few
      have hpl := HM.out.le
      have HO5 := hide ((HR.out.own.kept (row := some sc) hB (.inr (fun e => by have := (HR.out.own.lt sc e).1; omega))).alloc (.cells #[.int .i64 (d.kd : Nat), .string d.nm, .slice Ap d.ps.length cp, .int .i64 kt, .int .i64 nt, .string nmt, .slice At lt ct, .slice At' lt' ct', .int .i64 kv, .int .i64 nv, .string nmv, .slice Av lv cv, .slice Av' lv' cv', .int .i64 (d.ar : Nat), .slice Ac d.cs.length cd] 46))
      have HBt := hide hB
      have HS2 := hide hS2
      have HD2 := hide hd2
      clear hB hS2 hT2 hd2 K2 hVr
      go_wp2_with (at_builtin; refine wpList_append_placed _ rfl _ _ 27 rfl w.heap.size 46 i0 _ 15 240 Tryz.underlying27 hi hz0 hz1 hz2 rfl (by decide) (.slice ao ds.length cc) ds.length (flat xs) rfl HO5.out ⟨w2.heap.size, 0, none⟩ 1 1 [.int .i64 (d.kd : Nat), .string d.nm, .slice Ap d.ps.length cp, .int .i64 kt, .int .i64 nt, .string nmt, .slice At lt ct, .slice At' lt' ct', .int .i64 kv, .int .i64 nv, .string nmv, .slice Av lv cv, .slice Av' lv' cv', .int .i64 (d.ar : Nat), .slice Ac d.cs.length cd] rfl rfl (fifteen_new _ _ _ _ _ _ _ _ _ _ _ _ _ _ _ _ _) ?c2 (by decide) ?c3 ?c4 ?c5 ?_)
      case c2 => intro u hu; simp at hu; rcases hu with rfl | rfl | rfl | rfl | rfl | rfl | rfl | rfl | rfl | rfl | rfl | rfl | rfl | rfl | rfl <;> rfl
      case c3 => unfold maxLen; omega
      case c4 => omega
      case c5 => simp; omega
      intro v' w6 hown6 hgr6 hpl6
      obtain ⟨hrow6, hT6, hblk6⟩ := DsRd.next (d := d) rfl (by omega) HM.out HR.out HBt.out HV.out rfl hown6 hgr6 (by simpa using hpl6)
      have HNx : Hid (DsRd w sc s D p (ds ++ [d]) p2 v' w6) := ⟨HM.out.seq.snoc HD2.out, hle2, by simp; omega, HS2.out.of_block (hblk6 sc (by omega) (by omega)), hT6, _, hrow6⟩
      clear hrow6 hT6 hblk6 hown6 hgr6 hpl6
      go_wp2_with fail
      go_roundg (s.size - p2)
      case measure => omega
      case rel => exact ⟨ds ++ [d], p2, by omega, HNx.out⟩

end Go.Proofs.YtjlibnijecdgcaaGreatDoor

/- The contracts of fault.Caught, of notation.Read with its closure, of file.Parse. -/
namespace Go.Proofs.YtjlibnijecdgcaaGreatDoor
open Go.RowKit

/-- Declarations in a row. -/
def DsV (W : World) (S : Nat → Prop) (D : Nat) (ds : List Dc) (A : Option Addr) : Prop := ∀ i (hi : i < ds.length), ∃ (g : Nat) (a : Array Value), A = some ⟨g, 0, none⟩ ∧ S g ∧ g < W.heap.size ∧ a.size = 15 ∧ (∀ q, q < 15 → W.cell? ⟨g, i * 15 + q, none⟩ = a[q]?) ∧ DeclV W S D ds[i] (.agg a)
theorem DsV.keep {W W' : World} {S S' : Nat → Prop} {D : Nat} {ds : List Dc} {A : Option Addr} (hd : DsV W S D ds A) (h : ∀ b, b < W.heap.size → S b → S' b ∧ W'.heap[b]? = W.heap[b]?) : DsV W' S' D ds A := fun i hi => by
  obtain ⟨g, a, e, hS, hl, hz, hc, hv⟩ := hd i hi
  obtain ⟨hS', hb⟩ := h g hl hS
  have hl' : g < W'.heap.size := by
    rcases Nat.lt_or_ge g W'.heap.size with h1 | h1
    · exact h1
    · rw [Array.getElem?_eq_none h1, Array.getElem?_eq_getElem hl] at hb; cases hb
  exact ⟨g, a, e, hS', hl', hz, fun q hq => (World.cell?_of_block hb).trans (hc q hq), hv.keep h⟩
theorem DsV.of_row {W : World} {D n0 : Nat} {ds : List Dc} {A : Option Addr} {c : Nat} {xs : List Value} (h : GRow (DK D ds) W 46 15 0 n0 ds.length (.slice A ds.length c) xs) : DsV W (fun b => n0 ≤ b) D ds A := by
  obtain ⟨A', c', e, hp⟩ := h.out (DK.keeps _ _)
  injection e with e1 e2 e3
  subst e1
  intro i hi
  obtain ⟨g, a, ea, hg, hz, hc, hj, hv⟩ := hp i hi
  have hl : g < W.heap.size := World.block_lt_of_cell? _ ⟨g, i * 15 + 0, none⟩ ((hc 0 (by omega)).trans (Array.getElem?_eq_getElem (by omega)))
  exact ⟨g, a, ea, hg, hl, hz, hc, hv.keep fun b _ hb => ⟨by omega, rfl⟩⟩

/-- The whole of a text is declarations. -/
def FileIs (s : ByteArray) (D : Nat) (ds : List Dc) : Prop := s.size ≤ 200000 ∧ ∃ p', DeclsAt s D ds 0 p' ∧ runTo blankB s p' = s.size ∧ ds.length ≤ s.size
/-- A text is no declarations: the fault's code and place. -/
def FileBad (s : ByteArray) (D code a : Nat) : Prop := (s.size ≤ 200000 ∧ code = 1 ∧ bDecls s D 0 a) ∨ (200000 < s.size ∧ code = 2 ∧ a = 0)
/-- What the work comes to. -/
def Work (w : World) (s : ByteArray) (D : Nat) (e : Ending) (w' : World) : Prop :=
  (∃ (ds : List Dc) (A : Option Addr) (c : Nat), FileIs s D ds ∧ e = .returned (.slice A ds.length c) ∧ DsV w' (fun b => w.heap.size ≤ b) D ds A ∧ Below w.heap.size w w') ∨ ∃ code a, FileBad s D code a ∧ Threw w w.heap.size code a e w'
/-- What is answered. -/
def Answer (w : World) (s : ByteArray) (D : Nat) (e : Ending) (w' : World) : Prop :=
  (∃ (ds : List Dc) (A : Option Addr) (c : Nat), FileIs s D ds ∧ e = .returned (.tuple #[.slice A ds.length c, .nilIface]) ∧ DsV w' (fun b => w.heap.size ≤ b) D ds A ∧ Below w.heap.size w w') ∨
  (∃ code a, FileBad s D code a ∧ ∃ N : Nat, e = .returned (.tuple #[.slice none 0 0, .iface 84 (.pointer (some ⟨N, 0, none⟩))]) ∧ w.heap.size ≤ N ∧ w'.heap[N]? = some (.cells #[.int .i64 (code : Nat), .int .i64 (a : Nat)] 33 (0, 0)) ∧ Below w.heap.size w w')

theorem cell_later {w W : World} {a : Addr} {v : Value} (hb : Below w.heap.size w W) (h : w.cell? a = some v) : W.cell? a = some v := by
  rw [World.cell?_of_block (hb.block _ (World.block_lt_of_cell? _ _ h))]; exact h

set_option maxRecDepth 100000 in
set_option maxHeartbeats 4000000 in
theorem read1_calls (s : ByteArray) (D b3 b4 b5 : Nat) (w : World) (hm : s.size ≤ maxLen) (hD : 200000 < D) (ht : Tabs3 w)
    (c3 : w.cell? ⟨b3, 0, none⟩ = some (.string s)) (c4 : w.cell? ⟨b4, 0, none⟩ = some (.int .i64 200000)) (c5 : w.cell? ⟨b5, 0, none⟩ = some (.func (.func 14) #[] #[])) :
    Calls Tryz.prog 28 #[.pointer (some ⟨b3, 0, none⟩), .pointer (some ⟨b4, 0, none⟩), .pointer (some ⟨b5, 0, none⟩)] w fun e w' => Work w s D e w' := by
  unfold maxLen at hm
  have hlt := ht.lt
  by_cases hs : s.size ≤ 200000
  · have hold : Below w.heap.size w (w.alloc (.cells #[.string s, .int .i64 0] 70)) := (Below.refl _ _).alloc (Nat.le_refl _) _
    have hS0 : ScAt (w.alloc (.cells #[.string s, .int .i64 0] 70)) w.heap.size s 0 := by
      have := heap_alloc_new w (.cells #[.string s, .int .i64 0] 70)
      simpa [ScAt] using this
    have K1 := hide (decls_total w.heap.size s 0 D _ hs (Nat.zero_le _) hS0 (ht.alloc _) hlt hD)
    have d5 := cell_later hold c5
    have HTb := hide ht
    have HO := hide hold
    clear ht hold hS0
    go_enter Tryz.func28, Tryz.ntmps28
    go_wp2_with (go_at_call 14; refine K1.out.mono ?_)
    intro e w1 h1
    rcases h1 with ⟨ds, p', A, c, xs, hd, he, hp', hf, rfl, hrow, hS1, hT1⟩ | ⟨aft, hft, hth⟩
    rotate_left
    · have HF : Hid (Work w s D e w1) := .inr ⟨1, aft, .inl ⟨hs, rfl, hft⟩, hth.from (Touched.of_below HO.out)⟩
      obtain ⟨fb, rfl, -⟩ := hth
      go_wp2_with fail
      exact ⟨rfl, HF.out⟩
    have hTw : Touched w w.heap.size w1 := (Touched.of_below HO.out).trans hT1
    have hT2 := hTw.trans (Touched.alloc w1 w.heap.size (.cells #[.int .i64 0] 71))
    have hz1 := hTw.size
    have K2 := hide (expect_calls w.heap.size s p' 0 _ _ _ [0] (.slice (some ⟨w1.heap.size, 0, none⟩) 1 1) _ (end_nexts hs hp' he) (hS1.alloc (.cells #[.int .i64 0] 71)) (HTb.out.touched hT2 hlt).b.a hlt (kinds1 0) (fun b n cap e => by injection e with e; injection e with e; injection e with e; have := hS1.lt; omega) (by simp))
    have HR : Hid (FileIs s D ds) := ⟨hs, p', hd, he, hf⟩
    have HV : Hid (DsV w1 (fun b => w.heap.size + 1 ≤ b) D ds A) := by have := DsV.of_row hrow; exact this.keep fun b _ hb => ⟨by simpa using hb, rfl⟩
    have HT2 := hide hT2
    have hl1 := hS1.lt
    clear hS1 hT1 hTw hT2 hrow hd K1
    go_wp2_with (go_at_call 30; refine K2.out.mono ?_)
    rintro e w2 ⟨rfl, hS2, hT3⟩
    have HF : Hid (Work w s D (.returned (.slice A ds.length c)) w2) := by
      refine .inl ⟨ds, A, c, HR.out, rfl, HV.out.keep fun b hb hS => ⟨by omega, ?_⟩, (HT2.out.trans hT3).below (B := w.heap.size) (Nat.le_refl _) (Nat.le_refl _)⟩
      rw [hT3.block b (by simp; omega) (by simp; omega), Below.heap_alloc _ _ _ hb]
    clear hS2 hT3 K2
    go_wp2_with fail
    go_ret
    exact HF.out
  · have K := hide (throw_calls 2 w.heap.size w)
    have HS := hide hs
    have hs' : 200000 < s.size := by omega
    clear hs
    go_enter Tryz.func28, Tryz.ntmps28
    go_wp2_with (go_at_call 29; refine K.out.mono ?_)
    intro e w1 h1
    have HF : Hid (Work w s D e w1) := .inr ⟨2, 0, .inr ⟨hs', rfl, rfl⟩, h1⟩
    obtain ⟨fb, rfl, -⟩ := h1
    go_wp2_with fail
    exact ⟨rfl, HF.out⟩

set_option maxRecDepth 100000 in
/-- The deferred closure, entered as a deferred call of a frame that returns: recover finds nothing: it turns nothing. -/
theorem catch_idle (p q : Addr) (w : World) :
    CallsD Tryz.prog 42 #[.pointer (some p), .pointer (some q)] .returning w fun e u' w' => e = .returned (.tuple #[]) ∧ u' = .returning ∧ w' = w := by
  refine callsD_of_wpS Tryz.func42 rfl fun c₀ cs hu => ?_
  apply wpS_seq
  apply wpS_region
  simp [wpOpsS, go_sem, recoverD, hu, Tryz.ntmps42, Exit.thenS]
  apply wpS_seq
  apply wpS_seq
  apply wpS_region
  simp [wpOpsS, go_sem, Exit.thenS]
  refine wpS_cond (t := true) (by simp [Act.eval, Array.replicate]) ?_
  simp only [if_true]
  refine wpS_of_wp (wp_ret ?_)
  cases c₀
  simp_all [bodyPostS, results, Tryz.results42, Exit.thenS]

theorem Tryz.isFault (v : Value) (w : World) : (Instr.typeAssert (.iface 84 v) 20 84 true).run Tryz.prog w = .ok (.tuple #[v, .bool true]) w := by kernel_rfl

set_option maxRecDepth 100000 in
set_option maxHeartbeats 4000000 in
/-- The deferred closure, entered as a deferred call of a frame that panics with a fault: it is recovered, and told as the error. -/
theorem catch_throw (b c fb : Nat) (x y : Value) (w : World) (hb : w.heap[b]? = some (.cells #[x] 27 (0, 0))) (hc : w.heap[c]? = some (.cells #[y] 29 (0, 0))) (hne : b ≠ c) :
    CallsD Tryz.prog 42 #[.pointer (some ⟨b, 0, none⟩), .pointer (some ⟨c, 0, none⟩)] (.panicking [{ v := .iface 84 (.pointer (some ⟨fb, 0, none⟩)), recovered := false }]) w fun e u' w' =>
      e = .returned (.tuple #[]) ∧ u' = .panicking [{ v := .iface 84 (.pointer (some ⟨fb, 0, none⟩)), recovered := true }] ∧
      w' = (w.setCell ⟨b, 0, none⟩ (.slice none 0 0)).setCell ⟨c, 0, none⟩ (.iface 84 (.pointer (some ⟨fb, 0, none⟩))) := by
  have hbl : b < w.heap.size := (Array.getElem?_eq_some_iff.1 hb).1
  have hcl : c < w.heap.size := (Array.getElem?_eq_some_iff.1 hc).1
  have b0 : w.cell? ⟨b, 0, none⟩ = some x := by simp [World.cell?, hb]
  have bf : ∀ i, w.frozen? ⟨b, i, none⟩ = false := fun i => by simp [World.frozen?, hb]
  have c0 : w.cell? ⟨c, 0, none⟩ = some y := by simp [World.cell?, hc]
  have cf : ∀ i, w.frozen? ⟨c, i, none⟩ = false := fun i => by simp [World.frozen?, hc]
  have hne' : ¬ b = c := hne
  have hne2 : ¬ c = b := fun e => hne e.symm
  have hta := Tryz.isFault
  clear hb hc hne
  refine callsD_of_wpS Tryz.func42 rfl fun c₀ cs hu => ?_
  apply wpS_seq
  apply wpS_region
  simp [wpOpsS, go_sem, recoverD, hu, Tryz.ntmps42, Exit.thenS]
  apply wpS_seq
  apply wpS_seq
  apply wpS_region
  simp [wpOpsS, go_sem, Exit.thenS]
  refine wpS_cond (t := false) (by simp [Act.eval, Array.replicate]) ?_
  simp only [Bool.false_eq_true, if_false]
  refine wpS_of_wp (wp_skip ?_)
  simp only [Exit.thenS]
  refine wpS_of_wp ?_
  change Code.wp _ _ _ { tmps := #[.pointer (some ⟨b, 0, none⟩), .pointer (some ⟨c, 0, none⟩), .iface 84 (.pointer (some ⟨fb, 0, none⟩)), undef, undef, undef, .iface 84 (.pointer (some ⟨fb, 0, none⟩)), .iface 84 (.pointer (some ⟨fb, 0, none⟩)), .bool false, undef, undef, undef, undef, undef, undef, undef, undef, undef, undef, undef], defers := [] } w
  go_wp2_with fail
  simp [bodyPostS, results, Tryz.results42, go_sem]

set_option maxRecDepth 100000 in
set_option maxHeartbeats 4000000 in
theorem caught_calls (p3 p4 p5 : Value) (s : ByteArray) (D : Nat) (w : World) (K : ∀ W, Below w.heap.size w W → Calls Tryz.prog 28 #[p3, p4, p5] W fun e w' => Work W s D e w') :
    Calls Tryz.prog 27 #[.func (.func 28) #[] #[p3, p4, p5]] w fun e w' => Answer w s D e w' := by
  have hold : Below w.heap.size w ((w.alloc (.cells #[.slice none 0 0] 27)).alloc (.cells #[.nilIface] 29)) := ((Below.refl _ _).alloc (Nat.le_refl _) _).alloc (by simp) _
  have K1 := hide (K _ hold)
  have HO := hide hold
  have hmf : ∀ (fn : Fn) (first cap : Array Value) (w : World), (Instr.makeFunc fn first cap).run Tryz.prog w = .ok (.func fn first cap) w := fun _ _ _ _ => rfl
  clear K hold
  go_enter_defers Tryz.func27, Tryz.ntmps27
  go_wp2_with (go_at_call 28; refine K1.out.mono ?_)
  intro e w1 h1
  have hh : Touched ((w.alloc (.cells #[.slice none 0 0] 27)).alloc (.cells #[.nilIface] 29)) (w.heap.size + 2) w1 := by
    rcases h1 with ⟨_, _, _, _, _, _, hB⟩ | ⟨_, _, _, _, _, _, _, hT⟩
    · exact Touched.of_below hB
    · simpa using hT
  have hz1 := hh.size
  simp at hz1
  have hb0 : w1.heap[w.heap.size]? = some (.cells #[.slice none 0 0] 27 (0, 0)) := by
    rw [hh.block w.heap.size (by simp; omega) (by simp), Below.heap_alloc _ _ _ (by simp)]
    exact heap_alloc_new w _
  have hb1 : w1.heap[w.heap.size + 1]? = some (.cells #[.nilIface] 29 (0, 0)) := by
    rw [hh.block (w.heap.size + 1) (by simp) (by simp)]
    have := heap_alloc_new (w.alloc (.cells #[.slice none 0 0] 27)) (.cells #[.nilIface] 29)
    simpa using this
  have hB : Below w.heap.size w w1 := ((Touched.of_below HO.out).trans hh).below (B := w.heap.size) (Nat.le_refl _) (by omega)
  have hBs : ∀ u v, Below w.heap.size w ((w1.setCell ⟨w.heap.size, 0, none⟩ u).setCell ⟨w.heap.size + 1, 0, none⟩ v) := fun u v => (hB.setCell (p := ⟨w.heap.size, 0, none⟩) (Nat.le_refl _) _).setCell (p := ⟨w.heap.size + 1, 0, none⟩) (Nat.le_succ _) _
  have d0 : w1.cell? ⟨w.heap.size, 0, none⟩ = some (.slice none 0 0) := by simp [World.cell?, hb0]
  have d3 : ∀ i, w1.frozen? ⟨w.heap.size, i, none⟩ = false := fun i => by simp [World.frozen?, hb0]
  have e4 : w1.cell? ⟨w.heap.size + 1, 0, none⟩ = some .nilIface := by simp [World.cell?, hb1]
  have e5 : ∀ i, w1.frozen? ⟨w.heap.size + 1, i, none⟩ = false := fun i => by simp [World.frozen?, hb1]
  have d4 : w.heap.size < w1.heap.size := by omega
  have e7 : w.heap.size + 1 < w1.heap.size := by omega
  have HBs := hide hBs
  have Hb0 := hide hb0
  have Hb1 := hide hb1
  clear hh hB hBs hb0 hb1
  rcases h1 with ⟨ds, A, c, hR, rfl, hV, -⟩ | ⟨code, a, hno, fb, rfl, hfb, hfc, -⟩
  · have HF : Hid (∀ W, (∀ b, b ≠ w.heap.size → b ≠ w.heap.size + 1 → W.heap[b]? = w1.heap[b]?) → Below w.heap.size w W → Answer w s D (.returned (.tuple #[.slice A ds.length c, .nilIface])) W) := fun W hW hb =>
      .inl ⟨ds, A, c, hR, rfl, hV.keep fun b _ hS => by simp at hS; exact ⟨by omega, hW b (by omega) (by omega)⟩, hb⟩
    clear hR hV
    go_wp2_with fail
    refine leaves_cons (f := 42) (args := #[.pointer (some ⟨w.heap.size, 0, none⟩), .pointer (some ⟨w.heap.size + 1, 0, none⟩)]) (by simp) (by simp [go_sem]) ?_
    refine (catch_idle ⟨w.heap.size, 0, none⟩ ⟨w.heap.size + 1, 0, none⟩ _).mono ?_
    rintro e u' w'' ⟨rfl, rfl, rfl⟩
    simp [Leaves, settle, results, Tryz.results27, go_sem, d0, e4]
    refine HF.out _ (fun b h0 h1 => ?_) (HBs.out _ _)
    rw [Below.heap_setCell _ _ _ _ (by show b ≠ w.heap.size + 1; exact h1), Below.heap_setCell _ _ _ _ (by show b ≠ w.heap.size; exact h0)]
  · have KC := hide (catch_throw w.heap.size (w.heap.size + 1) fb _ _ w1 Hb0.out Hb1.out (by omega))
    have HF : Hid (∀ W, W.heap[fb]? = some (.cells #[.int .i64 (code : Nat), .int .i64 (a : Nat)] 33 (0, 0)) → Below w.heap.size w W → Answer w s D (.returned (.tuple #[.slice none 0 0, .iface 84 (.pointer (some ⟨fb, 0, none⟩))])) W) := fun W hfW hb => .inr ⟨code, a, hno, fb, rfl, by simp at hfb; omega, hfW, hb⟩
    have Hfb : Hid (w.heap.size + 2 ≤ fb) := by unfold Hid; simp at hfb; omega
    have Hfc := hide hfc
    clear hno hfb hfc
    go_wp2_with fail
    refine leaves_cons (f := 42) (args := #[.pointer (some ⟨w.heap.size, 0, none⟩), .pointer (some ⟨w.heap.size + 1, 0, none⟩)]) (by simp) (by simp [go_sem]) ?_
    refine KC.out.mono ?_
    intro e u' W hW
    obtain ⟨rfl, rfl, hW⟩ := hW
    have g0 : W.cell? ⟨w.heap.size, 0, none⟩ = some (.slice none 0 0) := by
      rw [hW]
      simp [World.cell?, World.setCell, Array.getElem?_modify, Hb0.out]
    have g1 : W.cell? ⟨w.heap.size + 1, 0, none⟩ = some (.iface 84 (.pointer (some ⟨fb, 0, none⟩))) := by
      rw [hW]
      simp [World.cell?, World.setCell, Array.getElem?_modify, Hb1.out]
    have HB := hide (HBs.out (.slice none 0 0) (.iface 84 (.pointer (some ⟨fb, 0, none⟩))))
    rw [← hW] at HB
    have HW2 : Hid (W.heap[fb]? = some (.cells #[.int .i64 (code : Nat), .int .i64 (a : Nat)] 33 (0, 0))) := by
      have := Hfb.out
      rw [hW, Below.heap_setCell _ _ _ _ (by show fb ≠ w.heap.size + 1; omega), Below.heap_setCell _ _ _ _ (by show fb ≠ w.heap.size; omega)]
      exact Hfc.out
    clear hW KC
    simp [Leaves, settle, results, Tryz.results27, go_sem, g0, g1]
    exact HF.out W HW2.out HB.out

/-- The boxes of Read's three parameters. -/
abbrev boxes (w : World) (s : ByteArray) : World := ((w.alloc (.cells #[.string s] 9)).alloc (.cells #[.int .i64 200000] 3)).alloc (.cells #[.func (.func 14) #[] #[]] 49)
theorem boxes_at (w : World) (s : ByteArray) : Below w.heap.size w (boxes w s) ∧ (boxes w s).cell? ⟨w.heap.size, 0, none⟩ = some (.string s) ∧ (boxes w s).cell? ⟨w.heap.size + 1, 0, none⟩ = some (.int .i64 200000) ∧ (boxes w s).cell? ⟨w.heap.size + 1 + 1, 0, none⟩ = some (.func (.func 14) #[] #[]) := by
  refine ⟨(((Below.refl _ _).alloc (Nat.le_refl _) _).alloc (by simp) _).alloc (by simp <;> omega) _, ?_, ?_, ?_⟩
  · rw [World.cell?_alloc_past _ _ _ (by simp <;> omega), World.cell?_alloc_past _ _ _ (by simp)]; simp [World.cell?_alloc_at]
  · rw [World.cell?_alloc_past _ _ _ (by simp)]; simp [World.cell?_alloc_at]
  · simp [World.cell?_alloc_at]

theorem Answer.from {w w0 w' : World} {s : ByteArray} {D : Nat} {e : Ending} (h : Answer w s D e w') (hb : Below w0.heap.size w0 w) : Answer w0 s D e w' := by
  have hz := hb.size
  rcases h with ⟨ds, A, c, hR, he, hV, hB⟩ | ⟨code, a, hno, N, he, hN, hc, hB⟩
  · exact .inl ⟨ds, A, c, hR, he, hV.keep fun b _ hS => ⟨by omega, rfl⟩, hb.trans (hB.mono hz)⟩
  · exact .inr ⟨code, a, hno, N, he, by omega, hc, hb.trans (hB.mono hz)⟩
theorem Answer.form {w w' : World} {s : ByteArray} {D : Nat} {e : Ending} (h : Answer w s D e w') : ∃ (A : Option Addr) (n c : Nat) (f : Value), e = .returned (.tuple #[.slice A n c, f]) := by
  rcases h with ⟨ds, A, c, _, he, _⟩ | ⟨_, _, _, N, he, _⟩
  · exact ⟨_, _, _, _, he⟩
  · exact ⟨_, _, _, _, he⟩

set_option maxRecDepth 100000 in
set_option maxHeartbeats 4000000 in
theorem read_calls (s : ByteArray) (D : Nat) (w : World) (hm : s.size ≤ maxLen) (hD : 200000 < D) (ht : Tabs3 w) :
    Calls Tryz.prog 13 #[.string s, .int .i64 200000, .func (.func 14) #[] #[]] w fun e w' => Answer w s D e w' := by
  obtain ⟨hold, x3, x4, x5⟩ := boxes_at w s
  have K1 := hide (caught_calls (.pointer (some ⟨w.heap.size, 0, none⟩)) (.pointer (some ⟨w.heap.size + 1, 0, none⟩)) (.pointer (some ⟨w.heap.size + 1 + 1, 0, none⟩)) s D (boxes w s) fun W hW => read1_calls s D _ _ _ W hm hD ((ht.later hold).later hW) (cell_later hW x3) (cell_later hW x4) (cell_later hW x5))
  have HO := hide hold
  have hmf : ∀ (fn : Fn) (first cap : Array Value) (w : World), (Instr.makeFunc fn first cap).run Tryz.prog w = .ok (.func fn first cap) w := fun _ _ _ _ => rfl
  clear hold x3 x4 x5 ht
  go_enter Tryz.func13, Tryz.ntmps13
  go_wp2_with (go_at_call 27; refine K1.out.mono ?_)
  intro e w1 h1
  obtain ⟨A, n, c, f, rfl⟩ := h1.form
  have HF := hide (h1.from HO.out)
  clear h1 K1
  go_wp2_with fail
  refine bodyPost_ret (v := .tuple #[.slice A n c, f]) (by simp [results, Tryz.results13, go_sem]) rfl ?_
  exact HF.out

set_option maxHeartbeats 1000000 in
theorem fparse_calls (s : ByteArray) (D : Nat) (w : World) (hm : s.size ≤ maxLen) (hD : 200000 < D) (ht : Tabs3 w) :
    Calls Tryz.prog 5 #[.string s] w fun e w' => Answer w s D e w' := by
  have K1 := hide (read_calls s D w hm hD ht)
  go_enter Tryz.func5, Tryz.ntmps5
  go_wp2_with (go_at_call 13; refine K1.out.mono ?_)
  intro e w1 h1
  obtain ⟨A, n, c, f, rfl⟩ := h1.form
  have HF := hide h1
  clear h1 K1
  go_wp2_with fail
  refine bodyPost_ret (v := .tuple #[.slice A n c, f]) (by simp [results, Tryz.results5, go_sem]) rfl ?_
  exact HF.out

end Go.Proofs.YtjlibnijecdgcaaGreatDoor
