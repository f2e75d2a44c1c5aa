/- The contracts of copied and Subst of package level. -/
import Derived.Test.YteepmfhpjanbhaaGreatDoorLoops
import Derived.Test.YteepmfhpjanbhaaGreatDoorIndex

namespace Go.Proofs.YteepmfhpjanbhaaGreatDoor
open Go.RowKit

/-- The level at a name's first place; the name itself where it has none. -/
def lookL : List ByteArray → List LvB → ByteArray → LvB
  | p :: ps, l :: ls, q => if p = q then l else lookL ps ls q
  | _, _, q => .param q

theorem lookL_at : ∀ (ps : List ByteArray) (ls : List LvB) (q : ByteArray) (k : Nat) (h : k < ps.length) (h' : k < ls.length), (∀ j (hj : j < ps.length), j < k → ps[j] ≠ q) → ps[k] = q → lookL ps ls q = ls[k]
  | p :: ps, m :: ls, q, 0, _, _, _, e => by simp only [lookL]; rw [if_pos (by simpa using e)]; simp
  | p :: ps, m :: ls, q, k + 1, h, h', hno, e => by
    simp only [lookL]
    rw [if_neg (by have := hno 0 (by simp) (by omega); simp only [List.getElem_cons_zero] at this; exact this)]
    have := lookL_at ps ls q k (by simpa using h) (by simpa using h') (fun j hj hjk => by have := hno (j + 1) (by simp; omega) (by omega); simp only [List.getElem_cons_succ] at this; exact this) (by simpa using e)
    simpa using this

theorem lookL_none : ∀ (ps : List ByteArray) (ls : List LvB) (q : ByteArray), (∀ j (hj : j < ps.length), ps[j] ≠ q) → lookL ps ls q = .param q
  | [], _, _, _ => by simp [lookL]
  | _ :: _, [], _, _ => by simp [lookL]
  | p :: ps, m :: ls, q, h => by
    simp only [lookL]
    rw [if_neg (by have := h 0 (by simp); simp only [List.getElem_cons_zero] at this; exact this)]
    exact lookL_none ps ls q fun j hj => by have := h (j + 1) (by simp; omega); simp only [List.getElem_cons_succ] at this; exact this

/-- A slice of levels, read alone. -/
def InLvs (w : World) (B : Nat) (v : Value) (ls : List LvB) : Prop := ls.length ≤ maxLen ∧ ∃ (A : Option Addr) (cap : Nat), v = .slice A ls.length cap ∧
  ∀ i (hi : i < ls.length), ∃ b x, A = some ⟨b, 0, none⟩ ∧ b < B ∧ Three w b (i * 3) x ∧ InLv w B ls[i] x

theorem InLvs.below {w w' : World} {B : Nat} (h : Below B w w') {v : Value} {ls : List LvB} (hs : InLvs w B v ls) : InLvs w' B v ls := by
  obtain ⟨hm, A, cap, e, hc⟩ := hs
  refine ⟨hm, A, cap, e, fun i hi => ?_⟩
  obtain ⟨b, x, ea, hb, h3, hl⟩ := hc i hi
  exact ⟨b, x, ea, hb, h3.below h hb, hl.below h⟩

set_option maxRecDepth 100000 in
set_option maxHeartbeats 1000000 in
theorem copied1_calls (p : ByteArray) (B : Nat) (w : World) : Calls Tryz.prog 97 #[.agg #[.int .i64 4, .string p, .slice none 0 0]] w fun e w' => Made B w (.param p) e w' := by
  go_enter Tryz.func97, Tryz.ntmps97
  go_wp2_with fail
  refine bodyPost_ret (v := .agg #[.int .i64 4, .string p, .slice none 0 0]) (by simp [results, Tryz.results97, go_sem]) rfl ?_
  refine ⟨4, p, none, 0, 0, rfl, rfl, ?_⟩
  exact ((Below.refl _ _).alloc (Nat.le_refl _) _).alloc (by simp) _

theorem copied1_puts (B D : Nat) (w : World) : Puts 97 #[] .param B D w :=
  ⟨fun args w' => by simp [go_sem], fun p w' _ _ => copied1_calls p B w'⟩

set_option maxRecDepth 100000 in
set_option maxHeartbeats 1000000 in
theorem copied_calls (l : LvB) (v : Value) (B : Nat) (w : World) (hB : B ≤ w.heap.size) (hl : InLv w B l v) : Calls Tryz.prog 83 #[v] w fun e w' => Made B w l e w' := by
  obtain ⟨A, cap, e1⟩ := hl.form
  have HR : Hid (∀ o, Calls Tryz.prog 80 #[v, .func (.func 97) #[] #[]] ((w.alloc o).alloc zlev) fun e w' => Made B ((w.alloc o).alloc zlev) l e w') := fun o => by
    have hold : Below w.heap.size w ((w.alloc o).alloc zlev) := ((Below.refl _ _).alloc (Nat.le_refl _) _).alloc (by simp) _
    have := rebuild_calls 97 #[] .param B w.heap.size hB l.nodes l v ((w.alloc o).alloc zlev) (Nat.le_refl _) (by simp; omega) (hl.below (hold.mono hB)) (copied1_puts _ _ _)
    rw [Lv.bind_param] at this
    exact this
  subst e1
  clear hl
  go_enter Tryz.func83, Tryz.ntmps83
  go_wp2_with (go_at_call 80; refine (HR.out _).mono ?_)
  rintro e w1 ⟨k, nm, A1, n, cap1, rfl, hin, hbw⟩
  have hsz : ∀ o, ((w.alloc o).alloc zlev).heap.size = w.heap.size + 2 := fun o => by simp
  rw [hsz] at hin hbw
  obtain ⟨z0, z1, z2, zf, zl⟩ := zbox hbw
  have HI := hide (made_fill (u0 := .int .i64 k) (u1 := .string nm) (u2 := .slice A1 n cap1) hB hbw (fun b h => h) hin)
  clear hin hbw HR hsz
  go_wp2_with fail
  refine bodyPost_ret (v := .agg #[.int .i64 k, .string nm, .slice A1 n cap1]) (by simp [results, Tryz.results83, go_sem, z0, z1, z2]) rfl ?_
  exact ⟨k, nm, A1, n, cap1, rfl, HI.out.1, HI.out.2⟩

set_option maxRecDepth 100000 in
set_option maxHeartbeats 2000000 in
theorem subst1_calls (q : ByteArray) (c1 c2 : Nat) (ps : List ByteArray) (ls : List LvB) (pv lv : Value) (B : Nat) (w : World) (hB : B ≤ w.heap.size) (hc1 : w.cell? ⟨c1, 0, none⟩ = some pv) (hc2 : w.cell? ⟨c2, 0, none⟩ = some lv) (hps : InStrs w B pv ps) (hls : InLvs w B lv ls) (hlen : ps.length = ls.length) :
    Calls Tryz.prog 81 (#[.agg #[.int .i64 4, .string q, .slice none 0 0]] ++ #[.pointer (some ⟨c1, 0, none⟩), .pointer (some ⟨c2, 0, none⟩)]) w fun e w' => Made B w (lookL ps ls q) e w' := by
  show Calls Tryz.prog 81 #[.agg #[.int .i64 4, .string q, .slice none 0 0], .pointer (some ⟨c1, 0, none⟩), .pointer (some ⟨c2, 0, none⟩)] w _
  have hold : Below w.heap.size w ((w.alloc (.cells #[.int .i64 4, .string q, .slice none 0 0] 44)).alloc zlev) := ((Below.refl _ _).alloc (Nat.le_refl _) _).alloc (by simp) _
  have b1 := World.block_lt_of_cell? _ _ hc1
  have b2 := World.block_lt_of_cell? _ _ hc2
  simp only [] at b1 b2
  have HI := hide (index_calls q ps pv B _ (hps.below (hold.mono hB)))
  obtain ⟨hm, A1, cap1, rfl, -⟩ := hps
  obtain ⟨hm2, A2, cap2, rfl, hc⟩ := hls
  have HC := hide hc
  have HLn := hide hlen
  have HO := hide hold
  clear hc hlen hold
  unfold maxLen at hm hm2
  go_enter Tryz.func81, Tryz.ntmps81
  go_wp2_with (go_at_call 82; refine HI.out.mono ?_)
  rintro e w' ⟨r, rfl, hp, rfl⟩
  rcases hp with ⟨rfl, hno⟩ | ⟨k, hk, rfl, he, hno⟩
  · have HE := hide (lookL_none ps ls q hno)
    clear hno
    go_wp2_with fail
    refine bodyPost_ret (v := .agg #[.int .i64 4, .string q, .slice none 0 0]) (by simp [results, Tryz.results81, go_sem]) rfl ?_
    rw [HE.out]
    refine ⟨4, q, none, 0, 0, rfl, rfl, ?_⟩
    exact ((Below.refl _ _).alloc (Nat.le_refl _) _).alloc (by simp) _
  · have hk2 : k < ls.length := by rw [← HLn.out]; exact hk
    have HE := hide (lookL_at ps ls q k hk hk2 hno he)
    obtain ⟨b, x, rfl, hb, h3, hin⟩ := HC.out k hk2
    obtain ⟨k', nm', A', n', cap', rfl, d0, d1, d2⟩ := h3
    have HD := hide (copied_calls ls[k] _ B _ (by simp; omega) (hin.below (HO.out.mono hB)))
    have hbw' : b < w.heap.size := by omega
    clear hno he hin
    go_wp2_with (go_at_call 83; refine HD.out.mono ?_)
    rintro e w1 ⟨k1, nm, A3, n, cap3, rfl, hin, hbw⟩
    have hsz : ∀ o, ((w.alloc o).alloc zlev).heap.size = w.heap.size + 2 := fun o => by simp
    rw [hsz] at hin hbw
    obtain ⟨z0, z1, z2, zf, zl⟩ := zbox hbw
    have HI := hide (made_fill (u0 := .int .i64 k1) (u1 := .string nm) (u2 := .slice A3 n cap3) hB hbw (fun b h => h) hin)
    clear hin hbw hsz HD
    go_wp2_with fail
    refine bodyPost_ret (v := .agg #[.int .i64 k1, .string nm, .slice A3 n cap3]) (by simp [results, Tryz.results81, go_sem, z0, z1, z2]) rfl ?_
    rw [HE.out]
    exact ⟨k1, nm, A3, n, cap3, rfl, HI.out.1, HI.out.2⟩

theorem subst1_puts (c1 c2 : Nat) (ps : List ByteArray) (ls : List LvB) (pv lv : Value) (B D : Nat) (w : World) (hBD : B ≤ D) (h1 : c1 < D) (h2 : c2 < D) (hc1 : w.cell? ⟨c1, 0, none⟩ = some pv) (hc2 : w.cell? ⟨c2, 0, none⟩ = some lv) (hps : InStrs w B pv ps) (hls : InLvs w B lv ls) (hlen : ps.length = ls.length) :
    Puts 81 #[.pointer (some ⟨c1, 0, none⟩), .pointer (some ⟨c2, 0, none⟩)] (lookL ps ls) B D w :=
  ⟨fun args w' => by simp [go_sem], fun p w' hD hb => subst1_calls p c1 c2 ps ls pv lv B w' (by omega) ((hb.cell h1).trans hc1) ((hb.cell h2).trans hc2) (hps.below (hb.mono hBD)) (hls.below (hb.mono hBD)) hlen⟩

/-- The result's block of Subst, that is filled last. -/
theorem zbox4 {w W : World} {o1 o2 o3 : Obj} (h : Below (w.heap.size + 4) ((((w.alloc o1).alloc o2).alloc o3).alloc zlev) W) : W.cell? ⟨w.heap.size + 3, 0, none⟩ = some (.int .i64 0) ∧ W.cell? ⟨w.heap.size + 3, 1, none⟩ = some (.string ⟨#[]⟩) ∧ W.cell? ⟨w.heap.size + 3, 2, none⟩ = some (.slice none 0 0) ∧ (∀ i, W.frozen? ⟨w.heap.size + 3, i, none⟩ = false) ∧ w.heap.size + 3 < W.heap.size := by
  have hz := h.size
  simp at hz
  refine ⟨?_, ?_, ?_, fun i => ?_, by omega⟩
  · rw [h.cell (by simp)]; simp [World.cell?_alloc_at, zlev]
  · rw [h.cell (by simp)]; simp [World.cell?_alloc_at, zlev]
  · rw [h.cell (by simp)]; simp [World.cell?_alloc_at, zlev]
  · rw [h.frozen (by simp)]
    have := heap_alloc_new (((w.alloc o1).alloc o2).alloc o3) zlev
    simp at this
    simp [World.frozen?, this, zlev]

set_option maxRecDepth 100000 in
set_option maxHeartbeats 2000000 in
theorem subst_calls (l : LvB) (ps : List ByteArray) (ls : List LvB) (v pv lv : Value) (B : Nat) (w : World) (hB : B ≤ w.heap.size) (hl : InLv w B l v) (hps : InStrs w B pv ps) (hls : InLvs w B lv ls) (hlen : ps.length = ls.length) :
    Calls Tryz.prog 52 #[v, pv, lv] w fun e w' => ∃ (k : Int) (nm : ByteArray) (A : Option Addr) (n cap : Nat), e = .returned (.agg #[.int .i64 k, .string nm, .slice A n cap]) ∧ InLv w' w'.heap.size (l.bind (lookL ps ls)) (.agg #[.int .i64 k, .string nm, .slice A n cap]) ∧ Below w.heap.size w w' := by
  obtain ⟨A, cap, e1⟩ := hl.form
  have HR : Hid (∀ o, Calls Tryz.prog 80 #[v, .func (.func 81) #[] #[.pointer (some ⟨w.heap.size + 1, 0, none⟩), .pointer (some ⟨w.heap.size + 1 + 1, 0, none⟩)]] ((((w.alloc o).alloc (.cells #[pv] 41)).alloc (.cells #[lv] 27)).alloc zlev) fun e w' => Made B ((((w.alloc o).alloc (.cells #[pv] 41)).alloc (.cells #[lv] 27)).alloc zlev) (l.bind (lookL ps ls)) e w') := fun o => by
    have hold : Below w.heap.size w ((((w.alloc o).alloc (.cells #[pv] 41)).alloc (.cells #[lv] 27)).alloc zlev) := ((((Below.refl _ _).alloc (Nat.le_refl _) _).alloc (by simp) _).alloc (by simp; omega) _).alloc (by simp; omega) _
    refine rebuild_calls 81 _ (lookL ps ls) B (w.heap.size + 4) (by omega) l.nodes l v _ (Nat.le_refl _) (by simp) (hl.below (hold.mono hB))
      (subst1_puts (w.heap.size + 1) (w.heap.size + 1 + 1) ps ls pv lv B _ _ (by omega) (by omega) (by omega) ?_ ?_ (hps.below (hold.mono hB)) (hls.below (hold.mono hB)) hlen)
    · rw [World.cell?_alloc_past _ _ _ (by simp), World.cell?_alloc_past _ _ _ (by simp)]; simp [World.cell?_alloc_at]
    · rw [World.cell?_alloc_past _ _ _ (by simp)]; simp [World.cell?_alloc_at]
  have HO : Hid (∀ o, Below w.heap.size w ((((w.alloc o).alloc (.cells #[pv] 41)).alloc (.cells #[lv] 27)).alloc zlev)) := fun o => ((((Below.refl _ _).alloc (Nat.le_refl _) _).alloc (by simp) _).alloc (by simp; omega) _).alloc (by simp; omega) _
  obtain ⟨hm1, A1, cap1, rfl, -⟩ := hps
  obtain ⟨hm2, A2, cap2, rfl, -⟩ := hls
  subst e1
  clear hl hlen
  generalize l.bind (lookL ps ls) = L at *
  go_enter Tryz.func52, Tryz.ntmps52
  go_wp2_with (go_at_call 80; refine (HR.out _).mono ?_)
  rintro e w1 ⟨k, nm, A3, n, cap3, rfl, hin, hbw⟩
  have hsz : ∀ o1 o2 o3, ((((w.alloc o1).alloc o2).alloc o3).alloc zlev).heap.size = w.heap.size + 4 := fun o1 o2 o3 => by simp
  rw [hsz] at hin hbw
  obtain ⟨z0, z1, z2, zf, zl⟩ := zbox4 hbw
  have HF : Hid (InLv (((w1.setCell ⟨w.heap.size + 3, 0, none⟩ (.int .i64 k)).setCell ⟨w.heap.size + 3, 1, none⟩ (.string nm)).setCell ⟨w.heap.size + 3, 2, none⟩ (.slice A3 n cap3)) (((w1.setCell ⟨w.heap.size + 3, 0, none⟩ (.int .i64 k)).setCell ⟨w.heap.size + 3, 1, none⟩ (.string nm)).setCell ⟨w.heap.size + 3, 2, none⟩ (.slice A3 n cap3)).heap.size L (.agg #[.int .i64 k, .string nm, .slice A3 n cap3])) :=
    (hin.keep (S' := fun _ => True) fun b _ hb => ⟨trivial, by rw [Below.heap_setCell _ _ _ _ (by show b ≠ w.heap.size + 3; omega), Below.heap_setCell _ _ _ _ (by show b ≠ w.heap.size + 3; omega), Below.heap_setCell _ _ _ _ (by show b ≠ w.heap.size + 3; omega)]⟩).inLv
  have HB : Hid (Below w.heap.size w (((w1.setCell ⟨w.heap.size + 3, 0, none⟩ (.int .i64 k)).setCell ⟨w.heap.size + 3, 1, none⟩ (.string nm)).setCell ⟨w.heap.size + 3, 2, none⟩ (.slice A3 n cap3))) :=
    ((((HO.out _).trans (hbw.mono (by omega))).setCell (p := ⟨w.heap.size + 3, 0, none⟩) (by show w.heap.size ≤ w.heap.size + 3; omega) _).setCell (p := ⟨w.heap.size + 3, 1, none⟩) (by show w.heap.size ≤ w.heap.size + 3; omega) _).setCell (p := ⟨w.heap.size + 3, 2, none⟩) (by show w.heap.size ≤ w.heap.size + 3; omega) _
  clear hin hbw hsz HR HO
  go_wp2_with fail
  refine bodyPost_ret (v := .agg #[.int .i64 k, .string nm, .slice A3 n cap3]) (by simp [results, Tryz.results52, go_sem, z0, z1, z2]) rfl ?_
  exact ⟨k, nm, A3, n, cap3, rfl, HF.out, HB.out⟩

end Go.Proofs.YteepmfhpjanbhaaGreatDoor

/- The contract of the document's SubstLevel. -/
namespace Go.Proofs.YteepmfhpjanbhaaGreatDoor
open Go.RowKit

/-- The level's box and the result's block. -/
abbrev Rbox (w : World) (c0 c1 c2 : Value) (W : World) : Prop := Below (w.heap.size + 2) ((w.alloc (.cells #[c0, c1, c2] 44)).alloc zlev) W
theorem Rbox.cells {w W : World} {c0 c1 c2 : Value} (h : Rbox w c0 c1 c2 W) : W.cell? ⟨w.heap.size, 0, none⟩ = some c0 ∧ W.cell? ⟨w.heap.size, 1, none⟩ = some c1 ∧ W.cell? ⟨w.heap.size, 2, none⟩ = some c2 := by
  refine ⟨?_, ?_, ?_⟩ <;> (rw [Below.cell h (by simp)]; simp)
theorem Rbox.old {w W : World} {c0 c1 c2 : Value} (h : Rbox w c0 c1 c2 W) : Below w.heap.size w W := (((Below.refl _ _).alloc (Nat.le_refl _) _).alloc (by simp) _).trans (Below.mono h (by omega))

set_option maxRecDepth 100000 in
set_option maxHeartbeats 2000000 in
theorem rsubst_param (q : ByteArray) (ps : List ByteArray) (ls : List LvB) (pv lv : Value) (B : Nat) (w : World) (hB : B ≤ w.heap.size) (hps : InStrs w B pv ps) (hls : InLvs w B lv ls) (hlen : ps.length = ls.length) :
    Calls Tryz.prog 53 #[.agg #[.int .i64 4, .string q, .slice none 0 0], pv, lv] w fun e w' => Made B w (lookL ps ls q) e w' := by
  obtain ⟨hm, A, cap, rfl, hc⟩ := hps
  obtain ⟨hm2, A2, cap2, rfl, hc2⟩ := hls
  have HC := hide hc
  have HC2 := hide hc2
  have HL := hide hlen
  clear hc hc2 hlen
  unfold maxLen at hm hm2
  go_enter Tryz.func53, Tryz.ntmps53
  go_wp2_with fail
  go_loopg [7] (ps.length) (fun g i wr => ∃ k : Nat, k + g = ps.length ∧ i = .int .i64 k ∧ (∀ j (hj : j < ps.length), j < k → ps[j] ≠ q) ∧ Rbox w (.int .i64 4) (.string q) (.slice none 0 0) wr)
  case atStart => exact ⟨0, by omega, rfl, fun j _ h => absurd h (by omega), Below.refl _ _⟩
  case round =>
    obtain ⟨k, hkg, rfl, hno, hbel⟩ := hrel
    have HN := hide hno
    have hz := hbel.size
    simp at hz
    obtain ⟨g0, g1, g2⟩ := Rbox.cells hbel
    obtain ⟨z0, z1, z2, zf, zl⟩ := zbox hbel
    have hwr := Rbox.old hbel
    have HB := hide hbel
    clear hno hbel
    by_cases hlt : k < ps.length
    · obtain ⟨b, o, rfl, hb, hcell⟩ := HC.out k hlt
      have hlt2 : k < ls.length := by rw [← HL.out]; exact hlt
      obtain ⟨b2, x, rfl, hb2, h3, hin⟩ := HC2.out k hlt2
      obtain ⟨k', nm', A', n', cap', rfl, c0, c1, c2⟩ := h3
      have d := cell_later hwr hcell
      have d0 := cell_later hwr c0
      have d1 := cell_later hwr c1
      have d2 := cell_later hwr c2
      by_cases he : ps[k] = q
      · have HE := hide (lookL_at ps ls q k hlt hlt2 HN.out he)
        have hs := sameStr_pos he
        have HF := fun n => hide (made_fill (u0 := .int .i64 k') (u1 := .string nm') (u2 := .slice A' n' cap') (W := wr.drewN n) hB (below_drewN HB.out n) (fun b h => .inl h) ((hin.below (hwr.mono hB)).below (below_drewN (Below.refl _ _) n)).inP)
        clear he hcell c0 c1 c2 hin
        go_wp2_with fail
        go_quiet (fail)
        go_wp2_with fail
        refine bodyPost_ret (v := .agg #[.int .i64 k', .string nm', .slice A' n' cap']) (by simp [results, Tryz.results53, go_sem, z0, z1, z2]) rfl ?_
        rw [HE.out]
        exact ⟨k', nm', A', n', cap', rfl, (HF _).out.1, (HF _).out.2⟩
      · have hs := sameStr_neg he
        have HE := hide he
        clear he hcell c0 c1 c2 hin
        go_wp2_with fail
        go_quiet (fail)
        go_wp2_with fail
        go_roundg (ps.length - (k + 1))
        case measure => omega
        case rel => exact ⟨k + 1, by omega, by go_num, fun j h hj => if e : j = k then by subst e; exact HE.out else HN.out j h (by omega), below_drewN HB.out _⟩
    · have HE := hide (lookL_none ps ls q fun j h => HN.out j h (by omega))
      have HF := hide (made_fill (u0 := .int .i64 4) (u1 := .string q) (u2 := .slice none 0 0) (L := .param q) (S := fun b => b < B) (v := .agg #[.int .i64 4, .string q, .slice none 0 0]) hB HB.out (fun b h => .inl h) rfl)
      go_wp2_with fail
      refine bodyPost_ret (v := .agg #[.int .i64 4, .string q, .slice none 0 0]) (by simp [results, Tryz.results53, go_sem, z0, z1, z2]) rfl ?_
      rw [HE.out]
      exact ⟨4, q, none, 0, 0, rfl, HF.out.1, HF.out.2⟩

set_option maxRecDepth 100000 in
set_option maxHeartbeats 4000000 in
theorem rsubst_calls (ps : List ByteArray) (ls : List LvB) (pv lv : Value) (B : Nat) (hlen : ps.length = ls.length) (N : Nat) : ∀ (l : LvB) (v : Value) (w : World), l.nodes ≤ N → B ≤ w.heap.size → InLv w B l v → InStrs w B pv ps → InLvs w B lv ls →
    Calls Tryz.prog 53 #[v, pv, lv] w fun e w' => Made B w (l.bind (lookL ps ls)) e w' := by
  induction N with
  | zero => intro l v w h; cases l <;> simp [Lv.nodes] at h
  | succ N ih =>
    intro l v w hN hB hl hps hls
    by_cases hp : l.kind = 4
    · cases l <;> simp [Lv.kind] at hp
      rename_i p
      have e : v = _ := hl
      subst e
      exact rsubst_param p ps ls pv lv B w hB hps hls hlen
    · have HPs := hide hps
      have HLs := hide hls
      obtain ⟨A, cap, rfl, hk⟩ := hl.shape
      obtain ⟨hbk, hbkd, hbnm, hnm⟩ := l.bind_kids (lookL ps ls) hp
      have HBd := hide (l.bound_all (lookL ps ls) hp)
      rw [hnm]
      have HK := hide hk
      have IH := hide ih
      have hk2 := l.kids_le
      have hk4 := l.kind_le
      have hq : ((l.kind : Int) == 4) = false := by simp; omega
      have HKd := hide hp
      have HBk := hide hbkd
      obtain ⟨i0, hi, hz0, hz1, hz2⟩ := info_parts Tryz.info44
      obtain ⟨hm1, A1, cap1, rfl, -⟩ := hps
      obtain ⟨hm2, A2, cap2, rfl, -⟩ := hls
      clear hk ih hl hp hbk hbkd hbnm hnm hlen
      generalize lookL ps ls = σ at *
      go_enter Tryz.func53, Tryz.ntmps53
      go_wp2_with fail
      go_loopg [9] (l.kids.length) (fun g i wr => ∃ (k : Nat) (rv : Value) (xs : List Value), k + g = l.kids.length ∧ i = .int .i64 k ∧ Making w (.cells #[.int .i64 l.kind, .string ⟨#[]⟩, .slice A l.kids.length cap] 44) B l.kind (l.bound σ k) rv xs wr)
      case atStart => exact ⟨0, .slice none 0 0, [], by omega, rfl, by have := heap_alloc_new ((w.alloc (.cells #[.int .i64 l.kind, .string ⟨#[]⟩, .slice A l.kids.length cap] 44)).alloc zlev) (.cells #[.int .i64 l.kind, .string ⟨#[]⟩, .slice none 0 0] 44); simpa [LVar] using this, Row.start _ _ _, (Below.refl _ _).alloc (by simp) _⟩
      case round =>
        obtain ⟨k, rv, xs, hkg, rfl, hM⟩ := hrel
        have hold := Rbox.old hM.old
        have hz := hM.old.size
        simp at hz
        have hvl := hM.var.lt
        have hxk : xs.length ≤ 2 := by rw [hM.row.len]; simp [Lv.bound]; omega
        obtain ⟨ao, nn, cc, rfl⟩ : ∃ ao nn cc, rv = .slice ao nn cc := by
          rcases hM.row.own.2 with ⟨e, _⟩ | ⟨g, cap, cur, e, _⟩
          · exact ⟨_, _, _, e⟩
          · exact ⟨_, _, _, e⟩
        obtain ⟨g0, g1, g2⟩ := Rbox.cells hM.old
        have HM := hide hM
        by_cases hlt : k < l.kids.length
        · obtain ⟨b, x, rfl, hbB, h3, hin⟩ := HK.out k hlt
          obtain ⟨k', nm', A', n', cap', rfl, c0, c1, c2⟩ := h3
          have d0 := cell_later hold c0
          have d1 := cell_later hold c1
          have d2 := cell_later hold c2
          have hbw : b < wr.heap.size := by omega
          have hnk := Lv.kid_nodes hlt
          have HSn := hide (l.bound_snoc σ k hlt)
          have HI : Hid (Calls Tryz.prog 53 #[.agg #[.int .i64 k', .string nm', .slice A' n' cap'], .slice A1 ps.length cap1, .slice A2 ls.length cap2] wr.drew fun e w' => Made B wr.drew (Lv.bind σ l.kids[k]) e w') :=
            IH.out _ _ _ (by omega) (by show B ≤ wr.heap.size; omega) ((hin.below (hold.mono hB)).below (Below.refl _ _).drew) ((HPs.out.below (hold.mono hB)).below (Below.refl _ _).drew) ((HLs.out.below (hold.mono hB)).below (Below.refl _ _).drew)
          have hV := hM.var
          have HOw := hide hM.row.own
          have q2 := hV.c2
          have q3 := hV.f 2
          have HV := hide hV
          clear hM c0 c1 c2 hin hold hV
          go_wp2_with fail
          go_region_law (first
            | (refine step_made (f := 53) (B := B) (L := Lv.bind σ l.kids[k]) (args := #[.agg #[.int .i64 k', .string nm', .slice A' n' cap'], .slice A1 ps.length cap1, .slice A2 ls.length cap2]) rfl ?_ ?_ ?_
               · simp [go_sem]
               · exact HI.out
               intro k1 nm1 A3 n1 cap3 w5 hin5 hb5
               have hb6 : Below wr.heap.size wr w5 := ⟨hb5.os, hb5.tape, hb5.output, hb5.size, hb5.block⟩
               have hV5 : LVar w5 (w.heap.size + 2) l.kind (.slice ao nn cc) := HV.out.of_block (hb6.block _ hvl)
               have v2 := hV5.c2
               have v3 := hV5.f 2
               have hz5 := hb6.size
               have hlt5 : w.heap.size + 2 < w5.heap.size := by omega
               have HV5 := hide hV5
               have HO5 := hide (HOw.out.kept (row := none) ⟨hb6.os, hb6.tape, hb6.output, hb6.size, fun j hj _ => hb6.block j hj⟩ (Classical.em _))
               have HB5 := hide hb6
               have HI5 := hide hin5
               clear hb5 hb6 hin5 hV5)
            | (refine step_append_own rfl (.tmp 44) (.tmp 53) 27 rfl (w.heap.size + 3) 44 i0 _ 3 48 Tryz.underlying27 hi hz0 hz1 hz2 rfl (by decide) (.slice ao nn cc) xs.length (flat xs) ?_ (HO5.out.alloc _) ⟨w5.heap.size, 0, none⟩ 1 1 [.int .i64 k1, .string nm1, .slice A3 n1 cap3] ?_ rfl ?_ ?_ (by decide) (by unfold maxLen; omega) (by omega) ?_ ?_
               · rfl
               · rfl
               · exact three_new _ _ _ _ _
               · intro u hu; simp at hu; rcases hu with rfl | rfl | rfl <;> rfl
               · show w.heap.size + 3 ≤ (w5.alloc _).heap.size; simp; omega
               intro v' w6 hown6 hgr6 hpl6
               obtain ⟨g, cap', rfl, hgb⟩ := shape_row hown6 (by omega)
               have hV6 : LVar w6 (w.heap.size + 2) l.kind (.slice ao nn cc) := (HV5.out.alloc (.cells #[.int .i64 k1, .string nm1, .slice A3 n1 cap3] 44)).of_block (hgr6.block (w.heap.size + 2) (by simp; omega) (fun e => by have := (HM.out.row.own.lt _ e.symm).1; omega))
               have u2 := hV6.c2
               have u3 := hV6.f 2
               have HV6 := hide hV6
               have HO6 := hide hown6
               have HG6 := hide hgr6
               have HP6 := hide hpl6
               clear hown6 hgr6 hpl6 hV6))
          all_goals
            go_wp2_with fail
            go_roundg (l.kids.length - (k + 1))
            case measure => omega
            case rel =>
              have hrow := HM.out.row.next (c := w.heap.size + 2) (m := wr.heap.size) (by omega) (by omega) (by omega) (fun g e => (HM.out.row.own.lt g e).2) HB5.out.size (fun b hb _ => HB5.out.block b hb) HI5.out HO6.out HG6.out HP6.out (.slice (some ⟨g, 0, none⟩) (xs.length + 1) cap')
              refine ⟨k + 1, .slice (some ⟨g, 0, none⟩) (xs.length + 1) cap', xs ++ [.agg #[.int .i64 k1, .string nm1, .slice A3 n1 cap3]], by omega, by go_num, HV6.out.set _, by rw [HSn.out]; exact hrow, ?_⟩
              exact ((HM.out.old.trans ((HB5.out.mono (by omega)).alloc (by omega) _)).grown HG6.out (by simp; omega) (fun j hj => by have := (HM.out.row.own.lt j hj).1; omega)).setCell (p := ⟨w.heap.size + 2, 2, none⟩) (Nat.le_refl _) _
        · have hke : k = l.kids.length := by omega
          subst hke
          obtain ⟨z0, z1, z2, zf, zl⟩ := zbox hM.old
          have q0 := hM.var.c0
          have q1 := hM.var.c1
          have q2 := hM.var.c2
          have HF := hide (Row.made (l := l.bind σ) (by rw [← HBd.out]; exact hM.row) (by rw [HBk.out]; exact HKd.out))
          rw [HBk.out] at HF
          have HI := hide (made_fill (u0 := .int .i64 l.kind) (u1 := .string ⟨#[]⟩) (u2 := .slice ao nn cc) hB hM.old (fun b h => h.imp id fun h => by omega) HF.out)
          clear hM hold
          go_wp2_with fail
          refine bodyPost_ret (v := .agg #[.int .i64 l.kind, .string ⟨#[]⟩, .slice ao nn cc]) (by simp [results, Tryz.results53, go_sem, z0, z1, z2]) rfl ?_
          exact ⟨l.kind, ⟨#[]⟩, ao, nn, cc, rfl, HI.out.1, HI.out.2⟩

end Go.Proofs.YteepmfhpjanbhaaGreatDoor
