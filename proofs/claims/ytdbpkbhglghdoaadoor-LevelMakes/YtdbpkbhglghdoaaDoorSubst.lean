/- The contracts of copied and Subst of package level. -/
import Derived.Test.YtdbpkbhglghdoaaDoorRebuild
import Derived.Test.YtdbpkbhglghdoaaDoorIndex
namespace Go.Proofs.YtdbpkbhglghdoaaDoor
open Go.RowKit

/-- The level at a name's first place; the name itself where it has none. -/
def lookL : List ByteArray → List LvB → ByteArray → LvB
  | p :: ps, l :: ls, q => if p = q then l else lookL ps ls q
  | _, _, q => .param q

theorem lookL_at : ∀ (ps : List ByteArray) (ls : List LvB) (q : ByteArray) (k : Nat) (h : k < ps.length) (h' : k < ls.length), (∀ j (hj : j < ps.length), j < k → ps[j] ≠ q) → ps[k] = q → lookL ps ls q = ls[k]
  | p :: ps, m :: ls, q, 0, _, _, _, e => by simp only [lookL]; rw [if_pos (by simpa using e)]; simp
  | p :: ps, m :: ls, q, k + 1, h, h', hno, e => by
    simp only [lookL]
    rw [if_neg (by have := hno 0 (by simp) (by omega); simp only [List.getElem_cons_zero] at this; exact this)]
    have := lookL_at ps ls q k (by simpa using h) (by simpa using h') (fun j hj hjk => by have := hno (j + 1) (by simp; omega) (by omega); simp only [List.getElem_cons_succ] at this; exact this) (by simpa using e)
    simpa using this

theorem lookL_none : ∀ (ps : List ByteArray) (ls : List LvB) (q : ByteArray), (∀ j (hj : j < ps.length), ps[j] ≠ q) → lookL ps ls q = .param q
  | [], _, _, _ => by simp [lookL]
  | _ :: _, [], _, _ => by simp [lookL]
  | p :: ps, m :: ls, q, h => by
    simp only [lookL]
    rw [if_neg (by have := h 0 (by simp); simp only [List.getElem_cons_zero] at this; exact this)]
    exact lookL_none ps ls q fun j hj => by have := h (j + 1) (by simp; omega); simp only [List.getElem_cons_succ] at this; exact this

/-- A slice of levels, read alone. -/
def InLvs (w : World) (B : Nat) (v : Value) (ls : List LvB) : Prop := ls.length ≤ maxLen ∧ ∃ (A : Option Addr) (cap : Nat), v = .slice A ls.length cap ∧
  ∀ i (hi : i < ls.length), ∃ b x, A = some ⟨b, 0, none⟩ ∧ b < B ∧ Three w b (i * 3) x ∧ InLv w B ls[i] x

theorem InLvs.below {w w' : World} {B : Nat} (h : Below B w w') {v : Value} {ls : List LvB} (hs : InLvs w B v ls) : InLvs w' B v ls := by
  obtain ⟨hm, A, cap, e, hc⟩ := hs
  refine ⟨hm, A, cap, e, fun i hi => ?_⟩
  obtain ⟨b, x, ea, hb, h3, hl⟩ := hc i hi
  exact ⟨b, x, ea, hb, h3.below h hb, hl.below h⟩

set_option maxHeartbeats 1000000 in
theorem copied1_calls (p : ByteArray) (B : Nat) (w : World) : Calls Tryd.prog 36 #[.agg #[.int .i64 4, .string p, .slice none 0 0]] w fun e w' => Made B w (.param p) e w' := by
  go_enter Tryd.func36, Tryd.ntmps36
  go_wp2_with fail
  refine bodyPost_ret (v := .agg #[.int .i64 4, .string p, .slice none 0 0]) (by simp [results, Tryd.results36, go_sem]) rfl ?_
  refine ⟨4, p, none, 0, 0, rfl, rfl, ?_⟩
  exact ((Below.refl _ _).alloc (Nat.le_refl _) _).alloc (by simp) _

theorem copied1_puts (B D : Nat) (w : World) : Puts 36 #[] .param B D w :=
  ⟨fun args w' => by simp [go_sem], fun p w' _ _ => copied1_calls p B w'⟩

set_option maxHeartbeats 1000000 in
theorem copied_calls (l : LvB) (v : Value) (B : Nat) (w : World) (hB : B ≤ w.heap.size) (hl : InLv w B l v) : Calls Tryd.prog 26 #[v] w fun e w' => Made B w l e w' := by
  obtain ⟨A, cap, e1⟩ := hl.form
  have HR : Hid (∀ o, Calls Tryd.prog 23 #[v, .func (.func 36) #[] #[]] ((w.alloc o).alloc zlev) fun e w' => Made B ((w.alloc o).alloc zlev) l e w') := fun o => by
    have hold : Below w.heap.size w ((w.alloc o).alloc zlev) := ((Below.refl _ _).alloc (Nat.le_refl _) _).alloc (by simp) _
    have := rebuild_calls 36 #[] .param B w.heap.size hB l.nodes l v ((w.alloc o).alloc zlev) (Nat.le_refl _) (by simp; omega) (hl.below (hold.mono hB)) (copied1_puts _ _ _)
    rw [Lv.bind_param] at this
    exact this
  subst e1
  clear hl
  go_enter Tryd.func26, Tryd.ntmps26
  go_wp2_with (go_at_call 23; refine (HR.out _).mono ?_)
  rintro e w1 ⟨k, nm, A1, n, cap1, rfl, hin, hbw⟩
  have hsz : ∀ o, ((w.alloc o).alloc zlev).heap.size = w.heap.size + 2 := fun o => by simp
  rw [hsz] at hin hbw
  obtain ⟨z0, z1, z2, zf, zl⟩ := zbox hbw
  have HI := hide (made_fill (u0 := .int .i64 k) (u1 := .string nm) (u2 := .slice A1 n cap1) hB hbw (fun b h => h) hin)
  clear hin hbw HR hsz
  go_wp2_with fail
  refine bodyPost_ret (v := .agg #[.int .i64 k, .string nm, .slice A1 n cap1]) (by simp [results, Tryd.results26, go_sem, z0, z1, z2]) rfl ?_
  exact ⟨k, nm, A1, n, cap1, rfl, HI.out.1, HI.out.2⟩

set_option maxHeartbeats 2000000 in
theorem subst1_calls (q : ByteArray) (c1 c2 : Nat) (ps : List ByteArray) (ls : List LvB) (pv lv : Value) (B : Nat) (w : World) (hB : B ≤ w.heap.size) (hc1 : w.cell? ⟨c1, 0, none⟩ = some pv) (hc2 : w.cell? ⟨c2, 0, none⟩ = some lv) (hps : InStrs w B pv ps) (hls : InLvs w B lv ls) (hlen : ps.length = ls.length) :
    Calls Tryd.prog 24 (#[.agg #[.int .i64 4, .string q, .slice none 0 0]] ++ #[.pointer (some ⟨c1, 0, none⟩), .pointer (some ⟨c2, 0, none⟩)]) w fun e w' => Made B w (lookL ps ls q) e w' := by
  show Calls Tryd.prog 24 #[.agg #[.int .i64 4, .string q, .slice none 0 0], .pointer (some ⟨c1, 0, none⟩), .pointer (some ⟨c2, 0, none⟩)] w _
  have hold : Below w.heap.size w ((w.alloc (.cells #[.int .i64 4, .string q, .slice none 0 0] 29)).alloc zlev) := ((Below.refl _ _).alloc (Nat.le_refl _) _).alloc (by simp) _
  have b1 := World.block_lt_of_cell? _ _ hc1
  have b2 := World.block_lt_of_cell? _ _ hc2
  simp only [] at b1 b2
  have HI := hide (index_calls q ps pv B _ (hps.below (hold.mono hB)))
  obtain ⟨hm, A1, cap1, rfl, -⟩ := hps
  obtain ⟨hm2, A2, cap2, rfl, hc⟩ := hls
  have HC := hide hc
  have HLn := hide hlen
  have HO := hide hold
  clear hc hlen hold
  unfold maxLen at hm hm2
  go_enter Tryd.func24, Tryd.ntmps24
  go_wp2_with (go_at_call 25; refine HI.out.mono ?_)
  rintro e w' ⟨r, rfl, hp, rfl⟩
  rcases hp with ⟨rfl, hno⟩ | ⟨k, hk, rfl, he, hno⟩
  · have HE := hide (lookL_none ps ls q hno)
    clear hno
    go_wp2_with fail
    refine bodyPost_ret (v := .agg #[.int .i64 4, .string q, .slice none 0 0]) (by simp [results, Tryd.results24, go_sem]) rfl ?_
    rw [HE.out]
    refine ⟨4, q, none, 0, 0, rfl, rfl, ?_⟩
    exact ((Below.refl _ _).alloc (Nat.le_refl _) _).alloc (by simp) _
  · have hk2 : k < ls.length := by rw [← HLn.out]; exact hk
    have HE := hide (lookL_at ps ls q k hk hk2 hno he)
    obtain ⟨b, x, rfl, hb, h3, hin⟩ := HC.out k hk2
    obtain ⟨k', nm', A', n', cap', rfl, d0, d1, d2⟩ := h3
    have HD := hide (copied_calls ls[k] _ B _ (by simp; omega) (hin.below (HO.out.mono hB)))
    have hbw' : b < w.heap.size := by omega
    clear hno he hin
    go_wp2_with (go_at_call 26; refine HD.out.mono ?_)
    rintro e w1 ⟨k1, nm, A3, n, cap3, rfl, hin, hbw⟩
    have hsz : ∀ o, ((w.alloc o).alloc zlev).heap.size = w.heap.size + 2 := fun o => by simp
    rw [hsz] at hin hbw
    obtain ⟨z0, z1, z2, zf, zl⟩ := zbox hbw
    have HI := hide (made_fill (u0 := .int .i64 k1) (u1 := .string nm) (u2 := .slice A3 n cap3) hB hbw (fun b h => h) hin)
    clear hin hbw hsz HD
    go_wp2_with fail
    refine bodyPost_ret (v := .agg #[.int .i64 k1, .string nm, .slice A3 n cap3]) (by simp [results, Tryd.results24, go_sem, z0, z1, z2]) rfl ?_
    rw [HE.out]
    exact ⟨k1, nm, A3, n, cap3, rfl, HI.out.1, HI.out.2⟩

theorem subst1_puts (c1 c2 : Nat) (ps : List ByteArray) (ls : List LvB) (pv lv : Value) (B D : Nat) (w : World) (hBD : B ≤ D) (h1 : c1 < D) (h2 : c2 < D) (hc1 : w.cell? ⟨c1, 0, none⟩ = some pv) (hc2 : w.cell? ⟨c2, 0, none⟩ = some lv) (hps : InStrs w B pv ps) (hls : InLvs w B lv ls) (hlen : ps.length = ls.length) :
    Puts 24 #[.pointer (some ⟨c1, 0, none⟩), .pointer (some ⟨c2, 0, none⟩)] (lookL ps ls) B D w :=
  ⟨fun args w' => by simp [go_sem], fun p w' hD hb => subst1_calls p c1 c2 ps ls pv lv B w' (by omega) ((hb.cell h1).trans hc1) ((hb.cell h2).trans hc2) (hps.below (hb.mono hBD)) (hls.below (hb.mono hBD)) hlen⟩

/-- The result's block of Subst, that is filled last. -/
theorem zbox4 {w W : World} {o1 o2 o3 : Obj} (h : Below (w.heap.size + 4) ((((w.alloc o1).alloc o2).alloc o3).alloc zlev) W) : W.cell? ⟨w.heap.size + 3, 0, none⟩ = some (.int .i64 0) ∧ W.cell? ⟨w.heap.size + 3, 1, none⟩ = some (.string ⟨#[]⟩) ∧ W.cell? ⟨w.heap.size + 3, 2, none⟩ = some (.slice none 0 0) ∧ (∀ i, W.frozen? ⟨w.heap.size + 3, i, none⟩ = false) ∧ w.heap.size + 3 < W.heap.size := by
  have hz := h.size
  simp at hz
  refine ⟨?_, ?_, ?_, fun i => ?_, by omega⟩
  · rw [h.cell (by simp)]; simp [World.cell?_alloc_at, zlev]
  · rw [h.cell (by simp)]; simp [World.cell?_alloc_at, zlev]
  · rw [h.cell (by simp)]; simp [World.cell?_alloc_at, zlev]
  · rw [h.frozen (by simp)]
    have := heap_alloc_new (((w.alloc o1).alloc o2).alloc o3) zlev
    simp at this
    simp [World.frozen?, this, zlev]

set_option maxHeartbeats 2000000 in
theorem subst_calls (l : LvB) (ps : List ByteArray) (ls : List LvB) (v pv lv : Value) (B : Nat) (w : World) (hB : B ≤ w.heap.size) (hl : InLv w B l v) (hps : InStrs w B pv ps) (hls : InLvs w B lv ls) (hlen : ps.length = ls.length) :
    Calls Tryd.prog 11 #[v, pv, lv] w fun e w' => ∃ (k : Int) (nm : ByteArray) (A : Option Addr) (n cap : Nat), e = .returned (.agg #[.int .i64 k, .string nm, .slice A n cap]) ∧ InLv w' w'.heap.size (l.bind (lookL ps ls)) (.agg #[.int .i64 k, .string nm, .slice A n cap]) ∧ Below w.heap.size w w' := by
  obtain ⟨A, cap, e1⟩ := hl.form
  have HR : Hid (∀ o, Calls Tryd.prog 23 #[v, .func (.func 24) #[] #[.pointer (some ⟨w.heap.size + 1, 0, none⟩), .pointer (some ⟨w.heap.size + 1 + 1, 0, none⟩)]] ((((w.alloc o).alloc (.cells #[pv] 35)).alloc (.cells #[lv] 27)).alloc zlev) fun e w' => Made B ((((w.alloc o).alloc (.cells #[pv] 35)).alloc (.cells #[lv] 27)).alloc zlev) (l.bind (lookL ps ls)) e w') := fun o => by
    have hold : Below w.heap.size w ((((w.alloc o).alloc (.cells #[pv] 35)).alloc (.cells #[lv] 27)).alloc zlev) := ((((Below.refl _ _).alloc (Nat.le_refl _) _).alloc (by simp) _).alloc (by simp; omega) _).alloc (by simp; omega) _
    refine rebuild_calls 24 _ (lookL ps ls) B (w.heap.size + 4) (by omega) l.nodes l v _ (Nat.le_refl _) (by simp) (hl.below (hold.mono hB))
      (subst1_puts (w.heap.size + 1) (w.heap.size + 1 + 1) ps ls pv lv B _ _ (by omega) (by omega) (by omega) ?_ ?_ (hps.below (hold.mono hB)) (hls.below (hold.mono hB)) hlen)
    · rw [World.cell?_alloc_past _ _ _ (by simp), World.cell?_alloc_past _ _ _ (by simp)]; simp [World.cell?_alloc_at]
    · rw [World.cell?_alloc_past _ _ _ (by simp)]; simp [World.cell?_alloc_at]
  have HO : Hid (∀ o, Below w.heap.size w ((((w.alloc o).alloc (.cells #[pv] 35)).alloc (.cells #[lv] 27)).alloc zlev)) := fun o => ((((Below.refl _ _).alloc (Nat.le_refl _) _).alloc (by simp) _).alloc (by simp; omega) _).alloc (by simp; omega) _
  obtain ⟨hm1, A1, cap1, rfl, -⟩ := hps
  obtain ⟨hm2, A2, cap2, rfl, -⟩ := hls
  subst e1
  clear hl hlen
  generalize l.bind (lookL ps ls) = L at *
  go_enter Tryd.func11, Tryd.ntmps11
  go_wp2_with (go_at_call 23; refine (HR.out _).mono ?_)
  rintro e w1 ⟨k, nm, A3, n, cap3, rfl, hin, hbw⟩
  have hsz : ∀ o1 o2 o3, ((((w.alloc o1).alloc o2).alloc o3).alloc zlev).heap.size = w.heap.size + 4 := fun o1 o2 o3 => by simp
  rw [hsz] at hin hbw
  obtain ⟨z0, z1, z2, zf, zl⟩ := zbox4 hbw
  have HF : Hid (InLv (((w1.setCell ⟨w.heap.size + 3, 0, none⟩ (.int .i64 k)).setCell ⟨w.heap.size + 3, 1, none⟩ (.string nm)).setCell ⟨w.heap.size + 3, 2, none⟩ (.slice A3 n cap3)) (((w1.setCell ⟨w.heap.size + 3, 0, none⟩ (.int .i64 k)).setCell ⟨w.heap.size + 3, 1, none⟩ (.string nm)).setCell ⟨w.heap.size + 3, 2, none⟩ (.slice A3 n cap3)).heap.size L (.agg #[.int .i64 k, .string nm, .slice A3 n cap3])) :=
    (hin.keep (S' := fun _ => True) fun b _ hb => ⟨trivial, by rw [Below.heap_setCell _ _ _ _ (by show b ≠ w.heap.size + 3; omega), Below.heap_setCell _ _ _ _ (by show b ≠ w.heap.size + 3; omega), Below.heap_setCell _ _ _ _ (by show b ≠ w.heap.size + 3; omega)]⟩).inLv
  have HB : Hid (Below w.heap.size w (((w1.setCell ⟨w.heap.size + 3, 0, none⟩ (.int .i64 k)).setCell ⟨w.heap.size + 3, 1, none⟩ (.string nm)).setCell ⟨w.heap.size + 3, 2, none⟩ (.slice A3 n cap3))) :=
    ((((HO.out _).trans (hbw.mono (by omega))).setCell (p := ⟨w.heap.size + 3, 0, none⟩) (by show w.heap.size ≤ w.heap.size + 3; omega) _).setCell (p := ⟨w.heap.size + 3, 1, none⟩) (by show w.heap.size ≤ w.heap.size + 3; omega) _).setCell (p := ⟨w.heap.size + 3, 2, none⟩) (by show w.heap.size ≤ w.heap.size + 3; omega) _
  clear hin hbw hsz HR HO
  go_wp2_with fail
  refine bodyPost_ret (v := .agg #[.int .i64 k, .string nm, .slice A3 n cap3]) (by simp [results, Tryd.results11, go_sem, z0, z1, z2]) rfl ?_
  exact ⟨k, nm, A3, n, cap3, rfl, HF.out, HB.out⟩

end Go.Proofs.YtdbpkbhglghdoaaDoor
