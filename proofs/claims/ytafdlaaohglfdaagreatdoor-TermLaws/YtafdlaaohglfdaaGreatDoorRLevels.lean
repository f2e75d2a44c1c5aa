/- The contracts of part, and of worth at a parameter. -/
import Derived.Test.YtafdlaaohglfdaaGreatDoorTouch
import Derived.Test.YtafdlaaohglfdaaGreatDoorTParams
import Derived.Test.YtafdlaaohglfdaaGreatDoorLoops

namespace Go.Proofs.YtafdlaaohglfdaaGreatDoor
open Go.RowKit

/-- What a function of a level's parameters answers. -/
structure Numbers (F : FuncId) (C : Array Value) (σ : ByteArray → Nat) (B : Nat) (w : World) : Prop where
  enter : ∀ (args : Array Value) (w' : World), Sem.run Tryz.prog (callFunc F args) w' = .ok (.enter F args) w'
  calls : ∀ (p : ByteArray) (w' : World), p.size ≤ 1000 → Below B w w' → Calls Tryz.prog F (#[.string p] ++ C) w' fun e w'' => e = .returned (.int .i64 (σ p : Nat)) ∧ w'' = w'

theorem Numbers.later {F : FuncId} {C : Array Value} {σ : ByteArray → Nat} {B : Nat} {w w' : World} (h : Numbers F C σ B w) (hb : Below B w w') : Numbers F C σ B w' :=
  ⟨h.enter, fun p w'' hp hb' => h.calls p w'' hp (hb.trans hb')⟩

end Go.Proofs.YtafdlaaohglfdaaGreatDoor

/- The contract of worth at a max: four calls in an order that is left open. -/
namespace Go.Proofs.YtafdlaaohglfdaaGreatDoor
open Go.RowKit

end Go.Proofs.YtafdlaaohglfdaaGreatDoor

/- The contract of worth: what a level is worth under numbers that a function tells. -/
namespace Go.Proofs.YtafdlaaohglfdaaGreatDoor
open Go.RowKit

end Go.Proofs.YtafdlaaohglfdaaGreatDoor

/- The contracts of slices.Index, sameNames, limit, Worth of package level. -/
namespace Go.Proofs.YtafdlaaohglfdaaGreatDoor
open Go.RowKit

/-- A name's first place in a list, -1 where it has none. -/
def Place (ns : List ByteArray) (q : ByteArray) (r : Int) : Prop :=
  (r = -1 ∧ ∀ j (h : j < ns.length), ns[j] ≠ q) ∨ ∃ k : Nat, ∃ h : k < ns.length, r = k ∧ ns[k] = q ∧ ∀ j (h : j < ns.length), j < k → ns[j] ≠ q

set_option maxHeartbeats 400000 in
theorem index_calls (q : ByteArray) (ns : List ByteArray) (v : Value) (B : Nat) (w : World) (hs : InStrs w B v ns) :
    Calls Tryz.prog 62 #[v, .string q] w fun e w' => ∃ r, e = .returned (.int .i64 r) ∧ Place ns q r ∧ w' = w := by
  obtain ⟨hm, A, cap, rfl, hc⟩ := hs
  unfold maxLen at hm
  go_enter Tryz.func62, Tryz.ntmps62
  go_wp2
  go_loop [8] (fun i => ∃ k : Nat, k ≤ ns.length ∧ i = .int .i64 k ∧ ∀ j (h : j < ns.length), j < k → ns[j] ≠ q) (fun i => ns.length - (intOf i).toNat)
  case atStart => exact ⟨0, Nat.zero_le _, rfl, fun j _ h => absurd h (by omega)⟩
  case round =>
    obtain ⟨k, hk, rfl, hno⟩ := hrel
    have HN : Hid (∀ j (h : j < ns.length), j < k → ns[j] ≠ q) := hno
    clear hno
    by_cases hlt : k < ns.length
    · obtain ⟨b, o, rfl, hb, hcell⟩ := hc k hlt
      clear hc
      by_cases he : ns[k] = q
      · have HP : Hid (Place ns q k) := .inr ⟨k, hlt, rfl, he, HN.out⟩
        have hs := sameStr_pos he.symm
        clear he
        go_wp2
        go_ret
        exact ⟨k, rfl, HP.out, rfl⟩
      · have hs := sameStr_neg fun h => he h.symm
        have HE : Hid (ns[k] ≠ q) := he
        clear he
        go_wp2
        go_round
        case rel => exact ⟨k + 1, by omega, by go_num, fun j h hj => if e : j = k then by subst e; exact HE.out else HN.out j h (by omega)⟩
        case measure => simp [intOf]; omega
    · clear hc
      go_wp2
      go_ret
      exact ⟨-1, rfl, .inl ⟨rfl, fun j h => HN.out j h (by omega)⟩, rfl⟩

def limN (x : Int) : Nat := ((if x < 0 then -(x + 1) else x) % 6).toNat
theorem limN_le (x : Int) : limN x ≤ 1000000 := by unfold limN; split <;> omega

set_option maxHeartbeats 400000 in
theorem limit_calls (x : Int) (w : World) (h1 : -9223372036854775808 ≤ x) (h2 : x ≤ 9223372036854775807) : Calls Tryz.prog 7 #[.int .i64 x] w fun e w' => e = .returned (.int .i64 (limN x : Nat)) ∧ w' = w := by
  by_cases hx : x < 0
  · go_enter Tryz.func7, Tryz.ntmps7
    go_wp2_with fail
    go_ret
    refine ⟨ret_int ?_, rfl⟩
    have e : -(x + 1).tmod 6 = (-(x + 1)) % 6 := by rw [← Int.neg_tmod, Int.tmod_eq_emod_of_nonneg (by omega)]
    rw [e]
    unfold limN
    rw [if_pos hx]
    omega
  · go_enter Tryz.func7, Tryz.ntmps7
    go_wp2_with fail
    go_ret
    refine ⟨ret_int ?_, rfl⟩
    unfold limN
    rw [if_neg (by omega)]
    omega

end Go.Proofs.YtafdlaaohglfdaaGreatDoor

/- The contracts of copied and Subst of package level. -/
namespace Go.Proofs.YtafdlaaohglfdaaGreatDoor
open Go.RowKit

/-- The level at a name's first place; the name itself where it has none. -/
def lookL : List ByteArray → List LvB → ByteArray → LvB
  | p :: ps, l :: ls, q => if p = q then l else lookL ps ls q
  | _, _, q => .param q

theorem lookL_at : ∀ (ps : List ByteArray) (ls : List LvB) (q : ByteArray) (k : Nat) (h : k < ps.length) (h' : k < ls.length), (∀ j (hj : j < ps.length), j < k → ps[j] ≠ q) → ps[k] = q → lookL ps ls q = ls[k]
  | p :: ps, m :: ls, q, 0, _, _, _, e => by simp only [lookL]; rw [if_pos (by simpa using e)]; simp
  | p :: ps, m :: ls, q, k + 1, h, h', hno, e => by
    simp only [lookL]
    rw [if_neg (by have := hno 0 (by simp) (by omega); simp only [List.getElem_cons_zero] at this; exact this)]
    have := lookL_at ps ls q k (by simpa using h) (by simpa using h') (fun j hj hjk => by have := hno (j + 1) (by simp; omega) (by omega); simp only [List.getElem_cons_succ] at this; exact this) (by simpa using e)
    simpa using this

theorem lookL_none : ∀ (ps : List ByteArray) (ls : List LvB) (q : ByteArray), (∀ j (hj : j < ps.length), ps[j] ≠ q) → lookL ps ls q = .param q
  | [], _, _, _ => by simp [lookL]
  | _ :: _, [], _, _ => by simp [lookL]
  | p :: ps, m :: ls, q, h => by
    simp only [lookL]
    rw [if_neg (by have := h 0 (by simp); simp only [List.getElem_cons_zero] at this; exact this)]
    exact lookL_none ps ls q fun j hj => by have := h (j + 1) (by simp; omega); simp only [List.getElem_cons_succ] at this; exact this

/-- A slice of levels, read alone. -/
def InLvs (w : World) (B : Nat) (v : Value) (ls : List LvB) : Prop := ls.length ≤ maxLen ∧ ∃ (A : Option Addr) (cap : Nat), v = .slice A ls.length cap ∧
  ∀ i (hi : i < ls.length), ∃ b x, A = some ⟨b, 0, none⟩ ∧ b < B ∧ Three w b (i * 3) x ∧ InLv w B ls[i] x

theorem InLvs.below {w w' : World} {B : Nat} (h : Below B w w') {v : Value} {ls : List LvB} (hs : InLvs w B v ls) : InLvs w' B v ls := by
  obtain ⟨hm, A, cap, e, hc⟩ := hs
  refine ⟨hm, A, cap, e, fun i hi => ?_⟩
  obtain ⟨b, x, ea, hb, h3, hl⟩ := hc i hi
  exact ⟨b, x, ea, hb, h3.below h hb, hl.below h⟩

set_option maxRecDepth 100000 in
set_option maxHeartbeats 1000000 in
theorem copied1_calls (p : ByteArray) (B : Nat) (w : World) : Calls Tryz.prog 76 #[.agg #[.int .i64 4, .string p, .slice none 0 0]] w fun e w' => Made B w (.param p) e w' := by
  go_enter Tryz.func76, Tryz.ntmps76
  go_wp2_with fail
  refine bodyPost_ret (v := .agg #[.int .i64 4, .string p, .slice none 0 0]) (by simp [results, Tryz.results76, go_sem]) rfl ?_
  refine ⟨4, p, none, 0, 0, rfl, rfl, ?_⟩
  exact ((Below.refl _ _).alloc (Nat.le_refl _) _).alloc (by simp) _

theorem copied1_puts (B D : Nat) (w : World) : Puts 76 #[] .param B D w :=
  ⟨fun args w' => by simp [go_sem], fun p w' _ _ => copied1_calls p B w'⟩

set_option maxRecDepth 100000 in
set_option maxHeartbeats 1000000 in
theorem copied_calls (l : LvB) (v : Value) (B : Nat) (w : World) (hB : B ≤ w.heap.size) (hl : InLv w B l v) : Calls Tryz.prog 63 #[v] w fun e w' => Made B w l e w' := by
  obtain ⟨A, cap, e1⟩ := hl.form
  have HR : Hid (∀ o, Calls Tryz.prog 60 #[v, .func (.func 76) #[] #[]] ((w.alloc o).alloc zlev) fun e w' => Made B ((w.alloc o).alloc zlev) l e w') := fun o => by
    have hold : Below w.heap.size w ((w.alloc o).alloc zlev) := ((Below.refl _ _).alloc (Nat.le_refl _) _).alloc (by simp) _
    have := rebuild_calls 76 #[] .param B w.heap.size hB l.nodes l v ((w.alloc o).alloc zlev) (Nat.le_refl _) (by simp; omega) (hl.below (hold.mono hB)) (copied1_puts _ _ _)
    rw [Lv.bind_param] at this
    exact this
  subst e1
  clear hl
  go_enter Tryz.func63, Tryz.ntmps63
  go_wp2_with (go_at_call 60; refine (HR.out _).mono ?_)
  rintro e w1 ⟨k, nm, A1, n, cap1, rfl, hin, hbw⟩
  have hsz : ∀ o, ((w.alloc o).alloc zlev).heap.size = w.heap.size + 2 := fun o => by simp
  rw [hsz] at hin hbw
  obtain ⟨z0, z1, z2, zf, zl⟩ := zbox hbw
  have HI := hide (made_fill (u0 := .int .i64 k) (u1 := .string nm) (u2 := .slice A1 n cap1) hB hbw (fun b h => h) hin)
  clear hin hbw HR hsz
  go_wp2_with fail
  refine bodyPost_ret (v := .agg #[.int .i64 k, .string nm, .slice A1 n cap1]) (by simp [results, Tryz.results63, go_sem, z0, z1, z2]) rfl ?_
  exact ⟨k, nm, A1, n, cap1, rfl, HI.out.1, HI.out.2⟩

set_option maxRecDepth 100000 in
set_option maxHeartbeats 2000000 in
theorem subst1_calls (q : ByteArray) (c1 c2 : Nat) (ps : List ByteArray) (ls : List LvB) (pv lv : Value) (B : Nat) (w : World) (hB : B ≤ w.heap.size) (hc1 : w.cell? ⟨c1, 0, none⟩ = some pv) (hc2 : w.cell? ⟨c2, 0, none⟩ = some lv) (hps : InStrs w B pv ps) (hls : InLvs w B lv ls) (hlen : ps.length = ls.length) :
    Calls Tryz.prog 61 (#[.agg #[.int .i64 4, .string q, .slice none 0 0]] ++ #[.pointer (some ⟨c1, 0, none⟩), .pointer (some ⟨c2, 0, none⟩)]) w fun e w' => Made B w (lookL ps ls q) e w' := by
  show Calls Tryz.prog 61 #[.agg #[.int .i64 4, .string q, .slice none 0 0], .pointer (some ⟨c1, 0, none⟩), .pointer (some ⟨c2, 0, none⟩)] w _
  have hold : Below w.heap.size w ((w.alloc (.cells #[.int .i64 4, .string q, .slice none 0 0] 79)).alloc zlev) := ((Below.refl _ _).alloc (Nat.le_refl _) _).alloc (by simp) _
  have b1 := World.block_lt_of_cell? _ _ hc1
  have b2 := World.block_lt_of_cell? _ _ hc2
  simp only [] at b1 b2
  have HI := hide (index_calls q ps pv B _ (hps.below (hold.mono hB)))
  obtain ⟨hm, A1, cap1, rfl, -⟩ := hps
  obtain ⟨hm2, A2, cap2, rfl, hc⟩ := hls
  have HC := hide hc
  have HLn := hide hlen
  have HO := hide hold
  clear hc hlen hold
  unfold maxLen at hm hm2
  go_enter Tryz.func61, Tryz.ntmps61
  go_wp2_with (go_at_call 62; refine HI.out.mono ?_)
  rintro e w' ⟨r, rfl, hp, rfl⟩
  rcases hp with ⟨rfl, hno⟩ | ⟨k, hk, rfl, he, hno⟩
  · have HE := hide (lookL_none ps ls q hno)
    clear hno
    go_wp2_with fail
    refine bodyPost_ret (v := .agg #[.int .i64 4, .string q, .slice none 0 0]) (by simp [results, Tryz.results61, go_sem]) rfl ?_
    rw [HE.out]
    refine ⟨4, q, none, 0, 0, rfl, rfl, ?_⟩
    exact ((Below.refl _ _).alloc (Nat.le_refl _) _).alloc (by simp) _
  · have hk2 : k < ls.length := by rw [← HLn.out]; exact hk
    have HE := hide (lookL_at ps ls q k hk hk2 hno he)
    obtain ⟨b, x, rfl, hb, h3, hin⟩ := HC.out k hk2
    obtain ⟨k', nm', A', n', cap', rfl, d0, d1, d2⟩ := h3
    have HD := hide (copied_calls ls[k] _ B _ (by simp; omega) (hin.below (HO.out.mono hB)))
    have hbw' : b < w.heap.size := by omega
    clear hno he hin
    go_wp2_with (go_at_call 63; refine HD.out.mono ?_)
    rintro e w1 ⟨k1, nm, A3, n, cap3, rfl, hin, hbw⟩
    have hsz : ∀ o, ((w.alloc o).alloc zlev).heap.size = w.heap.size + 2 := fun o => by simp
    rw [hsz] at hin hbw
    obtain ⟨z0, z1, z2, zf, zl⟩ := zbox hbw
    have HI := hide (made_fill (u0 := .int .i64 k1) (u1 := .string nm) (u2 := .slice A3 n cap3) hB hbw (fun b h => h) hin)
    clear hin hbw hsz HD
    go_wp2_with fail
    refine bodyPost_ret (v := .agg #[.int .i64 k1, .string nm, .slice A3 n cap3]) (by simp [results, Tryz.results61, go_sem, z0, z1, z2]) rfl ?_
    rw [HE.out]
    exact ⟨k1, nm, A3, n, cap3, rfl, HI.out.1, HI.out.2⟩

theorem subst1_puts (c1 c2 : Nat) (ps : List ByteArray) (ls : List LvB) (pv lv : Value) (B D : Nat) (w : World) (hBD : B ≤ D) (h1 : c1 < D) (h2 : c2 < D) (hc1 : w.cell? ⟨c1, 0, none⟩ = some pv) (hc2 : w.cell? ⟨c2, 0, none⟩ = some lv) (hps : InStrs w B pv ps) (hls : InLvs w B lv ls) (hlen : ps.length = ls.length) :
    Puts 61 #[.pointer (some ⟨c1, 0, none⟩), .pointer (some ⟨c2, 0, none⟩)] (lookL ps ls) B D w :=
  ⟨fun args w' => by simp [go_sem], fun p w' hD hb => subst1_calls p c1 c2 ps ls pv lv B w' (by omega) ((hb.cell h1).trans hc1) ((hb.cell h2).trans hc2) (hps.below (hb.mono hBD)) (hls.below (hb.mono hBD)) hlen⟩

/-- The result's block of Subst, that is filled last. -/
theorem zbox4 {w W : World} {o1 o2 o3 : Obj} (h : Below (w.heap.size + 4) ((((w.alloc o1).alloc o2).alloc o3).alloc zlev) W) : W.cell? ⟨w.heap.size + 3, 0, none⟩ = some (.int .i64 0) ∧ W.cell? ⟨w.heap.size + 3, 1, none⟩ = some (.string ⟨#[]⟩) ∧ W.cell? ⟨w.heap.size + 3, 2, none⟩ = some (.slice none 0 0) ∧ (∀ i, W.frozen? ⟨w.heap.size + 3, i, none⟩ = false) ∧ w.heap.size + 3 < W.heap.size := by
  have hz := h.size
  simp at hz
  refine ⟨?_, ?_, ?_, fun i => ?_, by omega⟩
  · rw [h.cell (by simp)]; simp [World.cell?_alloc_at, zlev]
  · rw [h.cell (by simp)]; simp [World.cell?_alloc_at, zlev]
  · rw [h.cell (by simp)]; simp [World.cell?_alloc_at, zlev]
  · rw [h.frozen (by simp)]
    have := heap_alloc_new (((w.alloc o1).alloc o2).alloc o3) zlev
    simp at this
    simp [World.frozen?, this, zlev]

set_option maxRecDepth 100000 in
set_option maxHeartbeats 2000000 in
theorem subst_calls (l : LvB) (ps : List ByteArray) (ls : List LvB) (v pv lv : Value) (B : Nat) (w : World) (hB : B ≤ w.heap.size) (hl : InLv w B l v) (hps : InStrs w B pv ps) (hls : InLvs w B lv ls) (hlen : ps.length = ls.length) :
    Calls Tryz.prog 46 #[v, pv, lv] w fun e w' => ∃ (k : Int) (nm : ByteArray) (A : Option Addr) (n cap : Nat), e = .returned (.agg #[.int .i64 k, .string nm, .slice A n cap]) ∧ InLv w' w'.heap.size (l.bind (lookL ps ls)) (.agg #[.int .i64 k, .string nm, .slice A n cap]) ∧ Below w.heap.size w w' := by
  obtain ⟨A, cap, e1⟩ := hl.form
  have HR : Hid (∀ o, Calls Tryz.prog 60 #[v, .func (.func 61) #[] #[.pointer (some ⟨w.heap.size + 1, 0, none⟩), .pointer (some ⟨w.heap.size + 1 + 1, 0, none⟩)]] ((((w.alloc o).alloc (.cells #[pv] 77)).alloc (.cells #[lv] 26)).alloc zlev) fun e w' => Made B ((((w.alloc o).alloc (.cells #[pv] 77)).alloc (.cells #[lv] 26)).alloc zlev) (l.bind (lookL ps ls)) e w') := fun o => by
    have hold : Below w.heap.size w ((((w.alloc o).alloc (.cells #[pv] 77)).alloc (.cells #[lv] 26)).alloc zlev) := ((((Below.refl _ _).alloc (Nat.le_refl _) _).alloc (by simp) _).alloc (by simp; omega) _).alloc (by simp; omega) _
    refine rebuild_calls 61 _ (lookL ps ls) B (w.heap.size + 4) (by omega) l.nodes l v _ (Nat.le_refl _) (by simp) (hl.below (hold.mono hB))
      (subst1_puts (w.heap.size + 1) (w.heap.size + 1 + 1) ps ls pv lv B _ _ (by omega) (by omega) (by omega) ?_ ?_ (hps.below (hold.mono hB)) (hls.below (hold.mono hB)) hlen)
    · rw [World.cell?_alloc_past _ _ _ (by simp), World.cell?_alloc_past _ _ _ (by simp)]; simp [World.cell?_alloc_at]
    · rw [World.cell?_alloc_past _ _ _ (by simp)]; simp [World.cell?_alloc_at]
  have HO : Hid (∀ o, Below w.heap.size w ((((w.alloc o).alloc (.cells #[pv] 77)).alloc (.cells #[lv] 26)).alloc zlev)) := fun o => ((((Below.refl _ _).alloc (Nat.le_refl _) _).alloc (by simp) _).alloc (by simp; omega) _).alloc (by simp; omega) _
  obtain ⟨hm1, A1, cap1, rfl, -⟩ := hps
  obtain ⟨hm2, A2, cap2, rfl, -⟩ := hls
  subst e1
  clear hl hlen
  generalize l.bind (lookL ps ls) = L at *
  go_enter Tryz.func46, Tryz.ntmps46
  go_wp2_with (go_at_call 60; refine (HR.out _).mono ?_)
  rintro e w1 ⟨k, nm, A3, n, cap3, rfl, hin, hbw⟩
  have hsz : ∀ o1 o2 o3, ((((w.alloc o1).alloc o2).alloc o3).alloc zlev).heap.size = w.heap.size + 4 := fun o1 o2 o3 => by simp
  rw [hsz] at hin hbw
  obtain ⟨z0, z1, z2, zf, zl⟩ := zbox4 hbw
  have HF : Hid (InLv (((w1.setCell ⟨w.heap.size + 3, 0, none⟩ (.int .i64 k)).setCell ⟨w.heap.size + 3, 1, none⟩ (.string nm)).setCell ⟨w.heap.size + 3, 2, none⟩ (.slice A3 n cap3)) (((w1.setCell ⟨w.heap.size + 3, 0, none⟩ (.int .i64 k)).setCell ⟨w.heap.size + 3, 1, none⟩ (.string nm)).setCell ⟨w.heap.size + 3, 2, none⟩ (.slice A3 n cap3)).heap.size L (.agg #[.int .i64 k, .string nm, .slice A3 n cap3])) :=
    (hin.keep (S' := fun _ => True) fun b _ hb => ⟨trivial, by rw [Below.heap_setCell _ _ _ _ (by show b ≠ w.heap.size + 3; omega), Below.heap_setCell _ _ _ _ (by show b ≠ w.heap.size + 3; omega), Below.heap_setCell _ _ _ _ (by show b ≠ w.heap.size + 3; omega)]⟩).inLv
  have HB : Hid (Below w.heap.size w (((w1.setCell ⟨w.heap.size + 3, 0, none⟩ (.int .i64 k)).setCell ⟨w.heap.size + 3, 1, none⟩ (.string nm)).setCell ⟨w.heap.size + 3, 2, none⟩ (.slice A3 n cap3))) :=
    ((((HO.out _).trans (hbw.mono (by omega))).setCell (p := ⟨w.heap.size + 3, 0, none⟩) (by show w.heap.size ≤ w.heap.size + 3; omega) _).setCell (p := ⟨w.heap.size + 3, 1, none⟩) (by show w.heap.size ≤ w.heap.size + 3; omega) _).setCell (p := ⟨w.heap.size + 3, 2, none⟩) (by show w.heap.size ≤ w.heap.size + 3; omega) _
  clear hin hbw hsz HR HO
  go_wp2_with fail
  refine bodyPost_ret (v := .agg #[.int .i64 k, .string nm, .slice A3 n cap3]) (by simp [results, Tryz.results46, go_sem, z0, z1, z2]) rfl ?_
  exact ⟨k, nm, A3, n, cap3, rfl, HF.out, HB.out⟩

end Go.Proofs.YtafdlaaohglfdaaGreatDoor

/- The contract of the document's SubstLevel. -/
namespace Go.Proofs.YtafdlaaohglfdaaGreatDoor
open Go.RowKit

/-- The level's box and the result's block. -/
abbrev Rbox (w : World) (c0 c1 c2 : Value) (W : World) : Prop := Below (w.heap.size + 2) ((w.alloc (.cells #[c0, c1, c2] 79)).alloc zlev) W
theorem Rbox.cells {w W : World} {c0 c1 c2 : Value} (h : Rbox w c0 c1 c2 W) : W.cell? ⟨w.heap.size, 0, none⟩ = some c0 ∧ W.cell? ⟨w.heap.size, 1, none⟩ = some c1 ∧ W.cell? ⟨w.heap.size, 2, none⟩ = some c2 := by
  refine ⟨?_, ?_, ?_⟩ <;> (rw [Below.cell h (by simp)]; simp)
theorem Rbox.old {w W : World} {c0 c1 c2 : Value} (h : Rbox w c0 c1 c2 W) : Below w.heap.size w W := (((Below.refl _ _).alloc (Nat.le_refl _) _).alloc (by simp) _).trans (Below.mono h (by omega))

end Go.Proofs.YtafdlaaohglfdaaGreatDoor

/- The contract of the document's Levels. -/
namespace Go.Proofs.YtafdlaaohglfdaaGreatDoor
open Go.RowKit

def idF : Nat → Nat → Tm := fun free b => tvar (free + b)

end Go.Proofs.YtafdlaaohglfdaaGreatDoor
