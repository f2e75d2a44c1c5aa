/- The contract of gates, as a whole. -/
import Derived.Test.YteepmfhpjanbhaaGreatDoorGates
import Derived.Laws.EntriesVeiled
import Derived.Test.YteepmfhpjanbhaaGreatDoorIndex
import Derived.Test.YteepmfhpjanbhaaGreatDoorAlike
import Derived.Test.YteepmfhpjanbhaaGreatDoorTParams

namespace Go.Proofs.YteepmfhpjanbhaaGreatDoor
open Go.RowKit Go.Maps

set_option maxHeartbeats 1000000 in
theorem gates_calls (l : LvB) (v : Value) (B : Nat) (w : World) (hBw : B ≤ w.heap.size) (hl : InLv w B l v) (hnm : ∀ p, Lv.has p l → p.size ≤ 1000) (hn : l.nodes ≤ 900000) :
    Calls Tryz.prog 90 #[v] w fun e w' => ∃ m S, e = .returned (.map (some m)) ∧ w.heap.size ≤ m ∧ MapIs w' m l.nodes (fun q => Lv.gcount q false l) S ∧ Below w.heap.size w w' := by
  obtain ⟨A, cap, e⟩ := hl.form
  have HL := hide hl
  subst e
  have HI : Hid (∀ W m cc ck, Below w.heap.size w W → w.heap.size ≤ m → W.cell? ⟨cc, 0, none⟩ = some (.map (some m)) → W.cell? ⟨ck, 0, none⟩ = some (.func (.func 100) #[] #[.pointer (some ⟨cc, 0, none⟩), .pointer (some ⟨ck, 0, none⟩)]) → cc ≠ m → ck ≠ m → MapIs W m 0 (fun _ => 0) (fun _ => false) → _) :=
    fun W m cc ck (hW : Below w.heap.size w W) (hm : w.heap.size ≤ m) h1 h2 h3 h4 h5 => gates_walk l.nodes l _ false _ _ m cc ck 0 B W (Nat.le_refl _) hnm (by omega) (fun _ => by omega) (hl.below (hW.mono hBw)) (by omega) h1 h2 h3 h4 h5
  clear hl hnm
  have hmm := @run_makeMap Tryz.prog
  go_enter Tryz.func90, Tryz.ntmps90
  go_wp2_with (go_at_call 100; refine (HI.out _ (w.heap.size + 1) (w.heap.size + 1 + 1) (w.heap.size + 1 + 1 + 1) ?_ ?_ ?_ ?_ ?_ ?_ ?_).mono ?_)
  · repeat' (first | exact Below.refl _ _ | refine Below.setCell ?_ ?_ _ | refine Below.alloc ?_ ?_ _)
    all_goals (simp; try omega)
  · omega
  · simp [World.cell?_alloc_at, World.cell?_alloc_past]
  · simp [World.cell?_alloc_at]
  · omega
  · omega
  · have := ((MapIs.made (w.alloc (.cells #[.int .i64 l.kind, .string l.nm, .slice A l.kids.length cap] 44))).alloc (.cells #[Value.map (some (w.heap.size + 1))] 114))
    simp at this
    exact this.alloc _
  rintro e w' ⟨rfl, ⟨S', hm⟩, ht⟩
  have hc : w'.cell? ⟨w.heap.size + 1 + 1, 0, none⟩ = some (.map (some (w.heap.size + 1))) := by
    rw [ht.cell (by simp) (by simp)]
    simp [World.cell?_alloc_at, World.cell?_alloc_past]
  have HM := hide hm
  have HB : Hid (Below w.heap.size w w') := by
    refine Below.trans (b := _) ?_ (ht.below (B := w.heap.size) (by simp; omega) (by omega))
    repeat' (first | exact Below.refl _ _ | refine Below.setCell ?_ ?_ _ | refine Below.alloc ?_ ?_ _)
    all_goals (simp; try omega)
  clear hm ht
  go_wp2_with fail
  go_ret
  exact ⟨w.heap.size + 1, S', rfl, by omega, (HM.out.mono (by omega)).congr (fun q => by simp) fun _ => rfl, HB.out⟩

end Go.Proofs.YteepmfhpjanbhaaGreatDoor

/- The contracts of greatNumber and of the small closures of always, Leq and Same. -/
namespace Go.Proofs.YteepmfhpjanbhaaGreatDoor
open Go.RowKit

set_option maxHeartbeats 400000 in
theorem one_calls (p : ByteArray) (w : World) : Calls Tryz.prog 101 (#[.string p] ++ #[]) w fun e w' => e = .returned (.int .i64 ((1 : Nat) : Int)) ∧ w' = w := by
  show Calls Tryz.prog 101 #[.string p] w _
  go_enter Tryz.func101, Tryz.ntmps101
  go_wp2_with fail
  go_ret
  exact ⟨rfl, rfl⟩

theorem one_numbers (B : Nat) (w : World) : Numbers 101 #[] (fun _ => 1) B w := ⟨fun args w' => by simp [go_sem], fun p w' _ _ => one_calls p w'⟩

set_option maxHeartbeats 1000000 in
theorem great_calls (a b : LvB) (va vb : Value) (B : Nat) (w : World) (hBw : B ≤ w.heap.size) (ha : InLv w B a va) (hb : InLv w B b vb) (na : a.nodes ≤ 20000) (nb : b.nodes ≤ 20000)
    (ma : ∀ p, Lv.has p a → p.size ≤ 1000) (mb : ∀ p, Lv.has p b → p.size ≤ 1000) :
    Calls Tryz.prog 91 #[va, vb] w fun e w' => e = .returned (.int .i64 (a.worth (fun _ => 1) + b.worth (fun _ => 1) + 1 : Nat)) ∧ Below w.heap.size w w' := by
  obtain ⟨A1, cap1, e1⟩ := ha.form
  obtain ⟨A2, cap2, e2⟩ := hb.form
  have wa := worth_bd (σ := fun _ => 1) (fun _ => by omega) a (by omega)
  have wb := worth_bd (σ := fun _ => 1) (fun _ => by omega) b (by omega)
  have Ha : Hid (∀ W, Below w.heap.size w W → _) := fun W (hW : Below w.heap.size w W) => worth_calls 101 #[] (fun _ => 1) B (fun _ => by omega) a va W ma (by omega) (Nat.le_trans hBw hW.size) (ha.below (hW.mono hBw)) (one_numbers B W)
  have Hb : Hid (∀ W, Below w.heap.size w W → _) := fun W (hW : Below w.heap.size w W) => worth_calls 101 #[] (fun _ => 1) B (fun _ => by omega) b vb W mb (by omega) (Nat.le_trans hBw hW.size) (hb.below (hW.mono hBw)) (one_numbers B W)
  subst e1
  subst e2
  clear ha hb ma mb
  generalize a.worth (fun _ => 1) = xa at *
  generalize b.worth (fun _ => 1) = xb at *
  go_enter Tryz.func91, Tryz.ntmps91
  go_wp2_with fail
  have hst := Later.some (w.heap.size + 2) ((w.alloc (.cells #[.int .i64 a.kind, .string a.nm, .slice A1 a.kids.length cap1] 44)).alloc (.cells #[.int .i64 b.kind, .string b.nm, .slice A2 b.kids.length cap2] 44))
  generalize hW0 : ((w.alloc (.cells #[.int .i64 a.kind, .string a.nm, .slice A1 a.kids.length cap1] 44)).alloc (.cells #[.int .i64 b.kind, .string b.nm, .slice A2 b.kids.length cap2] 44)) = W0 at *
  have hsz : W0.heap.size = w.heap.size + 2 := by rw [← hW0]; simp
  have hold : Below w.heap.size w W0 := by rw [← hW0]; exact ((Below.refl _ _).alloc (Nat.le_refl _) _).alloc (by simp) _
  have q0 : ∀ x : Later (w.heap.size + 2) W0, x.W.cell? ⟨w.heap.size, 0, none⟩ = some (.int .i64 a.kind) := fun x => by rw [x.h.cell (by simp), ← hW0]; simp
  have q1 : ∀ x : Later (w.heap.size + 2) W0, x.W.cell? ⟨w.heap.size, 1, none⟩ = some (.string a.nm) := fun x => by rw [x.h.cell (by simp), ← hW0]; simp
  have q2 : ∀ x : Later (w.heap.size + 2) W0, x.W.cell? ⟨w.heap.size, 2, none⟩ = some (.slice A1 a.kids.length cap1) := fun x => by rw [x.h.cell (by simp), ← hW0]; simp
  have q3 : ∀ x : Later (w.heap.size + 2) W0, x.W.cell? ⟨w.heap.size + 1, 0, none⟩ = some (.int .i64 b.kind) := fun x => by rw [x.h.cell (by simp), ← hW0]; simp [World.cell?_alloc_at]
  have q4 : ∀ x : Later (w.heap.size + 2) W0, x.W.cell? ⟨w.heap.size + 1, 1, none⟩ = some (.string b.nm) := fun x => by rw [x.h.cell (by simp), ← hW0]; simp [World.cell?_alloc_at]
  have q5 : ∀ x : Later (w.heap.size + 2) W0, x.W.cell? ⟨w.heap.size + 1, 2, none⟩ = some (.slice A2 b.kids.length cap2) := fun x => by rw [x.h.cell (by simp), ← hW0]; simp [World.cell?_alloc_at]
  have HL := hide (fun W (hW : Below (w.heap.size + 2) W0 W) => Ha.out W (hold.trans (hW.mono (by omega))))
  have HL' := hide (fun W (hW : Below (w.heap.size + 2) W0 W) => Hb.out W (hold.trans (hW.mono (by omega))))
  have HS := hide hsz
  have HO := hide hold
  clear hW0 hsz hold
  refine wp_region_later (by kernel_rfl) (by kernel_rfl) (Below.refl (w.heap.size + 2) W0) ?_
  have hn2 : w.heap.size + 2 ≤ W0.heap.size := by rw [HS.out]; exact Nat.le_refl _
  quiet_step (fail)
  quiet_step (fail)
  quiet_step (exact Later.calls HL.out hn2 _)
  quiet_step (fail)
  quiet_step (fail)
  quiet_step (exact Later.calls HL'.out hn2 _)
  quiet_step (fail)
  quiet_step (fail)
  quiet_step (fail)
  refine wpQuiet_nil ?_
  intro _ hw'
  obtain ⟨x, rfl⟩ := hw'
  go_wp2_with fail
  go_ret
  refine ⟨ret_int ?_, HO.out.trans (x.h.mono (by omega))⟩
  rw [IntWalk.i64_in ((xa : Int) + xb) (by omega), IntWalk.i64_in _ (by omega)]
  omega

set_option maxHeartbeats 1000000 in
theorem number_calls (p : ByteArray) (c m n : Nat) (f : ByteArray → Nat) (S : ByteArray → Bool) (w : World) (hp : p.size ≤ 1000) (hc : w.cell? ⟨c, 0, none⟩ = some (.map (some m))) (hm : MapIs w m n f S) :
    Calls Tryz.prog 92 (#[.string p] ++ #[.pointer (some ⟨c, 0, none⟩)]) w fun e w' => e = .returned (.int .i64 (f p : Nat)) ∧ w' = w := by
  show Calls Tryz.prog 92 #[.string p, .pointer (some ⟨c, 0, none⟩)] w _
  have HM := hide hm
  clear hm
  have hpm : p.size ≤ maxLen := by unfold maxLen; omega
  go_enter Tryz.func92, Tryz.ntmps92
  go_wp2_with (at_lookup; refine wpList_look rfl _ _ rfl rfl HM.out p rfl hpm ?_)
  go_ret
  exact ⟨rfl, rfl⟩

theorem number_numbers (c m n B : Nat) (f : ByteArray → Nat) (S : ByteArray → Bool) (w : World) (hc : w.cell? ⟨c, 0, none⟩ = some (.map (some m))) (hm : MapIs w m n f S) (hcB : c < B) (hmB : m < B) : Numbers 92 #[.pointer (some ⟨c, 0, none⟩)] f B w :=
  ⟨fun args w' => by simp [go_sem], fun p w' hp hb => number_calls p c m n f S w' hp (by rw [hb.cell hcB]; exact hc) (hm.below hb hmB)⟩

set_option maxHeartbeats 1000000 in
theorem same1_calls (x y : Nat) (w : World) : Calls Tryz.prog 75 #[.int .i64 (x : Nat), .int .i64 (y : Nat)] w fun e w' => e = .returned (.bool (decide (x = y))) ∧ w' = w := by
  go_enter Tryz.func75, Tryz.ntmps75
  go_wp2_with fail
  go_ret
  exact ⟨ret_bool (by rw [Bool.eq_iff_iff]; simp; omega), rfl⟩

end Go.Proofs.YteepmfhpjanbhaaGreatDoor

/- What the closure 'try' of always tells, as a function; the memory that it stands on; no walk. -/
namespace Go.Proofs.YteepmfhpjanbhaaGreatDoor
open Go.RowKit Go.Maps

def up (σ : ByteArray → Nat) (p : ByteArray) (c : Nat) (q : ByteArray) : Nat := if q = p then c else σ q

def tryB (hold : Nat → Nat → Bool) (a b : LvB) (g : ByteArray → Bool) (G : Nat) : List ByteArray → Bool → (ByteArray → Nat) → Bool
  | [], _, σ => hold (a.worth σ) (b.worth σ)
  | p :: ps, may, σ => tryB hold a b g G ps may (up σ p 0) && (!g p || tryB hold a b g G ps may (up σ p 1)) && (!may || tryB hold a b g G ps false (up σ p G))

theorem tryB_congr {hold : Nat → Nat → Bool} {a b : LvB} {g : ByteArray → Bool} {G : Nat} : ∀ (ps : List ByteArray) (may : Bool) (σ σ' : ByteArray → Nat), (∀ q, q ∉ ps → σ q = σ' q) → tryB hold a b g G ps may σ = tryB hold a b g G ps may σ'
  | [], _, σ, σ', h => by have e : σ = σ' := funext fun q => h q (by simp); rw [e]
  | p :: ps, may, σ, σ', h => by
    have key : ∀ c, ∀ q, q ∉ ps → up σ p c q = up σ' p c q := fun c q hq => by
      unfold up
      by_cases e : q = p
      · simp [e]
      · simp only [if_neg e]; exact h q (by simp [e, hq])
    simp only [tryB, tryB_congr ps may _ _ (key 0), tryB_congr ps may _ _ (key 1), tryB_congr ps false _ _ (key G)]

/-- What is tried: numbers 0, 1 (gates alone) and, where may, one great one. -/
inductive Tried (g : ByteArray → Bool) (G : Nat) : List ByteArray → Bool → (ByteArray → Nat) → (ByteArray → Nat) → Prop
  | nil (may : Bool) (σ : ByteArray → Nat) : Tried g G [] may σ σ
  | zero {p : ByteArray} {ps : List ByteArray} {may : Bool} {σ τ : ByteArray → Nat} (h : Tried g G ps may (up σ p 0) τ) : Tried g G (p :: ps) may σ τ
  | one {p : ByteArray} {ps : List ByteArray} {may : Bool} {σ τ : ByteArray → Nat} (hg : g p = true) (h : Tried g G ps may (up σ p 1) τ) : Tried g G (p :: ps) may σ τ
  | great {p : ByteArray} {ps : List ByteArray} {σ τ : ByteArray → Nat} (h : Tried g G ps false (up σ p G) τ) : Tried g G (p :: ps) true σ τ

theorem tryB_tried {hold : Nat → Nat → Bool} {a b : LvB} {g : ByteArray → Bool} {G : Nat} : ∀ {ps : List ByteArray} {may : Bool} {σ τ : ByteArray → Nat}, tryB hold a b g G ps may σ = true → Tried g G ps may σ τ → hold (a.worth τ) (b.worth τ) = true
  | _, _, _, _, h, .nil _ _ => h
  | _, _, _, _, h, .zero ht => by simp only [tryB, Bool.and_eq_true] at h; exact tryB_tried h.1.1 ht
  | _, _, _, _, h, .one hg ht => by simp only [tryB, hg, Bool.and_eq_true] at h; exact tryB_tried (by simpa using h.1.2) ht
  | _, _, _, _, h, .great ht => by simp only [tryB, Bool.and_eq_true] at h; exact tryB_tried (by simpa using h.2) ht

/-- Where it holds of all numbers, it is told. -/
theorem tryB_all {hold : Nat → Nat → Bool} {a b : LvB} {g : ByteArray → Bool} {G : Nat} (h : ∀ τ : ByteArray → Nat, hold (a.worth τ) (b.worth τ) = true) : ∀ (ps : List ByteArray) (may : Bool) (σ : ByteArray → Nat), tryB hold a b g G ps may σ = true
  | [], _, σ => h σ
  | p :: ps, may, σ => by simp [tryB, tryB_all h ps]

/-- The least numbers of a pattern are tried. -/
theorem Tried.least {g : ByteArray → Bool} {G : Nat} (ρ : ByteArray → Nat) : ∀ (ps : List ByteArray) (may : Bool) (σ : ByteArray → Nat), ps.Nodup → ∃ τ, Tried g G ps may σ τ ∧ (∀ q, q ∈ ps → τ q = Go.Proofs.YteepmfhpjanbhaaGreatDoor.least g ρ q) ∧ ∀ q, q ∉ ps → τ q = σ q
  | [], may, σ, _ => ⟨σ, .nil _ _, by simp, fun _ _ => rfl⟩
  | p :: ps, may, σ, hnd => by
    have hp : p ∉ ps := (List.nodup_cons.1 hnd).1
    have hps := (List.nodup_cons.1 hnd).2
    by_cases hg : g p = true ∧ ρ p ≠ 0
    · obtain ⟨τ, ht, h1, h2⟩ := Tried.least ρ ps may (up σ p 1) hps
      refine ⟨τ, .one hg.1 ht, fun q hq => ?_, fun q hq => ?_⟩
      · rcases List.mem_cons.1 hq with rfl | hq
        · rw [h2 _ hp]; simp [up, Go.Proofs.YteepmfhpjanbhaaGreatDoor.least, hg.1, hg.2]
        · exact h1 q hq
      · simp only [List.mem_cons, not_or] at hq
        rw [h2 q hq.2]; simp [up, hq.1]
    · obtain ⟨τ, ht, h1, h2⟩ := Tried.least ρ ps may (up σ p 0) hps
      refine ⟨τ, .zero ht, fun q hq => ?_, fun q hq => ?_⟩
      · rcases List.mem_cons.1 hq with rfl | hq
        · rw [h2 _ hp]; simp only [up, Go.Proofs.YteepmfhpjanbhaaGreatDoor.least, if_true, if_neg hg]
        · exact h1 q hq
      · simp only [List.mem_cons, not_or] at hq
        rw [h2 q hq.2]; simp [up, hq.1]

/-- .. and these with one parameter great. -/
theorem Tried.oneGreat {g : ByteArray → Bool} {G : Nat} (ρ : ByteArray → Nat) (r : ByteArray) : ∀ (ps : List ByteArray) (σ : ByteArray → Nat), ps.Nodup → r ∈ ps → ∃ τ, Tried g G ps true σ τ ∧ (∀ q, q ∈ ps → τ q = if q = r then G else Go.Proofs.YteepmfhpjanbhaaGreatDoor.least g ρ q) ∧ ∀ q, q ∉ ps → τ q = σ q
  | p :: ps, σ, hnd, hr => by
    have hp : p ∉ ps := (List.nodup_cons.1 hnd).1
    have hps := (List.nodup_cons.1 hnd).2
    by_cases e : p = r
    · subst e
      obtain ⟨τ, ht, h1, h2⟩ := Tried.least (G := G) ρ ps false (up σ p G) hps
      refine ⟨τ, .great ht, fun q hq => ?_, fun q hq => ?_⟩
      · rcases List.mem_cons.1 hq with rfl | hq
        · rw [h2 _ hp]; simp [up]
        · rw [if_neg (fun e' : q = p => hp (by rw [← e']; exact hq))]; exact h1 q hq
      · simp only [List.mem_cons, not_or] at hq
        rw [h2 q hq.2]; simp [up, hq.1]
    · have hr' : r ∈ ps := (List.mem_cons.1 hr).resolve_left fun e' => e e'.symm
      by_cases hg : g p = true ∧ ρ p ≠ 0
      · obtain ⟨τ, ht, h1, h2⟩ := Tried.oneGreat ρ r ps (up σ p 1) hps hr'
        refine ⟨τ, .one hg.1 ht, fun q hq => ?_, fun q hq => ?_⟩
        · rcases List.mem_cons.1 hq with rfl | hq
          · rw [h2 _ hp, if_neg e]; simp [up, Go.Proofs.YteepmfhpjanbhaaGreatDoor.least, hg.1, hg.2]
          · exact h1 q hq
        · simp only [List.mem_cons, not_or] at hq
          rw [h2 q hq.2]; simp [up, hq.1]
      · obtain ⟨τ, ht, h1, h2⟩ := Tried.oneGreat ρ r ps (up σ p 0) hps hr'
        refine ⟨τ, .zero ht, fun q hq => ?_, fun q hq => ?_⟩
        · rcases List.mem_cons.1 hq with rfl | hq
          · rw [h2 _ hp, if_neg e]; simp only [up, Go.Proofs.YteepmfhpjanbhaaGreatDoor.least, if_true, if_neg hg]
          · exact h1 q hq
        · simp only [List.mem_cons, not_or] at hq
          rw [h2 q hq.2]; simp [up, hq.1]

/-- WHAT always TRIES DECIDES: a is worth at most what b is. -/
theorem tried_decides {a b : LvB} {g : ByteArray → Bool} {G : Nat} {ps : List ByteArray} {σ : ByteArray → Nat} (hps : ∀ p, a.has p ∨ b.has p → p ∈ ps) (hnd : ps.Nodup)
    (hga : ∀ p, a.gate p false → g p = true) (hgb : ∀ p, b.gate p false → g p = true) (hG : ∀ τ : ByteArray → Nat, (∀ p, τ p ≤ 1) → b.worth τ < G)
    (h : ∀ τ, Tried g G ps true σ τ → a.worth τ ≤ b.worth τ) : Leq a b := by
  intro ρ
  refine decides a b g G hga hgb hG ?_ ?_ ρ
  · intro ρ
    obtain ⟨τ, ht, h1, _⟩ := Tried.least (g := g) (G := G) ρ ps true σ hnd
    have := h τ ht
    rwa [Lv.worth_congr (l := a) fun p hp => h1 p (hps p (.inl hp)), Lv.worth_congr (l := b) fun p hp => h1 p (hps p (.inr hp))] at this
  · intro ρ r hr
    obtain ⟨τ, ht, h1, _⟩ := Tried.oneGreat (g := g) (G := G) ρ r ps σ hnd (hps r (.inl hr))
    have := h τ ht
    rwa [Lv.worth_congr (l := a) fun p hp => h1 p (hps p (.inl hp)), Lv.worth_congr (l := b) fun p hp => h1 p (hps p (.inr hp))] at this

end Go.Proofs.YteepmfhpjanbhaaGreatDoor
