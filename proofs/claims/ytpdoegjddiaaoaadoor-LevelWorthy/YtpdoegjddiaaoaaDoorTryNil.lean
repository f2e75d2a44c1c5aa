/- The closure try of always: the memory that it stands on, and its contract where no name is left. -/
import Derived.Test.YtpdoegjddiaaoaaDoorTry
import Derived.Test.YtpdoegjddiaaoaaDoorLater
namespace Go.Proofs.YtpdoegjddiaaoaaDoor
open Go.RowKit Go.Maps

/-- The memory that the closure stands on: which blocks hold what. -/
structure Env (w : World) (FH : FuncId) (a b : LvB) (A1 A2 : Option Addr) (cap1 cap2 G m mg ng ch ca cnum cb cns ct cg cG B : Nat) (gc : ByteArray → Nat) (Sg : ByteArray → Bool) : Prop where
  hch : w.cell? ⟨ch, 0, none⟩ = some (.func (.func FH) #[] #[])
  a0 : w.cell? ⟨ca, 0, none⟩ = some (.int .i64 a.kind)
  a1 : w.cell? ⟨ca, 1, none⟩ = some (.string a.nm)
  a2 : w.cell? ⟨ca, 2, none⟩ = some (.slice A1 a.kids.length cap1)
  b0 : w.cell? ⟨cb, 0, none⟩ = some (.int .i64 b.kind)
  b1 : w.cell? ⟨cb, 1, none⟩ = some (.string b.nm)
  b2 : w.cell? ⟨cb, 2, none⟩ = some (.slice A2 b.kids.length cap2)
  hnum : w.cell? ⟨cnum, 0, none⟩ = some (.func (.func 35) #[] #[.pointer (some ⟨cns, 0, none⟩)])
  hns : w.cell? ⟨cns, 0, none⟩ = some (.map (some m))
  ht : w.cell? ⟨ct, 0, none⟩ = some (.func (.func 36) #[] #[.pointer (some ⟨ch, 0, none⟩), .pointer (some ⟨ca, 0, none⟩), .pointer (some ⟨cnum, 0, none⟩), .pointer (some ⟨cb, 0, none⟩), .pointer (some ⟨cns, 0, none⟩), .pointer (some ⟨ct, 0, none⟩), .pointer (some ⟨cg, 0, none⟩), .pointer (some ⟨cG, 0, none⟩)])
  hg : w.cell? ⟨cg, 0, none⟩ = some (.map (some mg))
  hG : w.cell? ⟨cG, 0, none⟩ = some (.int .i64 (G : Nat))
  hmg : MapIs w mg ng gc Sg
  la : InLv w B a (.agg #[.int .i64 a.kind, .string a.nm, .slice A1 a.kids.length cap1])
  lb : InLv w B b (.agg #[.int .i64 b.kind, .string b.nm, .slice A2 b.kids.length cap2])

/-- None of these blocks is the map that is written. -/
structure Apart (m mg ch ca cnum cb cns ct cg cG B : Nat) : Prop where
  nch : ch ≠ m
  nca : ca ≠ m
  ncb : cb ≠ m
  nnum : cnum ≠ m
  nns : cns ≠ m
  nt : ct ≠ m
  ng : cg ≠ m
  nG : cG ≠ m
  nmg : mg ≠ m
  nB : B ≤ m

section
variable {w w' : World} {FH : FuncId} {a b : LvB} {A1 A2 : Option Addr} {cap1 cap2 G m mg ng ch ca cnum cb cns ct cg cG B : Nat} {gc : ByteArray → Nat} {Sg : ByteArray → Bool}
theorem tcell {a : Addr} {v : Value} (h : Touched w m w') (hc : w.cell? a = some v) (hne : a.block ≠ m) : w'.cell? a = some v := by
  rw [h.cell (World.block_lt_of_cell? _ _ hc) hne]; exact hc

theorem Env.touched (h : Env w FH a b A1 A2 cap1 cap2 G m mg ng ch ca cnum cb cns ct cg cG B gc Sg) (hp : Apart m mg ch ca cnum cb cns ct cg cG B) (ht : Touched w m w') (hm : m < w.heap.size) : Env w' FH a b A1 A2 cap1 cap2 G m mg ng ch ca cnum cb cns ct cg cG B gc Sg :=
  have hb : Below B w w' := ht.below (by have := hp.nB; omega) hp.nB
  ⟨tcell ht h.hch hp.nch, tcell ht h.a0 hp.nca, tcell ht h.a1 hp.nca, tcell ht h.a2 hp.nca, tcell ht h.b0 hp.ncb, tcell ht h.b1 hp.ncb, tcell ht h.b2 hp.ncb, tcell ht h.hnum hp.nnum, tcell ht h.hns hp.nns, tcell ht h.ht hp.nt, tcell ht h.hg hp.ng, tcell ht h.hG hp.nG,
    h.hmg.kept ht (by simpa using hp.nmg), h.la.below hb, h.lb.below hb⟩
end

/-- A slice of names, in blocks from lo on. -/
def Names (w : World) (lo : Nat) (v : Value) (ns : List ByteArray) : Prop := ∃ A cap, v = .slice A ns.length cap ∧ ns.length ≤ cap ∧ cap ≤ maxLen ∧ ∀ i (hi : i < ns.length), ∃ b o, A = some ⟨b, o, none⟩ ∧ lo ≤ b ∧ w.cell? ⟨b, o + i, none⟩ = some (.string ns[i])

theorem Names.touched {w w' : World} {lo m : Nat} {v : Value} {ns : List ByteArray} (h : Names w lo v ns) (ht : Touched w m w') (hm : m < lo) : Names w' lo v ns := by
  obtain ⟨A, cap, e, h1, h2, hc⟩ := h
  refine ⟨A, cap, e, h1, h2, fun i hi => ?_⟩
  obtain ⟨b, o, ea, hb, hcell⟩ := hc i hi
  exact ⟨b, o, ea, hb, tcell ht hcell (by show b ≠ m; omega)⟩

set_option maxHeartbeats 1000000 in
theorem try_nil (FH : FuncId) (hold : Nat → Nat → Bool) (a b : LvB) (A1 A2 : Option Addr) (cap1 cap2 G m mg ng ch ca cnum cb cns ct cg cG B : Nat) (gc : ByteArray → Nat) (Sg : ByteArray → Bool)
    (hent : ∀ (args : Array Value) (w' : World), Sem.run Tryd.prog (callFunc FH args) w' = .ok (.enter FH args) w')
    (hhold : ∀ (x y : Nat) (w' : World), Calls Tryd.prog FH #[.int .i64 (x : Nat), .int .i64 (y : Nat)] w' fun e w'' => e = .returned (.bool (hold x y)) ∧ w'' = w')
    (na : a.nodes ≤ 1000) (nb : b.nodes ≤ 1000) (ma : ∀ p, Lv.has p a → p.size ≤ 1000) (mb : ∀ p, Lv.has p b → p.size ≤ 1000)
    (A : Option Addr) (cap : Nat) (may : Bool) (σ : ByteArray → Nat) (n : Nat) (S : ByteArray → Bool) (w : World) (hE : Env w FH a b A1 A2 cap1 cap2 G m mg ng ch ca cnum cb cns ct cg cG B gc Sg) (hP : Apart m mg ch ca cnum cb cns ct cg cG B) (hm : MapIs w m n σ S) (hσ : ∀ q, σ q ≤ 1000000) :
    Calls Tryd.prog 36 #[.slice A 0 cap, .bool may, .pointer (some ⟨ch, 0, none⟩), .pointer (some ⟨ca, 0, none⟩), .pointer (some ⟨cnum, 0, none⟩), .pointer (some ⟨cb, 0, none⟩), .pointer (some ⟨cns, 0, none⟩), .pointer (some ⟨ct, 0, none⟩), .pointer (some ⟨cg, 0, none⟩), .pointer (some ⟨cG, 0, none⟩)] w fun e w' =>
      e = .returned (.bool (hold (a.worth σ) (b.worth σ))) ∧ Below w.heap.size w w' := by
  have hst := Later.some w.heap.size w
  have hmw := hm.lt
  have hBm := hP.nB
  have hcnsb : cns < w.heap.size := World.block_lt_of_cell? _ _ hE.hns
  have HN := hide (fun W (hW : Below w.heap.size w W) => number_numbers cns m n w.heap.size σ S W (cell_later hW hE.hns) (hm.below hW hmw) hcnsb hmw)
  have Ha := hide (fun W (hW : Below w.heap.size w W) => worth_calls 35 #[.pointer (some ⟨cns, 0, none⟩)] σ w.heap.size hσ a _ W ma (by omega) hW.size ((hE.la.mono (by omega)).below hW) (HN.out W hW))
  have Hb := hide (fun W (hW : Below w.heap.size w W) => worth_calls 35 #[.pointer (some ⟨cns, 0, none⟩)] σ w.heap.size hσ b _ W mb (by omega) hW.size ((hE.lb.mono (by omega)).below hW) (HN.out W hW))
  have HH : Hid (∀ x : Later w.heap.size w, Calls Tryd.prog FH #[.int .i64 (a.worth σ : Nat), .int .i64 (b.worth σ : Nat)] x.W fun e w' => e = .returned (.bool (hold (a.worth σ) (b.worth σ))) ∧ ∃ y : Later w.heap.size w, w' = y.W) := fun x => (hhold _ _ x.W).mono fun _ _ ⟨he, hw⟩ => ⟨he, x, hw⟩
  have q0 : ∀ x : Later w.heap.size w, x.W.cell? ⟨ch, 0, none⟩ = some (.func (.func FH) #[] #[]) := fun x => cell_later x.h hE.hch
  have q1 : ∀ x : Later w.heap.size w, x.W.cell? ⟨ca, 0, none⟩ = some (.int .i64 a.kind) := fun x => cell_later x.h hE.a0
  have q2 : ∀ x : Later w.heap.size w, x.W.cell? ⟨ca, 1, none⟩ = some (.string a.nm) := fun x => cell_later x.h hE.a1
  have q3 : ∀ x : Later w.heap.size w, x.W.cell? ⟨ca, 2, none⟩ = some (.slice A1 a.kids.length cap1) := fun x => cell_later x.h hE.a2
  have q4 : ∀ x : Later w.heap.size w, x.W.cell? ⟨cb, 0, none⟩ = some (.int .i64 b.kind) := fun x => cell_later x.h hE.b0
  have q5 : ∀ x : Later w.heap.size w, x.W.cell? ⟨cb, 1, none⟩ = some (.string b.nm) := fun x => cell_later x.h hE.b1
  have q6 : ∀ x : Later w.heap.size w, x.W.cell? ⟨cb, 2, none⟩ = some (.slice A2 b.kids.length cap2) := fun x => cell_later x.h hE.b2
  have q7 : ∀ x : Later w.heap.size w, x.W.cell? ⟨cnum, 0, none⟩ = some (.func (.func 35) #[] #[.pointer (some ⟨cns, 0, none⟩)]) := fun x => cell_later x.h hE.hnum
  clear hhold ma mb hE hP hm hσ hmw hBm hcnsb HN
  generalize a.worth σ = wa at *
  generalize b.worth σ = wb at *
  go_enter Tryd.func36, Tryd.ntmps36
  go_wp2_with fail
  refine wp_region_later (by kernel_rfl) (by kernel_rfl) (Below.refl w.heap.size w) ?_
  quiet_step (fail)
  quiet_step (fail)
  quiet_step (fail)
  quiet_step (exact Later.calls Ha.out (Nat.le_refl _) _)
  quiet_step (fail)
  quiet_step (fail)
  quiet_step (exact Later.calls Hb.out (Nat.le_refl _) _)
  quiet_step (exact HH.out _)
  quiet_step (fail)
  refine wpQuiet_nil ?_
  intro _ hw'
  obtain ⟨x, rfl⟩ := hw'
  go_wp2_with fail
  go_ret
  exact ⟨rfl, x.h⟩

end Go.Proofs.YtpdoegjddiaaoaaDoor
