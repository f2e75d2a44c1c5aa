/- The contract of gates: how often each parameter stands where it may decide an imax. -/
import Derived.Test.YtpdoegjddiaaoaaDoorMaps
namespace Go.Proofs.YtpdoegjddiaaoaaDoor
open Go.RowKit Go.Maps

def Lv.gcount (p : ByteArray) : Bool → LvB → Nat
  | _, .zero => 0
  | d, .succ a => Lv.gcount p d a
  | d, .max a b => Lv.gcount p d a + Lv.gcount p d b
  | d, .imax a b => Lv.gcount p d a + Lv.gcount p true b
  | d, .param q => if d = true ∧ p = q then 1 else 0

theorem Lv.gcount_le (p : ByteArray) : ∀ (d : Bool) (l : LvB), Lv.gcount p d l ≤ l.nodes
  | _, .zero => by simp [gcount]
  | d, .succ a => by have := Lv.gcount_le p d a; simp only [gcount, nodes]; omega
  | d, .max a b => by have := Lv.gcount_le p d a; have := Lv.gcount_le p d b; simp only [gcount, nodes]; omega
  | d, .imax a b => by have := Lv.gcount_le p d a; have := Lv.gcount_le p true b; simp only [gcount, nodes]; omega
  | d, .param q => by simp only [gcount, nodes]; split <;> omega

theorem Lv.gcount_gate (p : ByteArray) : ∀ (d : Bool) (l : LvB), 0 < Lv.gcount p d l ↔ Lv.gate p d l
  | _, .zero => by simp [gcount, gate]
  | d, .succ a => Lv.gcount_gate p d a
  | d, .max a b => by have := Lv.gcount_gate p d a; have := Lv.gcount_gate p d b; simp only [gcount, gate, ← Lv.gcount_gate p d a, ← Lv.gcount_gate p d b]; omega
  | d, .imax a b => by simp only [gcount, gate, ← Lv.gcount_gate p d a, ← Lv.gcount_gate p true b]; omega
  | d, .param q => by
    simp only [gcount, gate]
    split
    · rename_i h; simp [h.1, h.2]
    · rename_i h
      constructor
      · intro h'; omega
      · rintro ⟨h1, h2⟩; exact absurd ⟨h1, h2.symm⟩ h

/-- Whether the k-th part of a level stands where it may decide. -/
def Lv.under (l : LvB) (d : Bool) (k : Nat) : Bool := d || (decide (l.kind = 3) && decide (k = 1))

def Lv.gkids (p : ByteArray) (l : LvB) (d : Bool) : Nat → Nat
  | 0 => 0
  | k + 1 => Lv.gkids p l d k + (match l.kids[k]? with | some a => Lv.gcount p (l.under d k) a | none => 0)

theorem Lv.gkids_succ (p : ByteArray) (l : LvB) (d : Bool) (k : Nat) (h : k < l.kids.length) : Lv.gkids p l d (k + 1) = Lv.gkids p l d k + Lv.gcount p (l.under d k) l.kids[k] := by
  simp [gkids, h]

theorem Lv.gkids_all (p : ByteArray) (l : LvB) (d : Bool) (h : l.kind ≠ 4) : Lv.gkids p l d l.kids.length = Lv.gcount p d l := by
  cases l <;> simp [gkids, kids, gcount, kind, under] at h ⊢

/-- What the walk changes: the map alone, and new blocks. -/
def Touched (w : World) (m : Nat) (w' : World) : Prop := w.grownBy w' (some m)

theorem Touched.refl (w : World) (m : Nat) : Touched w m w := World.grownBy.refl _ _
theorem Touched.trans {w w' w'' : World} {m : Nat} (h : Touched w m w') (h' : Touched w' m w'') : Touched w m w'' :=
  ⟨h'.os.trans h.os, h'.tape.trans h.tape, h'.output.trans h.output, Nat.le_trans h.size h'.size, fun k hk hne => (h'.block k (Nat.lt_of_lt_of_le hk h.size) hne).trans (h.block k hk hne)⟩
theorem Touched.alloc (w : World) (m : Nat) (o : Obj) : Touched w m (w.alloc o) := World.grownBy_alloc _ _ _
theorem Touched.cell {w w' : World} {m : Nat} (h : Touched w m w') {p : Addr} (hp : p.block < w.heap.size) (hne : p.block ≠ m) : w'.cell? p = w.cell? p :=
  World.cell?_of_block (h.block p.block hp (by simpa using hne))
theorem Touched.below {w w' : World} {m B : Nat} (h : Touched w m w') (hB : B ≤ w.heap.size) (hm : B ≤ m) : Below B w w' :=
  (Below.refl _ _).grown h hB fun k hk => by injection hk with hk; omega
theorem Touched.of_below {w w' : World} {m : Nat} (h : Below w.heap.size w w') : Touched w m w' := ⟨h.os, h.tape, h.output, h.size, fun k hk _ => h.block k hk⟩
theorem Touched.setNew {w w' : World} {m : Nat} (h : Touched w m w') {a : Addr} (ha : w.heap.size ≤ a.block) (u : Value) : Touched w m (w'.setCell a u) :=
  ⟨h.os, h.tape, h.output, by simp [World.setCell]; exact h.size, fun k hk hne => by rw [Below.heap_setCell _ _ _ _ (by omega)]; exact h.block k hk hne⟩

def Lv.nkids (l : LvB) (k : Nat) : Nat := ((l.kids.take k).map Lv.nodes).sum
theorem Lv.nkids_snoc (l : LvB) (k : Nat) (h : k < l.kids.length) : l.nkids (k + 1) = l.nkids k + (l.kids[k]).nodes := by
  unfold nkids; rw [List.take_succ_eq_append_getElem h, List.map_append, List.sum_append]; simp
theorem Lv.nkids_lt (l : LvB) (k : Nat) : l.nkids k < l.nodes := by
  cases l with
  | zero => simp [nkids, kids, nodes]
  | param => simp [nkids, kids, nodes]
  | succ a => simp only [nkids, kids, nodes]; rcases k with _ | k <;> simp
  | max a b => simp only [nkids, kids, nodes]; rcases k with _ | _ | k <;> simp <;> omega
  | imax a b => simp only [nkids, kids, nodes]; rcases k with _ | _ | k <;> simp <;> omega
theorem Lv.gkids_le (p : ByteArray) (l : LvB) (d : Bool) : ∀ k, k ≤ l.kids.length → Lv.gkids p l d k ≤ l.nkids k
  | 0, _ => by simp [gkids]
  | k + 1, h => by
    rw [Lv.gkids_succ p l d k (by omega), Lv.nkids_snoc l k (by omega)]
    have := Lv.gkids_le p l d k (by omega)
    have := Lv.gcount_le p (l.under d k) l.kids[k]
    omega

theorem Lv.kid_has {l : LvB} {k : Nat} (h : k < l.kids.length) {p : ByteArray} (hp : Lv.has p l.kids[k]) : Lv.has p l := by
  cases l with
  | zero => simp [kids] at h
  | param => simp [kids] at h
  | succ a => match k, h with | 0, _ => exact hp
  | max a b => match k, h with | 0, _ => exact .inl hp | 1, _ => exact .inr hp
  | imax a b => match k, h with | 0, _ => exact .inl hp | 1, _ => exact .inr hp

set_option maxHeartbeats 1000000 in
theorem gates_param (p : ByteArray) (d : Bool) (f : ByteArray → Nat) (S : ByteArray → Bool) (m cc ck n : Nat) (w : World) (hp : p.size ≤ 1000) (hn : n ≤ 1000000) (hf : f p ≤ 1000000)
    (hcc : w.cell? ⟨cc, 0, none⟩ = some (.map (some m))) (hccb : cc < w.heap.size) (hm : MapIs w m n f S) :
    Calls Tryd.prog 48 #[.agg #[.int .i64 4, .string p, .slice none 0 0], .bool d, .pointer (some ⟨cc, 0, none⟩), .pointer (some ⟨ck, 0, none⟩)] w fun e w' => e = .returned (.tuple #[]) ∧ (∃ S', MapIs w' m (n + 1) (fun q => f q + Lv.gcount q d (.param p)) S') ∧ Touched w m w' := by
  have hpm : p.size ≤ maxLen := by unfold maxLen; omega
  have HM := hide (hm.alloc (.cells #[.int .i64 4, .string p, .slice none 0 0] 28))
  have HL := hide hm.lt
  clear hm
  cases d with
  | false =>
    go_enter Tryd.func48, Tryd.ntmps48
    go_wp2_with fail
    go_loopg [22] 0 (fun _ i wr => i = .int .i64 0 ∧ wr = w.alloc (.cells #[.int .i64 4, .string p, .slice none 0 0] 28))
    case atStart => exact ⟨rfl, rfl⟩
    case round =>
      obtain ⟨rfl, rfl⟩ := hrel
      go_wp2_with fail
      go_end0
      exact ⟨rfl, ⟨S, (HM.out.mono (by omega)).congr (fun q => by simp [Lv.gcount]) fun _ => rfl⟩, Touched.alloc _ _ _⟩
  | true =>
    go_enter Tryd.func48, Tryd.ntmps48
    go_wp2_with (first
      | (at_lookup; refine wpList_look rfl _ _ rfl rfl HM.out p rfl hpm ?_)
      | (at_mapUpdate; refine wpList_put rfl _ _ _ rfl rfl HM.out (by unfold maxLen; omega) p (f p + 1) rfl hpm ?_ (by omega) ?_))
    · rfl
    intro w' hm' hgr
    have hc2 : w'.cell? ⟨w.heap.size, 2, none⟩ = some (.slice none 0 0) := by
      rw [World.cell?_of_block (hgr.block w.heap.size (by simp) (fun e => by injection e with e; have := HL.out; omega))]; simp
    have HM2 := hide hm'
    have HG := hide hgr
    clear hm' hgr
    go_wp2_with fail
    go_loopg [22] 0 (fun _ i wr => i = .int .i64 0 ∧ wr = w')
    case atStart => exact ⟨rfl, rfl⟩
    case round =>
      obtain ⟨rfl, rfl⟩ := hrel
      go_wp2_with fail
      go_end0
      exact ⟨rfl, ⟨_, HM2.out.congr (fun q => by simp only [Lv.gcount, true_and]; split <;> simp_all) fun _ => rfl⟩, (Touched.alloc _ _ _).trans HG.out⟩

set_option maxHeartbeats 1000000 in
theorem gates_walk (N : Nat) : ∀ (l : LvB) (v : Value) (d : Bool) (f : ByteArray → Nat) (S : ByteArray → Bool) (m cc ck n B : Nat) (w : World), l.nodes ≤ N → (∀ p, Lv.has p l → p.size ≤ 1000) → n + l.nodes ≤ 1000000 → (∀ p, f p + l.nodes ≤ 1000000) →
    InLv w B l v → B ≤ m → w.cell? ⟨cc, 0, none⟩ = some (.map (some m)) → w.cell? ⟨ck, 0, none⟩ = some (.func (.func 48) #[] #[.pointer (some ⟨cc, 0, none⟩), .pointer (some ⟨ck, 0, none⟩)]) → cc ≠ m → ck ≠ m → MapIs w m n f S →
    Calls Tryd.prog 48 #[v, .bool d, .pointer (some ⟨cc, 0, none⟩), .pointer (some ⟨ck, 0, none⟩)] w fun e w' => e = .returned (.tuple #[]) ∧ (∃ S', MapIs w' m (n + l.nodes) (fun q => f q + Lv.gcount q d l) S') ∧ Touched w m w' := by
  induction N with
  | zero => intro l v d f S m cc ck n B w h; cases l <;> simp [Lv.nodes] at h
  | succ N ih =>
    intro l v d f S m cc ck n B w hN hnm hn hf hl hBm hcc hck hcm hkm hm
    have hccb := World.block_lt_of_cell? _ _ hcc
    have hckb := World.block_lt_of_cell? _ _ hck
    simp only [] at hccb hckb
    have hmb := hm.lt
    by_cases hp : l.kind = 4
    · cases l <;> simp [Lv.kind] at hp
      rename_i p
      have e : v = _ := hl
      subst e
      simp only [Lv.nodes] at *
      exact gates_param p d f S m cc ck n w (hnm p rfl) (by omega) (by have := hf p; omega) hcc hccb hm
    · obtain ⟨A, cap, rfl, hk⟩ := hl.shape
      have HK := hide hk
      have IH := hide ih
      have HNm := hide hnm
      have HF := hide hf
      have hk2 := l.kids_le
      have hk4 := l.kind_le
      have hq : ((l.kind : Int) == 4) = false := by simp; omega
      have HM := hide (hm.alloc (.cells #[.int .i64 l.kind, .string l.nm, .slice A l.kids.length cap] 28))
      have HP := hide hp
      have HCC := hide hcc
      have HCK := hide hck
      clear hk ih hl hp hm hnm hf hcc hck
      go_enter Tryd.func48, Tryd.ntmps48
      go_wp2_with fail
      go_loopg [22] (l.kids.length) (fun g i wr => ∃ k : Nat, k + g = l.kids.length ∧ i = .int .i64 k ∧ (∃ S', MapIs wr m (n + l.nkids k) (fun q => f q + Lv.gkids q l d k) S') ∧ Touched (w.alloc (.cells #[.int .i64 l.kind, .string l.nm, .slice A l.kids.length cap] 28)) m wr)
      case atStart => exact ⟨0, by omega, rfl, ⟨S, HM.out.congr (fun q => by simp [Lv.gkids]) fun _ => rfl⟩, Touched.refl _ _⟩
      case round =>
        obtain ⟨k, hkg, rfl, ⟨S', hmap⟩, htou⟩ := hrel
        have hz := htou.size
        simp at hz
        have g0 : wr.cell? ⟨w.heap.size, 0, none⟩ = some (.int .i64 l.kind) := by rw [htou.cell (by simp) (by simp; omega)]; simp
        have HMa := hide hmap
        have HT := hide htou
        clear hmap htou
        by_cases hlt : k < l.kids.length
        · obtain ⟨b, x, rfl, hbB, h3, hin⟩ := HK.out k hlt
          obtain ⟨k', nm', A', n', cap', rfl, c0, c1, c2⟩ := h3
          have hwr : Touched w m wr := (Touched.alloc _ _ _).trans HT.out
          have hbw : b < w.heap.size := World.block_lt_of_cell? _ _ c0
          have d0 : wr.cell? ⟨b, k * 3, none⟩ = some (.int .i64 k') := by rw [hwr.cell hbw (by show b ≠ m; omega)]; exact c0
          have d1 : wr.cell? ⟨b, k * 3 + 1, none⟩ = some (.string nm') := by rw [hwr.cell hbw (by show b ≠ m; omega)]; exact c1
          have d2 : wr.cell? ⟨b, k * 3 + 2, none⟩ = some (.slice A' n' cap') := by rw [hwr.cell hbw (by show b ≠ m; omega)]; exact c2
          have d3 : wr.cell? ⟨cc, 0, none⟩ = some (.map (some m)) := by rw [hwr.cell hccb hcm]; exact HCC.out
          have d4 : wr.cell? ⟨ck, 0, none⟩ = some (.func (.func 48) #[] #[.pointer (some ⟨cc, 0, none⟩), .pointer (some ⟨ck, 0, none⟩)]) := by rw [hwr.cell hckb hkm]; exact HCK.out
          have hnk := Lv.kid_nodes hlt
          have HSn := hide (fun q => Lv.gkids_succ q l d k hlt)
          have HSm := hide (l.nkids_snoc k hlt)
          have hlt2 := l.nkids_lt (k + 1)
          have hlt3 := hlt2
          rw [HSm.out] at hlt3
          have HI : Hid (∀ W, Below wr.heap.size wr W → ∀ d', Calls Tryd.prog 48 #[.agg #[.int .i64 k', .string nm', .slice A' n' cap'], .bool d', .pointer (some ⟨cc, 0, none⟩), .pointer (some ⟨ck, 0, none⟩)] W fun e w' => e = .returned (.tuple #[]) ∧ (∃ S', MapIs w' m (n + l.nkids k + (l.kids[k]).nodes) (fun q => f q + Lv.gkids q l d k + Lv.gcount q d' l.kids[k]) S') ∧ Touched W m w') := fun W hW d' => by
            have hb2 : Below B w wr := hwr.below (by omega) hBm
            have hmw : m < wr.heap.size := HMa.out.lt
            refine IH.out _ _ d' _ S' m cc ck _ B W (by omega) (fun p hp => HNm.out p (Lv.kid_has hlt hp)) (by omega) (fun p => by have := Lv.gkids_le p l d k (by omega); have := HF.out p; omega) ((hin.below hb2).below (hW.mono (by omega))) hBm (cell_later hW d3) (cell_later hW d4) hcm hkm (HMa.out.below hW hmw)
          have HW := hide hwr
          have hckw : ck < wr.heap.size := by omega
          have hwwr : w.heap.size < wr.heap.size := by omega
          clear c0 c1 c2 hin hwr d3
          cases d with
          | true =>
            have hund : l.under true k = true := rfl
            go_wp2_with (go_at_call 48; refine (HI.out _ ?_ true).mono ?_)
            · exact (Below.refl _ _).alloc (Nat.le_refl _) _
            rintro e w' ⟨rfl, ⟨S2, hm2⟩, ht2⟩
            have HM2 := hide hm2
            have HT2 := hide ht2
            clear hm2 ht2
            go_wp2_with fail
            go_roundg (l.kids.length - (k + 1))
            case measure => omega
            case rel => exact ⟨k + 1, by omega, by go_num, ⟨S2, by rw [HSm.out, ← Nat.add_assoc]; exact HM2.out.congr (fun q => by rw [HSn.out q, hund, Nat.add_assoc]) fun _ => rfl⟩, HT.out.trans ((Touched.alloc _ _ _).trans HT2.out)⟩
          | false =>
            by_cases h3 : l.kind = 3
            · have hq3 : ((l.kind : Int) == 3) = true := by simp [h3]
              by_cases h1 : k = 1
              · have hq1 : ((k : Int) == 1) = true := by simp [h1]
                have hund : Hid (l.under false k = true) := by simp [Hid, Lv.under, h3, h1]
                have H3 := hide h3
                have H1 := hide h1
                clear h3 h1
                go_wp2_with (go_at_call 48; refine (HI.out _ ?_ true).mono ?_)
                · exact (Below.refl _ _).alloc (Nat.le_refl _) _
                rintro e w' ⟨rfl, ⟨S2, hm2⟩, ht2⟩
                have HM2 := hide hm2
                have HT2 := hide ht2
                clear hm2 ht2
                go_wp2_with fail
                go_roundg (l.kids.length - (k + 1))
                case measure => omega
                case rel => exact ⟨k + 1, by omega, by go_num, ⟨S2, by rw [HSm.out, ← Nat.add_assoc]; exact HM2.out.congr (fun q => by rw [HSn.out q, hund.out, Nat.add_assoc]) fun _ => rfl⟩, HT.out.trans ((Touched.alloc _ _ _).trans HT2.out)⟩
              · have hq1 : ((k : Int) == 1) = false := by simp; omega
                have hund : Hid (l.under false k = false) := by simp [Hid, Lv.under, h1]
                have H3 := hide h3
                clear h3 h1
                go_wp2_with (go_at_call 48; refine (HI.out _ ?_ false).mono ?_)
                · exact (Below.refl _ _).alloc (Nat.le_refl _) _
                rintro e w' ⟨rfl, ⟨S2, hm2⟩, ht2⟩
                have HM2 := hide hm2
                have HT2 := hide ht2
                clear hm2 ht2
                go_wp2_with fail
                go_roundg (l.kids.length - (k + 1))
                case measure => omega
                case rel => exact ⟨k + 1, by omega, by go_num, ⟨S2, by rw [HSm.out, ← Nat.add_assoc]; exact HM2.out.congr (fun q => by rw [HSn.out q, hund.out, Nat.add_assoc]) fun _ => rfl⟩, HT.out.trans ((Touched.alloc _ _ _).trans HT2.out)⟩
            · have hq3 : ((l.kind : Int) == 3) = false := by simp; omega
              have hund : Hid (l.under false k = false) := by simp [Hid, Lv.under, h3]
              clear h3
              go_wp2_with (go_at_call 48; refine (HI.out _ ?_ false).mono ?_)
              · exact (Below.refl _ _).alloc (Nat.le_refl _) _
              rintro e w' ⟨rfl, ⟨S2, hm2⟩, ht2⟩
              have HM2 := hide hm2
              have HT2 := hide ht2
              clear hm2 ht2
              go_wp2_with fail
              go_roundg (l.kids.length - (k + 1))
              case measure => omega
              case rel => exact ⟨k + 1, by omega, by go_num, ⟨S2, by rw [HSm.out, ← Nat.add_assoc]; exact HM2.out.congr (fun q => by rw [HSn.out q, hund.out, Nat.add_assoc]) fun _ => rfl⟩, HT.out.trans ((Touched.alloc _ _ _).trans HT2.out)⟩
        · have hke : k = l.kids.length := by omega
          subst hke
          go_wp2_with fail
          go_end0
          have := l.nkids_lt l.kids.length
          exact ⟨rfl, ⟨S', (HMa.out.mono (by omega)).congr (fun q => by rw [Lv.gkids_all q l d HP.out]) fun _ => rfl⟩, (Touched.alloc _ _ _).trans HT.out⟩

end Go.Proofs.YtpdoegjddiaaoaaDoor
