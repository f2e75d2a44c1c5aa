/- The signs, in the order of the table: which one a text begins with. No walk. -/
import Derived.Test.YtockffblncdikaaGreatDoorBa
import Derived.Test.YtockffblncdikaaGreatDoorLxB
import Derived.Shelf.Small.Strs
import Derived.Lib.IndexLaws
namespace Go.Proofs.YtockffblncdikaaGreatDoor
open Go.RowKit
set_option maxRecDepth 100000
set_option maxHeartbeats 16000000
def LvsIn (w : World) (S : Nat -> Prop) (A : Option Addr) (ls : List LvB) : Prop := ∀ i (hi : i < ls.length), ∃ b x, A = some ⟨b, 0, none⟩ /\ S b /\ Three w b (i * 3) x /\ InP w S ls[i] x
theorem LvsIn.keep {w w' : World} {S S' : Nat -> Prop} (h : ∀ b, b < w.heap.size -> S b -> S' b /\ w'.heap[b]? = w.heap[b]?) {A : Option Addr} {ls : List LvB} (hl : LvsIn w S A ls) : LvsIn w' S' A ls := by
 intro i hi; obtain ⟨b, x, e, hb, h3, hp⟩ := hl i hi; exact ⟨b, x, e, (h b h3.lt hb).1, h3.of_block (h b h3.lt hb).2, hp.keep h⟩
def Opn (w : World) (b : Nat) : Prop := ∀ k, w.frozen? ⟨b, k, none⟩ = false
theorem Opn.keep {w w' : World} {b : Nat} (h : Opn w b) (hk : w'.heap[b]? = w.heap[b]?) : Opn w' b := fun k => (World.frozen?_of_block (a := ⟨b, k, none⟩) hk).trans (h k)
theorem GRow.opn {K : World -> (Nat -> Prop) -> Nat -> Value -> Prop} {W : World} {T z B n0 k : Nat} {rv : Value} {xs : List Value} (h : GRow K W T z B n0 k rv xs) {g : Nat} (hg : rv.ownBlock = some g) : Opn W g := by
 rcases h.own.2 with ⟨e, _⟩ | ⟨g', cap, cur, e, _, hb, _⟩
 . rw [e] at hg; cases hg
 . rw [e] at hg
   simp only [Value.ownBlock, Option.some.injEq] at hg
   subst hg; exact frozen_of hb
theorem GRow.opn' {K : World -> (Nat -> Prop) -> Nat -> Value -> Prop} {W : World} {T z B n0 k : Nat} {rv : Value} {xs : List Value} (h : GRow K W T z B n0 k rv xs) {A : Option Addr} {n c g : Nat} (e : rv = .slice A n c) (ea : A = some ⟨g, 0, none⟩) : Opn W g := h.opn (by subst ea; subst e; rfl)
abbrev xcs (kd a : Int) (nm : ByteArray) (ex gi inf im : Bool) (l x : Value) : Array Value := #[.int .i64 kd, .int .i64 a, .string nm, .bool ex, .bool gi, .bool inf, .bool im, l, x]
inductive InX (w : World) (S : Nat -> Prop) : Ex -> Array Value -> Prop
 | mk {kd a : Nat} {nm : ByteArray} {ex gi inf im : Bool} {ls : List LvB} {xs : List Ex} (A : Option Addr) (c : Nat) (A' : Option Addr) (c' : Nat) (hl : LvsIn w S A ls) (vs : Nat -> Array Value)
    (hb : ∀ i, i < xs.length -> ∃ b, A' = some ⟨b, 0, none⟩ /\ S b /\ ((vs i).size = 9 /\ Opn w b) /\ ∀ q, q < 9 -> w.cell? ⟨b, i * 9 + q, none⟩ = (vs i)[q]?)
    (hx : ∀ i (h : i < xs.length), InX w S xs[i] (vs i)) :
    InX w S (.node kd a nm ex gi inf im ls xs) (xcs (kd : Nat) (a : Nat) nm ex gi inf im (.slice A ls.length c) (.slice A' xs.length c'))
theorem cells_lt {w : World} {b o : Nat} {v : Array Value} (hz : v.size = 9) (h : ∀ q, q < 9 -> w.cell? ⟨b, o + q, none⟩ = v[q]?) : b < w.heap.size :=
 World.block_lt_of_cell? _ ⟨b, o + 0, none⟩ ((h 0 (by omega)).trans (Array.getElem?_eq_getElem (by omega)))
theorem InX.keep {w w' : World} {S S' : Nat -> Prop} (h : ∀ b, b < w.heap.size -> S b -> S' b /\ w'.heap[b]? = w.heap[b]?) {x : Ex} {v : Array Value} (hx : InX w S x v) : InX w' S' x v := by
 induction hx with
 | mk A c A' c' hl vs hb _ ih =>
   refine InX.mk A c A' c' (hl.keep h) vs (fun i hi => ?_) ih; obtain ⟨b, e, hS, hz, hc⟩ := hb i hi; have h1 := h b (cells_lt hz.1 hc) hS
   exact ⟨b, e, h1.1, ⟨hz.1, hz.2.keep h1.2⟩, fun q hq => (World.cell?_of_block h1.2).trans (hc q hq)⟩
theorem InX.size {w : World} {S : Nat -> Prop} {x : Ex} {v : Array Value} (h : InX w S x v) : v.size = 9 := by cases h; rfl
theorem InX.cells {w : World} {S : Nat -> Prop} {x : Ex} {v : Array Value} (h : InX w S x v) : ∃ (kd a : Int) (nm : ByteArray) (ex gi inf im : Bool) (A : Option Addr) (m c : Nat) (A' : Option Addr) (m' c' : Nat), v = xcs kd a nm ex gi inf im (.slice A m c) (.slice A' m' c') := by
 cases h; exact ⟨_, _, _, _, _, _, _, _, _, _, _, _, _, rfl⟩
theorem InX.one {w : World} {S : Nat -> Prop} {x : Ex} {v : Array Value} (h : InX w S x v) : v.all (·.oneCell') = true := by cases h; simp [Value.oneCell']
theorem InX.touched {w w' : World} {S : Nat -> Prop} {m : Nat} {x : Ex} {v : Array Value} (h : InX w S x v) (ht : Touched w m w') (hS : ∀ b, S b -> b ≠ m) : InX w' S x v := h.keep fun b hb hs => ⟨hs, ht.at hb (hS b hs)⟩
theorem InX.later {w w' : World} {S : Nat -> Prop} {x : Ex} {v : Array Value} (h : InX w S x v) (ht : Below w.heap.size w w') : InX w' S x v := h.keep fun b hb hs => ⟨hs, ht.block b hb⟩
theorem InX.mono {w : World} {S S' : Nat -> Prop} {x : Ex} {v : Array Value} (h : InX w S x v) (hS : ∀ b, S b -> S' b) : InX w S' x v := h.keep fun b _ hs => ⟨hS b hs, rfl⟩
def XK (xs : List Ex) (W : World) (S : Nat -> Prop) (j : Nat) (v : Value) : Prop := ∃ h : j < xs.length, ∃ a, v = .agg a /\ InX W S xs[j] a
def LK (ls : List LvB) (W : World) (S : Nat -> Prop) (j : Nat) (v : Value) : Prop := ∃ h : j < ls.length, InP W S ls[j] v
theorem XK.keeps (xs : List Ex) : Keeps (XK xs) := fun _ _ _ _ _ _ h ⟨hj, a, e, hp⟩ => ⟨hj, a, e, hp.keep h⟩
theorem LK.keeps (ls : List LvB) : Keeps (LK ls) := fun _ _ _ _ _ _ h ⟨hj, hp⟩ => ⟨hj, hp.keep h⟩
def XsIn (w : World) (S : Nat -> Prop) (A : Option Addr) (xs : List Ex) : Prop := ∃ vs : Nat -> Array Value, (∀ i, i < xs.length -> ∃ b, A = some ⟨b, 0, none⟩ /\ S b /\ ((vs i).size = 9 /\ Opn w b) /\ ∀ q, q < 9 -> w.cell? ⟨b, i * 9 + q, none⟩ = (vs i)[q]?) /\ ∀ i (h : i < xs.length), InX w S xs[i] (vs i)
theorem InX.of {w : World} {S : Nat -> Prop} {kd a : Nat} {nm : ByteArray} {ex gi inf im : Bool} {ls : List LvB} {xs : List Ex} {A : Option Addr} {c : Nat} {A' : Option Addr} {c' : Nat} (hl : LvsIn w S A ls) (hx : XsIn w S A' xs) :
 InX w S (.node kd a nm ex gi inf im ls xs) (xcs (kd : Nat) (a : Nat) nm ex gi inf im (.slice A ls.length c) (.slice A' xs.length c')) := by
 obtain ⟨vs, hb, hx⟩ := hx; exact InX.mk A c A' c' hl vs hb hx
theorem XsIn.nil (w : World) (S : Nat -> Prop) (A : Option Addr) : XsIn w S A [] := ⟨fun _ => #[], fun i hi => absurd hi (by simp), fun i hi => absurd hi (by simp)⟩
theorem LvsIn.nil (w : World) (S : Nat -> Prop) (A : Option Addr) : LvsIn w S A [] := fun i hi => absurd hi (by simp)
theorem XsIn.keep {w w' : World} {S S' : Nat -> Prop} (h : ∀ b, b < w.heap.size -> S b -> S' b /\ w'.heap[b]? = w.heap[b]?) {A : Option Addr} {xs : List Ex} (hx : XsIn w S A xs) : XsIn w' S' A xs := by
 obtain ⟨vs, hb, hx⟩ := hx; refine ⟨vs, fun i hi => ?_, fun i hi => (hx i hi).keep h⟩; obtain ⟨b, e, hS, hz, hc⟩ := hb i hi; have h1 := h b (cells_lt hz.1 hc) hS
 exact ⟨b, e, h1.1, ⟨hz.1, hz.2.keep h1.2⟩, fun q hq => (World.cell?_of_block h1.2).trans (hc q hq)⟩
theorem InP.form {w : World} {S : Nat -> Prop} : ∀ {l : LvB} {v : Value}, InP w S l v -> ∃ (k : Int) (nm : ByteArray) (A : Option Addr) (n cap : Nat), v = .agg #[.int .i64 k, .string nm, .slice A n cap]
 | .zero, _, h => ⟨_, _, _, _, _, h⟩
 | .param _, _, h => ⟨_, _, _, _, _, h⟩
 | .succ _, _, ⟨_, _, _, h, _⟩ => ⟨_, _, _, _, _, h⟩
 | .max _ _, _, ⟨_, _, _, _, h, _⟩ => ⟨_, _, _, _, _, h⟩
 | .imax _ _, _, ⟨_, _, _, _, h, _⟩ => ⟨_, _, _, _, _, h⟩
theorem GRow.levels {W : World} {T B n0 : Nat} {ls : List LvB} {rv : Value} {xs : List Value} (h : GRow (LK ls) W T 3 B n0 ls.length rv xs) : ∃ A c, rv = .slice A ls.length c /\ LvsIn W (fun b => b < B \/ n0 <= b) A ls := by
 obtain ⟨A, c, e, hp⟩ := h.out (LK.keeps _); refine ⟨A, c, e, fun i hi => ?_⟩; obtain ⟨g, a, ea, hg, hz, hc, _, hin⟩ := hp i hi; obtain ⟨k, nm, A1, m1, c1, ev⟩ := hin.form
 refine ⟨g, .agg a, ea, .inr hg, ⟨k, nm, A1, m1, c1, ev, ?_⟩, hin⟩; injection ev with ev; subst ev; exact ⟨by simpa using hc 0 (by omega), by simpa using hc 1 (by omega), by simpa using hc 2 (by omega)⟩
end Go.Proofs.YtockffblncdikaaGreatDoor
namespace Go.Proofs.YtockffblncdikaaGreatDoor
open Go.RowKit Go.Shelf
set_option maxRecDepth 100000
set_option maxHeartbeats 16000000
theorem isBlank_calls (c : Nat) (w : World) : Calls Tryz.prog 60 #[.int .u8 (c : Nat)] w fun e w' => e = .returned (.bool (blankB c)) /\ w' = w := by
 go_enter Tryz.func60, Tryz.ntmps60
 go_wp2
 all_goals
  go_ret; refine ⟨ret_bool ?_, rfl⟩; rw [Bool.eq_iff_iff]
  simp [blankB]
  try omega
theorem isLetter_calls (c : Nat) (w : World) : Calls Tryz.prog 63 #[.int .u8 (c : Nat)] w fun e w' => e = .returned (.bool (alphaB c)) /\ w' = w := by
 go_enter Tryz.func63, Tryz.ntmps63
 go_wp2
 all_goals
  go_ret; refine ⟨ret_bool ?_, rfl⟩; rw [Bool.eq_iff_iff]
  simp [alphaB]
  try omega
theorem isDigit_calls (c : Nat) (w : World) : Calls Tryz.prog 66 #[.int .u8 (c : Nat)] w fun e w' => e = .returned (.bool (digitB c)) /\ w' = w := by
 go_enter Tryz.func66, Tryz.ntmps66
 go_wp2
 all_goals
  go_ret; refine ⟨ret_bool ?_, rfl⟩; rw [Bool.eq_iff_iff]
  simp [digitB]
  try omega
theorem continuesName_calls (c : Nat) (w : World) : Calls Tryz.prog 84 #[.int .u8 (c : Nat)] w fun e w' => e = .returned (.bool (partB c)) /\ w' = w := by
 have KL := hide (isLetter_calls c w); have KD := hide (isDigit_calls c w); have HP : Hid (partB c = (alphaB c || digitB c || c == 95 || c == 39)) := rfl; generalize alphaB c = a at *; generalize digitB c = d at *
 cases a <;> cases d <;>
 (go_enter Tryz.func84, Tryz.ntmps84
  go_wp2_with (first | (go_at_call 63; refine KL.out.mono ?_; rintro e w' ⟨rfl, rfl⟩) | (go_at_call 66; refine KD.out.mono ?_; rintro e w' ⟨rfl, rfl⟩))
  all_goals
   go_ret; refine ⟨ret_bool ?_, rfl⟩; rw [HP.out, Bool.eq_iff_iff]
   simp
   try omega)
structure Tests (F : FuncId) (f : Nat -> Bool) : Prop where
 enter : ∀ (args : Array Value) (w' : World), Sem.run Tryz.prog (callFunc F args) w' = .ok (.enter F args) w'
 calls : ∀ (c : Nat) (w : World), Calls Tryz.prog F #[.int .u8 (c : Nat)] w fun e w' => e = .returned (.bool (f c)) /\ w' = w
theorem digit_tests : Tests 66 digitB := ⟨fun args w' => by simp [go_sem], isDigit_calls⟩
theorem part_tests : Tests 84 partB := ⟨fun args w' => by simp [go_sem], continuesName_calls⟩
theorem runLength_calls (F : FuncId) (f : Nat -> Bool) (hF : Tests F f) (s : ByteArray) (w : World) (hs : s.size <= 200000) :
 Calls Tryz.prog 67 #[.string s, .func (.func F) #[] #[]] w fun e w' => e = .returned (.int .i64 (runTo f s 0 : Nat)) /\ w' = w := by
 have HF := hide hF; have hen := hF.enter; clear hF
 go_enter Tryz.func67, Tryz.ntmps67
 go_wp2_with fail
 go_loopg [5] s.size (fun g v wr => ∃ k : Nat, k + g = s.size /\ v = .int .i64 (k : Nat) /\ Hid (runTo f s k = runTo f s 0) /\ wr = w)
 case atStart => exact ⟨0, by omega, rfl, rfl, rfl⟩
 case round =>
  obtain ⟨k, hkg, rfl, HR, rfl⟩ := hrel
  by_cases hk : k < s.size
  . have e1 : decide ((k : Int) < (s.size : Int)) = true := by simp; omega
    have HC := hide (HF.out.calls (at_ s k) wr); rw [<- at_eq hk] at HC
    by_cases hf : f (at_ s k) = true
    . have HRn := hide ((runTo_step hk hf).symm.trans HR.out)
      rw [at_eq hk, hf, <- at_eq hk] at HC
      go_wp2_with (refine HC.out.mono ?_; rintro e w' ⟨rfl, rfl⟩)
      go_roundg (s.size - (k + 1))
      case measure => omega
      case rel => exact ⟨k + 1, by omega, by go_num, HRn, rfl⟩
    . have hf' : f (at_ s k) = false := by simpa using hf
      have HRn := hide ((runTo_stop (s := s) (k := k) hf').symm.trans HR.out); rw [at_eq hk, hf', <- at_eq hk] at HC; clear hf hf'
      go_wp2_with (refine HC.out.mono ?_; rintro e w' ⟨rfl, rfl⟩)
      go_ret; exact ⟨ret_int (by rw [<- HRn.out]), rfl⟩
  . have hke : k = s.size := by omega
    have HRn := hide ((runTo_end (f := f) (s := s) (k := k) (by omega)).symm.trans HR.out); have e1 : decide ((k : Int) < (s.size : Int)) = false := by simp; omega
    go_wp2_with fail
    go_ret; exact ⟨ret_int (by rw [<- HRn.out]), rfl⟩
theorem has_self {s : ByteArray} {p e : Nat} (h : p <= e) (he : e <= s.size) : Has s p (s.extract p e).data.toList /\ (s.extract p e).size = e - p := by
 have hz : (s.extract p e).size = e - p := by rw [ByteArray.size_extract]; omega
 have hl : (s.extract p e).data.toList.length = e - p := by rw [Array.length_toList]; exact hz
 refine ⟨⟨by rw [hl]; omega, fun i hi => ?_⟩, hz⟩; rw [hl] at hi; have e1 := at_data (s.extract p e) i (by show i < (s.extract p e).size; omega); have e2 := at_extract (s := s) (a := p) (b := e) (i := i) he (by omega)
 rw [<- e2, e1]
theorem suf_size {s : ByteArray} {p : Nat} : (s.extract p s.size).size = s.size - p := by rw [ByteArray.size_extract]; omega
theorem suf_at {s : ByteArray} {p i : Nat} (h : p + i < s.size) : at_ (s.extract p s.size) i = at_ s (p + i) := at_extract (Nat.le_refl _) h
theorem suf_run {f : Nat -> Bool} {s : ByteArray} {p i : Nat} (h : p + i <= s.size) : runTo f s (p + i) = p + runTo f (s.extract p s.size) i := by
 have hz := suf_size (s := s) (p := p); exact runTo_in (has_self (by omega) (Nat.le_refl _)).1 (fun h2 => by omega) _ i rfl (by omega)
theorem suf_run0 {f : Nat -> Bool} {s : ByteArray} {p : Nat} (h : p <= s.size) : runTo f s p = p + runTo f (s.extract p s.size) 0 := suf_run (i := 0) (by omega)
theorem suf_name {s : ByteArray} {p : Nat} (h : p <= s.size) : lnameEnd s p = p + lnameEnd (s.extract p s.size) 0 := by
 have hz := suf_size (s := s) (p := p); unfold lnameEnd; rw [suf_run0 h, dots_in (has_self (by omega) (Nat.le_refl _)).1 (fun h2 => by omega) (fun h2 => by omega) _ _ (Nat.le_refl _) (runTo_le partB _ (Nat.zero_le _))]
theorem nameLength_calls (s : ByteArray) (w : World) (hs : s.size <= 200000) :
 Calls Tryz.prog 64 #[.string s] w fun e w' => e = .returned (.int .i64 (lnameEnd s 0 : Nat)) /\ w' = w := by
 have K0 := hide (runLength_calls 84 partB part_tests s w hs); have h0 := runTo_le partB s (Nat.zero_le _); have HE : Hid (dots s (runTo partB s 0) = lnameEnd s 0) := rfl; generalize runTo partB s 0 = k0 at *
 go_enter Tryz.func64, Tryz.ntmps64
 go_wp2_with (go_at_call 67; refine K0.out.mono ?_; rintro e w' ⟨rfl, rfl⟩)
 go_loopg [3] (s.size - k0) (fun g v wr => ∃ k : Nat, k + g = s.size /\ v = .int .i64 (k : Nat) /\ Hid (dots s k = lnameEnd s 0) /\ wr = w')
 case atStart => exact ⟨k0, by omega, rfl, HE.out, rfl⟩
 case round =>
  obtain ⟨k, hkg, rfl, HR, rfl⟩ := hrel; clear HE K0 h0
  by_cases hk : k + 1 < s.size
  . have hk0 : k < s.size := by omega
    have e1 : decide ((k : Int) + 1 < (s.size : Int)) = true := by simp; omega
    have HL := hide (isLetter_calls (at_ s (k + 1)) wr); rw [<- at_eq hk] at HL
    by_cases hd : at_ s k = 46
    . have d1 : (((s[k]'hk0).toNat : Int) == 46) = true := by rw [at_eq hk0, hd]; rfl
      by_cases ha : alphaB (at_ s (k + 1)) = true
      . have h2 := runTo_ge partB s (k + 1)
        have h3 := runTo_le partB s (k := k + 1) (by omega); have HN : Hid (dots s (runTo partB s (k + 1)) = lnameEnd s 0) := (dots_step hk hd ha).symm.trans HR.out
        have KR := hide (runLength_calls 84 partB part_tests (s.extract (k + 1) s.size) wr (by rw [suf_size]; omega)); have hru := suf_run0 (f := partB) (s := s) (p := k + 1) (by omega)
        generalize runTo partB (s.extract (k + 1) s.size) 0 = r at *; rw [at_eq hk, ha, <- at_eq hk] at HL; clear hd ha
        go_wp2_with (first | (go_at_call 63; refine HL.out.mono ?_; rintro e w' ⟨rfl, rfl⟩) | (go_at_call 67; refine KR.out.mono ?_; rintro e w' ⟨rfl, rfl⟩))
        go_roundg (s.size - (k + 1 + r))
        case measure => omega
        case rel => exact ⟨k + 1 + r, by omega, by go_num, by rw [<- hru]; exact HN.out, rfl⟩
      . have HN : Hid (k = lnameEnd s 0) := (dots_stop (fun h => ha h.2.2)).symm.trans HR.out
        rw [at_eq hk, show alphaB (at_ s (k + 1)) = false from by simpa using ha, <- at_eq hk] at HL; clear hd ha
        go_wp2_with (go_at_call 63; refine HL.out.mono ?_; rintro e w' ⟨rfl, rfl⟩)
        go_ret; exact ⟨ret_int (by rw [<- HN.out]), rfl⟩
    . have HN : Hid (k = lnameEnd s 0) := (dots_stop (fun h => hd h.2.1)).symm.trans HR.out
      have d1 : (((s[k]'hk0).toNat : Int) == 46) = false := by rw [at_eq hk0]; simp; omega
      clear hd HL
      go_wp2_with fail
      go_ret; exact ⟨ret_int (by rw [<- HN.out]), rfl⟩
  . have HN : Hid (k = lnameEnd s 0) := (dots_stop (fun h => hk h.1)).symm.trans HR.out
    have e1 : decide ((k : Int) + 1 < (s.size : Int)) = false := by simp; omega
    go_wp2_with fail
    go_ret; exact ⟨ret_int (by rw [<- HN.out]), rfl⟩
end Go.Proofs.YtockffblncdikaaGreatDoor
namespace Go.Proofs.YtockffblncdikaaGreatDoor
open Go.RowKit Go.Shelf
set_option maxRecDepth 100000
set_option maxHeartbeats 16000000
def nkind (t : ByteArray) : Nat := if isWord t = true then 3 else if 40 < t.size then 4 else 1
theorem isWord_iff {t : ByteArray} : isWord t = true ↔ t = ⟨#[97, 120, 105, 111, 109]⟩ \/ t = ⟨#[100, 101, 102]⟩ \/ t = ⟨#[116, 104, 101, 111, 114, 101, 109]⟩ \/ t = ⟨#[105, 110, 100, 117, 99, 116, 105, 118, 101]⟩ \/ t = ⟨#[102, 117, 110]⟩ \/ t = ⟨#[102, 111, 114, 97, 108, 108]⟩ \/ t = ⟨#[108, 101, 116]⟩ \/ t = ⟨#[105, 110]⟩ \/ t = ⟨#[98, 121]⟩ \/ t = ⟨#[84, 121, 112, 101]⟩ \/ t = ⟨#[80, 114, 111, 112]⟩ \/ t = ⟨#[83, 111, 114, 116]⟩ \/ t = ⟨#[109, 97, 120]⟩ \/ t = ⟨#[105, 109, 97, 120]⟩ := by
 simp [isWord, lwords]
theorem nameKind_calls (t : ByteArray) (w : World) : Calls Tryz.prog 65 #[.string t] w fun e w' => e = .returned (.int .i64 (nkind t : Nat)) /\ w' = w := by
 by_cases hw : isWord t = true
 . have HN : Hid (nkind t = 3) := if_pos hw
   rw [isWord_iff] at hw
   rcases hw with rfl | rfl | rfl | rfl | rfl | rfl | rfl | rfl | rfl | rfl | rfl | rfl | rfl | rfl <;>
   (rw [HN.out]
    clear HN
    go_enter Tryz.func65, Tryz.ntmps65
    go_wp2_with fail
    go_ret; exact ⟨rfl, rfl⟩)
 . have hn := hw
   rw [isWord_iff] at hn
   simp only [not_or] at hn
   obtain ⟨n0, n1, n2, n3, n4, n5, n6, n7, n8, n9, n10, n11, n12, n13⟩ := hn; have m0 := sameLit_neg (l := [97, 120, 105, 111, 109]) n0; have m1 := sameLit_neg (l := [100, 101, 102]) n1
   have m2 := sameLit_neg (l := [116, 104, 101, 111, 114, 101, 109]) n2; have m3 := sameLit_neg (l := [105, 110, 100, 117, 99, 116, 105, 118, 101]) n3; have m4 := sameLit_neg (l := [102, 117, 110]) n4
   have m5 := sameLit_neg (l := [102, 111, 114, 97, 108, 108]) n5; have m6 := sameLit_neg (l := [108, 101, 116]) n6; have m7 := sameLit_neg (l := [105, 110]) n7; have m8 := sameLit_neg (l := [98, 121]) n8
   have m9 := sameLit_neg (l := [84, 121, 112, 101]) n9; have m10 := sameLit_neg (l := [80, 114, 111, 112]) n10; have m11 := sameLit_neg (l := [83, 111, 114, 116]) n11; have m12 := sameLit_neg (l := [109, 97, 120]) n12
   have m13 := sameLit_neg (l := [105, 109, 97, 120]) n13; clear n0 n1 n2 n3 n4 n5 n6 n7 n8 n9 n10 n11 n12 n13
   by_cases h40 : 40 < t.size
   . have HN : Hid (nkind t = 4) := by unfold nkind; rw [if_neg hw, if_pos h40]; exact rfl
     have q : decide ((t.size : Int) > 40) = true := by simp; omega
     rw [HN.out]; clear HN hw
     go_enter Tryz.func65, Tryz.ntmps65
     go_wp2_with fail
     go_ret; exact ⟨rfl, rfl⟩
   . have HN : Hid (nkind t = 1) := by unfold nkind; rw [if_neg hw, if_neg h40]; exact rfl
     have q : decide ((t.size : Int) > 40) = false := by simp; omega
     rw [HN.out]; clear HN hw
     go_enter Tryz.func65, Tryz.ntmps65
     go_wp2_with fail
     go_ret; exact ⟨rfl, rfl⟩
def prefB (s q : ByteArray) : Bool := decide (q.size <= s.size) && decide (s.extract 0 q.size = q)
theorem hasPrefix_calls (s q : ByteArray) (w : World) : Calls Tryz.prog 61 #[.string s, .string q] w fun e w' => e = .returned (.bool (prefB s q)) /\ w' = w := by
 have K : Hid (Calls Tryz.prog 82 #[.string s, .string q] w fun e w' => e = .returned (.bool (prefB s q)) /\ w' = w) := by
  by_cases hz : q.size <= s.size
  . have e1 : decide ((s.size : Int) ≥ (q.size : Int)) = true := by simp; omega
    by_cases hq : s.extract 0 q.size = q
    . have e2 := sameStr_pos hq
      have HB : Hid (prefB s q = true) := hide (by unfold prefB; simp [hz, hq]); rw [HB.out]; clear hq HB
      go_enter Tryz.func82, Tryz.ntmps82
      go_wp2_with fail
      go_ret; exact ⟨rfl, rfl⟩
    . have e2 := sameStr_neg hq
      have HB : Hid (prefB s q = false) := hide (by unfold prefB; simp [hq]); rw [HB.out]; clear hq HB
      go_enter Tryz.func82, Tryz.ntmps82
      go_wp2_with fail
      go_ret; exact ⟨rfl, rfl⟩
  . have e1 : decide ((s.size : Int) ≥ (q.size : Int)) = false := by simp; omega
    have HB : Hid (prefB s q = false) := hide (by unfold prefB; simp [hz]); rw [HB.out]; clear HB
    go_enter Tryz.func82, Tryz.ntmps82
    go_wp2_with fail
    go_ret; exact ⟨rfl, rfl⟩
 go_enter Tryz.func61, Tryz.ntmps61
 go_wp2_with (go_at_call 82; refine K.out.mono ?_; rintro e w' ⟨rfl, rfl⟩)
 go_ret; exact ⟨rfl, rfl⟩
def ixLays_ren : Go.Shelf.Ren := ⟨fun | 137 => 83 | 217 => 106 | 266 => 115 | n => n, fun | 9 => 9 | 5 => 5 | 3 => 3 | n => n, fun | n => n⟩
theorem ixLays : Go.Proofs.Lays.n137 Tryz.prog ixLays_ren := {
 mixed := by kernel_rfl
 f137 := Tryz.func83.trans (congrArg some (by kernel_rfl))
 f217 := Tryz.func106.trans (congrArg some (by kernel_rfl))
 f266 := Tryz.func115.trans (congrArg some (by kernel_rfl))
 t3 := Tryz.underlying3
 a3 := Tryz.isAgg3
 z3 := Tryz.sizeOf3
 v3 := Tryz.zeroValue3
 t5 := Tryz.underlying5
 a5 := Tryz.isAgg5
 z5 := Tryz.sizeOf5
 v5 := Tryz.zeroValue5
 t9 := Tryz.underlying9
 a9 := Tryz.isAgg9
 z9 := Tryz.sizeOf9
 v9 := Tryz.zeroValue9 }
theorem line_index (q : ByteArray) : ∀ (n k : Nat), q.size - k = n -> k <= q.size -> (Lib.indexByte (q.data.toList.drop k) 10 = -1 /\ runTo lineB q k = q.size) \/ ∃ j : Nat, Lib.indexByte (q.data.toList.drop k) 10 = j /\ runTo lineB q k = k + j /\ k + j < q.size
 | 0, k, hn, hk => by
   have e : k = q.size := by omega
   subst e; refine .inl ⟨?_, runTo_end (Nat.le_refl _)⟩; rw [List.drop_eq_nil_of_le (by show q.data.size <= q.size; exact Nat.le_refl _)]
   rfl
 | n + 1, k, hn, hk => by
   have hl : k < q.data.toList.length := by show k < q.data.size; have : q.data.size = q.size := rfl; omega
   have hd := at_data q k (by omega); rw [List.drop_eq_getElem_cons hl]; have ih := line_index q n (k + 1) (by omega) (by omega)
   by_cases hc : q.data.toList[k] = 10
   . refine .inr ⟨0, ?_, ?_, by omega⟩
     . simp [Lib.indexByte, hc]
     . rw [runTo_stop (by rw [hd, hc]; rfl), Nat.add_zero]
   . have h2 : lineB (at_ q k) = true := by
      rw [hd]
      simp [lineB]
      intro e; exact hc (UInt8.toNat_inj.1 e)
     rw [runTo_step (by omega) h2]; have hc' : (q.data.toList[k] == 10) = false := by simpa using hc
     rcases ih with ⟨h3, h4⟩ | ⟨j, h3, h4, h5⟩
     . exact .inl ⟨by simp only [Lib.indexByte, hc', h3]; rfl, h4⟩
     . refine .inr ⟨j + 1, ?_, by omega, by omega⟩
       simp only [Lib.indexByte, hc', h3]
       have : ((j : Int) == -1) = false := by simp
       simp [this]
theorem lineLength_calls (s : ByteArray) (w : World) : Calls Tryz.prog 62 #[.string s] w fun e w' => e = .returned (.int .i64 (runTo lineB s 0 : Nat)) /\ w' = w := by
 have HI := hide (Any.strings_IndexByte ixLays s 10 w); have hx := line_index s _ 0 rfl (Nat.zero_le _); rw [List.drop_zero] at hx; have e0 : (Int.toNat (10 : Int)).toUInt8 = 10 := rfl; rw [e0] at HI
 generalize Lib.indexByte s.data.toList 10 = ix at *; generalize runTo lineB s 0 = r at *
 rcases hx with ⟨rfl, rfl⟩ | ⟨j, rfl, h1, h2⟩
 . go_enter Tryz.func62, Tryz.ntmps62
   go_wp2_with (go_at_call 83; refine HI.out.mono ?_; rintro e w' ⟨rfl, rfl⟩)
   go_ret; exact ⟨rfl, rfl⟩
 . have e1 : decide ((j : Int) ≥ 0) = true := by simp
   go_enter Tryz.func62, Tryz.ntmps62
   go_wp2_with (go_at_call 83; refine HI.out.mono ?_; rintro e w' ⟨rfl, rfl⟩)
   go_ret; exact ⟨ret_int (by omega), rfl⟩
abbrev signL : List ByteArray := [⟨#[58, 61]⟩, ⟨#[61, 62]⟩, ⟨#[45, 62]⟩, ⟨#[46, 123]⟩, ⟨#[40]⟩, ⟨#[41]⟩, ⟨#[123]⟩, ⟨#[125]⟩, ⟨#[64]⟩, ⟨#[95]⟩, ⟨#[58]⟩, ⟨#[61]⟩, ⟨#[44]⟩, ⟨#[46]⟩, ⟨#[59]⟩, ⟨#[124]⟩, ⟨#[43]⟩]
def sgn (k : Nat) : ByteArray := signL.getD k ⟨#[]⟩
theorem pref1 {t : ByteArray} {a : UInt8} (h : 0 < t.size) : prefB t ⟨#[a]⟩ = (at_ t 0 == a.toNat) := by
 have hz : (⟨#[a]⟩ : ByteArray).size = 1 := rfl; rw [Bool.eq_iff_iff]; unfold prefB
 simp only [hz, Bool.and_eq_true, decide_eq_true_eq, beq_iff_eq]
 constructor
 . rintro ⟨_, e⟩
   have := at_extract (s := t) (a := 0) (b := 1) (i := 0) (by omega) (by omega); rw [e, show at_ (⟨#[a]⟩ : ByteArray) 0 = a.toNat from rfl] at this
   simpa using this.symm
 . intro e
   refine ⟨by omega, ?_⟩; refine extract1 ⟨by simp; omega, fun i hi => ?_⟩; have : i = 0 := by simp at hi; omega
   subst this
   simpa using e
theorem pref2 {t : ByteArray} {a b : UInt8} (_ : 0 < t.size) : prefB t ⟨#[a, b]⟩ = (decide (1 < t.size) && (at_ t 0 == a.toNat) && (at_ t 1 == b.toNat)) := by
 have hz : (⟨#[a, b]⟩ : ByteArray).size = 2 := rfl; rw [Bool.eq_iff_iff]; unfold prefB
 simp only [hz, Bool.and_eq_true, decide_eq_true_eq, beq_iff_eq]
 constructor
 . rintro ⟨h2, e⟩
   have e0 := at_extract (s := t) (a := 0) (b := 2) (i := 0) (by omega) (by omega); have e1 := at_extract (s := t) (a := 0) (b := 2) (i := 1) (by omega) (by omega)
   rw [e, show at_ (⟨#[a, b]⟩ : ByteArray) 0 = a.toNat from rfl] at e0; rw [e, show at_ (⟨#[a, b]⟩ : ByteArray) 1 = b.toNat from rfl] at e1; exact ⟨⟨by omega, by simpa using e0.symm⟩, by simpa using e1.symm⟩
 . rintro ⟨⟨h2, e0⟩, e1⟩
   refine ⟨by omega, ?_⟩; refine extract2 ⟨by simp; omega, fun i hi => ?_⟩; have : i = 0 \/ i = 1 := by simp at hi; omega
   rcases this with rfl | rfl
   . simpa using e0
   . simpa using e1
def signLen (t : ByteArray) : Option Nat := if 1 < t.size /\ twoB (at_ t 0) (at_ t 1) = true then some 2 else if oneB (at_ t 0) = true then some 1 else none
theorem sign_some {t : ByteArray} (h : 0 < t.size) {k : Nat} (hk : k < 17) (hp : prefB t (sgn k) = true) (hn : ∀ j, j < k -> prefB t (sgn j) = false) : signLen t = some (sgn k).size := by
 unfold signLen
 match k, hk with
 | 0, _ =>
   have e := (pref2 (a := 58) (b := 61) h).symm.trans hp
   simp only [Bool.and_eq_true, decide_eq_true_eq, beq_iff_eq] at e
   rw [if_pos ⟨e.1.1, by rw [e.1.2, e.2]; rfl⟩]; rfl
 | 1, _ =>
   have e := (pref2 (a := 61) (b := 62) h).symm.trans hp
   simp only [Bool.and_eq_true, decide_eq_true_eq, beq_iff_eq] at e
   rw [if_pos ⟨e.1.1, by rw [e.1.2, e.2]; rfl⟩]; rfl
 | 2, _ =>
   have e := (pref2 (a := 45) (b := 62) h).symm.trans hp
   simp only [Bool.and_eq_true, decide_eq_true_eq, beq_iff_eq] at e
   rw [if_pos ⟨e.1.1, by rw [e.1.2, e.2]; rfl⟩]; rfl
 | 3, _ =>
   have e := (pref2 (a := 46) (b := 123) h).symm.trans hp
   simp only [Bool.and_eq_true, decide_eq_true_eq, beq_iff_eq] at e
   rw [if_pos ⟨e.1.1, by rw [e.1.2, e.2]; rfl⟩]; rfl
 | 4, _ =>
   have e := (pref1 (a := 40) h).symm.trans hp
   simp only [beq_iff_eq] at e
   rw [if_neg (by rw [e]; simp [twoB]), if_pos (by rw [e]; rfl)]; rfl
 | 5, _ =>
   have e := (pref1 (a := 41) h).symm.trans hp
   simp only [beq_iff_eq] at e
   rw [if_neg (by rw [e]; simp [twoB]), if_pos (by rw [e]; rfl)]; rfl
 | 6, _ =>
   have e := (pref1 (a := 123) h).symm.trans hp
   simp only [beq_iff_eq] at e
   rw [if_neg (by rw [e]; simp [twoB]), if_pos (by rw [e]; rfl)]; rfl
 | 7, _ =>
   have e := (pref1 (a := 125) h).symm.trans hp
   simp only [beq_iff_eq] at e
   rw [if_neg (by rw [e]; simp [twoB]), if_pos (by rw [e]; rfl)]; rfl
 | 8, _ =>
   have e := (pref1 (a := 64) h).symm.trans hp
   simp only [beq_iff_eq] at e
   rw [if_neg (by rw [e]; simp [twoB]), if_pos (by rw [e]; rfl)]; rfl
 | 9, _ =>
   have e := (pref1 (a := 95) h).symm.trans hp
   simp only [beq_iff_eq] at e
   rw [if_neg (by rw [e]; simp [twoB]), if_pos (by rw [e]; rfl)]; rfl
 | 10, _ =>
   have e := (pref1 (a := 58) h).symm.trans hp
   simp only [beq_iff_eq] at e
   have m := (pref2 (a := 58) (b := 61) h).symm.trans (hn 0 (by omega))
   have hx : ¬ (1 < t.size /\ twoB (at_ t 0) (at_ t 1) = true) := fun ⟨h1, h2⟩ => by
    rw [e] at h2 m
    simp [twoB] at h2
    simp [h1, h2] at m
   rw [if_neg hx, if_pos (by rw [e]; rfl)]; rfl
 | 11, _ =>
   have e := (pref1 (a := 61) h).symm.trans hp
   simp only [beq_iff_eq] at e
   have m := (pref2 (a := 61) (b := 62) h).symm.trans (hn 1 (by omega))
   have hx : ¬ (1 < t.size /\ twoB (at_ t 0) (at_ t 1) = true) := fun ⟨h1, h2⟩ => by
    rw [e] at h2 m
    simp [twoB] at h2
    simp [h1, h2] at m
   rw [if_neg hx, if_pos (by rw [e]; rfl)]; rfl
 | 12, _ =>
   have e := (pref1 (a := 44) h).symm.trans hp
   simp only [beq_iff_eq] at e
   rw [if_neg (by rw [e]; simp [twoB]), if_pos (by rw [e]; rfl)]; rfl
 | 13, _ =>
   have e := (pref1 (a := 46) h).symm.trans hp
   simp only [beq_iff_eq] at e
   have m := (pref2 (a := 46) (b := 123) h).symm.trans (hn 3 (by omega))
   have hx : ¬ (1 < t.size /\ twoB (at_ t 0) (at_ t 1) = true) := fun ⟨h1, h2⟩ => by
    rw [e] at h2 m
    simp [twoB] at h2
    simp [h1, h2] at m
   rw [if_neg hx, if_pos (by rw [e]; rfl)]; rfl
 | 14, _ =>
   have e := (pref1 (a := 59) h).symm.trans hp
   simp only [beq_iff_eq] at e
   rw [if_neg (by rw [e]; simp [twoB]), if_pos (by rw [e]; rfl)]; rfl
 | 15, _ =>
   have e := (pref1 (a := 124) h).symm.trans hp
   simp only [beq_iff_eq] at e
   rw [if_neg (by rw [e]; simp [twoB]), if_pos (by rw [e]; rfl)]; rfl
 | 16, _ =>
   have e := (pref1 (a := 43) h).symm.trans hp
   simp only [beq_iff_eq] at e
   rw [if_neg (by rw [e]; simp [twoB]), if_pos (by rw [e]; rfl)]; rfl
 | k + 17, hk => omega
theorem sign_none {t : ByteArray} (h : 0 < t.size) (hn : ∀ j, j < 17 -> prefB t (sgn j) = false) : signLen t = none := by
 have m0 := (pref2 (a := 58) (b := 61) h).symm.trans (hn 0 (by omega)); have m1 := (pref2 (a := 61) (b := 62) h).symm.trans (hn 1 (by omega)); have m2 := (pref2 (a := 45) (b := 62) h).symm.trans (hn 2 (by omega))
 have m3 := (pref2 (a := 46) (b := 123) h).symm.trans (hn 3 (by omega)); have m4 := (pref1 (a := 40) h).symm.trans (hn 4 (by omega)); have m5 := (pref1 (a := 41) h).symm.trans (hn 5 (by omega))
 have m6 := (pref1 (a := 123) h).symm.trans (hn 6 (by omega)); have m7 := (pref1 (a := 125) h).symm.trans (hn 7 (by omega)); have m8 := (pref1 (a := 64) h).symm.trans (hn 8 (by omega))
 have m9 := (pref1 (a := 95) h).symm.trans (hn 9 (by omega)); have m10 := (pref1 (a := 58) h).symm.trans (hn 10 (by omega)); have m11 := (pref1 (a := 61) h).symm.trans (hn 11 (by omega))
 have m12 := (pref1 (a := 44) h).symm.trans (hn 12 (by omega)); have m13 := (pref1 (a := 46) h).symm.trans (hn 13 (by omega)); have m14 := (pref1 (a := 59) h).symm.trans (hn 14 (by omega))
 have m15 := (pref1 (a := 124) h).symm.trans (hn 15 (by omega)); have m16 := (pref1 (a := 43) h).symm.trans (hn 16 (by omega))
 have h2 : ¬ (1 < t.size /\ twoB (at_ t 0) (at_ t 1) = true) := fun ⟨h1, h2⟩ => by
  simp [h1] at m0 m1 m2 m3
  simp [twoB] at h2
  omega
 have h3 : ¬ oneB (at_ t 0) = true := fun h3 => by
  simp at m4 m5 m6 m7 m8 m9 m10 m11 m12 m13 m14 m15 m16
  simp [oneB] at h3
  omega
 unfold signLen; rw [if_neg h2, if_neg h3]
end Go.Proofs.YtockffblncdikaaGreatDoor
