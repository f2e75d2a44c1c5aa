/- The contracts of nameKind, HasPrefix, lineLength. -/
import Derived.Test.YtekfledccpeblaaGreatDoorSb
import Derived.Lib.IndexLaws

namespace Go.Proofs.YtekfledccpeblaaGreatDoor
open Go.RowKit Go.Shelf

/-- The kind of a token that is made like a name. -/
def nkind (t : ByteArray) : Nat := if isWord t = true then 3 else if 40 < t.size then 4 else 1

theorem isWord_iff {t : ByteArray} : isWord t = true ↔ t = ⟨#[97, 120, 105, 111, 109]⟩ ∨ t = ⟨#[100, 101, 102]⟩ ∨ t = ⟨#[116, 104, 101, 111, 114, 101, 109]⟩ ∨ t = ⟨#[105, 110, 100, 117, 99, 116, 105, 118, 101]⟩ ∨ t = ⟨#[102, 117, 110]⟩ ∨ t = ⟨#[102, 111, 114, 97, 108, 108]⟩ ∨ t = ⟨#[108, 101, 116]⟩ ∨ t = ⟨#[105, 110]⟩ ∨ t = ⟨#[98, 121]⟩ ∨ t = ⟨#[84, 121, 112, 101]⟩ ∨ t = ⟨#[80, 114, 111, 112]⟩ ∨ t = ⟨#[83, 111, 114, 116]⟩ ∨ t = ⟨#[109, 97, 120]⟩ ∨ t = ⟨#[105, 109, 97, 120]⟩ := by
  simp [isWord, lwords]

set_option maxRecDepth 100000 in
set_option maxHeartbeats 4000000 in
theorem nameKind_calls (t : ByteArray) (w : World) : Calls Tryz.prog 79 #[.string t] w fun e w' => e = .returned (.int .i64 (nkind t : Nat)) ∧ w' = w := by
  by_cases hw : isWord t = true
  · have HN : Hid (nkind t = 3) := if_pos hw
    rw [isWord_iff] at hw
    rcases hw with rfl | rfl | rfl | rfl | rfl | rfl | rfl | rfl | rfl | rfl | rfl | rfl | rfl | rfl <;>
    (rw [HN.out]
     clear HN
     go_enter Tryz.func79, Tryz.ntmps79
     go_wp2_with fail
     go_ret
     exact ⟨rfl, rfl⟩)
  · have hn := hw
    rw [isWord_iff] at hn
    simp only [not_or] at hn
    obtain ⟨n0, n1, n2, n3, n4, n5, n6, n7, n8, n9, n10, n11, n12, n13⟩ := hn
    have m0 := sameLit_neg (l := [97, 120, 105, 111, 109]) n0
    have m1 := sameLit_neg (l := [100, 101, 102]) n1
    have m2 := sameLit_neg (l := [116, 104, 101, 111, 114, 101, 109]) n2
    have m3 := sameLit_neg (l := [105, 110, 100, 117, 99, 116, 105, 118, 101]) n3
    have m4 := sameLit_neg (l := [102, 117, 110]) n4
    have m5 := sameLit_neg (l := [102, 111, 114, 97, 108, 108]) n5
    have m6 := sameLit_neg (l := [108, 101, 116]) n6
    have m7 := sameLit_neg (l := [105, 110]) n7
    have m8 := sameLit_neg (l := [98, 121]) n8
    have m9 := sameLit_neg (l := [84, 121, 112, 101]) n9
    have m10 := sameLit_neg (l := [80, 114, 111, 112]) n10
    have m11 := sameLit_neg (l := [83, 111, 114, 116]) n11
    have m12 := sameLit_neg (l := [109, 97, 120]) n12
    have m13 := sameLit_neg (l := [105, 109, 97, 120]) n13
    clear n0 n1 n2 n3 n4 n5 n6 n7 n8 n9 n10 n11 n12 n13
    by_cases h40 : 40 < t.size
    · have HN : Hid (nkind t = 4) := by unfold nkind; rw [if_neg hw, if_pos h40]; exact rfl
      have q : decide ((t.size : Int) > 40) = true := by simp; omega
      rw [HN.out]
      clear HN hw
      go_enter Tryz.func79, Tryz.ntmps79
      go_wp2_with fail
      go_ret
      exact ⟨rfl, rfl⟩
    · have HN : Hid (nkind t = 1) := by unfold nkind; rw [if_neg hw, if_neg h40]; exact rfl
      have q : decide ((t.size : Int) > 40) = false := by simp; omega
      rw [HN.out]
      clear HN hw
      go_enter Tryz.func79, Tryz.ntmps79
      go_wp2_with fail
      go_ret
      exact ⟨rfl, rfl⟩

/-- A text begins with another. -/
def prefB (s q : ByteArray) : Bool := decide (q.size ≤ s.size) && decide (s.extract 0 q.size = q)

set_option maxHeartbeats 1000000 in
theorem hasPrefix_calls (s q : ByteArray) (w : World) : Calls Tryz.prog 75 #[.string s, .string q] w fun e w' => e = .returned (.bool (prefB s q)) ∧ w' = w := by
  have K : Hid (Calls Tryz.prog 90 #[.string s, .string q] w fun e w' => e = .returned (.bool (prefB s q)) ∧ w' = w) := by
    by_cases hz : q.size ≤ s.size
    · have e1 : decide ((s.size : Int) ≥ (q.size : Int)) = true := by simp; omega
      by_cases hq : s.extract 0 q.size = q
      · have e2 := sameStr_pos hq
        have HB : Hid (prefB s q = true) := hide (by unfold prefB; simp [hz, hq])
        rw [HB.out]
        clear hq HB
        go_enter Tryz.func90, Tryz.ntmps90
        go_wp2_with fail
        go_ret
        exact ⟨rfl, rfl⟩
      · have e2 := sameStr_neg hq
        have HB : Hid (prefB s q = false) := hide (by unfold prefB; simp [hq])
        rw [HB.out]
        clear hq HB
        go_enter Tryz.func90, Tryz.ntmps90
        go_wp2_with fail
        go_ret
        exact ⟨rfl, rfl⟩
    · have e1 : decide ((s.size : Int) ≥ (q.size : Int)) = false := by simp; omega
      have HB : Hid (prefB s q = false) := hide (by unfold prefB; simp [hz])
      rw [HB.out]
      clear HB
      go_enter Tryz.func90, Tryz.ntmps90
      go_wp2_with fail
      go_ret
      exact ⟨rfl, rfl⟩
  go_enter Tryz.func75, Tryz.ntmps75
  go_wp2_with (go_at_call 90; refine K.out.mono ?_; rintro e w' ⟨rfl, rfl⟩)
  go_ret
  exact ⟨rfl, rfl⟩

def ixLays_ren : Go.Shelf.Ren := ⟨fun | 137 => 91 | 217 => 101 | 266 => 108 | n => n, fun | 9 => 9 | 5 => 5 | 3 => 3 | n => n, fun | n => n⟩
theorem ixLays : Go.Proofs.Lays.n137 Tryz.prog ixLays_ren := {
  mixed := by kernel_rfl
  f137 := Tryz.func91.trans (congrArg some (by kernel_rfl))
  f217 := Tryz.func101.trans (congrArg some (by kernel_rfl))
  f266 := Tryz.func108.trans (congrArg some (by kernel_rfl))
  t3 := Tryz.underlying3
  a3 := Tryz.isAgg3
  z3 := Tryz.sizeOf3
  v3 := Tryz.zeroValue3
  t5 := Tryz.underlying5
  a5 := Tryz.isAgg5
  z5 := Tryz.sizeOf5
  v5 := Tryz.zeroValue5
  t9 := Tryz.underlying9
  a9 := Tryz.isAgg9
  z9 := Tryz.sizeOf9
  v9 := Tryz.zeroValue9 }

theorem line_index (q : ByteArray) : ∀ (n k : Nat), q.size - k = n → k ≤ q.size → (Lib.indexByte (q.data.toList.drop k) 10 = -1 ∧ runTo lineB q k = q.size) ∨ ∃ j : Nat, Lib.indexByte (q.data.toList.drop k) 10 = j ∧ runTo lineB q k = k + j ∧ k + j < q.size
  | 0, k, hn, hk => by
    have e : k = q.size := by omega
    subst e
    refine .inl ⟨?_, runTo_end (Nat.le_refl _)⟩
    rw [List.drop_eq_nil_of_le (by show q.data.size ≤ q.size; exact Nat.le_refl _)]
    rfl
  | n + 1, k, hn, hk => by
    have hl : k < q.data.toList.length := by show k < q.data.size; have : q.data.size = q.size := rfl; omega
    have hd := at_data q k (by omega)
    rw [List.drop_eq_getElem_cons hl]
    have ih := line_index q n (k + 1) (by omega) (by omega)
    by_cases hc : q.data.toList[k] = 10
    · refine .inr ⟨0, ?_, ?_, by omega⟩
      · simp [Lib.indexByte, hc]
      · rw [runTo_stop (by rw [hd, hc]; rfl), Nat.add_zero]
    · have h2 : lineB (at_ q k) = true := by
        rw [hd]
        simp [lineB]
        intro e
        exact hc (UInt8.toNat_inj.1 e)
      rw [runTo_step (by omega) h2]
      have hc' : (q.data.toList[k] == 10) = false := by simpa using hc
      rcases ih with ⟨h3, h4⟩ | ⟨j, h3, h4, h5⟩
      · exact .inl ⟨by simp only [Lib.indexByte, hc', h3]; rfl, h4⟩
      · refine .inr ⟨j + 1, ?_, by omega, by omega⟩
        simp only [Lib.indexByte, hc', h3]
        have : ((j : Int) == -1) = false := by simp
        simp [this]

set_option maxHeartbeats 1000000 in
theorem lineLength_calls (s : ByteArray) (w : World) : Calls Tryz.prog 76 #[.string s] w fun e w' => e = .returned (.int .i64 (runTo lineB s 0 : Nat)) ∧ w' = w := by
  have HI := hide (Any.strings_IndexByte ixLays s 10 w)
  have hx := line_index s _ 0 rfl (Nat.zero_le _)
  rw [List.drop_zero] at hx
  have e0 : (Int.toNat (10 : Int)).toUInt8 = 10 := rfl
  rw [e0] at HI
  generalize Lib.indexByte s.data.toList 10 = ix at *
  generalize runTo lineB s 0 = r at *
  rcases hx with ⟨rfl, rfl⟩ | ⟨j, rfl, h1, h2⟩
  · go_enter Tryz.func76, Tryz.ntmps76
    go_wp2_with (go_at_call 91; refine HI.out.mono ?_; rintro e w' ⟨rfl, rfl⟩)
    go_ret
    exact ⟨rfl, rfl⟩
  · have e1 : decide ((j : Int) ≥ 0) = true := by simp
    go_enter Tryz.func76, Tryz.ntmps76
    go_wp2_with (go_at_call 91; refine HI.out.mono ?_; rintro e w' ⟨rfl, rfl⟩)
    go_ret
    exact ⟨ret_int (by omega), rfl⟩

end Go.Proofs.YtekfledccpeblaaGreatDoor

/- The signs, in the order of the table: which one a text begins with. No walk. -/
namespace Go.Proofs.YtekfledccpeblaaGreatDoor
open Go.RowKit

abbrev signL : List ByteArray := [⟨#[58, 61]⟩, ⟨#[61, 62]⟩, ⟨#[45, 62]⟩, ⟨#[46, 123]⟩, ⟨#[40]⟩, ⟨#[41]⟩, ⟨#[123]⟩, ⟨#[125]⟩, ⟨#[64]⟩, ⟨#[95]⟩, ⟨#[58]⟩, ⟨#[61]⟩, ⟨#[44]⟩, ⟨#[46]⟩, ⟨#[59]⟩, ⟨#[124]⟩, ⟨#[43]⟩]
def sgn (k : Nat) : ByteArray := signL.getD k ⟨#[]⟩

theorem byte_eq {a : UInt8} {n : Nat} (h : n < 256) : a.toNat = n ↔ a = UInt8.ofNat n := by
  constructor
  · intro e; rw [← e]; simp
  · rintro rfl; simp; omega
theorem pref1 {t : ByteArray} {a : UInt8} (h : 0 < t.size) : prefB t ⟨#[a]⟩ = (at_ t 0 == a.toNat) := by
  have hz : (⟨#[a]⟩ : ByteArray).size = 1 := rfl
  rw [Bool.eq_iff_iff]
  unfold prefB
  simp only [hz, Bool.and_eq_true, decide_eq_true_eq, beq_iff_eq]
  constructor
  · rintro ⟨_, e⟩
    have := at_extract (s := t) (a := 0) (b := 1) (i := 0) (by omega) (by omega)
    rw [e, show at_ (⟨#[a]⟩ : ByteArray) 0 = a.toNat from rfl] at this
    simpa using this.symm
  · intro e
    refine ⟨by omega, ?_⟩
    refine extract1 ⟨by simp; omega, fun i hi => ?_⟩
    have : i = 0 := by simp at hi; omega
    subst this
    simpa using e
theorem pref2 {t : ByteArray} {a b : UInt8} (_ : 0 < t.size) : prefB t ⟨#[a, b]⟩ = (decide (1 < t.size) && (at_ t 0 == a.toNat) && (at_ t 1 == b.toNat)) := by
  have hz : (⟨#[a, b]⟩ : ByteArray).size = 2 := rfl
  rw [Bool.eq_iff_iff]
  unfold prefB
  simp only [hz, Bool.and_eq_true, decide_eq_true_eq, beq_iff_eq]
  constructor
  · rintro ⟨h2, e⟩
    have e0 := at_extract (s := t) (a := 0) (b := 2) (i := 0) (by omega) (by omega)
    have e1 := at_extract (s := t) (a := 0) (b := 2) (i := 1) (by omega) (by omega)
    rw [e, show at_ (⟨#[a, b]⟩ : ByteArray) 0 = a.toNat from rfl] at e0
    rw [e, show at_ (⟨#[a, b]⟩ : ByteArray) 1 = b.toNat from rfl] at e1
    exact ⟨⟨by omega, by simpa using e0.symm⟩, by simpa using e1.symm⟩
  · rintro ⟨⟨h2, e0⟩, e1⟩
    refine ⟨by omega, ?_⟩
    refine extract2 ⟨by simp; omega, fun i hi => ?_⟩
    have : i = 0 ∨ i = 1 := by simp at hi; omega
    rcases this with rfl | rfl
    · simpa using e0
    · simpa using e1
/-- How long the sign is that a text begins with. -/
def signLen (t : ByteArray) : Option Nat := if 1 < t.size ∧ twoB (at_ t 0) (at_ t 1) = true then some 2 else if oneB (at_ t 0) = true then some 1 else none
theorem sign_some {t : ByteArray} (h : 0 < t.size) {k : Nat} (hk : k < 17) (hp : prefB t (sgn k) = true) (hn : ∀ j, j < k → prefB t (sgn j) = false) : signLen t = some (sgn k).size := by
  unfold signLen
  match k, hk with
  | 0, _ =>
    have e := (pref2 (a := 58) (b := 61) h).symm.trans hp
    simp only [Bool.and_eq_true, decide_eq_true_eq, beq_iff_eq] at e
    rw [if_pos ⟨e.1.1, by rw [e.1.2, e.2]; rfl⟩]; rfl
  | 1, _ =>
    have e := (pref2 (a := 61) (b := 62) h).symm.trans hp
    simp only [Bool.and_eq_true, decide_eq_true_eq, beq_iff_eq] at e
    rw [if_pos ⟨e.1.1, by rw [e.1.2, e.2]; rfl⟩]; rfl
  | 2, _ =>
    have e := (pref2 (a := 45) (b := 62) h).symm.trans hp
    simp only [Bool.and_eq_true, decide_eq_true_eq, beq_iff_eq] at e
    rw [if_pos ⟨e.1.1, by rw [e.1.2, e.2]; rfl⟩]; rfl
  | 3, _ =>
    have e := (pref2 (a := 46) (b := 123) h).symm.trans hp
    simp only [Bool.and_eq_true, decide_eq_true_eq, beq_iff_eq] at e
    rw [if_pos ⟨e.1.1, by rw [e.1.2, e.2]; rfl⟩]; rfl
  | 4, _ =>
    have e := (pref1 (a := 40) h).symm.trans hp
    simp only [beq_iff_eq] at e
    rw [if_neg (by rw [e]; simp [twoB]), if_pos (by rw [e]; rfl)]; rfl
  | 5, _ =>
    have e := (pref1 (a := 41) h).symm.trans hp
    simp only [beq_iff_eq] at e
    rw [if_neg (by rw [e]; simp [twoB]), if_pos (by rw [e]; rfl)]; rfl
  | 6, _ =>
    have e := (pref1 (a := 123) h).symm.trans hp
    simp only [beq_iff_eq] at e
    rw [if_neg (by rw [e]; simp [twoB]), if_pos (by rw [e]; rfl)]; rfl
  | 7, _ =>
    have e := (pref1 (a := 125) h).symm.trans hp
    simp only [beq_iff_eq] at e
    rw [if_neg (by rw [e]; simp [twoB]), if_pos (by rw [e]; rfl)]; rfl
  | 8, _ =>
    have e := (pref1 (a := 64) h).symm.trans hp
    simp only [beq_iff_eq] at e
    rw [if_neg (by rw [e]; simp [twoB]), if_pos (by rw [e]; rfl)]; rfl
  | 9, _ =>
    have e := (pref1 (a := 95) h).symm.trans hp
    simp only [beq_iff_eq] at e
    rw [if_neg (by rw [e]; simp [twoB]), if_pos (by rw [e]; rfl)]; rfl
  | 10, _ =>
    have e := (pref1 (a := 58) h).symm.trans hp
    simp only [beq_iff_eq] at e
    have m := (pref2 (a := 58) (b := 61) h).symm.trans (hn 0 (by omega))
    have hx : ¬ (1 < t.size ∧ twoB (at_ t 0) (at_ t 1) = true) := fun ⟨h1, h2⟩ => by
      rw [e] at h2 m
      simp [twoB] at h2
      simp [h1, h2] at m
    rw [if_neg hx, if_pos (by rw [e]; rfl)]; rfl
  | 11, _ =>
    have e := (pref1 (a := 61) h).symm.trans hp
    simp only [beq_iff_eq] at e
    have m := (pref2 (a := 61) (b := 62) h).symm.trans (hn 1 (by omega))
    have hx : ¬ (1 < t.size ∧ twoB (at_ t 0) (at_ t 1) = true) := fun ⟨h1, h2⟩ => by
      rw [e] at h2 m
      simp [twoB] at h2
      simp [h1, h2] at m
    rw [if_neg hx, if_pos (by rw [e]; rfl)]; rfl
  | 12, _ =>
    have e := (pref1 (a := 44) h).symm.trans hp
    simp only [beq_iff_eq] at e
    rw [if_neg (by rw [e]; simp [twoB]), if_pos (by rw [e]; rfl)]; rfl
  | 13, _ =>
    have e := (pref1 (a := 46) h).symm.trans hp
    simp only [beq_iff_eq] at e
    have m := (pref2 (a := 46) (b := 123) h).symm.trans (hn 3 (by omega))
    have hx : ¬ (1 < t.size ∧ twoB (at_ t 0) (at_ t 1) = true) := fun ⟨h1, h2⟩ => by
      rw [e] at h2 m
      simp [twoB] at h2
      simp [h1, h2] at m
    rw [if_neg hx, if_pos (by rw [e]; rfl)]; rfl
  | 14, _ =>
    have e := (pref1 (a := 59) h).symm.trans hp
    simp only [beq_iff_eq] at e
    rw [if_neg (by rw [e]; simp [twoB]), if_pos (by rw [e]; rfl)]; rfl
  | 15, _ =>
    have e := (pref1 (a := 124) h).symm.trans hp
    simp only [beq_iff_eq] at e
    rw [if_neg (by rw [e]; simp [twoB]), if_pos (by rw [e]; rfl)]; rfl
  | 16, _ =>
    have e := (pref1 (a := 43) h).symm.trans hp
    simp only [beq_iff_eq] at e
    rw [if_neg (by rw [e]; simp [twoB]), if_pos (by rw [e]; rfl)]; rfl
  | k + 17, hk => omega
theorem sign_none {t : ByteArray} (h : 0 < t.size) (hn : ∀ j, j < 17 → prefB t (sgn j) = false) : signLen t = none := by
  have m0 := (pref2 (a := 58) (b := 61) h).symm.trans (hn 0 (by omega))
  have m1 := (pref2 (a := 61) (b := 62) h).symm.trans (hn 1 (by omega))
  have m2 := (pref2 (a := 45) (b := 62) h).symm.trans (hn 2 (by omega))
  have m3 := (pref2 (a := 46) (b := 123) h).symm.trans (hn 3 (by omega))
  have m4 := (pref1 (a := 40) h).symm.trans (hn 4 (by omega))
  have m5 := (pref1 (a := 41) h).symm.trans (hn 5 (by omega))
  have m6 := (pref1 (a := 123) h).symm.trans (hn 6 (by omega))
  have m7 := (pref1 (a := 125) h).symm.trans (hn 7 (by omega))
  have m8 := (pref1 (a := 64) h).symm.trans (hn 8 (by omega))
  have m9 := (pref1 (a := 95) h).symm.trans (hn 9 (by omega))
  have m10 := (pref1 (a := 58) h).symm.trans (hn 10 (by omega))
  have m11 := (pref1 (a := 61) h).symm.trans (hn 11 (by omega))
  have m12 := (pref1 (a := 44) h).symm.trans (hn 12 (by omega))
  have m13 := (pref1 (a := 46) h).symm.trans (hn 13 (by omega))
  have m14 := (pref1 (a := 59) h).symm.trans (hn 14 (by omega))
  have m15 := (pref1 (a := 124) h).symm.trans (hn 15 (by omega))
  have m16 := (pref1 (a := 43) h).symm.trans (hn 16 (by omega))
  have h2 : ¬ (1 < t.size ∧ twoB (at_ t 0) (at_ t 1) = true) := fun ⟨h1, h2⟩ => by
    simp [h1] at m0 m1 m2 m3
    simp [twoB] at h2
    omega
  have h3 : ¬ oneB (at_ t 0) = true := fun h3 => by
    simp at m4 m5 m6 m7 m8 m9 m10 m11 m12 m13 m14 m15 m16
    simp [oneB] at h3
    omega
  unfold signLen
  rw [if_neg h2, if_neg h3]

end Go.Proofs.YtekfledccpeblaaGreatDoor

/- The scanner in memory; the contract of skipBlanks. -/
namespace Go.Proofs.YtekfledccpeblaaGreatDoor
open Go.RowKit

theorem cell_later {w W : World} {a : Addr} {v : Value} (hb : Below w.heap.size w W) (h : w.cell? a = some v) : W.cell? a = some v := by
  rw [World.cell?_of_block (hb.block _ (World.block_lt_of_cell? _ _ h))]; exact h
theorem Touched.later {w w' w'' : World} {m : Nat} (h : Touched w m w') (hb : Below w'.heap.size w' w'') : Touched w m w'' := h.trans (Touched.of_below hb)
theorem Touched.set {w w' : World} {m : Nat} (h : Touched w m w') (i : Nat) (u : Value) : Touched w m (w'.setCell ⟨m, i, none⟩ u) :=
  ⟨h.os, h.tape, h.output, by simp [World.setCell]; exact h.size, fun k hk hne => by
    have hk' : k ≠ m := by simpa using hne
    rw [Below.heap_setCell _ _ _ _ hk']; exact h.block k hk hne⟩

/-- A call that only answers, as a step of a region. -/
theorem step_pure {ops : Array Oper} {o : Oper} {a : Act} {w : World} {K : Act → World → Prop} {Q : Exit → Act → World → Prop} {E : Prop} {args : Array Value} {f : FuncId} {v : Value}
    (hg : o.guard = none) (hrun : (execOp a.eval o).run Tryz.prog w = .ok (.enter f args) w) (hc : Calls Tryz.prog f args w fun e w' => e = .returned v ∧ w' = w) (hK : K (a.put o.dst v) w) :
    if Region.wanted o (yielded ops a.tmps) = true then Oper.wp Tryz.prog o a w K Q else E := by
  have hw : Region.wanted o (yielded ops a.tmps) = true := by simp [Region.wanted, hg]
  rw [if_pos hw]
  unfold Oper.wp
  rw [hrun]
  refine hc.mono ?_
  rintro e w' ⟨rfl, rfl⟩
  exact hK

/-- The scanner's cells, and what else lies in its block. -/
abbrev scs (s : ByteArray) (k a : Int) (t : ByteArray) (r : Int) (x : List Value) : Array Value := (.string s :: .int .i64 k :: .int .i64 a :: .string t :: .int .i64 r :: x).toArray
def ScW (w : World) (b : Nat) (T : TypeId) (x : List Value) (s : ByteArray) (k a : Int) (t : ByteArray) (r : Int) : Prop := w.heap[b]? = some (.cells (scs s k a t r x) T (0, 0))
section
variable {w w' : World} {b : Nat} {T : TypeId} {x : List Value} {s : ByteArray} {k a : Int} {t : ByteArray} {r : Int}
theorem ScW.lt (h : ScW w b T x s k a t r) : b < w.heap.size := (Array.getElem?_eq_some_iff.1 h).1
theorem ScW.c0 (h : ScW w b T x s k a t r) : w.cell? ⟨b, 0, none⟩ = some (.string s) := cell_of h 0 (by simp)
theorem ScW.c1 (h : ScW w b T x s k a t r) : w.cell? ⟨b, 1, none⟩ = some (.int .i64 k) := cell_of h 1 (by simp)
theorem ScW.c2 (h : ScW w b T x s k a t r) : w.cell? ⟨b, 2, none⟩ = some (.int .i64 a) := cell_of h 2 (by simp)
theorem ScW.c3 (h : ScW w b T x s k a t r) : w.cell? ⟨b, 3, none⟩ = some (.string t) := cell_of h 3 (by simp)
theorem ScW.c4 (h : ScW w b T x s k a t r) : w.cell? ⟨b, 4, none⟩ = some (.int .i64 r) := cell_of h 4 (by simp)
theorem ScW.f (h : ScW w b T x s k a t r) (i : Nat) : w.frozen? ⟨b, i, none⟩ = false := frozen_of h i
theorem ScW.of_block (h : ScW w b T x s k a t r) (he : w'.heap[b]? = w.heap[b]?) : ScW w' b T x s k a t r := by unfold ScW at *; rw [he]; exact h
theorem ScW.later (h : ScW w b T x s k a t r) (hb : Below w.heap.size w w') : ScW w' b T x s k a t r := h.of_block (hb.block _ h.lt)
theorem ScW.alloc (h : ScW w b T x s k a t r) (o : Obj) : ScW (w.alloc o) b T x s k a t r := h.of_block (Below.heap_alloc _ _ _ h.lt)
theorem ScW.drewN (h : ScW w b T x s k a t r) (n : Nat) : ScW (w.drewN n) b T x s k a t r := h.later (below_drewN (Below.refl _ _) n)
theorem ScW.set1 (h : ScW w b T x s k a t r) (u : Int) : ScW (w.setCell ⟨b, 1, none⟩ (.int .i64 u)) b T x s u a t r := by unfold ScW at *; simp [World.setCell, Array.getElem?_modify, h]
theorem ScW.set2 (h : ScW w b T x s k a t r) (u : Int) : ScW (w.setCell ⟨b, 2, none⟩ (.int .i64 u)) b T x s k u t r := by unfold ScW at *; simp [World.setCell, Array.getElem?_modify, h]
theorem ScW.set3 (h : ScW w b T x s k a t r) (u : ByteArray) : ScW (w.setCell ⟨b, 3, none⟩ (.string u)) b T x s k a u r := by unfold ScW at *; simp [World.setCell, Array.getElem?_modify, h]
theorem ScW.set4 (h : ScW w b T x s k a t r) (u : Int) : ScW (w.setCell ⟨b, 4, none⟩ (.int .i64 u)) b T x s k a t u := by unfold ScW at *; simp [World.setCell, Array.getElem?_modify, h]
theorem ScW.setNot (h : ScW w b T x s k a t r) {p : Addr} (hp : p.block ≠ b) (u : Value) : ScW (w.setCell p u) b T x s k a t r := h.of_block (Below.heap_setCell _ _ _ _ (fun e => hp e.symm))
end

set_option maxRecDepth 100000 in
set_option maxHeartbeats 4000000 in
theorem skipBlanks_calls (b : Nat) (T : TypeId) (x : List Value) (s : ByteArray) (k a : Int) (t : ByteArray) (r : Nat) (w : World) (h : ScW w b T x s k a t (r : Nat)) (hs : s.size ≤ 200000) (hr : r ≤ s.size) :
    Calls Tryz.prog 56 #[.pointer (some ⟨b, 0, none⟩)] w fun e w' => e = .returned (.tuple #[]) ∧ ScW w' b T x s k a t (skip s r : Nat) ∧ Touched w b w' := by
  have H0 := hide h
  clear h
  go_enter Tryz.func56, Tryz.ntmps56
  go_wp2_with fail
  go_loopg [] (s.size - r) (fun g wr => ∃ p : Nat, p + g = s.size ∧ Hid (skip s p = skip s r) ∧ Hid (ScW wr b T x s k a t (p : Nat)) ∧ Hid (Touched w b wr))
  case atStart => exact ⟨r, by omega, rfl, H0, Touched.refl _ _⟩
  case round =>
    clear H0
    obtain ⟨p, hpg, HR, HS, HTo⟩ := hrel
    have c0 := HS.out.c0
    have c4 := HS.out.c4
    have hlt := HS.out.lt
    have cf := HS.out.f 4
    by_cases hp : p < s.size
    · have e1 : decide ((p : Int) < (s.size : Int)) = true := by simp; omega
      have hz := suf_size (s := s) (p := p)
      have hb0 : 0 < (s.extract p s.size).size := by omega
      have ha0 : (((s.extract p s.size)[0]'hb0).toNat) = at_ s p := by rw [at_eq hb0, suf_at (by omega), Nat.add_zero]
      have KB := hide (fun W => isBlank_calls (at_ s p) W)
      rw [← ha0] at KB
      have KP := hide (fun W => hasPrefix_calls (s.extract p s.size) ⟨#[45, 45]⟩ W)
      have KL := hide (fun W => lineLength_calls (s.extract p s.size) W)
      have hln := suf_run0 (f := lineB) (s := s) (p := p) (by omega)
      have hpre : prefB (s.extract p s.size) ⟨#[45, 45]⟩ = decide (p + 1 < s.size ∧ at_ s p = 45 ∧ at_ s (p + 1) = 45) := by
        rw [pref2 hb0, Bool.eq_iff_iff]
        simp only [Bool.and_eq_true, decide_eq_true_eq, beq_iff_eq, hz]
        constructor
        · rintro ⟨⟨h1, h2⟩, h3⟩
          rw [suf_at (by omega)] at h2 h3
          exact ⟨by omega, h2, h3⟩
        · rintro ⟨h1, h2, h3⟩
          rw [suf_at (by omega), suf_at (by omega)]
          exact ⟨⟨by omega, h2⟩, h3⟩
      rw [hpre] at KP
      clear hpre
      by_cases hbl : blankB (at_ s p) = true
      · have HN : Hid (skip s (p + 1) = skip s r) := (skip_blank hp hbl).symm.trans HR.out
        rw [ha0, hbl, ← ha0] at KB
        clear KP KL hln ha0 HR
        go_wp2_with fail
        go_quiet (fail)
        obtain ⟨n1, rfl⟩ : ∃ n1, n1 = nq := ⟨nq, rfl⟩
        go_wp2_with fail
        go_quiet (fail)
        have HS2 := hide (HS.out.drewN (n1 + nq))
        have HT2 := hide (HTo.out.later (below_drewN (Below.refl _ _) (n1 + nq)))
        go_wp2_with (go_at_call 74; refine (KB.out _).mono ?_; rintro e w' ⟨rfl, rfl⟩)
        go_roundg (s.size - (p + 1))
        case measure => omega
        case rel => exact ⟨p + 1, by omega, HN, by have := HS2.out.set4 ((p : Int) + 1); simpa [Hid] using this, HT2.out.set 4 _⟩
      · rw [ha0, show blankB (at_ s p) = false from by simpa using hbl, ← ha0] at KB
        by_cases hda : p + 1 < s.size ∧ at_ s p = 45 ∧ at_ s (p + 1) = 45
        · have HN : Hid (skip s (runTo lineB s p) = skip s r) := (skip_line hda.1 hda.2.1 hda.2.2).symm.trans HR.out
          have h2 := runTo_line hp hda.2.1
          have h3 := runTo_le lineB s (k := p) (by omega)
          rw [show decide (p + 1 < s.size ∧ at_ s p = 45 ∧ at_ s (p + 1) = 45) = true from by simp [hda]] at KP
          generalize runTo lineB (s.extract p s.size) 0 = ln at *
          have HW : Hid (IntKind.i64.wrap ((p : Int) + (ln : Int)) = (p : Int) + ln) := hide (by rw [IntKind.wrap_i64]; omega)
          clear hbl hda ha0 HR
          go_wp2_with fail
          go_quiet (fail)
          obtain ⟨n1, rfl⟩ : ∃ n1, n1 = nq := ⟨nq, rfl⟩
          go_wp2_with fail
          go_quiet (fail)
          have HS2 := hide (HS.out.drewN (n1 + nq))
          have HT2 := hide (HTo.out.later (below_drewN (Below.refl _ _) (n1 + nq)))
          go_wp2_with (first | (go_at_call 74; refine (KB.out _).mono ?_; rintro e w' ⟨rfl, rfl⟩) | (go_at_call 75; refine (KP.out _).mono ?_; rintro e w' ⟨rfl, rfl⟩))
          go_region_law (first
            | (refine step_pure (f := 76) (v := .int .i64 (ln : Nat)) rfl ?_ (KL.out _) ?_
               · simp [go_sem]))
          all_goals
            rw [HW.out]
            go_wp2_with fail
            go_roundg (s.size - (p + ln))
            case measure => omega
            case rel => exact ⟨p + ln, by omega, by rw [← hln]; exact HN, by have := (HS.out.drewN (n1 + nq + 1)).set4 ((p : Int) + ln); simpa [Hid] using this, (HTo.out.later (below_drewN (Below.refl _ _) (n1 + nq + 1))).set 4 _⟩
        · have HN : Hid (p = skip s r) := (skip_stop (by simpa using hbl) hda).symm.trans HR.out
          rw [show decide (p + 1 < s.size ∧ at_ s p = 45 ∧ at_ s (p + 1) = 45) = false from by simp [hda]] at KP
          clear hbl hda ha0 HR KL hln
          go_wp2_with fail
          go_quiet (fail)
          obtain ⟨n1, rfl⟩ : ∃ n1, n1 = nq := ⟨nq, rfl⟩
          go_wp2_with fail
          go_quiet (fail)
          have HS2 := hide (HS.out.drewN (n1 + nq))
          have HT2 := hide (HTo.out.later (below_drewN (Below.refl _ _) (n1 + nq)))
          go_wp2_with (first | (go_at_call 74; refine (KB.out _).mono ?_; rintro e w' ⟨rfl, rfl⟩) | (go_at_call 75; refine (KP.out _).mono ?_; rintro e w' ⟨rfl, rfl⟩))
          refine bodyPost_ret (results_none rfl _ _ _) rfl ?_
          exact ⟨rfl, by rw [← HN.out]; exact HS2.out, HT2.out⟩
    · have e1 : decide ((p : Int) < (s.size : Int)) = false := by simp; omega
      have HN : Hid (p = skip s r) := (skip_end (by omega)).symm.trans HR.out
      go_wp2_with fail
      go_quiet (fail)
      have HS1 := hide (HS.out.drewN nq)
      have HT1 := hide (HTo.out.later (below_drewN (Below.refl _ _) nq))
      go_wp2_with fail
      go_end0
      exact ⟨rfl, by rw [← HN.out]; exact HS1.out, HT1.out⟩

end Go.Proofs.YtekfledccpeblaaGreatDoor

/- The contract of tokenOf: the kind and the length of the token that a text begins with. -/
namespace Go.Proofs.YtekfledccpeblaaGreatDoor
open Go.RowKit

abbrev sgv : List Value := [.string ⟨#[58, 61]⟩, .string ⟨#[61, 62]⟩, .string ⟨#[45, 62]⟩, .string ⟨#[46, 123]⟩, .string ⟨#[40]⟩, .string ⟨#[41]⟩, .string ⟨#[123]⟩, .string ⟨#[125]⟩, .string ⟨#[64]⟩, .string ⟨#[95]⟩, .string ⟨#[58]⟩, .string ⟨#[61]⟩, .string ⟨#[44]⟩, .string ⟨#[46]⟩, .string ⟨#[59]⟩, .string ⟨#[124]⟩, .string ⟨#[43]⟩]
/-- The table of signs lies there. -/
def SgT (w : World) : Prop := w.rangeAt 3 0 sgv
theorem SgT.lt {w : World} (h : SgT w) : 3 < w.heap.size := World.block_lt_of_cell? _ _ (h 0 _ rfl)
theorem SgT.of_block {w w' : World} (h : SgT w) (hb : w'.heap[3]? = w.heap[3]?) : SgT w' := fun j v e => (World.cell?_of_block (w := w) hb).trans (h j v e)
theorem Tryz.info150 : (Tryz.prog.info? 150).map (·.size) = some 17 := by kernel_rfl
theorem sgx0 (w : World) : (Instr.index 150 (.agg sgv.toArray) (.int .i64 0)).run Tryz.prog w = .ok (.string (sgn 0)) w := by kernel_rfl
theorem sgx1 (w : World) : (Instr.index 150 (.agg sgv.toArray) (.int .i64 1)).run Tryz.prog w = .ok (.string (sgn 1)) w := by kernel_rfl
theorem sgx2 (w : World) : (Instr.index 150 (.agg sgv.toArray) (.int .i64 2)).run Tryz.prog w = .ok (.string (sgn 2)) w := by kernel_rfl
theorem sgx3 (w : World) : (Instr.index 150 (.agg sgv.toArray) (.int .i64 3)).run Tryz.prog w = .ok (.string (sgn 3)) w := by kernel_rfl
theorem sgx4 (w : World) : (Instr.index 150 (.agg sgv.toArray) (.int .i64 4)).run Tryz.prog w = .ok (.string (sgn 4)) w := by kernel_rfl
theorem sgx5 (w : World) : (Instr.index 150 (.agg sgv.toArray) (.int .i64 5)).run Tryz.prog w = .ok (.string (sgn 5)) w := by kernel_rfl
theorem sgx6 (w : World) : (Instr.index 150 (.agg sgv.toArray) (.int .i64 6)).run Tryz.prog w = .ok (.string (sgn 6)) w := by kernel_rfl
theorem sgx7 (w : World) : (Instr.index 150 (.agg sgv.toArray) (.int .i64 7)).run Tryz.prog w = .ok (.string (sgn 7)) w := by kernel_rfl
theorem sgx8 (w : World) : (Instr.index 150 (.agg sgv.toArray) (.int .i64 8)).run Tryz.prog w = .ok (.string (sgn 8)) w := by kernel_rfl
theorem sgx9 (w : World) : (Instr.index 150 (.agg sgv.toArray) (.int .i64 9)).run Tryz.prog w = .ok (.string (sgn 9)) w := by kernel_rfl
theorem sgx10 (w : World) : (Instr.index 150 (.agg sgv.toArray) (.int .i64 10)).run Tryz.prog w = .ok (.string (sgn 10)) w := by kernel_rfl
theorem sgx11 (w : World) : (Instr.index 150 (.agg sgv.toArray) (.int .i64 11)).run Tryz.prog w = .ok (.string (sgn 11)) w := by kernel_rfl
theorem sgx12 (w : World) : (Instr.index 150 (.agg sgv.toArray) (.int .i64 12)).run Tryz.prog w = .ok (.string (sgn 12)) w := by kernel_rfl
theorem sgx13 (w : World) : (Instr.index 150 (.agg sgv.toArray) (.int .i64 13)).run Tryz.prog w = .ok (.string (sgn 13)) w := by kernel_rfl
theorem sgx14 (w : World) : (Instr.index 150 (.agg sgv.toArray) (.int .i64 14)).run Tryz.prog w = .ok (.string (sgn 14)) w := by kernel_rfl
theorem sgx15 (w : World) : (Instr.index 150 (.agg sgv.toArray) (.int .i64 15)).run Tryz.prog w = .ok (.string (sgn 15)) w := by kernel_rfl
theorem sgx16 (w : World) : (Instr.index 150 (.agg sgv.toArray) (.int .i64 16)).run Tryz.prog w = .ok (.string (sgn 16)) w := by kernel_rfl
theorem sgx (k : Nat) (hk : k < 17) (w : World) : (Instr.index 150 (.agg sgv.toArray) (.int .i64 (k : Nat))).run Tryz.prog w = .ok (.string (sgn k)) w := by
  match k, hk with
  | 0, _ => exact sgx0 w
  | 1, _ => exact sgx1 w
  | 2, _ => exact sgx2 w
  | 3, _ => exact sgx3 w
  | 4, _ => exact sgx4 w
  | 5, _ => exact sgx5 w
  | 6, _ => exact sgx6 w
  | 7, _ => exact sgx7 w
  | 8, _ => exact sgx8 w
  | 9, _ => exact sgx9 w
  | 10, _ => exact sgx10 w
  | 11, _ => exact sgx11 w
  | 12, _ => exact sgx12 w
  | 13, _ => exact sgx13 w
  | 14, _ => exact sgx14 w
  | 15, _ => exact sgx15 w
  | 16, _ => exact sgx16 w
  | k + 17, hk => omega

/-- The kind and the length of the token that a text begins with. -/
def tokN (t : ByteArray) : Nat × Nat :=
  if alphaB (at_ t 0) = true then (nkind (t.extract 0 (lnameEnd t 0)), lnameEnd t 0)
  else if digitB (at_ t 0) = true then (2, runTo digitB t 0)
  else match signLen t with
    | some n => (3, n)
    | none => (4, 1)

set_option maxRecDepth 100000 in
set_option maxHeartbeats 4000000 in
theorem tokenOf_calls (t : ByteArray) (w : World) (h0 : 0 < t.size) (hs : t.size ≤ 200000) (hg : SgT w) :
    Calls Tryz.prog 57 #[.string t] w fun e w' => e = .returned (.tuple #[.int .i64 ((tokN t).1 : Nat), .int .i64 ((tokN t).2 : Nat)]) ∧ w' = w := by
  have KA := hide (isLetter_calls (at_ t 0) w)
  have KD := hide (isDigit_calls (at_ t 0) w)
  rw [← at_eq h0] at KA KD
  by_cases ha : alphaB (at_ t 0) = true
  · have HT : Hid (tokN t = (nkind (t.extract 0 (lnameEnd t 0)), lnameEnd t 0)) := if_pos ha
    rw [at_eq h0, ha, ← at_eq h0] at KA
    have KN := hide (nameLength_calls t w hs)
    have KK := hide (nameKind_calls (t.extract 0 (lnameEnd t 0)) w)
    have hle := (lnameEnd_le (s := t) (p := 0) (Nat.zero_le _)).2
    rw [HT.out]
    clear ha HT KD hg
    generalize lnameEnd t 0 = n at *
    go_enter Tryz.func57, Tryz.ntmps57
    go_wp2_with (first | (go_at_call 77; refine KA.out.mono ?_; rintro e w' ⟨rfl, rfl⟩) | (go_at_call 78; refine KN.out.mono ?_; rintro e w' ⟨rfl, rfl⟩) | (go_at_call 79; refine KK.out.mono ?_; rintro e w' ⟨rfl, rfl⟩))
    go_ret2
    exact ⟨rfl, rfl⟩
  · rw [at_eq h0, show alphaB (at_ t 0) = false from by simpa using ha, ← at_eq h0] at KA
    by_cases hd : digitB (at_ t 0) = true
    · have HT : Hid (tokN t = (2, runTo digitB t 0)) := by unfold tokN; rw [if_neg ha, if_pos hd]; exact rfl
      rw [at_eq h0, hd, ← at_eq h0] at KD
      have KR := hide (runLength_calls 80 digitB digit_tests t w hs)
      rw [HT.out]
      clear ha hd HT hg
      go_enter Tryz.func57, Tryz.ntmps57
      go_wp2_with (first | (go_at_call 77; refine KA.out.mono ?_; rintro e w' ⟨rfl, rfl⟩) | (go_at_call 80; refine KD.out.mono ?_; rintro e w' ⟨rfl, rfl⟩) | (go_at_call 81; refine KR.out.mono ?_; rintro e w' ⟨rfl, rfl⟩))
      go_ret2
      exact ⟨rfl, rfl⟩
    · have HT : Hid (tokN t = match signLen t with | some n => (3, n) | none => (4, 1)) := by unfold tokN; rw [if_neg ha, if_neg hd]; exact rfl
      rw [at_eq h0, show digitB (at_ t 0) = false from by simpa using hd, ← at_eq h0] at KD
      have HG := hide hg
      clear ha hd hg
      go_enter Tryz.func57, Tryz.ntmps57
      go_wp2_with (first | (go_at_call 77; refine KA.out.mono ?_; rintro e w' ⟨rfl, rfl⟩) | (go_at_call 80; refine KD.out.mono ?_; rintro e w' ⟨rfl, rfl⟩) | (refine wpList_load_mid rfl 150 _ rfl 3 0 rfl sgv _ HG.out Tryz.underlying150 rfl Tryz.info150 ?_))
      go_loopg [25] 17 (fun g v wr => ∃ k : Nat, k + g = 17 ∧ v = .int .i64 (k : Nat) ∧ Hid (∀ j, j < k → prefB t (sgn j) = false) ∧ wr = w')
      case atStart => exact ⟨0, by omega, rfl, fun j hj => by omega, rfl⟩
      case round =>
        obtain ⟨k, hkg, rfl, HN, rfl⟩ := hrel
        by_cases hk : k < 17
        · have e1 : decide ((k : Int) < 17) = true := by simp; omega
          have hix := sgx k hk
          have KP := hide (hasPrefix_calls t (sgn k) wr)
          by_cases hp : prefB t (sgn k) = true
          · have HS := hide (sign_some h0 hk hp HN.out)
            rw [hp] at KP
            clear hp
            go_wp2_with (go_at_call 75; refine KP.out.mono ?_; rintro e w' ⟨rfl, rfl⟩)
            go_ret2
            have e : tokN t = (3, (sgn k).size) := by rw [HT.out, HS.out]
            rw [e]
            exact ⟨rfl, rfl⟩
          · have hp' : prefB t (sgn k) = false := by simpa using hp
            have HM : Hid (∀ j, j < k + 1 → prefB t (sgn j) = false) := fun j hj => by
              by_cases hjk : j < k
              · exact HN.out j hjk
              · have : j = k := by omega
                rw [this]; exact hp'
            rw [hp'] at KP
            clear hp hp'
            go_wp2_with (go_at_call 75; refine KP.out.mono ?_; rintro e w' ⟨rfl, rfl⟩)
            go_roundg (17 - (k + 1))
            case measure => omega
            case rel => exact ⟨k + 1, by omega, by go_num, HM.out, rfl⟩
        · have hk' : k = 17 := by omega
          subst hk'
          have HS := hide (sign_none h0 HN.out)
          go_wp2_with fail
          go_ret2
          have e : tokN t = (4, 1) := by rw [HT.out, HS.out]
          rw [e]
          exact ⟨rfl, rfl⟩

end Go.Proofs.YtekfledccpeblaaGreatDoor
