/- Small facts that the walks use: strings told apart, a box of three cells, the number at a name. -/
import Derived.Test.YtafdlaaohglfdaaGreatDoorRows
import Derived.Test.YtafdlaaohglfdaaGreatDoorRep
import Derived.WalkLawsBesides
import Derived.WideShapes
import Derived.Deep.LoopGhost
import Derived.Deep.QuietTactic
import Derived.BigQuiet
import Derived.WalkSmall
import Derived.Deep.RegionWith
import Derived.Shelf.Strconv.AtoiAll

namespace Go.Proofs.YtafdlaaohglfdaaGreatDoor
open Go.RowKit

theorem hide {p : Prop} (h : p) : Hid p := h

theorem sameStr (a b : ByteArray) : (a.toList == b.toList) = decide (a = b) := by
  rw [Bool.eq_iff_iff, beq_iff_eq, decide_eq_true_eq]
  constructor
  · intro h
    rw [ByteArray.toList_eq, ByteArray.toList_eq] at h
    exact WideShapes.bytes_inj h
  · rintro rfl; rfl
theorem sameStr_pos {a b : ByteArray} (h : a = b) : (a.toList == b.toList) = true := by rw [sameStr]; simp [h]
theorem sameStr_neg {a b : ByteArray} (h : a ≠ b) : (a.toList == b.toList) = false := by rw [sameStr]; simp [h]

def hasB (q : ByteArray) (ns : List ByteArray) : Bool := ns.any fun p => decide (p = q)
theorem hasB_true {q : ByteArray} {ns : List ByteArray} {k : Nat} (h : k < ns.length) (e : ns[k] = q) : hasB q ns = true := by
  unfold hasB; rw [List.any_eq_true]; exact ⟨ns[k], List.getElem_mem h, by simp [e]⟩
theorem hasB_false {q : ByteArray} {ns : List ByteArray} (h : ∀ j (h : j < ns.length), ns[j] ≠ q) : hasB q ns = false := by
  unfold hasB; rw [List.any_eq_false]; intro x hx; obtain ⟨j, hj, rfl⟩ := List.getElem_of_mem hx; simp [h j hj]
theorem hasB_iff {q : ByteArray} {ns : List ByteArray} : hasB q ns = true ↔ q ∈ ns := by
  unfold hasB; rw [List.any_eq_true]; constructor
  · rintro ⟨x, hx, e⟩; simp at e; exact e ▸ hx
  · intro h; exact ⟨q, h, by simp⟩

theorem nodes_pos {α : Type} (l : Lv α) : 0 < l.nodes := by cases l <;> simp [Lv.nodes]

/-- Behind a box of three cells nothing old has turned. -/
def Box (w : World) (c0 c1 c2 : Value) (W : World) : Prop := Below (w.heap.size + 1) (w.alloc (.cells #[c0, c1, c2] 79)) W

theorem Box.start (w : World) (c0 c1 c2 : Value) : Box w c0 c1 c2 (w.alloc (.cells #[c0, c1, c2] 79)) := Below.refl _ _
theorem Box.old {w W : World} {c0 c1 c2 : Value} (h : Box w c0 c1 c2 W) : Below w.heap.size w W := ((Below.refl _ _).alloc (Nat.le_refl _) _).trans (h.mono (by omega))
theorem Box.size {w W : World} {c0 c1 c2 : Value} (h : Box w c0 c1 c2 W) : w.heap.size + 1 ≤ W.heap.size := by have := Below.size h; simpa using this
theorem Box.then {w W W' : World} {c0 c1 c2 : Value} (h : Box w c0 c1 c2 W) (h' : Below W.heap.size W W') : Box w c0 c1 c2 W' := Below.trans h (h'.mono h.size)
theorem Box.drew {w W : World} {c0 c1 c2 : Value} (h : Box w c0 c1 c2 W) : Box w c0 c1 c2 W.drew := Below.drew h
theorem Box.drewN {w W : World} {c0 c1 c2 : Value} (h : Box w c0 c1 c2 W) (n : Nat) : Box w c0 c1 c2 (W.drewN n) := below_drewN h n
theorem Box.cells {w W : World} {c0 c1 c2 : Value} (h : Box w c0 c1 c2 W) : W.cell? ⟨w.heap.size, 0, none⟩ = some c0 ∧ W.cell? ⟨w.heap.size, 1, none⟩ = some c1 ∧ W.cell? ⟨w.heap.size, 2, none⟩ = some c2 := by
  refine ⟨?_, ?_, ?_⟩ <;> (rw [Below.cell h (by simp)]; simp)
/-- A contract that tells 'Below', as one over a box. -/
theorem Box.calls {w : World} {c0 c1 c2 : Value} {f : FuncId} {args : Array Value} {r : Value} (h : ∀ W, Below w.heap.size w W → Calls Tryz.prog f args W fun e w' => e = .returned r ∧ Below W.heap.size W w')
    (W : World) (hW : Box w c0 c1 c2 W) : Calls Tryz.prog f args W fun e w' => e = .returned r ∧ Hid (Box w c0 c1 c2 w') ∧ w'.cell? ⟨w.heap.size, 0, none⟩ = some c0 ∧ w'.cell? ⟨w.heap.size, 1, none⟩ = some c1 ∧ w'.cell? ⟨w.heap.size, 2, none⟩ = some c2 :=
  (h W hW.old).mono fun _ _ ⟨he, hb⟩ => ⟨he, hW.then hb, (hW.then hb).cells⟩

theorem look_le {n : Nat} : ∀ (ps : List ByteArray) (ns : List Nat) (q : ByteArray), (∀ x ∈ ns, x ≤ n) → look ps ns q ≤ n
  | [], _, _, _ => by simp [look]
  | _ :: _, [], _, _ => by simp [look]
  | p :: ps, m :: ns, q, h => by
    simp only [look]
    split
    · exact h m (by simp)
    · exact look_le ps ns q fun x hx => h x (by simp [hx])

theorem look_at : ∀ (ps : List ByteArray) (ns : List Nat) (q : ByteArray) (k : Nat) (h : k < ps.length) (h' : k < ns.length), (∀ j (hj : j < ps.length), j < k → ps[j] ≠ q) → ps[k] = q → look ps ns q = ns[k]
  | p :: ps, m :: ns, q, 0, _, _, _, e => by simp only [look]; rw [if_pos (by simpa using e)]; simp
  | p :: ps, m :: ns, q, k + 1, h, h', hno, e => by
    simp only [look]
    rw [if_neg (by have := hno 0 (by simp) (by omega); simp only [List.getElem_cons_zero] at this; exact this)]
    have := look_at ps ns q k (by simpa using h) (by simpa using h') (fun j hj hjk => by have := hno (j + 1) (by simp; omega) (by omega); simp only [List.getElem_cons_succ] at this; exact this) (by simpa using e)
    simpa using this

theorem look_none : ∀ (ps : List ByteArray) (ns : List Nat) (q : ByteArray), (∀ j (hj : j < ps.length), ps[j] ≠ q) → look ps ns q = 0
  | [], _, _, _ => by simp [look]
  | _ :: _, [], _, _ => by simp [look]
  | p :: ps, m :: ns, q, h => by
    simp only [look]
    rw [if_neg (by have := h 0 (by simp); simp only [List.getElem_cons_zero] at this; exact this)]
    exact look_none ps ns q fun j hj => by have := h (j + 1) (by simp; omega); simp only [List.getElem_cons_succ] at this; exact this

theorem worth_bd {σ : ByteArray → Nat} (hle : ∀ p, σ p ≤ 1000000) (l : LvB) (h : l.nodes ≤ 1000000) : l.worth σ ≤ 2000000 := by
  have hw := Lv.worth_le (σ := σ) (n := 1000000) l fun p _ => hle p
  have := Lv.succs_le l
  omega

theorem Lv.kid_nodes {l : LvB} {k : Nat} (h : k < l.kids.length) : (l.kids[k]).nodes < l.nodes := by
  cases l with
  | zero => simp [kids] at h
  | param => simp [kids] at h
  | succ a => match k, h with | 0, _ => simp [kids, nodes]
  | max a b => match k, h with | 0, _ => simp [kids, nodes]; omega | 1, _ => simp [kids, nodes]; omega
  | imax a b => match k, h with | 0, _ => simp [kids, nodes]; omega | 1, _ => simp [kids, nodes]; omega

theorem Lv.kids_le (l : LvB) : l.kids.length ≤ 2 := by cases l <;> simp [kids]
theorem Lv.kind_le (l : LvB) : l.kind ≤ 4 := by cases l <;> simp [kind]

end Go.Proofs.YtafdlaaohglfdaaGreatDoor

/- The library's contract of a function, laid at this program's numbers: plain text. -/
namespace Go.Proofs.YtafdlaaohglfdaaGreatDoor
open Go.RowKit Go.Shelf

def atLays_ren : Go.Shelf.Ren := ⟨fun | 0 => 0 | 1 => 1 | 2 => 2 | 109 => 62 | 129 => 100 | 137 => 89 | 166 => 43 | 167 => 42 | 169 => 20 | 171 => 44 | 172 => 73 | 205 => 108 | 217 => 104 | 240 => 58 | 243 => 59 | 244 => 83 | 245 => 84 | 246 => 75 | 247 => 94 | 266 => 111 | 276 => 74 | 279 => 95 | 280 => 96 | 281 => 97 | 282 => 98 | 283 => 85 | 284 => 86 | 285 => 87 | 286 => 88 | 287 => 106 | 316 => 107 | 317 => 99 | 318 => 101 | 319 => 102 | 320 => 103 | 321 => 112 | 322 => 113 | 337 => 109 | 338 => 110 | 347 => 114 | 348 => 115 | 349 => 116 | 350 => 117 | 351 => 118 | 352 => 119 | 353 => 120 | 354 => 121 | 355 => 122 | 356 => 123 | 357 => 124 | 358 => 125 | 359 => 126 | 360 => 127 | 361 => 128 | 362 => 129 | 363 => 133 | 364 => 131 | 365 => 132 | 366 => 134 | 367 => 146 | n => n,
  fun | 0 => 0 | 1 => 1 | 2 => 2 | 3 => 3 | 4 => 4 | 5 => 5 | 6 => 6 | 7 => 7 | 8 => 8 | 9 => 9 | 10 => 10 | 11 => 11 | 12 => 12 | 13 => 13 | 14 => 14 | 15 => 15 | 16 => 16 | 17 => 17 | 18 => 18 | 19 => 19 | 20 => 20 | 21 => 21 | 31 => 77 | 32 => 112 | 37 => 55 | 41 => 125 | 46 => 148 | 47 => 149 | 51 => 145 | 52 => 159 | 53 => 131 | 54 => 132 | 55 => 136 | 69 => 155 | 70 => 54 | 71 => 56 | 72 => 57 | 73 => 75 | 74 => 39 | 75 => 40 | 76 => 87 | 77 => 88 | 78 => 86 | 80 => 59 | 81 => 171 | 83 => 89 | 84 => 123 | 85 => 138 | 86 => 139 | 103 => 76 | 104 => 107 | 108 => 158 | 111 => 147 | 114 => 35 | 127 => 91 | 128 => 129 | 131 => 104 | 143 => 161 | 144 => 162 | 145 => 163 | 164 => 121 | 165 => 122 | 167 => 137 | 168 => 140 | 169 => 141 | 170 => 142 | 171 => 130 | 172 => 133 | 173 => 134 | 174 => 135 | 175 => 153 | 176 => 154 | 209 => 156 | 210 => 157 | 211 => 143 | 212 => 144 | 213 => 146 | 214 => 160 | 232 => 164 | 233 => 165 | 238 => 166 | 239 => 167 | 240 => 168 | 241 => 169 | 242 => 170 | 243 => 172 | 244 => 173 | 245 => 174 | 246 => 175 | 247 => 176 | 248 => 177 | 249 => 178 | n => n,
  fun | 1 => 9 | 15 => 5 | 16 => 6 | 17 => 3 | 18 => 7 | 19 => 8 | n => n⟩
set_option maxRecDepth 100000 in
theorem atLays : Go.Proofs.LaysC.n172 Tryz.prog atLays_ren := {
  mixed := by kernel_rfl
  f129 := Tryz.func100.trans (congrArg some (by kernel_rfl))
  f171 := Tryz.func44.trans (congrArg some (by kernel_rfl))
  f172 := Tryz.func73.trans (congrArg some (by kernel_rfl))
  f205 := Tryz.func108.trans (congrArg some (by kernel_rfl))
  f243 := Tryz.func59.trans (congrArg some (by kernel_rfl))
  f244 := Tryz.func83.trans (congrArg some (by kernel_rfl))
  f245 := Tryz.func84.trans (congrArg some (by kernel_rfl))
  f246 := Tryz.func75.trans (congrArg some (by kernel_rfl))
  f247 := Tryz.func94.trans (congrArg some (by kernel_rfl))
  f279 := Tryz.func95.trans (congrArg some (by kernel_rfl))
  f280 := Tryz.func96.trans (congrArg some (by kernel_rfl))
  f281 := Tryz.func97.trans (congrArg some (by kernel_rfl))
  f282 := Tryz.func98.trans (congrArg some (by kernel_rfl))
  f283 := Tryz.func85.trans (congrArg some (by kernel_rfl))
  f284 := Tryz.func86.trans (congrArg some (by kernel_rfl))
  f285 := Tryz.func87.trans (congrArg some (by kernel_rfl))
  f286 := Tryz.func88.trans (congrArg some (by kernel_rfl))
  f287 := Tryz.func106.trans (congrArg some (by kernel_rfl))
  f316 := Tryz.func107.trans (congrArg some (by kernel_rfl))
  f317 := Tryz.func99.trans (congrArg some (by kernel_rfl))
  f318 := Tryz.func101.trans (congrArg some (by kernel_rfl))
  f319 := Tryz.func102.trans (congrArg some (by kernel_rfl))
  f320 := Tryz.func103.trans (congrArg some (by kernel_rfl))
  f321 := Tryz.func112.trans (congrArg some (by kernel_rfl))
  f322 := Tryz.func113.trans (congrArg some (by kernel_rfl))
  f337 := Tryz.func109.trans (congrArg some (by kernel_rfl))
  f338 := Tryz.func110.trans (congrArg some (by kernel_rfl))
  t0 := Tryz.underlying0
  a0 := Tryz.isAgg0
  z0 := Tryz.sizeOf0
  v0 := Tryz.zeroValue0
  t2 := Tryz.underlying2
  a2 := Tryz.isAgg2
  z2 := Tryz.sizeOf2
  v2 := Tryz.zeroValue2
  t3 := Tryz.underlying3
  a3 := Tryz.isAgg3
  z3 := Tryz.sizeOf3
  v3 := Tryz.zeroValue3
  t4 := Tryz.underlying4
  a4 := Tryz.isAgg4
  z4 := Tryz.sizeOf4
  v4 := Tryz.zeroValue4
  t5 := Tryz.underlying5
  a5 := Tryz.isAgg5
  z5 := Tryz.sizeOf5
  v5 := Tryz.zeroValue5
  t9 := Tryz.underlying9
  a9 := Tryz.isAgg9
  z9 := Tryz.sizeOf9
  v9 := Tryz.zeroValue9
  t20 := Tryz.underlying20
  a20 := Tryz.isAgg20
  z20 := Tryz.sizeOf20
  v20 := Tryz.zeroValue20
  t21 := Tryz.underlying21
  a21 := Tryz.isAgg21
  z21 := Tryz.sizeOf21
  v21 := Tryz.zeroValue21
  t37 := Tryz.underlying55
  a37 := Tryz.isAgg55
  z37 := Tryz.sizeOf55
  v37 := Tryz.zeroValue55
  t46 := Tryz.underlying148
  a46 := Tryz.isAgg148
  z46 := Tryz.sizeOf148
  v46 := Tryz.zeroValue148
  t51 := Tryz.underlying145
  a51 := Tryz.isAgg145
  z51 := Tryz.sizeOf145
  v51 := Tryz.zeroValue145
  t53 := Tryz.underlying131
  a53 := Tryz.isAgg131
  z53 := Tryz.sizeOf131
  v53 := Tryz.zeroValue131
  t75 := Tryz.underlying40
  a75 := Tryz.isAgg40
  z75 := Tryz.sizeOf40
  v75 := Tryz.zeroValue40
  t76 := Tryz.underlying87
  a76 := Tryz.isAgg87
  z76 := Tryz.sizeOf87
  v76 := Tryz.zeroValue87
  t85 := Tryz.underlying138
  a85 := Tryz.isAgg138
  z85 := Tryz.sizeOf138
  v85 := Tryz.zeroValue138
  t127 := Tryz.underlying91
  a127 := Tryz.isAgg91
  z127 := Tryz.sizeOf91
  v127 := Tryz.zeroValue91
  t143 := Tryz.underlying161
  a143 := Tryz.isAgg161
  z143 := Tryz.sizeOf161
  v143 := Tryz.zeroValue161
  t145 := Tryz.underlying163
  a145 := Tryz.isAgg163
  z145 := Tryz.sizeOf163
  v145 := Tryz.zeroValue163
  t167 := Tryz.underlying137
  a167 := Tryz.isAgg137
  z167 := Tryz.sizeOf137
  v167 := Tryz.zeroValue137
  t168 := Tryz.underlying140
  a168 := Tryz.isAgg140
  z168 := Tryz.sizeOf140
  v168 := Tryz.zeroValue140
  t171 := Tryz.underlying130
  a171 := Tryz.isAgg130
  z171 := Tryz.sizeOf130
  v171 := Tryz.zeroValue130
  t173 := Tryz.underlying134
  a173 := Tryz.isAgg134
  z173 := Tryz.sizeOf134
  v173 := Tryz.zeroValue134
  t175 := Tryz.underlying153
  a175 := Tryz.isAgg153
  z175 := Tryz.sizeOf153
  v175 := Tryz.zeroValue153
  t210 := Tryz.underlying157
  a210 := Tryz.isAgg157
  z210 := Tryz.sizeOf157
  v210 := Tryz.zeroValue157
  t212 := Tryz.underlying144
  a212 := Tryz.isAgg144
  z212 := Tryz.sizeOf144
  v212 := Tryz.zeroValue144
  t213 := Tryz.underlying146
  a213 := Tryz.isAgg146
  z213 := Tryz.sizeOf146
  t232 := Tryz.underlying164
  a232 := Tryz.isAgg164
  z232 := Tryz.sizeOf164
  v232 := Tryz.zeroValue164
  t233 := Tryz.underlying165
  a233 := Tryz.isAgg165
  z233 := Tryz.sizeOf165
  v233 := Tryz.zeroValue165
  g15 := by kernel_rfl
  g16 := by kernel_rfl
  g17 := by kernel_rfl
  g18 := by kernel_rfl
  g19 := by kernel_rfl
  t80 := Tryz.underlying59
  a80 := Tryz.isAgg59
  z80 := Tryz.sizeOf59
  v80 := Tryz.zeroValue59
  i0 := by kernel_rfl
  i2 := by kernel_rfl
  i3 := by kernel_rfl
  i4 := by kernel_rfl
  i5 := by kernel_rfl
  i9 := by kernel_rfl
  i20 := by kernel_rfl
  i21 := by kernel_rfl
  i37 := by kernel_rfl
  i46 := by kernel_rfl
  i51 := by kernel_rfl
  i53 := by kernel_rfl
  i75 := by kernel_rfl
  i76 := by kernel_rfl
  i80 := by kernel_rfl
  i85 := by kernel_rfl
  i127 := by kernel_rfl
  i143 := by kernel_rfl
  i145 := by kernel_rfl
  i167 := by kernel_rfl
  i168 := by kernel_rfl
  i171 := by kernel_rfl
  i173 := by kernel_rfl
  i175 := by kernel_rfl
  i210 := by kernel_rfl
  i212 := by kernel_rfl
  i232 := by kernel_rfl
  i233 := by kernel_rfl
  m15 := by kernel_rfl
  m16 := by kernel_rfl
  m17 := by kernel_rfl
  m18 := by kernel_rfl
  m19 := by kernel_rfl
  c0 := by kernel_rfl
  c2 := by kernel_rfl
  c3 := by kernel_rfl
  c4 := by kernel_rfl
  c5 := by kernel_rfl
  c9 := by kernel_rfl
  c20 := by kernel_rfl
  c21 := by kernel_rfl
  c37 := by kernel_rfl
  c46 := by kernel_rfl
  c51 := by kernel_rfl
  c53 := by kernel_rfl
  c75 := by kernel_rfl
  c76 := by kernel_rfl
  c80 := by kernel_rfl
  c85 := by kernel_rfl
  c127 := by kernel_rfl
  c143 := by kernel_rfl
  c145 := by kernel_rfl
  c167 := by kernel_rfl
  c168 := by kernel_rfl
  c171 := by kernel_rfl
  c173 := by kernel_rfl
  c175 := by kernel_rfl
  c210 := by kernel_rfl
  c212 := by kernel_rfl
  c213 := by kernel_rfl
  c232 := by kernel_rfl
  c233 := by kernel_rfl
}

end Go.Proofs.YtafdlaaohglfdaaGreatDoor

/- The contract of nameByte: whether a byte may stand in a name. -/
namespace Go.Proofs.YtafdlaaohglfdaaGreatDoor
open Go.RowKit

def letterB (c : Nat) : Bool := (97 ≤ c && c ≤ 122) || (65 ≤ c && c ≤ 90) || c == 95
def nameB (c : Nat) (first : Bool) : Bool := letterB c || (!first && ((48 ≤ c && c ≤ 57) || c == 46 || c == 39))

set_option maxHeartbeats 400000 in
theorem nameByte_calls (c : Nat) (first : Bool) (w : World) (hc : c < 256) :
    Calls Tryz.prog 56 #[.int .u8 c, .bool first] w fun e w' => e = .returned (.bool (nameB c first)) ∧ w' = w := by
  go_enter Tryz.func56, Tryz.ntmps56
  go_wp2
  all_goals
    go_ret
    refine ⟨ret_bool ?_, rfl⟩
    rw [Bool.eq_iff_iff]
    simp [nameB, letterB]
    omega


end Go.Proofs.YtafdlaaohglfdaaGreatDoor

/- Tokens of a level's text, as a function of the text and a place: no walk. -/
namespace Go.Proofs.YtafdlaaohglfdaaGreatDoor
open Go.RowKit

/-- The byte at a place; 0 behind the end. -/
def at_ (s : ByteArray) (k : Nat) : Nat := if h : k < s.size then (s[k]).toNat else 0
theorem at_eq {s : ByteArray} {k : Nat} (h : k < s.size) : (s[k]).toNat = at_ s k := by simp [at_, h]
theorem at_lt (s : ByteArray) (k : Nat) : at_ s k < 256 := by unfold at_; split; exact (s[k]).toNat_lt; omega

/-- How far a run of bytes goes. -/
def run (f : Nat → Bool) (s : ByteArray) : Nat → Nat → Nat
  | 0, k => k
  | n + 1, k => if k < s.size ∧ f (at_ s k) = true then run f s n (k + 1) else k
def runTo (f : Nat → Bool) (s : ByteArray) (k : Nat) : Nat := run f s (s.size - k) k

theorem run_ge (f : Nat → Bool) (s : ByteArray) : ∀ n k, k ≤ run f s n k
  | 0, k => Nat.le_refl _
  | n + 1, k => by simp only [run]; split; have := run_ge f s n (k + 1); omega; omega
theorem run_le (f : Nat → Bool) (s : ByteArray) : ∀ n k, k ≤ s.size → run f s n k ≤ s.size
  | 0, k, h => h
  | n + 1, k, h => by simp only [run]; split; rename_i h'; exact run_le f s n (k + 1) (by omega); exact h
theorem runTo_ge (f : Nat → Bool) (s : ByteArray) (k : Nat) : k ≤ runTo f s k := run_ge f s _ k
theorem runTo_le (f : Nat → Bool) (s : ByteArray) {k : Nat} (h : k ≤ s.size) : runTo f s k ≤ s.size := run_le f s _ k h
theorem runTo_step {f : Nat → Bool} {s : ByteArray} {k : Nat} (h : k < s.size) (hf : f (at_ s k) = true) : runTo f s k = runTo f s (k + 1) := by
  unfold runTo
  rw [show s.size - k = (s.size - (k + 1)) + 1 by omega]
  simp [run, h, hf]
theorem runTo_stop {f : Nat → Bool} {s : ByteArray} {k : Nat} (hf : f (at_ s k) = false) : runTo f s k = k := by
  unfold runTo
  cases s.size - k with
  | zero => rfl
  | succ n => simp [run, hf]
theorem runTo_end {f : Nat → Bool} {s : ByteArray} {k : Nat} (h : s.size ≤ k) : runTo f s k = k := by
  unfold runTo
  rw [show s.size - k = 0 by omega]
  rfl

def blankB (c : Nat) : Bool := c == 32 || c == 9 || c == 10
def digitB (c : Nat) : Bool := 48 ≤ c && c ≤ 57

structure Token where
  t : ByteArray
  at_ : Nat
  ok : Bool

/-- The token that begins at a place that is no blank. -/
def tokAt (s : ByteArray) (k : Nat) : Token :=
  if at_ s k = 40 ∨ at_ s k = 41 then ⟨s.extract k (k + 1), k, true⟩
  else if nameB (at_ s k) true = true then
    if 40 < runTo (fun c => nameB c false) s (k + 1) - k then ⟨⟨#[]⟩, k, false⟩ else ⟨s.extract k (runTo (fun c => nameB c false) s (k + 1)), k, true⟩
  else if at_ s k = 35 ∨ digitB (at_ s k) = true then
    let q := runTo digitB s (k + 1)
    let d := if at_ s k = 35 then k + 1 else k
    if q = d ∨ 5 < q - d ∨ (1 < q - d ∧ at_ s d = 48) then ⟨⟨#[]⟩, k, false⟩ else ⟨s.extract k q, k, true⟩
  else ⟨⟨#[]⟩, k, false⟩

def tok (s : ByteArray) (p : Nat) : Token :=
  if runTo blankB s p = s.size then ⟨⟨#[]⟩, runTo blankB s p, true⟩ else tokAt s (runTo blankB s p)

theorem tokAt_facts {s : ByteArray} {k : Nat} (h : k < s.size) : (tokAt s k).at_ = k ∧ k + (tokAt s k).t.size ≤ s.size ∧ (tokAt s k).t.size ≤ 40 ∧ ((tokAt s k).ok = false → (tokAt s k).t = ⟨#[]⟩) ∧ ((tokAt s k).ok = true → 0 < (tokAt s k).t.size) := by
  have h1 := runTo_ge (fun c => nameB c false) s (k + 1)
  have h2 := runTo_le (fun c => nameB c false) s (k := k + 1) (by omega)
  have h3 := runTo_ge digitB s (k + 1)
  have h4 := runTo_le digitB s (k := k + 1) (by omega)
  have he : (⟨#[]⟩ : ByteArray).size = 0 := rfl
  unfold tokAt
  split
  · simp only [ByteArray.size_extract]; simp; omega
  · split
    · split
      · simp only [he]; simp; omega
      · simp only [ByteArray.size_extract]; simp; omega
    · split
      · dsimp only
        have hd : (if at_ s k = 35 then k + 1 else k) = k + 1 ∨ (if at_ s k = 35 then k + 1 else k) = k := by split <;> simp
        generalize (if at_ s k = 35 then k + 1 else k) = d at hd ⊢
        split
        · refine ⟨rfl, ?_, ?_, fun _ => rfl, fun h => by cases h⟩
          · show k + 0 ≤ s.size; omega
          · show 0 ≤ 40; omega
        · rename_i hn
          simp only [not_or] at hn
          simp only [ByteArray.size_extract]
          simp
          omega
      · simp only [he]; simp; omega

theorem tok_facts {s : ByteArray} {p : Nat} (h : p ≤ s.size) : p ≤ (tok s p).at_ ∧ (tok s p).at_ + (tok s p).t.size ≤ s.size ∧ (tok s p).t.size ≤ 40 ∧ ((tok s p).ok = false → (tok s p).t = ⟨#[]⟩) := by
  have h1 := runTo_ge blankB s p
  have h2 := runTo_le blankB s h
  unfold tok
  split
  · rename_i e
    refine ⟨h1, ?_, ?_, fun h => by cases h⟩
    · show runTo blankB s p + 0 ≤ s.size; omega
    · show 0 ≤ 40; omega
  · rename_i e
    obtain ⟨f1, f2, f3, f4, f5⟩ := tokAt_facts (s := s) (k := runTo blankB s p) (by omega)
    exact ⟨by rw [f1]; exact h1, by rw [f1]; exact f2, f3, f4⟩

end Go.Proofs.YtafdlaaohglfdaaGreatDoor

/- What a call changes: one block alone, and new ones. -/
namespace Go.Proofs.YtafdlaaohglfdaaGreatDoor
open Go.RowKit

/-- What the walk changes: the map alone, and new blocks. -/
def Touched (w : World) (m : Nat) (w' : World) : Prop := w.grownBy w' (some m)

theorem Touched.refl (w : World) (m : Nat) : Touched w m w := World.grownBy.refl _ _
theorem Touched.trans {w w' w'' : World} {m : Nat} (h : Touched w m w') (h' : Touched w' m w'') : Touched w m w'' :=
  ⟨h'.os.trans h.os, h'.tape.trans h.tape, h'.output.trans h.output, Nat.le_trans h.size h'.size, fun k hk hne => (h'.block k (Nat.lt_of_lt_of_le hk h.size) hne).trans (h.block k hk hne)⟩
theorem Touched.alloc (w : World) (m : Nat) (o : Obj) : Touched w m (w.alloc o) := World.grownBy_alloc _ _ _
theorem Touched.cell {w w' : World} {m : Nat} (h : Touched w m w') {p : Addr} (hp : p.block < w.heap.size) (hne : p.block ≠ m) : w'.cell? p = w.cell? p :=
  World.cell?_of_block (h.block p.block hp (by simpa using hne))
theorem Touched.below {w w' : World} {m B : Nat} (h : Touched w m w') (hB : B ≤ w.heap.size) (hm : B ≤ m) : Below B w w' :=
  (Below.refl _ _).grown h hB fun k hk => by injection hk with hk; omega
theorem Touched.of_below {w w' : World} {m : Nat} (h : Below w.heap.size w w') : Touched w m w' := ⟨h.os, h.tape, h.output, h.size, fun k hk _ => h.block k hk⟩
theorem Touched.setNew {w w' : World} {m : Nat} (h : Touched w m w') {a : Addr} (ha : w.heap.size ≤ a.block) (u : Value) : Touched w m (w'.setCell a u) :=
  ⟨h.os, h.tape, h.output, by simp [World.setCell]; exact h.size, fun k hk hne => by rw [Below.heap_setCell _ _ _ _ (by omega)]; exact h.block k hk hne⟩

end Go.Proofs.YtafdlaaohglfdaaGreatDoor
