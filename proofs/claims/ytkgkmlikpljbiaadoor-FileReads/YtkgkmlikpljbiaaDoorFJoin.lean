/- The contract of Print: a level's text. (The library's contract of the builder's String, laid at this program's numbers.) -/
import Derived.Test.YtkgkmlikpljbiaaDoorWrite
import Derived.Shelf.Strings.OnBuilder

namespace Go.Proofs.YtkgkmlikpljbiaaDoor
open Go.RowKit Go.Shelf

def strLays_ren : Go.Shelf.Ren := ⟨fun | 169 => 11 | n => n, fun | 70 => 34 | 9 => 9 | 0 => 0 | 72 => 37 | 37 => 35 | 127 => 68 | 3 => 3 | 5 => 5 | n => n, fun | n => n⟩
theorem strLays : Go.Proofs.Lays.n169 Tryd.prog strLays_ren := {
  mixed := by kernel_rfl
  f169 := Tryd.func11.trans (congrArg some (by kernel_rfl))
  t0 := Tryd.underlying0
  a0 := Tryd.isAgg0
  z0 := Tryd.sizeOf0
  v0 := Tryd.zeroValue0
  t3 := Tryd.underlying3
  a3 := Tryd.isAgg3
  z3 := Tryd.sizeOf3
  v3 := Tryd.zeroValue3
  t9 := Tryd.underlying9
  a9 := Tryd.isAgg9
  z9 := Tryd.sizeOf9
  v9 := Tryd.zeroValue9
  t37 := Tryd.underlying35
  a37 := Tryd.isAgg35
  z37 := Tryd.sizeOf35
  v37 := Tryd.zeroValue35
  t70 := Tryd.underlying34
  a70 := Tryd.isAgg34
  z70 := Tryd.sizeOf34
  v70 := Tryd.zeroValue34
  t72 := Tryd.underlying37
  a72 := Tryd.isAgg37
  z72 := Tryd.sizeOf37
  v72 := Tryd.zeroValue37
  t127 := Tryd.underlying68
  a127 := Tryd.isAgg68
  z127 := Tryd.sizeOf68
  v127 := Tryd.zeroValue68 }
theorem strExtra : Builder.Extra Tryd.prog strLays_ren := {
  sizeBuilder := by kernel_rfl
  liesBuilder := by kernel_rfl
  t5 := Tryd.underlying5
  a5 := Tryd.isAgg5
  z5 := Tryd.sizeOf5
  v5 := Tryd.zeroValue5
  infoByte := by kernel_rfl
  cellsByte := by kernel_rfl
  sizeByte := by kernel_rfl
  neB5 := by decide }

theorem string_calls (b : Nat) (l : List UInt8) (w : World) (h : Holds w b l) : Calls Tryd.prog 11 #[.pointer (some ⟨b, 0, none⟩)] w fun e w' => e = .returned (.string ⟨l.toArray⟩) ∧ Below b w w' :=
  (Any.Builder_String_any_k strLays strExtra b b l w h (Nat.le_of_lt h.lt)).mono fun _ _ ⟨he, _, hb, _⟩ => ⟨he, hb⟩

theorem Holds.new (w : World) : Holds (w.alloc (.cells #[.pointer none, .slice none 0 0] 37)) w.heap.size [] :=
  .inl ⟨Nat.le_refl _, .slice none 0 0, heap_alloc_new _ _, ⟨rfl, .inl ⟨rfl, rfl⟩⟩, by simp [Value.ownBlock]⟩

end Go.Proofs.YtkgkmlikpljbiaaDoor

/- The library's contract of a function, laid at this program's numbers: plain text. -/
namespace Go.Proofs.YtkgkmlikpljbiaaDoor
open Go.RowKit Go.Shelf

def joinLays_ren : Go.Shelf.Ren := ⟨fun | 0 => 0 | 1 => 1 | 2 => 2 | 129 => 67 | 137 => 49 | 156 => 36 | 165 => 46 | 166 => 8 | 167 => 10 | 169 => 11 | 171 => 21 | 172 => 53 | 205 => 82 | 217 => 61 | 240 => 18 | 241 => 56 | 243 => 37 | 244 => 62 | 245 => 63 | 246 => 47 | 247 => 72 | 266 => 71 | 276 => 35 | 277 => 65 | 279 => 73 | 280 => 74 | 281 => 75 | 282 => 76 | 283 => 57 | 284 => 58 | 285 => 59 | 286 => 60 | 287 => 80 | 316 => 81 | 317 => 66 | 318 => 68 | 319 => 69 | 320 => 70 | 321 => 84 | 322 => 85 | 337 => 78 | 338 => 79 | 347 => 86 | 348 => 87 | 349 => 88 | 350 => 89 | 351 => 90 | 352 => 91 | 353 => 92 | 354 => 93 | 355 => 94 | 356 => 95 | 357 => 96 | 358 => 97 | 359 => 98 | 360 => 99 | 361 => 100 | 362 => 101 | 363 => 105 | 364 => 103 | 365 => 104 | 366 => 106 | 367 => 118 | n => n,
  fun | 0 => 0 | 1 => 1 | 2 => 2 | 3 => 3 | 4 => 4 | 5 => 5 | 6 => 6 | 7 => 7 | 8 => 8 | 9 => 9 | 10 => 10 | 11 => 11 | 12 => 12 | 13 => 13 | 14 => 14 | 15 => 15 | 16 => 16 | 17 => 17 | 18 => 18 | 19 => 19 | 20 => 20 | 21 => 21 | 31 => 38 | 37 => 35 | 41 => 89 | 46 => 123 | 47 => 124 | 51 => 120 | 52 => 131 | 53 => 104 | 54 => 105 | 55 => 101 | 67 => 84 | 69 => 134 | 70 => 34 | 71 => 36 | 72 => 37 | 73 => 52 | 74 => 24 | 75 => 25 | 76 => 46 | 77 => 47 | 78 => 49 | 80 => 50 | 81 => 150 | 83 => 63 | 84 => 94 | 85 => 126 | 86 => 127 | 103 => 76 | 104 => 141 | 108 => 137 | 111 => 122 | 114 => 78 | 127 => 68 | 128 => 115 | 131 => 92 | 143 => 142 | 144 => 143 | 145 => 144 | 164 => 81 | 165 => 82 | 166 => 117 | 167 => 125 | 168 => 128 | 169 => 129 | 170 => 130 | 171 => 103 | 172 => 106 | 173 => 107 | 174 => 108 | 175 => 132 | 176 => 133 | 209 => 135 | 210 => 136 | 211 => 118 | 212 => 119 | 213 => 121 | 214 => 140 | 232 => 138 | 233 => 139 | 238 => 145 | 239 => 146 | 240 => 147 | 241 => 148 | 242 => 149 | 243 => 151 | 244 => 152 | 245 => 153 | 246 => 154 | 247 => 155 | 248 => 156 | 249 => 157 | n => n,
  fun | 1 => 5 | 15 => 6 | 16 => 7 | 17 => 4 | 18 => 8 | 19 => 9 | n => n⟩
set_option maxRecDepth 100000 in
theorem joinLays : Go.Proofs.Lays.n156 Tryd.prog joinLays_ren := {
  mixed := by kernel_rfl
  f156 := Tryd.func36.trans (congrArg some (by kernel_rfl))
  f165 := Tryd.func46.trans (congrArg some (by kernel_rfl))
  f166 := Tryd.func8.trans (congrArg some (by kernel_rfl))
  f169 := Tryd.func11.trans (congrArg some (by kernel_rfl))
  f240 := Tryd.func18.trans (congrArg some (by kernel_rfl))
  f241 := Tryd.func56.trans (congrArg some (by kernel_rfl))
  f276 := Tryd.func35.trans (congrArg some (by kernel_rfl))
  f277 := Tryd.func65.trans (congrArg some (by kernel_rfl))
  t0 := Tryd.underlying0
  a0 := Tryd.isAgg0
  z0 := Tryd.sizeOf0
  v0 := Tryd.zeroValue0
  t3 := Tryd.underlying3
  a3 := Tryd.isAgg3
  z3 := Tryd.sizeOf3
  v3 := Tryd.zeroValue3
  t4 := Tryd.underlying4
  a4 := Tryd.isAgg4
  z4 := Tryd.sizeOf4
  v4 := Tryd.zeroValue4
  t9 := Tryd.underlying9
  a9 := Tryd.isAgg9
  z9 := Tryd.sizeOf9
  v9 := Tryd.zeroValue9
  t20 := Tryd.underlying20
  a20 := Tryd.isAgg20
  z20 := Tryd.sizeOf20
  v20 := Tryd.zeroValue20
  t31 := Tryd.underlying38
  a31 := Tryd.isAgg38
  z31 := Tryd.sizeOf38
  v31 := Tryd.zeroValue38
  t37 := Tryd.underlying35
  a37 := Tryd.isAgg35
  z37 := Tryd.sizeOf35
  v37 := Tryd.zeroValue35
  t70 := Tryd.underlying34
  a70 := Tryd.isAgg34
  z70 := Tryd.sizeOf34
  v70 := Tryd.zeroValue34
  t72 := Tryd.underlying37
  a72 := Tryd.isAgg37
  z72 := Tryd.sizeOf37
  v72 := Tryd.zeroValue37
  t75 := Tryd.underlying25
  a75 := Tryd.isAgg25
  z75 := Tryd.sizeOf25
  v75 := Tryd.zeroValue25
  t76 := Tryd.underlying46
  a76 := Tryd.isAgg46
  z76 := Tryd.sizeOf46
  v76 := Tryd.zeroValue46
  t127 := Tryd.underlying68
  a127 := Tryd.isAgg68
  z127 := Tryd.sizeOf68
  v127 := Tryd.zeroValue68
  t164 := Tryd.underlying81
  a164 := Tryd.isAgg81
  z164 := Tryd.sizeOf81
  v164 := Tryd.zeroValue81
}

theorem joinExtra : Builder.Extra Tryd.prog joinLays_ren := {
  sizeBuilder := by kernel_rfl
  liesBuilder := by kernel_rfl
  t5 := Tryd.underlying5
  a5 := Tryd.isAgg5
  z5 := Tryd.sizeOf5
  v5 := Tryd.zeroValue5
  infoByte := by kernel_rfl
  cellsByte := by kernel_rfl
  sizeByte := by kernel_rfl
  neB5 := by decide }

/-- Texts in a row. -/
def StrRow (w : World) (A : Option Addr) (xs : List ByteArray) : Prop := xs = [] ∨ ∃ bk o, A = some ⟨bk, o, none⟩ ∧ bk < w.heap.size ∧ ∀ (j : Nat) x, xs[j]? = some x → w.cell? ⟨bk, o + j, none⟩ = some (.string x)
/-- Texts with a blank between. -/
def blanked (xs : List ByteArray) : ByteArray := ⟨(Lib.join (xs.map (·.data.toList)) [32]).toArray⟩

theorem join_calls (A : Option Addr) (c : Nat) (xs : List ByteArray) (w : World) (h : StrRow w A xs) (hN : xs.length ≤ 140737488355328) (hc : xs.length ≤ c) (hl : (blanked xs).size ≤ 140737488355328) :
    Calls Tryd.prog 36 #[.slice A xs.length c, .string ⟨#[32]⟩] w fun e w' => e = .returned (.string (blanked xs)) ∧ Below w.heap.size w w' := by
  rcases h with rfl | ⟨bk, o, rfl, hb, hx⟩
  · exact (Any.strings_Join_none joinLays joinExtra A c ⟨#[32]⟩ w).mono fun e w' ⟨he, hw⟩ => ⟨he, hw ▸ Below.refl _ _⟩
  · exact Any.strings_Join joinLays joinExtra bk o c xs ⟨#[32]⟩ w hx hb hN hc hl

set_option maxHeartbeats 1000000 in
theorem inBrackets_calls (A : Option Addr) (c : Nat) (xs : List ByteArray) (w : World) (h : StrRow w A xs) (hN : xs.length ≤ 1000000) (hc : xs.length ≤ c) (hl : (blanked xs).size ≤ 1000000000000) :
    Calls Tryd.prog 20 #[.slice A xs.length c] w fun e w' => e = .returned (.string (⟨#[40]⟩ ++ blanked xs ++ ⟨#[41]⟩)) ∧ Below w.heap.size w w' := by
  have K := hide (join_calls A c xs w h (by omega) hc (by omega))
  clear h
  go_enter Tryd.func20, Tryd.ntmps20
  go_wp2_with (go_at_call 36; refine K.out.mono ?_)
  rintro e w1 ⟨rfl, hb⟩
  have HB := hide hb
  clear hb K
  go_wp2_with fail
  go_ret
  exact ⟨rfl, HB.out⟩

end Go.Proofs.YtkgkmlikpljbiaaDoor
