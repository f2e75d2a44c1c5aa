/- The contract of Print: a level's text. (The library's contract of the builder's String, laid at this program's numbers.) -/
import Derived.Test.YtjlibnijecdgcaaGreatDoorWrite
import Derived.Shelf.Strings.OnBuilder

namespace Go.Proofs.YtjlibnijecdgcaaGreatDoor
open Go.RowKit Go.Shelf

def strLays_ren : Go.Shelf.Ren := ⟨fun | 169 => 19 | n => n, fun | 70 => 52 | 9 => 9 | 0 => 0 | 72 => 55 | 37 => 53 | 127 => 87 | 3 => 3 | 5 => 5 | n => n, fun | n => n⟩
theorem strLays : Go.Proofs.Lays.n169 Tryz.prog strLays_ren := {
  mixed := by kernel_rfl
  f169 := Tryz.func19.trans (congrArg some (by kernel_rfl))
  t0 := Tryz.underlying0
  a0 := Tryz.isAgg0
  z0 := Tryz.sizeOf0
  v0 := Tryz.zeroValue0
  t3 := Tryz.underlying3
  a3 := Tryz.isAgg3
  z3 := Tryz.sizeOf3
  v3 := Tryz.zeroValue3
  t9 := Tryz.underlying9
  a9 := Tryz.isAgg9
  z9 := Tryz.sizeOf9
  v9 := Tryz.zeroValue9
  t37 := Tryz.underlying53
  a37 := Tryz.isAgg53
  z37 := Tryz.sizeOf53
  v37 := Tryz.zeroValue53
  t70 := Tryz.underlying52
  a70 := Tryz.isAgg52
  z70 := Tryz.sizeOf52
  v70 := Tryz.zeroValue52
  t72 := Tryz.underlying55
  a72 := Tryz.isAgg55
  z72 := Tryz.sizeOf55
  v72 := Tryz.zeroValue55
  t127 := Tryz.underlying87
  a127 := Tryz.isAgg87
  z127 := Tryz.sizeOf87
  v127 := Tryz.zeroValue87 }
theorem strExtra : Builder.Extra Tryz.prog strLays_ren := {
  sizeBuilder := by kernel_rfl
  liesBuilder := by kernel_rfl
  t5 := Tryz.underlying5
  a5 := Tryz.isAgg5
  z5 := Tryz.sizeOf5
  v5 := Tryz.zeroValue5
  infoByte := by kernel_rfl
  cellsByte := by kernel_rfl
  sizeByte := by kernel_rfl
  neB5 := by decide }

theorem string_calls (b : Nat) (l : List UInt8) (w : World) (h : Holds w b l) : Calls Tryz.prog 19 #[.pointer (some ⟨b, 0, none⟩)] w fun e w' => e = .returned (.string ⟨l.toArray⟩) ∧ Below b w w' :=
  (Any.Builder_String_any_k strLays strExtra b b l w h (Nat.le_of_lt h.lt)).mono fun _ _ ⟨he, _, hb, _⟩ => ⟨he, hb⟩

theorem Holds.new (w : World) : Holds (w.alloc (.cells #[.pointer none, .slice none 0 0] 55)) w.heap.size [] :=
  .inl ⟨Nat.le_refl _, .slice none 0 0, heap_alloc_new _ _, ⟨rfl, .inl ⟨rfl, rfl⟩⟩, by simp [Value.ownBlock]⟩

end Go.Proofs.YtjlibnijecdgcaaGreatDoor

/- The library's contract of a function, laid at this program's numbers: plain text. -/
namespace Go.Proofs.YtjlibnijecdgcaaGreatDoor
open Go.RowKit Go.Shelf

def joinLays_ren : Go.Shelf.Ren := ⟨fun | 0 => 0 | 1 => 1 | 2 => 2 | 129 => 99 | 137 => 90 | 156 => 37 | 165 => 67 | 166 => 17 | 167 => 18 | 169 => 19 | 171 => 22 | 172 => 94 | 205 => 122 | 217 => 106 | 240 => 36 | 241 => 84 | 243 => 38 | 244 => 107 | 245 => 108 | 246 => 68 | 247 => 114 | 266 => 113 | 276 => 66 | 277 => 97 | 279 => 115 | 280 => 116 | 281 => 117 | 282 => 118 | 283 => 85 | 284 => 86 | 285 => 87 | 286 => 88 | 287 => 120 | 316 => 121 | 317 => 98 | 318 => 100 | 319 => 101 | 320 => 102 | 321 => 124 | 322 => 125 | 337 => 110 | 338 => 111 | 347 => 126 | 348 => 127 | 349 => 128 | 350 => 129 | 351 => 130 | 352 => 131 | 353 => 132 | 354 => 133 | 355 => 134 | 356 => 135 | 357 => 136 | 358 => 137 | 359 => 138 | 360 => 141 | 361 => 142 | 362 => 143 | 363 => 162 | 364 => 159 | 365 => 160 | 366 => 147 | 367 => 177 | n => n,
  fun | 0 => 0 | 1 => 1 | 2 => 2 | 3 => 3 | 4 => 4 | 5 => 5 | 6 => 6 | 7 => 7 | 8 => 8 | 9 => 9 | 10 => 10 | 11 => 11 | 12 => 12 | 13 => 13 | 14 => 14 | 15 => 15 | 16 => 16 | 17 => 17 | 18 => 18 | 19 => 19 | 20 => 20 | 21 => 21 | 31 => 39 | 37 => 53 | 41 => 129 | 46 => 166 | 47 => 167 | 51 => 163 | 52 => 176 | 53 => 150 | 54 => 151 | 55 => 158 | 67 => 89 | 69 => 188 | 70 => 52 | 71 => 54 | 72 => 55 | 73 => 67 | 74 => 28 | 75 => 29 | 76 => 56 | 77 => 57 | 78 => 58 | 80 => 59 | 81 => 201 | 83 => 60 | 84 => 122 | 85 => 179 | 86 => 180 | 103 => 101 | 104 => 23 | 108 => 191 | 111 => 165 | 114 => 103 | 127 => 87 | 128 => 175 | 131 => 132 | 143 => 193 | 144 => 194 | 145 => 195 | 164 => 108 | 165 => 121 | 166 => 160 | 167 => 178 | 168 => 181 | 169 => 182 | 170 => 183 | 171 => 149 | 172 => 152 | 173 => 153 | 174 => 154 | 175 => 186 | 176 => 187 | 209 => 189 | 210 => 190 | 211 => 161 | 212 => 162 | 213 => 164 | 214 => 192 | 232 => 184 | 233 => 185 | 238 => 196 | 239 => 197 | 240 => 198 | 241 => 199 | 242 => 200 | 243 => 203 | 244 => 116 | 245 => 204 | 246 => 205 | 247 => 206 | 248 => 207 | 249 => 208 | n => n,
  fun | 1 => 7 | 15 => 10 | 16 => 11 | 17 => 5 | 18 => 8 | 19 => 9 | n => n⟩
set_option maxRecDepth 100000 in
theorem joinLays : Go.Proofs.Lays.n156 Tryz.prog joinLays_ren := {
  mixed := by kernel_rfl
  f156 := Tryz.func37.trans (congrArg some (by kernel_rfl))
  f165 := Tryz.func67.trans (congrArg some (by kernel_rfl))
  f166 := Tryz.func17.trans (congrArg some (by kernel_rfl))
  f169 := Tryz.func19.trans (congrArg some (by kernel_rfl))
  f240 := Tryz.func36.trans (congrArg some (by kernel_rfl))
  f241 := Tryz.func84.trans (congrArg some (by kernel_rfl))
  f276 := Tryz.func66.trans (congrArg some (by kernel_rfl))
  f277 := Tryz.func97.trans (congrArg some (by kernel_rfl))
  t0 := Tryz.underlying0
  a0 := Tryz.isAgg0
  z0 := Tryz.sizeOf0
  v0 := Tryz.zeroValue0
  t3 := Tryz.underlying3
  a3 := Tryz.isAgg3
  z3 := Tryz.sizeOf3
  v3 := Tryz.zeroValue3
  t4 := Tryz.underlying4
  a4 := Tryz.isAgg4
  z4 := Tryz.sizeOf4
  v4 := Tryz.zeroValue4
  t9 := Tryz.underlying9
  a9 := Tryz.isAgg9
  z9 := Tryz.sizeOf9
  v9 := Tryz.zeroValue9
  t20 := Tryz.underlying20
  a20 := Tryz.isAgg20
  z20 := Tryz.sizeOf20
  v20 := Tryz.zeroValue20
  t31 := Tryz.underlying39
  a31 := Tryz.isAgg39
  z31 := Tryz.sizeOf39
  v31 := Tryz.zeroValue39
  t37 := Tryz.underlying53
  a37 := Tryz.isAgg53
  z37 := Tryz.sizeOf53
  v37 := Tryz.zeroValue53
  t70 := Tryz.underlying52
  a70 := Tryz.isAgg52
  z70 := Tryz.sizeOf52
  v70 := Tryz.zeroValue52
  t72 := Tryz.underlying55
  a72 := Tryz.isAgg55
  z72 := Tryz.sizeOf55
  v72 := Tryz.zeroValue55
  t75 := Tryz.underlying29
  a75 := Tryz.isAgg29
  z75 := Tryz.sizeOf29
  v75 := Tryz.zeroValue29
  t76 := Tryz.underlying56
  a76 := Tryz.isAgg56
  z76 := Tryz.sizeOf56
  v76 := Tryz.zeroValue56
  t127 := Tryz.underlying87
  a127 := Tryz.isAgg87
  z127 := Tryz.sizeOf87
  v127 := Tryz.zeroValue87
  t164 := Tryz.underlying108
  a164 := Tryz.isAgg108
  z164 := Tryz.sizeOf108
  v164 := Tryz.zeroValue108
}

theorem joinExtra : Builder.Extra Tryz.prog joinLays_ren := {
  sizeBuilder := by kernel_rfl
  liesBuilder := by kernel_rfl
  t5 := Tryz.underlying5
  a5 := Tryz.isAgg5
  z5 := Tryz.sizeOf5
  v5 := Tryz.zeroValue5
  infoByte := by kernel_rfl
  cellsByte := by kernel_rfl
  sizeByte := by kernel_rfl
  neB5 := by decide }

/-- Texts in a row. -/
def StrRow (w : World) (A : Option Addr) (xs : List ByteArray) : Prop := xs = [] ∨ ∃ bk o, A = some ⟨bk, o, none⟩ ∧ bk < w.heap.size ∧ ∀ (j : Nat) x, xs[j]? = some x → w.cell? ⟨bk, o + j, none⟩ = some (.string x)
/-- Texts with a blank between. -/
def blanked (xs : List ByteArray) : ByteArray := ⟨(Lib.join (xs.map (·.data.toList)) [32]).toArray⟩

theorem join_calls (A : Option Addr) (c : Nat) (xs : List ByteArray) (w : World) (h : StrRow w A xs) (hN : xs.length ≤ 140737488355328) (hc : xs.length ≤ c) (hl : (blanked xs).size ≤ 140737488355328) :
    Calls Tryz.prog 37 #[.slice A xs.length c, .string ⟨#[32]⟩] w fun e w' => e = .returned (.string (blanked xs)) ∧ Below w.heap.size w w' := by
  rcases h with rfl | ⟨bk, o, rfl, hb, hx⟩
  · exact (Any.strings_Join_none joinLays joinExtra A c ⟨#[32]⟩ w).mono fun e w' ⟨he, hw⟩ => ⟨he, hw ▸ Below.refl _ _⟩
  · exact Any.strings_Join joinLays joinExtra bk o c xs ⟨#[32]⟩ w hx hb hN hc hl

set_option maxHeartbeats 1000000 in
theorem inBrackets_calls (A : Option Addr) (c : Nat) (xs : List ByteArray) (w : World) (h : StrRow w A xs) (hN : xs.length ≤ 1000000) (hc : xs.length ≤ c) (hl : (blanked xs).size ≤ 1000000000000) :
    Calls Tryz.prog 21 #[.slice A xs.length c] w fun e w' => e = .returned (.string (⟨#[40]⟩ ++ blanked xs ++ ⟨#[41]⟩)) ∧ Below w.heap.size w w' := by
  have K := hide (join_calls A c xs w h (by omega) hc (by omega))
  clear h
  go_enter Tryz.func21, Tryz.ntmps21
  go_wp2_with (go_at_call 37; refine K.out.mono ?_)
  rintro e w1 ⟨rfl, hb⟩
  have HB := hide hb
  clear hb K
  go_wp2_with fail
  go_ret
  exact ⟨rfl, HB.out⟩

end Go.Proofs.YtjlibnijecdgcaaGreatDoor
