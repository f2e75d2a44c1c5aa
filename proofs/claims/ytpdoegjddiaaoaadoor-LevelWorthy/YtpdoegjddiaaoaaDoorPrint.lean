/- The contract of Print: a level's text. (The library's contract of the builder's String, laid at this program's numbers.) -/
import Derived.Test.YtpdoegjddiaaoaaDoorWrite
namespace Go.Proofs.YtpdoegjddiaaoaaDoor
open Go.RowKit Go.Shelf

def strLays_ren : Go.Shelf.Ren := ⟨fun | 169 => 23 | n => n, fun | 70 => 56 | 9 => 9 | 0 => 0 | 72 => 59 | 37 => 57 | 127 => 82 | 3 => 3 | 5 => 5 | n => n, fun | n => n⟩
theorem strLays : Go.Proofs.Lays.n169 Tryd.prog strLays_ren := {
  mixed := by kernel_rfl
  f169 := Tryd.func23.trans (congrArg some (by kernel_rfl))
  t0 := Tryd.underlying0
  a0 := Tryd.isAgg0
  z0 := Tryd.sizeOf0
  v0 := Tryd.zeroValue0
  t3 := Tryd.underlying3
  a3 := Tryd.isAgg3
  z3 := Tryd.sizeOf3
  v3 := Tryd.zeroValue3
  t9 := Tryd.underlying9
  a9 := Tryd.isAgg9
  z9 := Tryd.sizeOf9
  v9 := Tryd.zeroValue9
  t37 := Tryd.underlying57
  a37 := Tryd.isAgg57
  z37 := Tryd.sizeOf57
  v37 := Tryd.zeroValue57
  t70 := Tryd.underlying56
  a70 := Tryd.isAgg56
  z70 := Tryd.sizeOf56
  v70 := Tryd.zeroValue56
  t72 := Tryd.underlying59
  a72 := Tryd.isAgg59
  z72 := Tryd.sizeOf59
  v72 := Tryd.zeroValue59
  t127 := Tryd.underlying82
  a127 := Tryd.isAgg82
  z127 := Tryd.sizeOf82
  v127 := Tryd.zeroValue82 }
theorem strExtra : Builder.Extra Tryd.prog strLays_ren := {
  sizeBuilder := by kernel_rfl
  liesBuilder := by kernel_rfl
  t5 := Tryd.underlying5
  a5 := Tryd.isAgg5
  z5 := Tryd.sizeOf5
  v5 := Tryd.zeroValue5
  infoByte := by kernel_rfl
  cellsByte := by kernel_rfl
  sizeByte := by kernel_rfl
  neB5 := by decide }

theorem string_calls (b : Nat) (l : List UInt8) (w : World) (h : Holds w b l) : Calls Tryd.prog 23 #[.pointer (some ⟨b, 0, none⟩)] w fun e w' => e = .returned (.string ⟨l.toArray⟩) ∧ Below b w w' :=
  (Any.Builder_String_any_k strLays strExtra b b l w h (Nat.le_of_lt h.lt)).mono fun _ _ ⟨he, _, hb, _⟩ => ⟨he, hb⟩

theorem Holds.new (w : World) : Holds (w.alloc (.cells #[.pointer none, .slice none 0 0] 59)) w.heap.size [] :=
  .inl ⟨Nat.le_refl _, .slice none 0 0, heap_alloc_new _ _, ⟨rfl, .inl ⟨rfl, rfl⟩⟩, by simp [Value.ownBlock]⟩

set_option maxHeartbeats 1000000 in
theorem print_calls (l : LvB) (v : Value) (B : Nat) (w : World) (hn : l.nodes ≤ 1000000) (hm : ∀ p, Lv.has p l → p.size ≤ 1000) (hBw : B ≤ w.heap.size) (hl : InLv w B l v) (ht : Table w) (h0 : 0 < w.heap.size) :
    Calls Tryd.prog 11 #[v] w fun e w' => e = .returned (.string ⟨l.text.toArray⟩) ∧ Below w.heap.size w w' := by
  obtain ⟨A, cap, e1⟩ := hl.form
  have htl := Lv.text_len l hm
  have HW : Hid (∀ o, Calls Tryd.prog 22 #[.pointer (some ⟨w.heap.size + 1, 0, none⟩), v] ((w.alloc o).alloc (.cells #[.pointer none, .slice none 0 0] 59)) fun e w' => e = .returned (.tuple #[]) ∧ Holds w' (w.heap.size + 1) l.text ∧ Wrote (w.heap.size + 1) ((w.alloc o).alloc (.cells #[.pointer none, .slice none 0 0] 59)) w') := fun o => by
    have hold : Below w.heap.size w ((w.alloc o).alloc (.cells #[.pointer none, .slice none 0 0] 59)) := ((Below.refl _ _).alloc (Nat.le_refl _) _).alloc (by simp) _
    have hh := Holds.new (w.alloc o)
    have e : (w.alloc o).heap.size = w.heap.size + 1 := by simp
    rw [e] at hh
    have := write_calls l.nodes l v B (w.heap.size + 1) [] _ (Nat.le_refl _) (by omega) (by omega) (hl.below (hold.mono hBw)) hm hh (by simp; omega) (ht.below hold h0)
    simpa using this
  have HO : Hid (∀ o W, Below (w.heap.size + 1) ((w.alloc o).alloc (.cells #[.pointer none, .slice none 0 0] 59)) W → Below w.heap.size w W) := fun o W hW => (((Below.refl _ _).alloc (Nat.le_refl _) _).alloc (by simp) _).trans (hW.mono (by omega))
  subst e1
  clear hl hm ht
  go_enter Tryd.func11, Tryd.ntmps11
  go_wp2_with (go_at_call 22; refine (HW.out _).mono ?_)
  rintro e w1 ⟨rfl, hh, hw⟩
  have HS := hide (string_calls _ _ _ hh)
  have HB := hide (HO.out _ _ hw.low)
  clear hh hw
  go_wp2_with (go_at_call 23; refine HS.out.mono ?_)
  rintro e w2 ⟨rfl, hb⟩
  have HB2 := hide (HB.out.trans (hb.mono (by omega)))
  clear hb
  go_wp2_with fail
  go_ret
  exact ⟨rfl, HB2.out⟩

end Go.Proofs.YtpdoegjddiaaoaaDoor
