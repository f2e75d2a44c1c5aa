/- What the reader makes has short lists. -/
import Derived.Test.YtekfledccpeblaaGreatDoorSc2
import Derived.Test.YtekfledccpeblaaGreatDoorPd
import Derived.WalkKit
import Derived.LaidEql
import Derived.Stop.Asserts
import Derived.RowKitTokens

namespace Go.Proofs.YtekfledccpeblaaGreatDoor
open Go.RowKit

section
variable {s : ByteArray} {n : Nat}
theorem commas_few : ∀ (m : Nat) (l : List ByteArray) (st : FS), (commasN s m l st).1.length ≤ l.length + m
  | 0, l, st => by simp [commasN]
  | m + 1, l, st => by
    simp only [commasN]
    split
    · have := commas_few m (l ++ [((st.step s).name s).1]) ((st.step s).name s).2
      rw [List.length_append, List.length_singleton] at this
      omega
    · simp
theorem more_few : ∀ (m : Nat) (l : List ByteArray) (st : FS), (moreN s m l st).1.length ≤ l.length + m
  | 0, l, st => by simp [moreN]
  | m + 1, l, st => by
    simp only [moreN]
    split
    · have := more_few m (l ++ [(st.name s).1]) (st.name s).2
      rw [List.length_append, List.length_singleton] at this
      omega
    · simp
theorem tactics_few : ∀ (m : Nat) (l : List Tc) (st : FS), (tacticsN s n m l st).1.length ≤ l.length + m
  | 0, l, st => by simp [tacticsN]
  | m + 1, l, st => by
    simp only [tacticsN]
    split
    · have := tactics_few m (l ++ [(tacticF s n (st.step s)).1]) (tacticF s n (st.step s)).2
      rw [List.length_append, List.length_singleton] at this
      omega
    · simp
theorem ctors_few : ∀ (m : Nat) (l : List Ct) (st : FS), (ctorsN s n m l st).1.length ≤ l.length + m
  | 0, l, st => by simp [ctorsN]
  | m + 1, l, st => by
    simp only [ctorsN]
    split
    · have := ctors_few m (l ++ [(ctorF s n (st.step s)).1]) (ctorF s n (st.step s)).2
      rw [List.length_append, List.length_singleton] at this
      omega
    · simp
theorem commands_few : ∀ (m : Nat) (l : List Cm) (st : FS), (commandsN s n m l st).1.length ≤ l.length + m
  | 0, l, st => by simp [commandsN]
  | m + 1, l, st => by
    simp only [commandsN]
    split
    · have := commands_few m (l ++ [(commandF s n st).1]) (commandF s n st).2
      rw [List.length_append, List.length_singleton] at this
      omega
    · simp
/-- A tactic whose lists are short. -/
def TcFit (t : Tc) : Prop := t.nms.length ≤ 1000000000000 ∧ t.xs.length ≤ 1 ∧ ∀ x ∈ t.xs, ExFit 1000000 x
theorem ex_fit (hn : n ≤ 900000) (st : FS) : ExFit 1000000 (exprN s n st).1 := (exprN_fit s n st).mono (by omega)
theorem tactic_fit (hn : n ≤ 900000) (st : FS) : TcFit (tacticF s n st).1 := by
  unfold tacticF
  generalize (if st.kin 1 = true then wordNo st.t.t tacWords 1 else 0) = k
  simp only
  have hm := more_few (s := s) n [((st.step s).name s).1] ((st.step s).name s).2
  rw [List.length_singleton] at hm
  split
  · exact ⟨by simp, by simp, by simp⟩
  split
  · exact ⟨by show (moreN s n _ _).1.length ≤ _; omega, by simp, by simp⟩
  split
  · exact ⟨by simp, by simp, by simp⟩
  split
  · exact ⟨by simp, by simp, by simp only [List.mem_singleton]; rintro x rfl; exact ex_fit hn _⟩
  split
  · exact ⟨by simp, by simp, by simp only [List.mem_singleton]; rintro x rfl; exact ex_fit hn _⟩
  split
  · split <;> exact ⟨by simp, by simp, by simp⟩
  · exact ⟨by simp, by simp, by simp⟩
theorem tactics_fit (hn : n ≤ 900000) : ∀ (m : Nat) (l : List Tc) (st : FS), (∀ t ∈ l, TcFit t) → ∀ t ∈ (tacticsN s n m l st).1, TcFit t
  | 0, l, st, h => by simpa [tacticsN] using h
  | m + 1, l, st, h => by
    simp only [tacticsN]
    split
    · exact tactics_fit hn m _ _ fun t ht => by
        rcases List.mem_append.1 ht with h1 | h1
        · exact h t h1
        · rw [List.mem_singleton.1 h1]; exact tactic_fit hn _
    · exact h
theorem ctors_fit (hn : n ≤ 900000) : ∀ (m : Nat) (l : List Ct) (st : FS), (∀ k ∈ l, ExFit 1000000 k.ty) → ∀ k ∈ (ctorsN s n m l st).1, ExFit 1000000 k.ty
  | 0, l, st, h => by simpa [ctorsN] using h
  | m + 1, l, st, h => by
    simp only [ctorsN]
    split
    · exact ctors_fit hn m _ _ fun t ht => by
        rcases List.mem_append.1 ht with h1 | h1
        · exact h t h1
        · rw [List.mem_singleton.1 h1]; exact ex_fit hn _
    · exact h
theorem zero_fit : ExFit 1000000 zeroX := ExFit.zero _ _ _ _ _ _ _ _
theorem command_fit (hn : n ≤ 900000) (st : FS) : CmFit (commandF s n st).1 := by
  by_cases hk : kindNo st = 0
  · rw [commandF_zero hk]
    exact ⟨by simp [zeroC], by simp [zeroC], by simp [zeroC], zero_fit, zero_fit, by simp [zeroC], by simp [zeroC], by simp [zeroC], by simp [zeroC]⟩
  · rw [commandF_eq hk]
    simp only
    generalize (st.step s).name s = q
    have hps : (paramsF s n q.2).1.length ≤ n + 1 := by
      unfold paramsF
      split
      · have := commas_few (s := s) n [((q.2.step s).name s).1] ((q.2.step s).name s).2
        rw [List.length_singleton] at this
        show (commasN s n _ _).1.length ≤ _
        omega
      · simp
    generalize paramsF s n q.2 = p at *
    have hb1 := groupsN_few s n (exprN s n) n [] p.2
    have hb2 := groupsN_fit (s := s) (n := n) (N := 1000000) (E := exprN s n) (fun st => ex_fit hn st) n [] p.2 (by simp)
    generalize groupsN s n (exprN s n) n [] p.2 = b at *
    have hbig : n * (n + 1) ≤ 900000 * 900001 := Nat.mul_le_mul hn (by omega)
    have hbl : b.1.length ≤ 1000000000000 := by simp at hb1; omega
    have ht := ex_fit (s := s) hn (b.2.must s sColon)
    generalize exprN s n (b.2.must s sColon) = t at *
    have base : CmFit ⟨kindNo st, st.t.at_, q.1, p.1, b.1, t.1, zeroX, false, [], []⟩ := ⟨by show p.1.length ≤ _; omega, hbl, hb2, ht, zero_fit, by simp, by simp, by simp, by simp⟩
    unfold restF
    split
    · exact ⟨base.ps, base.bs, base.bt, base.ty, ex_fit hn _, base.ts, base.tt, base.cs, base.ct⟩
    split
    · have h1 := tactics_few (s := s) (n := n) n [(tacticF s n (t.2.step s)).1] (tacticF s n (t.2.step s)).2
      rw [List.length_singleton] at h1
      exact ⟨base.ps, base.bs, base.bt, base.ty, base.vl, by show (tacticsN s n n _ _).1.length ≤ _; omega, tactics_fit hn n _ _ (by simp only [List.mem_singleton]; rintro x rfl; exact tactic_fit hn _), base.cs, base.ct⟩
    split
    · have h1 := ctors_few (s := s) (n := n) n [] t.2
      rw [List.length_nil] at h1
      exact ⟨base.ps, base.bs, base.bt, base.ty, base.vl, base.ts, base.tt, by show (ctorsN s n n _ _).1.length ≤ _; omega, ctors_fit hn n _ _ (by simp)⟩
    · exact base
theorem commands_fit (hn : n ≤ 900000) : ∀ (m : Nat) (l : List Cm) (st : FS), (∀ c ∈ l, CmFit c) → ∀ c ∈ (commandsN s n m l st).1, CmFit c
  | 0, l, st, h => by simpa [commandsN] using h
  | m + 1, l, st, h => by
    simp only [commandsN]
    split
    · exact commands_fit hn m _ _ fun t ht => by
        rcases List.mem_append.1 ht with h1 | h1
        · exact h t h1
        · rw [List.mem_singleton.1 h1]; exact command_fit hn _
    · exact h
end
end Go.Proofs.YtekfledccpeblaaGreatDoor

/- errors.As at a *api.Fault and a target of that type, by its contract: Go's own text of it is walked (after the guide's worked example for such a target, at this program's numbers). -/
namespace Go.Proofs.YtekfledccpeblaaGreatDoor
open Go.RowKit Go.Extern.Stop Go.Stop Go.Extern

theorem as_nil (t : Value) (w : World) :
    Calls Tryz.prog 33 #[.nilIface, t] w fun e w' => e = .returned (.bool false) ∧ w' = w := by
  go_enter Tryz.func33, Tryz.ntmps33
  go_wp2
  go_ret
  exact ⟨rfl, rfl⟩

theorem Tryz.valueOf27 (t : Addr) (w : World) : (ReflectliteValue.unpack (.iface 93 (.pointer (some t)))).run Tryz.prog w
    = .ok (.agg #[.pointer (some ⟨11, 93, none⟩), .pointer (some ⟨w.heap.size, 0, none⟩), .int .u64 150]) (w.alloc (.cells #[.pointer (some t)] 93)) := by kernel_rfl
theorem Tryz.type27 (a : Addr) (w : World) : (ReflectliteValue.methodAny (ReflectliteValue.valueError "reflectlite.Value.Type" 0) (fun t _ _ _ => ReflectliteType.toType t) #[.agg #[.pointer (some ⟨11, 93, none⟩), .pointer (some a), .int .u64 150]]).run Tryz.prog w
    = .ok (.iface 134 (.agg #[.pointer (some ⟨11, 93, none⟩)])) w := by kernel_rfl
theorem Tryz.methodKind (h : Value) (w : World) : (Go.method 337 134 (.agg #[h]) "Kind").run Tryz.prog w = .ok (158, h) w := by kernel_rfl
theorem Tryz.kind27 (w : World) : ((ReflectliteType.abiMethod fun t => (fun a : Nat => Value.int IntKind.u8 (a : Int)) <$> Rtype.kind t) #[.pointer (some ⟨11, 93, none⟩)]).run Tryz.prog w = .ok (.int .u8 22) w := by kernel_rfl
theorem Tryz.kind25 (w : World) : ((ReflectliteType.abiMethod fun t => (fun a : Nat => Value.int IntKind.u8 (a : Int)) <$> Rtype.kind t) #[.pointer (some ⟨11, 69, none⟩)]).run Tryz.prog w = .ok (.int .u8 22) w := by kernel_rfl

theorem rlm (z : Sem Value) (f : TypeId → Addr → Nat → Nat → Sem Value) (v : Value) :
    ReflectliteValue.method z f #[v] = (do match ← ReflectliteValue.parts v with | none => z | some (t, a, fl) => f t a fl (fl % 32)) := rfl
theorem Tryz.parts27 (a : Addr) (w : World) : (ReflectliteValue.parts (.agg #[.pointer (some ⟨11, 93, none⟩), .pointer (some a), .int .u64 150])).run Tryz.prog w = .ok (some (93, a, 150)) w := by kernel_rfl
theorem Tryz.isNil27 (a p : Addr) (W : World) (ha : W.cell? a = some (.pointer (some p))) :
    (ReflectliteValue.method (ReflectliteValue.valueError "reflectlite.Value.IsNil" 0) ReflectliteValue.isNil #[.agg #[.pointer (some ⟨11, 93, none⟩), .pointer (some a), .int .u64 150]]).run Tryz.prog W = .ok (.bool false) W := by
  rw [rlm]
  simp only [Sem.run_bind, Tryz.parts27, Result.andThen]
  simp [ReflectliteValue.isNil, loadVar, isAgg, underlying, Tryz.underlying93, ha, Result.andThen]

theorem Tryz.methodElem (h : Value) (w : World) : (Go.method 337 134 (.agg #[h]) "Elem").run Tryz.prog w = .ok (168, .agg #[h]) w := by kernel_rfl
theorem Tryz.methodImplements (h : Value) (w : World) : (Go.method 337 134 (.agg #[h]) "Implements").run Tryz.prog w = .ok (169, .agg #[h]) w := by kernel_rfl
theorem Tryz.methodAssignableTo (h : Value) (w : World) : (Go.method 337 134 (.agg #[h]) "AssignableTo").run Tryz.prog w = .ok (166, .agg #[h]) w := by kernel_rfl
theorem Tryz.elem27 (w : World) : (ReflectliteType.method ReflectliteType.elem #[.agg #[.pointer (some ⟨11, 93, none⟩)]]).run Tryz.prog w = .ok (.iface 134 (.agg #[.pointer (some ⟨11, 69, none⟩)])) w := by kernel_rfl
theorem Tryz.implements25 (w : World) : (ReflectliteType.relation "Implements" ReflectliteType.implements_ #[.agg #[.pointer (some ⟨11, 69, none⟩)], .iface 134 (.agg #[.pointer (some ⟨11, 29, none⟩)])]).run Tryz.prog w = .ok (.bool true) w := by kernel_rfl
theorem Tryz.typeOf25 (v : Value) (w : World) : (ReflectliteType.typeOf #[.iface 69 v]).run Tryz.prog w = .ok (.iface 134 (.agg #[.pointer (some ⟨11, 69, none⟩)])) w := by kernel_rfl
theorem Tryz.assignable25 (w : World) : (ReflectliteType.relation "AssignableTo" ReflectliteType.assignableTo #[.agg #[.pointer (some ⟨11, 69, none⟩)], .iface 134 (.agg #[.pointer (some ⟨11, 69, none⟩)])]).run Tryz.prog w = .ok (.bool true) w := by kernel_rfl
theorem Tryz.valueOf25 (e : Addr) (w : World) : (ReflectliteValue.unpack (.iface 69 (.pointer (some e)))).run Tryz.prog w
    = .ok (.agg #[.pointer (some ⟨11, 69, none⟩), .pointer (some ⟨w.heap.size, 0, none⟩), .int .u64 150]) (w.alloc (.cells #[.pointer (some e)] 69)) := by kernel_rfl

theorem Tryz.elemOf27 (w : World) : (Rtype.elem? 93).run Tryz.prog w = .ok (some 69) w := by kernel_rfl
theorem Tryz.mk25 (p : Addr) (w : World) : (ReflectliteValue.mk 69 p ReflectliteValue.flagAddr).run Tryz.prog w = .ok (.agg #[.pointer (some ⟨11, 69, none⟩), .pointer (some p), .int .u64 406]) w := by kernel_rfl
theorem Tryz.elemV27 (a p : Addr) (W : World) (ha : W.cell? a = some (.pointer (some p))) :
    (ReflectliteValue.method (ReflectliteValue.valueError "reflectlite.Value.Elem" 0) ReflectliteValue.elem #[.agg #[.pointer (some ⟨11, 93, none⟩), .pointer (some a), .int .u64 150]]).run Tryz.prog W
      = .ok (.agg #[.pointer (some ⟨11, 69, none⟩), .pointer (some p), .int .u64 406]) W := by
  rw [rlm]
  simp only [Sem.run_bind, Tryz.parts27, Result.andThen]
  simp [ReflectliteValue.elem, loadVar, isAgg, underlying, Tryz.underlying93, ha, Result.andThen, Tryz.elemOf27, Tryz.mk25]
theorem rls (v x : Value) : ReflectliteValue.set #[v, x] = (do
    let (some (dst, a, fl), some (src, b, _)) := (← ReflectliteValue.parts v, ← ReflectliteValue.parts x)
      | unsupported (.noEntry "extern/(internal/reflectlite.Value).Set.zeroValue")
    if fl / ReflectliteValue.flagAddr % 2 == 0 then unsupported (.noEntry "extern/(internal/reflectlite.Value).Set.unaddressable")
    let val ← loadVar src b
    if ← Rtype.directlyAssignable dst src then storeVar dst a val
    else if ← Rtype.implements dst src then
      if (← Rtype.kind src) == 20 then
        match val with
        | .nilIface => unsupported (.noEntry "extern/reflectlite: a nil value of one interface type handed on as a value of another")
        | _ => storeVar dst a val
      else storeVar dst a (.iface src val)
    else panicString ("reflectlite.Set: value of type " ++ (← Rtype.spelt src) ++ " is not assignable to type " ++ (← Rtype.spelt dst))
    pure (.tuple #[])) := rfl
theorem Tryz.parts25a (a : Addr) (w : World) : (ReflectliteValue.parts (.agg #[.pointer (some ⟨11, 69, none⟩), .pointer (some a), .int .u64 406])).run Tryz.prog w = .ok (some (69, a, 406)) w := by kernel_rfl
theorem Tryz.parts25 (a : Addr) (w : World) : (ReflectliteValue.parts (.agg #[.pointer (some ⟨11, 69, none⟩), .pointer (some a), .int .u64 150])).run Tryz.prog w = .ok (some (69, a, 150)) w := by kernel_rfl
theorem Tryz.direct25 (w : World) : (Rtype.directlyAssignable 69 69).run Tryz.prog w = .ok true w := by kernel_rfl
theorem Tryz.size25 (w : World) : (sizeOf 69).run Tryz.prog w = .ok 1 w := by kernel_rfl
theorem Tryz.set25 (ta b e : Addr) (old : Value) (W : World) (hb : W.cell? b = some (.pointer (some e))) (ht : W.cell? ta = some old) (hf : W.frozen? ta = false) :
    (ReflectliteValue.set #[.agg #[.pointer (some ⟨11, 69, none⟩), .pointer (some ta), .int .u64 406], .agg #[.pointer (some ⟨11, 69, none⟩), .pointer (some b), .int .u64 150]]).run Tryz.prog W
      = .ok (.tuple #[]) (W.setCell ta (.pointer (some e))) := by
  rw [rls]
  simp only [Sem.run_bind, Tryz.parts25a, Tryz.parts25, Result.andThen]
  simp [ReflectliteValue.flagAddr, loadVar, isAgg, underlying, Tryz.underlying69, hb, Result.andThen, Tryz.direct25, storeVar, Value.cells, storeCells, Addr.add]
  rw [run_store Tryz.prog W ta _ _ (by rfl)]
  simp [ht, hf]

set_option maxRecDepth 100000 in
set_option maxHeartbeats 4000000 in
theorem as_hit (e t : Addr) (old : Value) (w : World) (hg : w.cell? ⟨1, 0, none⟩ = some (.iface 134 (.agg #[.pointer (some ⟨11, 29, none⟩)]))) (ht0 : w.cell? t = some old) (hf0 : w.frozen? t = false) :
    Calls Tryz.prog 33 #[.iface 69 (.pointer (some e)), .iface 93 (.pointer (some t))] w fun ev w' => ev = .returned (.bool true) ∧ w' = ((((w.alloc (.cells #[.pointer (some t)] 93)).alloc (.cells #[.pointer (some ⟨11, 93, none⟩), .pointer (some ⟨w.heap.size, 0, none⟩), .int .u64 150] 115)).alloc (.cells #[.pointer (some ⟨11, 93, none⟩), .pointer (some ⟨w.heap.size, 0, none⟩), .int .u64 150] 115)).alloc (.cells #[.pointer (some e)] 69)).setCell t (.pointer (some e)) := by
  have h6 := @run_callFunc_extern Tryz.prog 52 _ (fun args => ReflectliteValue.unpack (args.getD 0 (.tuple #[]))) Tryz.func52 (by kernel_rfl) (by kernel_rfl) (by kernel_rfl) (by kernel_rfl)
  have h7 := @run_callFunc_extern Tryz.prog 53 _ (ReflectliteValue.methodAny (ReflectliteValue.valueError "reflectlite.Value.Type" 0) (fun t _ _ _ => ReflectliteType.toType t)) Tryz.func53 (by kernel_rfl) (by kernel_rfl) (by kernel_rfl) (by kernel_rfl)
  have h8 := @run_callFunc_extern Tryz.prog 54 _ (ReflectliteValue.method (ReflectliteValue.valueError "reflectlite.Value.IsNil" 0) ReflectliteValue.isNil) Tryz.func54 (by kernel_rfl) (by kernel_rfl) (by kernel_rfl) (by kernel_rfl)
  have h27 := @run_callFunc_extern Tryz.prog 158 _ (ReflectliteType.abiMethod fun t => do pure (.int .u8 (← Rtype.kind t))) Tryz.func158 (by kernel_rfl) (by kernel_rfl) (by kernel_rfl) (by kernel_rfl)
  have h37 := @run_callFunc_extern Tryz.prog 168 _ (ReflectliteType.method ReflectliteType.elem) Tryz.func168 (by kernel_rfl) (by kernel_rfl) (by kernel_rfl) (by kernel_rfl)
  have h38 := @run_callFunc_extern Tryz.prog 169 _ (ReflectliteType.relation "Implements" ReflectliteType.implements_) Tryz.func169 (by kernel_rfl) (by kernel_rfl) (by kernel_rfl) (by kernel_rfl)
  have h10 := @run_callFunc_extern Tryz.prog 71 _ ReflectliteType.typeOf Tryz.func71 (by kernel_rfl) (by kernel_rfl) (by kernel_rfl) (by kernel_rfl)
  have h35 := @run_callFunc_extern Tryz.prog 166 _ (ReflectliteType.relation "AssignableTo" ReflectliteType.assignableTo) Tryz.func166 (by kernel_rfl) (by kernel_rfl) (by kernel_rfl) (by kernel_rfl)
  have h11 := @run_callFunc_extern Tryz.prog 72 _ (ReflectliteValue.method (ReflectliteValue.valueError "reflectlite.Value.Elem" 0) ReflectliteValue.elem) Tryz.func72 (by kernel_rfl) (by kernel_rfl) (by kernel_rfl) (by kernel_rfl)
  have h12 := @run_callFunc_extern Tryz.prog 73 _ ReflectliteValue.set Tryz.func73 (by kernel_rfl) (by kernel_rfl) (by kernel_rfl) (by kernel_rfl)
  have tO := Tryz.typeOf25
  have mA := Tryz.methodAssignableTo
  have a25 := Tryz.assignable25
  have v25 := Tryz.valueOf25
  have f6 := Tryz.valueOf27
  have f7 := Tryz.type27
  have mK := Tryz.methodKind
  have mE := Tryz.methodElem
  have mI := Tryz.methodImplements
  have k27 := Tryz.kind27
  have k25 := Tryz.kind25
  have e27 := Tryz.elem27
  have i25 := Tryz.implements25
  have n8 := Tryz.isNil27 ⟨w.heap.size, 0, none⟩ t ((w.alloc (.cells #[.pointer (some t)] 93)).alloc (.cells #[.pointer (some ⟨11, 93, none⟩), .pointer (some ⟨w.heap.size, 0, none⟩), .int .u64 150] 115)) (by simp)
  have hlt : 1 < w.heap.size := World.block_lt_of_cell? _ _ hg
  have hg2 : ((w.alloc (.cells #[.pointer (some t)] 93)).alloc (.cells #[.pointer (some ⟨11, 93, none⟩), .pointer (some ⟨w.heap.size, 0, none⟩), .int .u64 150] 115)).cell? ⟨1, 0, none⟩ = some (.iface 134 (.agg #[.pointer (some ⟨11, 29, none⟩)])) := by
    rw [World.cell?_alloc_lt _ _ ⟨1, 0, none⟩ (by simp; omega), World.cell?_alloc_lt _ _ ⟨1, 0, none⟩ hlt]; exact hg
  have htl : t.block < w.heap.size := by
    rcases Nat.lt_or_ge t.block w.heap.size with h | h
    · exact h
    · simp [World.cell?, Array.getElem?_eq_none h] at ht0
  have el := Tryz.elemV27 ⟨w.heap.size, 0, none⟩ t (((w.alloc (.cells #[.pointer (some t)] 93)).alloc (.cells #[.pointer (some ⟨11, 93, none⟩), .pointer (some ⟨w.heap.size, 0, none⟩), .int .u64 150] 115)).alloc (.cells #[.pointer (some ⟨11, 93, none⟩), .pointer (some ⟨w.heap.size, 0, none⟩), .int .u64 150] 115)) (by rw [World.cell?_alloc_lt _ _ ⟨w.heap.size, 0, none⟩ (by simp; omega)]; simp)
  have st := Tryz.set25 t ⟨w.heap.size + 1 + 1 + 1, 0, none⟩ e old ((((w.alloc (.cells #[.pointer (some t)] 93)).alloc (.cells #[.pointer (some ⟨11, 93, none⟩), .pointer (some ⟨w.heap.size, 0, none⟩), .int .u64 150] 115)).alloc (.cells #[.pointer (some ⟨11, 93, none⟩), .pointer (some ⟨w.heap.size, 0, none⟩), .int .u64 150] 115)).alloc (.cells #[.pointer (some e)] 69))
    (by rw [World.cell?_alloc_at _ _ _ _ (by simp)]; rfl)
    (by rw [World.cell?_alloc_lt _ _ t (by simp; omega), World.cell?_alloc_lt _ _ t (by simp; omega), World.cell?_alloc_lt _ _ t (by simp; omega), World.cell?_alloc_lt _ _ t htl]; exact ht0)
    (by rw [World.frozen?_alloc_old _ _ t (by simp; omega), World.frozen?_alloc_old _ _ t (by simp; omega), World.frozen?_alloc_old _ _ t (by simp; omega), World.frozen?_alloc_old _ _ t (Nat.ne_of_lt htl)]; exact hf0)
  go_enter Tryz.func33, Tryz.ntmps33
  go_wp2
  refine wp_loop_rounds 1 ?_
  rw [rounds_succ]
  go_wp2
  go_ret
  exact ⟨rfl, rfl⟩
end Go.Proofs.YtekfledccpeblaaGreatDoor

/- The contracts of api.Code and of the law's faulty. -/
namespace Go.Proofs.YtekfledccpeblaaGreatDoor
open Go.RowKit

/-- The handle of the type error. -/
structure HdT (w : World) : Prop where
  c : w.cell? ⟨1, 0, none⟩ = some (.iface 134 (.agg #[.pointer (some ⟨11, 29, none⟩)]))
theorem HdT.later {w w' : World} (h : HdT w) (hb : Below w.heap.size w w') : HdT w' := ⟨cell_later hb h.c⟩

/-- errors.As finds the fault. -/
theorem as_fault (N t : Nat) (w : World) (hg : HdT w) (ht : w.heap[t]? = some (.cells #[.pointer none] 69 (0, 0))) :
    Calls Tryz.prog 33 #[.iface 69 (.pointer (some ⟨N, 0, none⟩)), .iface 93 (.pointer (some ⟨t, 0, none⟩))] w fun e w' => e = .returned (.bool true) ∧ w'.heap[t]? = some (.cells #[.pointer (some ⟨N, 0, none⟩)] 69 (0, 0)) ∧ Touched w t w' := by
  have hlt : t < w.heap.size := (Array.getElem?_eq_some_iff.1 ht).1
  refine (as_hit ⟨N, 0, none⟩ ⟨t, 0, none⟩ (.pointer none) w hg.c (by simp [World.cell?, ht]) (by simp [World.frozen?, ht])).mono ?_
  rintro e w' ⟨rfl, rfl⟩
  refine ⟨rfl, ?_, ?_⟩
  · have h4 : ((((w.alloc (.cells #[.pointer (some ⟨t, 0, none⟩)] 93)).alloc (.cells #[.pointer (some ⟨11, 93, none⟩), .pointer (some ⟨w.heap.size, 0, none⟩), .int .u64 150] 115)).alloc (.cells #[.pointer (some ⟨11, 93, none⟩), .pointer (some ⟨w.heap.size, 0, none⟩), .int .u64 150] 115)).alloc (.cells #[.pointer (some ⟨N, 0, none⟩)] 69)).heap[t]? = some (.cells #[.pointer none] 69 (0, 0)) := by
      rw [Below.heap_alloc _ _ _ (by simp; omega), Below.heap_alloc _ _ _ (by simp; omega), Below.heap_alloc _ _ _ (by simp; omega), Below.heap_alloc _ _ _ hlt]
      exact ht
    generalize ((((w.alloc _).alloc _).alloc _).alloc _) = W at h4 ⊢
    simp [World.setCell, Array.getElem?_modify, h4]
  · exact ((((Touched.alloc w t _).trans (Touched.alloc _ t _)).trans (Touched.alloc _ t _)).trans (Touched.alloc _ t _)).set _ _

set_option maxHeartbeats 1000000 in
theorem code_nil (w : World) : Calls Tryz.prog 16 #[.nilIface] w fun e w' => e = .returned (.tuple #[.int .i64 0, .int .i64 0]) ∧ w' = w := by
  go_enter Tryz.func16, Tryz.ntmps16
  go_wp2_with fail
  go_ret2
  exact ⟨rfl, rfl⟩

set_option maxRecDepth 100000 in
set_option maxHeartbeats 4000000 in
theorem code_fault (N code a : Nat) (w : World) (hg : HdT w) (hF : w.heap[N]? = some (.cells #[.int .i64 (code : Nat), .int .i64 (a : Nat)] 33 (0, 0))) :
    Calls Tryz.prog 16 #[.iface 69 (.pointer (some ⟨N, 0, none⟩))] w fun e w' => e = .returned (.tuple #[.int .i64 (code : Nat), .int .i64 (a : Nat)]) ∧ Below w.heap.size w w' := by
  have hlN : N < w.heap.size := (Array.getElem?_eq_some_iff.1 hF).1
  have K1 := hide (as_fault N w.heap.size _ (hg.later ((Below.refl _ _).alloc (Nat.le_refl _) (.cells #[.pointer none] 69))) (heap_alloc_new w (.cells #[.pointer none] 69)))
  have HF := hide hF
  clear hg hF
  go_enter Tryz.func16, Tryz.ntmps16
  go_wp2_with (go_at_call 33; refine K1.out.mono ?_)
  rintro e w1 ⟨rfl, h1, hT⟩
  have hz := hT.size
  simp at hz
  have hN1 : w1.heap[N]? = some (.cells #[.int .i64 (code : Nat), .int .i64 (a : Nat)] 33 (0, 0)) := by
    rw [hT.block N (by simp; omega) (by simp; omega), Below.heap_alloc _ _ _ hlN]
    exact HF.out
  have x0 : w1.cell? ⟨w.heap.size, 0, none⟩ = some (.pointer (some ⟨N, 0, none⟩)) := by simp [World.cell?, h1]
  have y0 : w1.cell? ⟨N, 0, none⟩ = some (.int .i64 (code : Nat)) := by simp [World.cell?, hN1]
  have y1 : w1.cell? ⟨N, 1, none⟩ = some (.int .i64 (a : Nat)) := by simp [World.cell?, hN1]
  have HB : Hid (Below w.heap.size w w1) := ((Touched.alloc w w.heap.size _).trans hT).below (Nat.le_refl _) (Nat.le_refl _)
  clear hN1 h1 hT
  go_wp2_with fail
  go_region
  all_goals
    go_wp2_with fail
    go_ret2
    exact ⟨rfl, HB.out.drew⟩

set_option maxHeartbeats 1000000 in
theorem faulty_none (a : Nat) (w : World) : Calls Tryz.prog 7 #[.nilIface, .agg #[.int .i64 (0 : Nat), .int .i64 (a : Nat)]] w fun e w' => e = .returned (.bool true) ∧ Below w.heap.size w w' := by
  have K := hide (fun W => code_nil W)
  go_enter Tryz.func7, Tryz.ntmps7
  go_wp2_with (go_at_call 16; refine (K.out _).mono ?_)
  rintro e w' ⟨rfl, rfl⟩
  go_wp2_with fail
  go_ret
  exact ⟨rfl, (Below.refl _ _).alloc (Nat.le_refl _) _⟩

set_option maxHeartbeats 1000000 in
theorem faulty_same (N code a : Nat) (w : World) (hg : HdT w) (hF : w.heap[N]? = some (.cells #[.int .i64 (code : Nat), .int .i64 (a : Nat)] 33 (0, 0))) (hc : code ≠ 0) :
    Calls Tryz.prog 7 #[.iface 69 (.pointer (some ⟨N, 0, none⟩)), .agg #[.int .i64 (code : Nat), .int .i64 (a : Nat)]] w fun e w' => e = .returned (.bool true) ∧ Below w.heap.size w w' := by
  have hlN : N < w.heap.size := (Array.getElem?_eq_some_iff.1 hF).1
  have K := hide (code_fault N code a (w.alloc (.cells #[.int .i64 (code : Nat), .int .i64 (a : Nat)] 33)) (hg.later ((Below.refl _ _).alloc (Nat.le_refl _) _)) (by rw [Below.heap_alloc _ _ _ hlN]; exact hF))
  have e0 : ((code : Int) == 0) = false := by simp; omega
  clear hg hF hc
  go_enter Tryz.func7, Tryz.ntmps7
  go_wp2_with (go_at_call 16; refine K.out.mono ?_)
  rintro e w1 ⟨rfl, hb⟩
  have x0 : w1.cell? ⟨w.heap.size, 0, none⟩ = some (.int .i64 (code : Nat)) := by rw [hb.cell (by simp)]; simp
  have x1 : w1.cell? ⟨w.heap.size, 1, none⟩ = some (.int .i64 (a : Nat)) := by rw [hb.cell (by simp)]; simp
  have HB : Hid (Below w.heap.size w w1) := ((Below.refl w.heap.size w).alloc (Nat.le_refl _) _).trans (hb.mono (by simp))
  clear hb
  go_wp2_with fail
  go_ret
  exact ⟨by simp, HB.out⟩


end Go.Proofs.YtekfledccpeblaaGreatDoor

/- The law's written, and the walk of SyntaxParses. -/
namespace Go.Proofs.YtekfledccpeblaaGreatDoor
open Go.RowKit

theorem texts_apart {s : ByteArray} {code a : Nat} (h : TextIs s) (hb : TextBad s code a) : False := by
  rcases hb with ⟨h1, h2, -⟩ | ⟨h1, -⟩
  · exact h2 h.2
  · exact absurd h.1 (by omega)
theorem bad_one {s : ByteArray} {c1 a1 c2 a2 : Nat} (h1 : TextBad s c1 a1) (h2 : TextBad s c2 a2) : c1 = c2 ∧ a1 = a2 ∧ c1 ≠ 0 := by
  rcases h1 with ⟨x1, x2, rfl, rfl⟩ | ⟨x1, rfl, rfl⟩
  · rcases h2 with ⟨y1, y2, rfl, rfl⟩ | ⟨y1, rfl, rfl⟩
    · exact ⟨rfl, rfl, by decide⟩
    · omega
  · rcases h2 with ⟨y1, y2, rfl, rfl⟩ | ⟨y1, rfl, rfl⟩
    · omega
    · exact ⟨rfl, rfl, by decide⟩
/-- Commands of both sides, one by one. -/
def Both (w2 : World) (A1 A2 : Option Addr) (n : Nat) : Prop := ∀ i, i < n → ∃ (b1 b2 : Nat) (x1 x2 : Array Value), A1 = some ⟨b1, 0, none⟩ ∧ A2 = some ⟨b2, 0, none⟩ ∧
  (∀ W, Below w2.heap.size w2 W → (ld47 (.pointer (some ⟨b1, i * 26, none⟩))).run Tryz.prog W = .ok (.agg x1) W ∧ (ld47 (.pointer (some ⟨b2, i * 26, none⟩))).run Tryz.prog W = .ok (.agg x2) W) ∧
  ∀ W, Below w2.heap.size w2 W → Calls Tryz.prog 8 #[.agg x1, .agg x2] W fun e w' => e = .returned (.bool true) ∧ Below W.heap.size W w'
theorem CmsIn.one {w W : World} {S : Nat → Prop} {A : Option Addr} {l : List Cm} (h : CmsIn w S A l) (hB : Below w.heap.size w W) {i : Nat} (hi : i < l.length) : ∃ (b : Nat) (x : Array Value), A = some ⟨b, 0, none⟩ ∧ CmIn W S l[i] x ∧ ∀ W', Below W.heap.size W W' → (ld47 (.pointer (some ⟨b, i * 26, none⟩))).run Tryz.prog W' = .ok (.agg x) W' := by
  obtain ⟨b, v, e, hs, hc, hq⟩ := h i hi
  have hbl : b < w.heap.size := World.block_lt_of_cell? _ ⟨b, i * 26 + 0, none⟩ ((hq 0 (by omega)).trans (Array.getElem?_eq_getElem (by rw [hc.size]; omega)))
  refine ⟨b, v, e, hc.keep fun b hb hs => ⟨hs, hB.block b hb⟩, fun W' hB' => ld47_run (range_block ((hB'.block b (by have := hB.size; omega)).trans (hB.block b hbl)) (range_of_cells hc.size hq)) hc.size⟩
theorem CmIn.later {w W : World} {S : Nat → Prop} {c : Cm} {v : Array Value} (h : CmIn w S c v) (hB : Below w.heap.size w W) : CmIn W S c v := h.keep fun b hb hs => ⟨hs, hB.block b hb⟩
/-- What both parsers answer of a text. -/
theorem both_answers {w w1 w2 : World} {s : ByteArray} {e1 e2 : Ending} (h1 : Answer w s e1 w1) (h2 : DAnswer w1 s e2 w2) (hg : HdT w) :
    ∃ (A1 A2 : Option Addr) (c1 c2 n code a : Nat) (ev : Value), e1 = .returned (.tuple #[.slice A1 n c1, ev]) ∧ e2 = .returned (.tuple #[.slice A2 n c2, .agg #[.int .i64 (code : Nat), .int .i64 (a : Nat)]]) ∧ Below w.heap.size w w1 ∧ Below w1.heap.size w1 w2 ∧ n ≤ 1000000 ∧
      (∀ W, Below w2.heap.size w2 W → Calls Tryz.prog 7 #[ev, .agg #[.int .i64 (code : Nat), .int .i64 (a : Nat)]] W fun e w' => e = .returned (.bool true) ∧ Below W.heap.size W w') ∧ Both w2 A1 A2 n := by
  rcases h1 with ⟨A1, c1, ht, rfl, hc1, hb1⟩ | ⟨code, a, hb, N, rfl, hN, hF, hb1⟩
  · rcases h2 with ⟨A2, c2, a, -, rfl, hc2, hb2⟩ | ⟨code, a, hb, -⟩
    · refine ⟨A1, A2, c1, c2, (textG s).1.length, 0, a, .nilIface, rfl, rfl, hb1, hb2, ?_, fun W _ => faulty_none a W, fun i hi => ?_⟩
      · have := commands_few (s := s) (n := 2 * s.size + 2) (2 * s.size + 2) [] (FS.step s st00)
        rw [List.length_nil] at this
        have := ht.1
        show (commandsN s _ _ _ _).1.length ≤ _
        omega
      · obtain ⟨b1, x1, rfl, hx1, hl1⟩ := hc1.one hb2 hi
        obtain ⟨b2, x2, rfl, hx2, hl2⟩ := hc2.one (Below.refl _ _) hi
        have hfit : CmFit (textG s).1[i] := commands_fit (s := s) (n := 2 * s.size + 2) (by have := ht.1; omega) _ [] _ (by simp) _ (List.getElem_mem hi)
        exact ⟨b1, b2, x1, x2, rfl, rfl, fun W hW => ⟨hl1 W hW, hl2 W hW⟩, fun W hW => sameCommand_calls _ hfit W x1 x2 (hx1.later hW) (hx2.later hW)⟩
    · exact (texts_apart ht hb).elim
  · rcases h2 with ⟨A2, c2, a', ht, -⟩ | ⟨code', a', hb', rfl, hb2⟩
    · exact (texts_apart ht hb).elim
    · obtain ⟨rfl, rfl, hc0⟩ := bad_one hb hb'
      refine ⟨none, none, 0, 0, 0, code, a, _, rfl, rfl, hb1, hb2, by omega, fun W hW => ?_, fun i hi => absurd hi (by omega)⟩
      have hNl : N < w1.heap.size := (Array.getElem?_eq_some_iff.1 hF).1
      exact faulty_same N code a W (((hg.later hb1).later hb2).later hW) (by rw [hW.block N (by have := hb2.size; omega), hb2.block N hNl]; exact hF) hc0
section
variable {tb tof tc : Nat}
attribute [local go_sem ↓] ld47_eq
set_option maxRecDepth 100000 in
set_option maxHeartbeats 8000000 in
theorem written_calls (s : ByteArray) (w : World) (hm : s.size ≤ maxLen) (ht : Tb w) (hw : TWl w tb tof tc) (hg : HdT w) :
    Calls Tryz.prog 4 #[.string s] w fun e w' => e = .returned (.bool true) ∧ Below w.heap.size w w' := by
  have K1 := hide (parse_calls s w hm ht)
  have HW := hide hw
  have HG := hide hg
  have HM := hide hm
  clear ht hw hg hm
  go_enter Tryz.func4, Tryz.ntmps4
  go_wp2_with (go_at_call 5; refine K1.out.mono ?_)
  intro e1 w1 h9
  have H1 := hide h9
  have hB1 : Below w.heap.size w w1 := by
    rcases h9 with ⟨_, _, _, _, _, hb⟩ | ⟨_, _, _, _, _, _, _, hb⟩ <;> exact hb
  have hsh : ∃ (A1 : Option Addr) (n1 c1 : Nat) (ev : Value), e1 = .returned (.tuple #[.slice A1 n1 c1, ev]) := by
    rcases h9 with ⟨A, c, _, h, _⟩ | ⟨_, _, _, N, h, _⟩
    · exact ⟨A, _, c, _, h⟩
    · exact ⟨none, 0, 0, _, h⟩
  obtain ⟨A1, n1, c1, ev, rfl⟩ := hsh
  have K2 := hide (dparse_calls s w1 HM.out (HW.out.later hB1))
  clear h9 hB1 K1
  go_wp2_with (go_at_call 6; refine K2.out.mono ?_)
  intro e2 w2 h9
  obtain ⟨A1', A2, c1', c2, n, code, a, ev', he1, rfl, hb1, hb2, hn, hf, hbo⟩ := both_answers H1.out h9 HG.out
  injection he1 with he1
  injection he1 with he1
  injection he1 with he1
  injection he1 with ha1 he1
  injection he1 with ha2 _
  injection ha1 with i1 i2 i3
  subst i1 i2 i3 ha2
  generalize n1 = n at *
  have HB2 : Hid (Below w.heap.size w w2) := hb1.trans (hb2.mono hb1.size)
  have HBo := hide hbo
  have hbf : Below w2.heap.size w2 (w2.alloc (.cells #[.int .i64 (code : Nat), .int .i64 (a : Nat)] 33)) := (Below.refl _ _).alloc (Nat.le_refl _) _
  have K7 := hide (hf _ hbf)
  have HBf := hide hbf
  clear h9 hb1 hb2 hf hbo hbf K2 H1
  go_wp2_with (go_at_call 7; refine K7.out.mono ?_)
  intro e w3 h9
  first | (subst h9; intro hb4) | (obtain ⟨rfl, hb4⟩ := h9)
  have HB3 : Hid (Below w2.heap.size w2 w3) := HBf.out.trans (hb4.mono HBf.out.size)
  clear hb4 K7 HBf
  go_wp2_with fail
  go_loopg [8] n (fun g v wr => ∃ i : Nat, i + g = n ∧ v = .int .i64 (i : Nat) ∧ Hid (Below w2.heap.size w2 wr))
  case atStart => exact ⟨0, by omega, rfl, HB3.out⟩
  case round =>
    clear HB3
    obtain ⟨i, hig, rfl, HB⟩ := hrel
    by_cases hi : i < n
    · have e1 : decide ((i : Int) < (n : Int)) = true := by simp; omega
      have e2 : (i : Int) < (n : Int) := by omega
      obtain ⟨b1, b2, x1, x2, rfl, rfl, hl, hcl⟩ := HBo.out i hi
      have HF : Hid (∀ W', Below wr.heap.size wr W' → (ld47 (.pointer (some ⟨b1, i * 26, none⟩))).run Tryz.prog W' = .ok (.agg x1) W' ∧ (ld47 (.pointer (some ⟨b2, i * 26, none⟩))).run Tryz.prog W' = .ok (.agg x2) W') := hide fun W' hB => hl W' (HB.out.trans (hB.mono HB.out.size))
      have HBr : Hid (Below wr.heap.size wr wr.drew) := (Below.refl _ _).drew
      have KC : Hid (Calls Tryz.prog 8 #[.agg x1, .agg x2] wr.drew fun e w' => e = .returned (.bool true) ∧ Below wr.heap.size wr.drew w') := hide (hcl wr.drew HB.out.drew)
      clear hl hcl
      go_upto_region 9 with fail
      go_cut [9] (fun v wx => v = .bool true ∧ Hid (Below wr.heap.size wr wx))
      case first =>
        go_region_held3 (fun w' => (ld47 (.pointer (some ⟨b1, i * 26, none⟩))).run Tryz.prog w' = .ok (.agg x1) w' ∧ (ld47 (.pointer (some ⟨b2, i * 26, none⟩))).run Tryz.prog w' = .ok (.agg x2) w') (first | assumption | exact HF.out _ HBr.out | exact HF.out _ HB8.out)
          ((go_at_call 8; refine KC.out.mono ?_; rintro e w8 ⟨rfl, hB8⟩; have HB8 := hide (HBr.out.trans hB8)))
        all_goals
          go_wp2_with fail
          go_meet
          exact ⟨rfl, HB8⟩
      case rest =>
        obtain ⟨rfl, HB8⟩ := hcut
        have HB9 := hide (HB.out.trans (HB8.out.mono HB.out.size))
        clear HB8 HF KC HBr HB
        go_wp2_with fail
        go_roundg (n - (i + 1))
        case measure => omega
        case rel => exact ⟨i + 1, by omega, by go_num, HB9.out⟩
    · have e1 : decide ((i : Int) < (n : Int)) = false := by simp; omega
      have HB9 := hide (HB2.out.trans (HB.out.mono HB2.out.size))
      go_wp2_with fail
      go_ret
      exact ⟨rfl, HB9.out⟩
/-- A script as it came in: each step's first text. -/
def IsOps (w : World) (a : Option Addr) (len : Nat) : Prop := len ≤ maxLen ∧ ∀ i, i < len → ∃ (b off : Nat) (S : ByteArray), a = some ⟨b, off, none⟩ ∧ S.size ≤ maxLen ∧ w.cell? ⟨b, off + i * 6 + 1, none⟩ = some (.string S)
set_option maxRecDepth 100000 in
set_option maxHeartbeats 16000000 in
theorem parses_walk (ad : Option Addr) (len cap : Nat) (w : World) (h : IsOps w ad len) (ht : Tb w) (hw : TWl w tb tof tc) (hg : HdT w) :
    Calls Tryz.prog 3 #[.slice ad len cap] w fun e w' => e = .returned (.bool true) ∧ Below w.heap.size w w' := by
  obtain ⟨hm, hc⟩ := h
  unfold maxLen at hm
  have HC := hide hc
  have HK : Hid (∀ W S, Below w.heap.size w W → S.size ≤ maxLen → Calls Tryz.prog 4 #[.string S] W fun e w' => e = .returned (.bool true) ∧ Below W.heap.size W w') := fun W S hb hS =>
    written_calls S W hS (ht.later hb) (hw.later hb) (hg.later hb)
  clear hc ht hw hg
  go_enter Tryz.func3, Tryz.ntmps3
  go_wp2_with fail
  go_loopg [3] (len) (fun g i wr => ∃ k : Nat, k + g = len ∧ i = .int .i64 k ∧ Below w.heap.size w wr)
  case atStart => exact ⟨0, by omega, rfl, Below.refl _ _⟩
  case round =>
    obtain ⟨k, hkg, rfl, hbel⟩ := hrel
    have HB := hide hbel
    clear hbel
    by_cases hlt : k < len
    · by_cases hmax : (k : Int) < 1152921504606846976
      · obtain ⟨bk, off, S, rfl, hS, c1⟩ := HC.out k hlt
        have d1 := cell_later HB.out c1
        have hbl : bk < wr.heap.size := World.block_lt_of_cell? _ _ d1
        have K1 := hide (HK.out wr S HB.out hS)
        clear c1
        go_wp2_with (go_at_call 4; refine K1.out.mono ?_)
        intro e w1 h9
        first | (subst h9; intro hb1) | (obtain ⟨rfl, hb1⟩ := h9)
        have HB1 := hide (HB.out.trans (hb1.mono HB.out.size))
        clear hb1 K1
        go_wp2_with fail
        go_roundg (len - (k + 1))
        case measure => omega
        case rel => exact ⟨k + 1, by omega, by go_num, HB1.out⟩
      · have q : decide ((k : Int) < 1152921504606846976) = false := by simp; omega
        go_wp2_with fail
        go_ret
        exact ⟨rfl, HB.out⟩
    · go_wp2_with fail
      go_ret
      exact ⟨rfl, HB.out⟩
end
end Go.Proofs.YtekfledccpeblaaGreatDoor
