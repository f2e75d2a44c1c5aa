/- Terms, further: what a text makes sure of them; a copy; parts; the text. Plain Lean, no walk. -/
import Derived.Test.YtkgkmlikpljbiaaDoorRClosed
import Derived.Test.YtkgkmlikpljbiaaDoorReads
import Derived.Lib.ItoaNum

namespace Go.Proofs.YtkgkmlikpljbiaaDoor
open Go.RowKit

/-- How many parts a term has, those of its levels too. -/
def partsT : Nat → Tm → Nat
  | 0, _ => 0
  | d + 1, t => 1 + (t.ls.map Lv.nodes).sum + (t.ts.map (partsT d)).sum

theorem SignAt.lt {s : ByteArray} {c p p' : Nat} (h : SignAt s c p p') : p < p' := by
  have := runTo_ge blankB s p
  rw [h.2.2]; omega
theorem WordAt.lt {s q : ByteArray} {p p' : Nat} (h : WordAt s q p p') : p < p' ∧ q.size ≤ 1000 := by
  obtain ⟨h1, _, h2, h3, h4⟩ := h
  have g1 := runTo_ge blankB s p
  have g2 := runTo_ge (fun c => nameB c false) s (runTo blankB s p + 1)
  refine ⟨by omega, ?_⟩
  rw [h4, ByteArray.size_extract]
  omega
theorem ZeroAt.lt {s : ByteArray} {p p' : Nat} (h : ZeroAt s p p') : p < p' := by
  have := runTo_ge blankB s p
  rw [h.2.2.2]; omega

theorem Reads.some {s : ByteArray} : ∀ {l : LvB} {p p' : Nat}, Reads s l p p' → p + l.nodes ≤ p' ∧ ∀ q, Lv.has q l → q.size ≤ 1000
  | .zero, p, p', h => ⟨by have := ZeroAt.lt h; simp only [Lv.nodes]; omega, fun q hq => absurd hq (by simp [Lv.has])⟩
  | .param r, p, p', h => ⟨by have := (WordAt.lt h).1; simp only [Lv.nodes]; omega, fun q hq => by have e : r = q := hq; rw [← e]; exact (WordAt.lt h).2⟩
  | .succ a, p, p', ⟨p1, p2, p3, h1, h2, h3, h4⟩ => by
    have ha := Reads.some h3
    refine ⟨?_, ha.2⟩
    have := h1.lt; have := h2.lt.1; have := h4.lt; have := ha.1
    simp only [Lv.nodes]; omega
  | .max a b, p, p', ⟨p1, p2, p3, p4, h1, h2, h3, h4, h5⟩ => by
    have ha := Reads.some h3
    have hb := Reads.some h4
    refine ⟨?_, fun q hq => hq.elim (ha.2 q) (hb.2 q)⟩
    have := h1.lt; have := h2.lt.1; have := h5.lt; have := ha.1; have := hb.1
    simp only [Lv.nodes]; omega
  | .imax a b, p, p', ⟨p1, p2, p3, p4, h1, h2, h3, h4, h5⟩ => by
    have ha := Reads.some h3
    have hb := Reads.some h4
    refine ⟨?_, fun q hq => hq.elim (ha.2 q) (hb.2 q)⟩
    have := h1.lt; have := h2.lt.1; have := h5.lt; have := ha.1; have := hb.1
    simp only [Lv.nodes]; omega

theorem Lv.nodes_pos {α : Type} : ∀ (l : Lv α), 1 ≤ l.nodes
  | .zero => by simp [Lv.nodes]
  | .succ a => by simp [Lv.nodes]
  | .max a b => by simp [Lv.nodes]
  | .imax a b => by simp [Lv.nodes]
  | .param _ => by simp [Lv.nodes]

theorem ReadsAll.some {s : ByteArray} : ∀ {ls : List LvB} {p p' : Nat}, ReadsAll s ls p p' → p + (ls.map Lv.nodes).sum ≤ p' ∧ ls.length ≤ (ls.map Lv.nodes).sum ∧ ∀ l ∈ ls, l.nodes ≤ p' - p ∧ ∀ q, Lv.has q l → q.size ≤ 1000
  | [], p, p', h => by have e : p' = p := h; exact ⟨by simp [e], by simp, fun l hl => absurd hl (by simp)⟩
  | a :: ls, p, p', ⟨p1, h1, h2⟩ => by
    have ha := Reads.some h1
    obtain ⟨i1, i2, i3⟩ := ReadsAll.some h2
    have hn := a.nodes_pos
    refine ⟨by simp only [List.map_cons, List.sum_cons]; omega, by simp only [List.map_cons, List.sum_cons, List.length_cons]; omega, fun l hl => ?_⟩
    rcases List.mem_cons.1 hl with rfl | hl
    · exact ⟨by have := ha.1; omega, ha.2⟩
    · exact ⟨by have := (i3 l hl).1; have := ha.1; omega, (i3 l hl).2⟩

theorem LvPart.some {s : ByteArray} {kd : Nat} {ls : List LvB} {p p' : Nat} (h : LvPart s kd ls p p') : p + (ls.map Lv.nodes).sum ≤ p' ∧ ls.length ≤ (ls.map Lv.nodes).sum ∧ ∀ l ∈ ls, l.nodes ≤ p' - p ∧ ∀ q, Lv.has q l → q.size ≤ 1000 := by
  rcases h with ⟨_, l, rfl, hr⟩ | ⟨_, hr, _⟩ | ⟨_, _, rfl, rfl⟩
  · exact ReadsAll.some (ls := [l]) ⟨p', hr, rfl⟩
  · exact ReadsAll.some hr
  · exact ReadsAll.some (s := s) (ls := []) (rfl : p' = p')

theorem Seq.some {R : Tm → Nat → Nat → Prop} {W : Nat → Tm → Prop} {c : Nat → Tm → Nat} (hR : ∀ t p p', R t p p' → p < p' ∧ ∀ e, p' ≤ p + e → W e t ∧ p + c e t ≤ p') : ∀ {ts : List Tm} {p p' : Nat}, Seq R ts p p' → p ≤ p' ∧ ∀ e, p' ≤ p + e → (∀ x ∈ ts, W e x) ∧ p + (ts.map (c e)).sum ≤ p'
  | [], p, p', h => by have e : p' = p := h; exact ⟨by omega, fun _ _ => ⟨fun x hx => absurd hx (by simp), by simp [e]⟩⟩
  | a :: ts, p, p', ⟨p1, h1, h2⟩ => by
    obtain ⟨a1, a2⟩ := hR _ _ _ h1
    obtain ⟨i1, i2⟩ := Seq.some hR h2
    refine ⟨by omega, fun e he => ?_⟩
    obtain ⟨w1, c1⟩ := a2 e (by omega)
    obtain ⟨w2, c2⟩ := i2 e (by omega)
    refine ⟨fun x hx => ?_, by simp only [List.map_cons, List.sum_cons]; omega⟩
    rcases List.mem_cons.1 hx with rfl | hx
    · exact w1
    · exact w2 x hx

theorem IdxAt.some {s : ByteArray} {n p p' : Nat} (h : IdxAt s n p p') : p < p' ∧ n ≤ 99999 := by
  obtain ⟨h1, h2, h3, h4, h5⟩ := h
  have g1 := runTo_ge blankB s p
  have hne : p' ≠ runTo blankB s p + 1 := fun e => h4 (.inl e)
  have h5' : ¬ 5 < p' - (runTo blankB s p + 1) := fun e => h4 (.inr (.inl e))
  have hge := digitEnd_ge s (runTo blankB s p)
  rw [← h3] at hge
  have hle : p' ≤ s.size := by rw [h3]; exact digitEnd_le h1
  refine ⟨by omega, ?_⟩
  rw [h5]
  have hd : Digs (s.extract (runTo blankB s p + 1) p') := run_digs (by omega) h3.symm
  have hl : (s.extract (runTo blankB s p + 1) p').data.toList.length ≤ 5 := by
    have e : (s.extract (runTo blankB s p + 1) p').data.toList.length = (s.extract (runTo blankB s p + 1) p').size := by rw [Array.length_toList]; rfl
    rw [e, ByteArray.size_extract]
    omega
  have hlt := decF_lt _ 0 hd
  unfold decV
  generalize (s.extract (runTo blankB s p + 1) p').data.toList = l at *
  have hp : 10 ^ l.length ≤ 10 ^ 5 := Nat.pow_le_pow_right (by omega) hl
  have e5 : (10 : Nat) ^ 5 = 100000 := by decide
  rw [e5] at hp
  omega

/-- What a text makes sure of the term that stands there. -/
theorem RT.some {s : ByteArray} (hs : s.size ≤ 200000) : ∀ (d : Nat) (t : Tm) (p p' : Nat), RT s d t p p' → p < p' ∧ ∀ e, p' ≤ p + e → WfT e t ∧ p + partsT e t ≤ p'
  | 0, _, _, _, h => absurd h (by simp [RT])
  | d + 1, t, p, p', h => by
    have hle := h.le
    rcases h with ⟨h1, h2, h3, h4, h5⟩ | ⟨p1, p2, p3, p4, p5, q, h1, h2, h3, h4, h5, h6, h7, h8, h9⟩
    · obtain ⟨i1, i2⟩ := h5.some
      refine ⟨i1, fun e he => ?_⟩
      cases e with
      | zero => omega
      | succ e =>
        refine ⟨⟨by omega, by omega, fun _ => ⟨h2, h3, h4⟩, fun hk => absurd h1 hk, fun _ => h2, by rw [h2]; exact Nat.zero_le _, by rw [h3]; exact Nat.zero_le _, by rw [h4, h1]; rfl, fun l hl => absurd hl (by rw [h3]; simp), fun i hi => absurd hi (by rw [h4]; simp)⟩, ?_⟩
        simp only [partsT, h3, h4, List.map_nil, List.sum_nil]
        omega
    · have a1 := h1.lt
      have a2 := h2.lt.1
      have a3 := h3.pos
      have a5 : p2 ≤ p3 ∧ t.nm.size ≤ 1000 ∧ (t.kd ≠ 2 → t.nm = ⟨#[]⟩) := by
        rcases h5 with ⟨hk, hw⟩ | ⟨hk, hw, hp⟩
        · exact ⟨by have := hw.lt.1; omega, hw.lt.2, fun hn => absurd hk hn⟩
        · exact ⟨by omega, by rw [hw]; exact Nat.zero_le _, fun _ => hw⟩
      obtain ⟨b1, b2, b3⟩ := h6.some
      obtain ⟨c1, c2⟩ := Seq.some (fun t p p' h => RT.some hs d t p p' h) h7
      have a9 := h9.lt
      refine ⟨by omega, fun e he => ?_⟩
      cases e with
      | zero => omega
      | succ e =>
        obtain ⟨w1, w2⟩ := c2 e (by omega)
        refine ⟨⟨a3.2, by rw [h4]; omega, fun hk => by omega, fun _ => h4, a5.2.2, a5.2.1, by omega, h8, fun l hl => ⟨by have := (b3 l hl).1; omega, (b3 l hl).2⟩, fun i hi => w1 _ (List.getElem_mem hi)⟩, ?_⟩
        simp only [partsT]
        omega

/-- A copy is the term itself. -/
theorem chT_copy : ∀ {d b : Nat} {t : Tm}, WfT d t → chT (liftF 0 0) id d b t = t
  | 0, _, _, h => absurd h (by simp [WfT])
  | d + 1, b, t, h => by
    by_cases hk : t.kd = 0
    · by_cases hn : t.n < b
      · rw [chT_low hk hn]; exact tvar_of h hk
      · rw [chT_free hk hn]
        have e : liftF 0 0 (t.n - b) b = tvar t.n := by unfold liftF; simp; congr 1; omega
        rw [e]; exact tvar_of h hk
    · rw [chT_node hk]
      refine Tm.ext rfl rfl rfl (by show t.ls.map id = t.ls; simp) ?_
      show (t.ts.mapIdx fun i x => chT (liftF 0 0) id d (b + t.bnd i) x) = t.ts
      refine List.ext_getElem (by simp) fun i h1 h2 => ?_
      rw [List.getElem_mapIdx]
      exact chT_copy (h.2.2.2.2.2.2.2.2.2 i h2)

/-- The word of a kind. -/
def tword : Nat → ByteArray
  | 1 => ⟨#[115, 111, 114, 116]⟩
  | 2 => ⟨#[99, 111, 110, 115, 116]⟩
  | 3 => ⟨#[97, 112, 112]⟩
  | 4 => ⟨#[108, 97, 109]⟩
  | 5 => ⟨#[112, 105]⟩
  | 6 => ⟨#[108, 101, 116]⟩
  | _ => ⟨#[]⟩

/-- What stands ahead of a term's levels. -/
def Tm.open_ (t : Tm) : List UInt8 := 40 :: (tword t.kd).data.toList ++ (if t.kd = 2 then 32 :: t.nm.data.toList else [])
/-- The texts of parts, a blank ahead of each. -/
def spaced {α : Type} (f : α → List UInt8) (xs : List α) : List UInt8 := xs.flatMap fun x => 32 :: f x
theorem spaced_succ {α : Type} (f : α → List UInt8) (xs : List α) (k : Nat) (h : k < xs.length) : spaced f (xs.take (k + 1)) = spaced f (xs.take k) ++ [32] ++ f xs[k] := by
  unfold spaced
  rw [List.take_succ_eq_append_getElem h, List.flatMap_append]
  simp
theorem spaced_le {α : Type} (f : α → List UInt8) (xs : List α) (k : Nat) : (spaced f (xs.take k)).length ≤ (spaced f xs).length := by
  have h : spaced f xs = spaced f (xs.take k) ++ spaced f (xs.drop k) := by
    unfold spaced
    rw [← List.flatMap_append, List.take_append_drop]
  rw [h, List.length_append]
  omega

/-- A term's text. -/
def textT : Nat → Tm → List UInt8
  | 0, _ => []
  | d + 1, t => if t.kd = 0 then 35 :: Lib.decDigits t.n else t.open_ ++ spaced Lv.text t.ls ++ spaced (textT d) t.ts ++ [41]

theorem digits_len : ∀ (k n : Nat), n < 10 ^ (k + 1) → (Lib.decDigits n).length ≤ k + 1
  | 0, n, h => by rw [Lib.decDigits_one (by simpa using h)]; simp
  | k + 1, n, h => by
    by_cases hn : n < 10
    · rw [Lib.decDigits_one hn]; simp
    · rw [Lib.decDigits, dif_neg hn, List.length_append]
      have := digits_len k (n / 10) (by rw [Nat.pow_succ] at h; omega)
      simp only [List.length_cons, List.length_nil]
      omega

theorem spaced_len {α : Type} (f : α → List UInt8) (c : α → Nat) : ∀ (xs : List α), (∀ x ∈ xs, (f x).length + 1 ≤ 2000 * c x) → (spaced f xs).length ≤ 2000 * (xs.map c).sum
  | [], _ => by simp [spaced]
  | x :: xs, h => by
    have ih := spaced_len f c xs fun y hy => h y (by simp [hy])
    have hx := h x (by simp)
    unfold spaced at *
    simp only [List.flatMap_cons, List.length_append, List.length_cons, List.map_cons, List.sum_cons, Nat.mul_add]
    omega

theorem textT_len : ∀ {d : Nat} {t : Tm}, WfT d t → (textT d t).length + 1 ≤ 2000 * partsT d t
  | 0, _, h => absurd h (by simp [WfT])
  | d + 1, t, ⟨a1, a2, a3, a4, a5, a6, a7, a8, a9, a10⟩ => by
    unfold textT
    simp only [partsT]
    by_cases hk : t.kd = 0
    · rw [if_pos hk]
      have := digits_len 5 t.n (by have : (10 : Nat) ^ 6 = 1000000 := by decide
                                   rw [this]; omega)
      simp only [List.length_cons]
      omega
    · rw [if_neg hk]
      have h1 := spaced_len Lv.text Lv.nodes t.ls fun l hl => by
        have := Lv.text_len l (a9 l hl).2
        have := l.nodes_pos
        omega
      have h2 := spaced_len (textT d) (partsT d) t.ts fun x hx => by
        obtain ⟨i, hi, rfl⟩ := List.getElem_of_mem hx
        exact textT_len (a10 i hi)
      have h3 : t.open_.length ≤ 1010 := by
        unfold Tm.open_
        have e1 : (tword t.kd).data.toList.length ≤ 5 := by
          have : t.kd = 1 ∨ t.kd = 2 ∨ t.kd = 3 ∨ t.kd = 4 ∨ t.kd = 5 ∨ t.kd = 6 := by omega
          rcases this with h | h | h | h | h | h <;> rw [h] <;> decide
        have e2 : t.nm.data.toList.length = t.nm.size := by rw [Array.length_toList]; rfl
        split
        · simp only [List.cons_append, List.length_cons, List.length_append, e2]; omega
        · simp only [List.append_nil, List.length_cons]; omega
      simp only [List.length_append, List.length_cons, List.length_nil]
      omega

end Go.Proofs.YtkgkmlikpljbiaaDoor
