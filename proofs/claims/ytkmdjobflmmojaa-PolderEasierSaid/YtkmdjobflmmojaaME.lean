/- An easier polder. -/
import Derived.Test.YtkmdjobflmmojaaMC
namespace Go.Proofs.Ytkmdjobflmmojaa
open Go.RowKit Go.Lib

/-- p' is easier than p. -/
structure Easier (p p' : PoD) : Prop where
  pu : p.pump ≤ p'.pump
  i : p.inl ≤ p'.inl
  l : p'.low ≤ p.low
  h : p.high ≤ p'.high
  s0 : p'.slo = p.slo
  s1 : p'.shi = p.shi
  n : p'.ds.length = p.ds.length
  d : ∀ (i : Nat) d d', p.ds[i]? = some d → p'.ds[i]? = some d' → d.lo ≤ d'.lo ∧ d'.hi ≤ d.hi ∧ d'.sp = d.sp ∧ d'.ou ≤ d.ou ∧ d'.inn ≤ d.inn
theorem Easier.cost {p p' : PoD} (h : Easier p p') (hok : p.Ok) (hok' : p'.Ok) (hc : p.costD ≠ -1) : p'.costD ≠ -1 ∧ p'.costD ≤ p.costD := by
  have h1 := h.pu
  have h2 := h.i
  have h3 := h.l
  have h4 := h.h
  have h5 := h.s0
  have h6 := h.s1
  refine PoD.cost_sim hok hok' (φ := fun lv => lv) (σ := fun a => a) (fun lv hk => ⟨Int.le_trans h3 hk.1, Int.le_trans hk.2 h4⟩) (fun a ha hb => ⟨by omega, by omega⟩) h.n (fun i d d' hd hd' => ?_) (fun s' hs hs' => ⟨s', by omega, by omega, rfl⟩) hc
  obtain ⟨e1, e2, e3, e4, e5⟩ := h.d i d d' hd hd'
  refine ⟨fun a _ _ => ?_, fun r' hr hr' => ⟨r', by omega, by omega, fun lv a => by rw [e3]⟩⟩
  unfold Dy.price
  by_cases ha : a < 0
  · rw [if_pos ha, if_pos ha]
    exact Int.mul_le_mul_of_nonneg_left e5 (by omega)
  · rw [if_neg ha, if_neg ha]
    exact Int.mul_le_mul_of_nonneg_left e4 (by omega)
theorem least_of {p : PoD} (h : p.Ok) : p.leastR = if p.costD = -1 then (0, 9) else (p.costD, 0) := by
  unfold PoD.leastR
  rw [PoD.fault_iff.2 h, if_neg (by simp)]
/-- What Least tells of both. -/
theorem Easier.least {p p' : PoD} (h : Easier p p') (hok : p.Ok) (hok' : p'.Ok) : (∃ a b : Int, p.leastR = (a, 0) ∧ p'.leastR = (b, 0) ∧ b ≤ a) ∨ (p.leastR = (0, 9) ∧ ∃ b f : Int, p'.leastR = (b, f) ∧ (f = 0 ∨ f = 9)) := by
  by_cases hc : p.costD = -1
  · right
    refine ⟨by rw [least_of hok, if_pos hc], ?_⟩
    by_cases hc' : p'.costD = -1
    · exact ⟨0, 9, by rw [least_of hok', if_pos hc'], .inr rfl⟩
    · exact ⟨p'.costD, 0, by rw [least_of hok', if_neg hc'], .inl rfl⟩
  · left
    obtain ⟨h1, h2⟩ := h.cost hok hok' hc
    exact ⟨p.costD, p'.costD, by rw [least_of hok, if_neg hc], by rw [least_of hok', if_neg h1], h2⟩
/-- The changes. -/
def PoD.eas (p : PoD) (s i : Nat) (n : Int) : PoD :=
  match s with
  | 0 => { p with pump := min 20 (p.pump + n) }
  | 1 => { p with inl := min 20 (p.inl + n) }
  | 2 => { p with low := max 0 (p.low - n) }
  | 3 => { p with high := min 60 (p.high + n) }
  | 4 => { p with ds := p.ds.modify i fun d => { d with lo := min d.hi (d.lo + n) } }
  | 5 => { p with ds := p.ds.modify i fun d => { d with hi := max d.lo (d.hi - n) } }
  | _ => { p with ds := p.ds.modify i fun d => { d with ou := max 0 (d.ou - n), inn := max 0 (d.inn - n) } }
theorem mod_at {f : Dy → Dy} {ds : List Dy} {i j : Nat} {d d' : Dy} (h : ds[j]? = some d) (h' : (ds.modify i f)[j]? = some d') : d' = d ∨ d' = f d := by
  rw [List.getElem?_modify, h] at h'
  by_cases e : i = j
  · right; simp [e] at h'; exact h'.symm
  · left; simp [e] at h'; exact h'.symm
theorem PoD.Ok.mod_ok {p : PoD} (h : p.Ok) {f : Dy → Dy} (hf : ∀ d, d.Ok → (f d).Ok) (i : Nat) : PoD.Ok { p with ds := p.ds.modify i f } :=
  ⟨by show 1 ≤ (p.ds.modify i f).length; rw [List.length_modify]; exact h.n1, by show (p.ds.modify i f).length ≤ 12; rw [List.length_modify]; exact h.n2, h.l0, h.l1, h.l2, h.s0, h.s1, h.s2, h.p0, h.p1, h.i0, h.i1, fun d' hd' => by
    obtain ⟨j, hj⟩ := List.getElem?_of_mem hd'
    have hjl : j < p.ds.length := by have := (List.getElem?_eq_some_iff.1 hj).1; rw [List.length_modify] at this; exact this
    have hd : p.ds[j]? = some p.ds[j] := by simp
    rcases mod_at hd hj with rfl | rfl
    · exact h.d _ (List.mem_of_getElem? hd)
    · exact hf _ (h.d _ (List.mem_of_getElem? hd))⟩
theorem mod_easier {p : PoD} {f : Dy → Dy} (hf : ∀ d, d ∈ p.ds → d.lo ≤ (f d).lo ∧ (f d).hi ≤ d.hi ∧ (f d).sp = d.sp ∧ (f d).ou ≤ d.ou ∧ (f d).inn ≤ d.inn) (i : Nat) : Easier p { p with ds := p.ds.modify i f } :=
  ⟨Int.le_refl _, Int.le_refl _, Int.le_refl _, Int.le_refl _, rfl, rfl, by show (p.ds.modify i f).length = _; rw [List.length_modify], fun j d d' hd hd' => by
    rcases mod_at hd hd' with rfl | rfl
    · exact ⟨Int.le_refl _, Int.le_refl _, rfl, Int.le_refl _, Int.le_refl _⟩
    · exact hf d (List.mem_of_getElem? hd)⟩
theorem same_days {p : PoD} {j : Nat} {d d' : Dy} (h : p.ds[j]? = some d) (h' : p.ds[j]? = some d') : d.lo ≤ d'.lo ∧ d'.hi ≤ d.hi ∧ d'.sp = d.sp ∧ d'.ou ≤ d.ou ∧ d'.inn ≤ d.inn := by
  rw [h] at h'; cases h'
  exact ⟨Int.le_refl _, Int.le_refl _, rfl, Int.le_refl _, Int.le_refl _⟩
theorem PoD.eas_ok {p : PoD} (h : p.Ok) (s i : Nat) {n : Int} (hn : 0 ≤ n) (hs : s < 7) : (p.eas s i n).Ok ∧ Easier p (p.eas s i n) := by
  have l0 := h.l0
  have l1 := h.l1
  have l2 := h.l2
  have s0 := h.s0
  have s1 := h.s1
  have s2 := h.s2
  have p0 := h.p0
  have p1 := h.p1
  have i0 := h.i0
  have i1 := h.i1
  match s, hs with
  | 0, _ => exact ⟨⟨h.n1, h.n2, l0, l1, l2, s0, s1, s2, by show 0 ≤ min 20 (p.pump + n); omega, by show min 20 (p.pump + n) ≤ 20; omega, i0, i1, h.d⟩, ⟨by show _ ≤ min 20 (p.pump + n); omega, Int.le_refl _, Int.le_refl _, Int.le_refl _, rfl, rfl, rfl, fun _ _ _ h1 h2 => same_days h1 h2⟩⟩
  | 1, _ => exact ⟨⟨h.n1, h.n2, l0, l1, l2, s0, s1, s2, p0, p1, by show 0 ≤ min 20 (p.inl + n); omega, by show min 20 (p.inl + n) ≤ 20; omega, h.d⟩, ⟨Int.le_refl _, by show _ ≤ min 20 (p.inl + n); omega, Int.le_refl _, Int.le_refl _, rfl, rfl, rfl, fun _ _ _ h1 h2 => same_days h1 h2⟩⟩
  | 2, _ => exact ⟨⟨h.n1, h.n2, by show 0 ≤ max 0 (p.low - n); omega, by show max 0 (p.low - n) ≤ p.high; omega, l2, by show max 0 (p.low - n) ≤ p.slo; omega, s1, s2, p0, p1, i0, i1, h.d⟩, ⟨Int.le_refl _, Int.le_refl _, by show max 0 (p.low - n) ≤ _; omega, Int.le_refl _, rfl, rfl, rfl, fun _ _ _ h1 h2 => same_days h1 h2⟩⟩
  | 3, _ => exact ⟨⟨h.n1, h.n2, l0, by show p.low ≤ min 60 (p.high + n); omega, by show min 60 (p.high + n) ≤ 60; omega, s0, s1, by show p.shi ≤ min 60 (p.high + n); omega, p0, p1, i0, i1, h.d⟩, ⟨Int.le_refl _, Int.le_refl _, Int.le_refl _, by show _ ≤ min 60 (p.high + n); omega, rfl, rfl, rfl, fun _ _ _ h1 h2 => same_days h1 h2⟩⟩
  | 4, _ => exact ⟨h.mod_ok (fun d hd => by obtain ⟨a1, a2, a3, a4, a5, a6, a7, a8, a9⟩ := hd; exact ⟨by show 0 ≤ min d.hi (d.lo + n); omega, by show min d.hi (d.lo + n) ≤ d.hi; omega, a3, a4, a5, a6, a7, a8, a9⟩) i, mod_easier (fun d hd => by obtain ⟨a1, a2, a3, a4, a5, a6, a7, a8, a9⟩ := h.d d hd; exact ⟨by show d.lo ≤ min d.hi (d.lo + n); omega, Int.le_refl _, rfl, Int.le_refl _, Int.le_refl _⟩) i⟩
  | 5, _ => exact ⟨h.mod_ok (fun d hd => by obtain ⟨a1, a2, a3, a4, a5, a6, a7, a8, a9⟩ := hd; exact ⟨a1, by show d.lo ≤ max d.lo (d.hi - n); omega, by show max d.lo (d.hi - n) ≤ 30; omega, a4, a5, a6, a7, a8, a9⟩) i, mod_easier (fun d hd => by obtain ⟨a1, a2, a3, a4, a5, a6, a7, a8, a9⟩ := h.d d hd; exact ⟨Int.le_refl _, by show max d.lo (d.hi - n) ≤ d.hi; omega, rfl, Int.le_refl _, Int.le_refl _⟩) i⟩
  | 6, _ => exact ⟨h.mod_ok (fun d hd => by obtain ⟨a1, a2, a3, a4, a5, a6, a7, a8, a9⟩ := hd; exact ⟨a1, a2, a3, a4, a5, by show 0 ≤ max 0 (d.ou - n); omega, by show max 0 (d.ou - n) ≤ 100; omega, by show 0 ≤ max 0 (d.inn - n); omega, by show max 0 (d.inn - n) ≤ 100; omega⟩) i, mod_easier (fun d hd => by obtain ⟨a1, a2, a3, a4, a5, a6, a7, a8, a9⟩ := h.d d hd; exact ⟨Int.le_refl _, Int.le_refl _, rfl, by show max 0 (d.ou - n) ≤ d.ou; omega, by show max 0 (d.inn - n) ≤ d.inn; omega⟩) i⟩
end Go.Proofs.Ytkmdjobflmmojaa
