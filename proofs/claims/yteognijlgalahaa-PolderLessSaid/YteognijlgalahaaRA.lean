/- The best rule's levels, amounts and costs, day by day: the mathematics. -/
import Derived.Test.YteognijlgalahaaMB
namespace Go.Proofs.Yteognijlgalahaa
open Go.RowKit

theorem play_len (p : PoD) : ∀ {ds : List Dy} {rs : List Int} {lv : Int}, rs.length = ds.length → (p.play ds lv rs).1.length = ds.length ∧ (p.play ds lv rs).2.1.length = ds.length
  | [], [], _, _ => ⟨rfl, rfl⟩
  | [], _ :: _, _, h => by simp at h
  | _ :: _, [], _, h => by simp at h
  | d :: ds, r :: rs, lv, h => by
    obtain ⟨h1, h2⟩ := play_len p (ds := ds) (rs := rs) (lv := lv + (r - d.sp - (p.bestD (p.vals ds) d lv).1)) (by simpa using h)
    rw [PoD.play]
    dsimp only
    exact ⟨by rw [List.length_cons, h1]; rfl, by rw [List.length_cons, h2]; rfl⟩
/-- The level before a day. -/
def PoD.lvAt (p : PoD) (ds : List Dy) (lv : Int) (rs : List Int) (i : Nat) : Int := (lv :: (p.play ds lv rs).1).getD i 0
/-- What the first amounts cost. -/
def costTo (ds : List Dy) (am : List Int) : Nat → Int
  | 0 => 0
  | i + 1 => costTo ds am i + (ds.getD i ⟨0, 0, 0, 0, 0⟩).price (am.getD i 0)
theorem costTo_cons (d : Dy) (ds : List Dy) (a : Int) (am : List Int) : ∀ i, costTo (d :: ds) (a :: am) (i + 1) = d.price a + costTo ds am i
  | 0 => by simp [costTo]
  | i + 1 => by
    rw [costTo, costTo_cons d ds a am i, costTo]
    simp
    omega
theorem play_cost (p : PoD) : ∀ {ds : List Dy} {rs : List Int} {lv : Int}, rs.length = ds.length → (p.play ds lv rs).2.2 = costTo ds (p.play ds lv rs).2.1 ds.length
  | [], [], _, _ => rfl
  | [], _ :: _, _, h => by simp at h
  | _ :: _, [], _, h => by simp at h
  | d :: ds, r :: rs, lv, h => by
    have ih := play_cost p (ds := ds) (rs := rs) (lv := lv + (r - d.sp - (p.bestD (p.vals ds) d lv).1)) (by simpa using h)
    rw [PoD.play]
    dsimp only
    rw [List.length_cons, costTo_cons, ih]
theorem play_step (p : PoD) : ∀ {ds : List Dy} {rs : List Int} {lv : Int} {i : Nat} {d : Dy} {r : Int}, ds[i]? = some d → rs[i]? = some r →
    ∃ a x, (p.play ds lv rs).2.1[i]? = some a ∧ (p.play ds lv rs).1[i]? = some x ∧ p.lvAt ds lv rs i + r - d.sp - a = x ∧ p.lvAt ds lv rs (i + 1) = x
  | [], _, _, _, _, _, h, _ => by simp at h
  | _ :: _, [], _, _, _, _, _, h => by simp at h
  | d :: ds, r :: rs, lv, 0, d', r', hd, hr => by
    obtain rfl : d = d' := by simpa using hd
    obtain rfl : r = r' := by simpa using hr
    unfold PoD.lvAt
    rw [PoD.play]
    dsimp only
    exact ⟨_, _, rfl, rfl, by show lv + r - d.sp - _ = _; omega, rfl⟩
  | d :: ds, r :: rs, lv, i + 1, d', r', hd, hr => by
    obtain ⟨a, x, h1, h2, h3, h4⟩ := play_step p (ds := ds) (rs := rs) (lv := lv + (r - d.sp - (p.bestD (p.vals ds) d lv).1)) (i := i) (d := d') (r := r') (by simpa using hd) (by simpa using hr)
    unfold PoD.lvAt at h3 h4 ⊢
    rw [PoD.play]
    dsimp only
    exact ⟨a, x, h1, h2, h3, h4⟩
theorem lvAt_zero (p : PoD) (ds : List Dy) (lv : Int) (rs : List Int) : p.lvAt ds lv rs 0 = lv := rfl
theorem costTo_succ {ds : List Dy} {am : List Int} {i : Nat} {d : Dy} {a : Int} (hd : ds[i]? = some d) (ha : am[i]? = some a) : costTo ds am (i + 1) = costTo ds am i + d.price a := by
  rw [costTo, List.getD, List.getD, hd, ha]; rfl
/-- Rain of a day, by a word. -/
def Dy.fall (d : Dy) (x : Nat) : Int := if x % 3 = 0 then d.lo else if x % 3 = 1 then d.hi else d.lo + ((x / 3 : Nat) : Int) % (d.hi - d.lo + 1)
theorem Dy.fall_in {d : Dy} (h : d.lo ≤ d.hi) (x : Nat) : d.lo ≤ d.fall x ∧ d.fall x ≤ d.hi := by
  unfold Dy.fall
  have h0 : (0 : Int) ≤ ((x / 3 : Nat) : Int) % (d.hi - d.lo + 1) := Int.emod_nonneg _ (by omega)
  have h1 : ((x / 3 : Nat) : Int) % (d.hi - d.lo + 1) < d.hi - d.lo + 1 := Int.emod_lt_of_pos _ (by omega)
  split
  · omega
  · split <;> omega
end Go.Proofs.Yteognijlgalahaa
