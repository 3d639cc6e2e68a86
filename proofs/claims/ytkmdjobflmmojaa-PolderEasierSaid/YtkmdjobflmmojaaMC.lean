/- What costs no more: the costs of two polders; the mirrored polder. -/
import Derived.Test.YtkmdjobflmmojaaPO
namespace Go.Proofs.Ytkmdjobflmmojaa
open Go.RowKit Go.Lib

theorem PoD.cost_sim {p p' : PoD} (hok : p.Ok) (hok' : p'.Ok) {φ σ : Int → Int} (hk : ∀ lv, p.kept lv → p'.kept (φ lv)) (hσ : ∀ a, -p.inl ≤ a → a ≤ p.pump → -p'.inl ≤ σ a ∧ σ a ≤ p'.pump) (hl : p'.ds.length = p.ds.length)
    (hR : ∀ (i : Nat) (d d' : Dy), p.ds[i]? = some d → p'.ds[i]? = some d' → (∀ a, -p.inl ≤ a → a ≤ p.pump → d'.price (σ a) ≤ d.price a) ∧ ∀ r', d'.lo ≤ r' → r' ≤ d'.hi → ∃ r, d.lo ≤ r ∧ r ≤ d.hi ∧ ∀ lv a, φ lv - σ a + r' - d'.sp = φ (lv - a + r - d.sp))
    (hs : ∀ s', p'.slo ≤ s' → s' ≤ p'.shi → ∃ s, p.slo ≤ s ∧ s ≤ p.shi ∧ s' = φ s) (hc : p.costD ≠ -1) : p'.costD ≠ -1 ∧ p'.costD ≤ p.costD := by
  have hsim := PoD.sim hok.p0 hok.i0 hok'.p0 hok'.i0 hk hσ p.ds.length p.ds p'.ds rfl hl hok.d hok'.d hR
  have hv : ∀ s, p.slo ≤ s → s ≤ p.shi → p.vals p.ds s ≠ -1 := fun s h1 h2 e => hc (hok.cost_iff.2 ⟨s, h1, h2, e⟩)
  have hne : p'.costD ≠ -1 := fun e => by
    obtain ⟨s', h1, h2, h3⟩ := hok'.cost_iff.1 e
    obtain ⟨s, h4, h5, rfl⟩ := hs s' h1 h2
    exact (hsim s (hv s h4 h5)).1 h3
  refine ⟨hne, ?_⟩
  obtain ⟨s', h1, h2, h3⟩ := hok'.cost_at hne
  obtain ⟨s, h4, h5, rfl⟩ := hs s' h1 h2
  rw [← h3]
  exact Int.le_trans (hsim s (hv s h4 h5)).2 (hok.cost_le hc h4 h5)
/-- A day, and a polder, turned upside down. -/
def Dy.mir (d : Dy) : Dy := ⟨d.sp, d.sp + d.hi - d.lo, d.hi, d.inn, d.ou⟩
def PoD.mir (p : PoD) : PoD := ⟨60 - p.high, 60 - p.low, 60 - p.shi, 60 - p.slo, p.inl, p.pump, p.ds.map Dy.mir⟩
theorem Dy.mir_price (d : Dy) (a : Int) : d.mir.price (-a) = d.price a := by
  show (if -a < 0 then -(-a) * d.ou else -a * d.inn) = if a < 0 then -a * d.inn else a * d.ou
  by_cases h : a < 0
  · rw [if_pos h, if_neg (by omega)]
  · rw [if_neg h]
    by_cases h0 : a = 0
    · subst h0; simp
    · rw [if_pos (by omega), Int.neg_neg]
theorem mir_at {ds : List Dy} {i : Nat} {d d' : Dy} (h : ds[i]? = some d) (h' : (ds.map Dy.mir)[i]? = some d') : d' = d.mir := by
  rw [List.getElem?_map, h] at h'
  exact (Option.some.inj h').symm
theorem PoD.mir_cost {p : PoD} (hok : p.Ok) (hok' : p.mir.Ok) : p.mir.costD = p.costD := by
  have k1 : ∀ lv, p.kept lv → p.mir.kept (60 - lv) := fun lv h => by
    have h1 := h.1; have h2 := h.2
    exact ⟨by show 60 - p.high ≤ 60 - lv; omega, by show 60 - lv ≤ 60 - p.low; omega⟩
  have k2 : ∀ lv, p.mir.kept lv → p.kept (60 - lv) := fun lv h => by
    have h1 : 60 - p.high ≤ lv := h.1
    have h2 : lv ≤ 60 - p.low := h.2
    exact ⟨by omega, by omega⟩
  have f1 := fun hc => PoD.cost_sim hok hok' (φ := fun lv => 60 - lv) (σ := fun a => -a) k1 (fun a h1 h2 => ⟨by show -p.pump ≤ -a; omega, by show -a ≤ p.inl; omega⟩) (by show (p.ds.map Dy.mir).length = _; simp)
    (fun i d d' h h' => by
      obtain rfl := mir_at h h'
      exact ⟨fun a _ _ => by rw [d.mir_price]; exact Int.le_refl _, fun r' h1 h2 => by
        have h1' : d.sp ≤ r' := h1
        have h2' : r' ≤ d.sp + d.hi - d.lo := h2
        refine ⟨d.sp + d.hi - r', by omega, by omega, fun lv a => ?_⟩
        show 60 - lv - -a + r' - d.hi = 60 - (lv - a + (d.sp + d.hi - r') - d.sp)
        omega⟩)
    (fun s' h1 h2 => by
      have h1' : 60 - p.shi ≤ s' := h1
      have h2' : s' ≤ 60 - p.slo := h2
      exact ⟨60 - s', by omega, by omega, by show s' = 60 - (60 - s'); omega⟩) hc
  have f2 := fun hc => PoD.cost_sim hok' hok (φ := fun lv => 60 - lv) (σ := fun a => -a) k2 (fun a h1 h2 => by
      have h1' : -p.pump ≤ a := h1
      have h2' : a ≤ p.inl := h2
      exact ⟨by omega, by omega⟩) (by show _ = (p.ds.map Dy.mir).length; simp)
    (fun i d' d h' h => by
      obtain rfl := mir_at h h'
      exact ⟨fun a _ _ => by
        have := d.mir_price (-a)
        rw [Int.neg_neg] at this
        rw [this]; exact Int.le_refl _, fun r h1 h2 => by
        refine ⟨d.sp + d.hi - r, by show d.sp ≤ _; omega, by show _ ≤ d.sp + d.hi - d.lo; omega, fun lv a => ?_⟩
        show 60 - lv - -a + r - d.sp = 60 - (lv - a + (d.sp + d.hi - r) - d.hi)
        omega⟩)
    (fun s h1 h2 => ⟨60 - s, by show 60 - p.shi ≤ _; omega, by show _ ≤ 60 - p.slo; omega, by show s = 60 - (60 - s); omega⟩) hc
  by_cases hc : p.costD = -1
  · by_cases hc' : p.mir.costD = -1
    · rw [hc, hc']
    · exact absurd hc (f2 hc').1
  · obtain ⟨h1, h2⟩ := f1 hc
    have h3 := (f2 h1).2
    omega
theorem PoD.mir_least {p : PoD} (hok : p.Ok) (hok' : p.mir.Ok) : p.mir.leastR = p.leastR := by
  unfold PoD.leastR
  rw [PoD.fault_iff.2 hok, PoD.fault_iff.2 hok', PoD.mir_cost hok hok']
end Go.Proofs.Ytkmdjobflmmojaa
