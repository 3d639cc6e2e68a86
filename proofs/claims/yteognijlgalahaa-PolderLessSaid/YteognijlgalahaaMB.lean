/- Polders: easier ones, turned ones, later ones; ends; rain; tables: the mathematics. -/
import Derived.Test.YteognijlgalahaaMA
namespace Go.Proofs.Yteognijlgalahaa
open Go.RowKit

def PoD.kept (p : PoD) (lv : Int) : Prop := p.low ≤ lv ∧ lv ≤ p.high
theorem PoD.atD_iff {p : PoD} {nx : Int → Int} {lv : Int} : p.atD nx lv ≠ -1 ↔ p.kept lv ∧ nx lv ≠ -1 := by
  unfold PoD.atD PoD.kept
  by_cases h : inB lv p.low p.high = true
  · rw [if_pos h]; rw [inB_iff] at h; exact ⟨fun h2 => ⟨h, h2⟩, fun h2 => h2.2⟩
  · rw [if_neg h]; rw [inB_iff] at h; exact ⟨fun h2 => absurd rfl h2, fun h2 => absurd h2.1 h⟩
theorem PoD.atD_eq {p : PoD} {nx : Int → Int} {lv : Int} (h : p.kept lv) : p.atD nx lv = nx lv := by
  unfold PoD.atD; rw [if_pos (inB_iff.2 h)]
theorem PoD.can_iff {p : PoD} {nx : Int → Int} (h : Cst nx) {d : Dy} {lv a : Int} : p.can1 nx d lv a ↔ ∀ r, d.lo ≤ r → r ≤ d.hi → p.kept (lv - a + r - d.sp) ∧ nx (lv - a + r - d.sp) ≠ -1 := by
  unfold PoD.can1
  rw [Ne, PoD.wor_iff h]
  constructor
  · intro h1 r h2 h3
    exact PoD.atD_iff.1 fun e => h1 ⟨r, h2, h3, e⟩
  · rintro h1 ⟨r, h2, h3, e⟩
    exact PoD.atD_iff.2 (h1 r h2 h3) e
section
variable {p : PoD} (hp : 0 ≤ p.pump) (hi : 0 ≤ p.inl) {nx : Int → Int} (h : Cst nx) {d : Dy} (hd : d.Ok)
include hp hi h hd
theorem PoD.best_can {lv : Int} : (p.bestD nx d lv).2 ≠ -1 ↔ ∃ a, -p.inl ≤ a ∧ a ≤ p.pump ∧ p.can1 nx d lv a := by
  rcases PoD.best_spec hp hi h hd lv with ⟨h1, h2⟩ | ⟨h1, h2, h3, h4, h5, h6⟩
  · rw [h1]
    exact ⟨fun hc => absurd rfl hc, fun ⟨a, ha, hb, hc⟩ => absurd hc (h2 a ha hb)⟩
  · exact ⟨fun _ => ⟨_, h1, h2, h3⟩, fun _ e => by rw [e] at h5; omega⟩
theorem PoD.best_le {lv a : Int} (h1 : -p.inl ≤ a) (h2 : a ≤ p.pump) (hc : p.can1 nx d lv a) : (p.bestD nx d lv).2 ≤ p.cost1 nx d lv a := by
  rcases PoD.best_spec hp hi h hd lv with ⟨-, h4⟩ | ⟨-, -, -, -, -, h6⟩
  · exact absurd hc (h4 a h1 h2)
  · exact (h6 a h1 h2 hc).1
theorem PoD.best_at {lv : Int} (hb : (p.bestD nx d lv).2 ≠ -1) : -p.inl ≤ (p.bestD nx d lv).1 ∧ (p.bestD nx d lv).1 ≤ p.pump ∧ p.can1 nx d lv (p.bestD nx d lv).1 ∧ (p.bestD nx d lv).2 = p.cost1 nx d lv (p.bestD nx d lv).1 ∧ 0 ≤ (p.bestD nx d lv).2 := by
  rcases PoD.best_spec hp hi h hd lv with ⟨h1, -⟩ | ⟨h1, h2, h3, h4, h5, -⟩
  · rw [h1] at hb; exact absurd rfl hb
  · exact ⟨h1, h2, h3, h4, h5⟩
/-- The best amount is told by what it is. -/
theorem PoD.best_uniq {lv a : Int} (h1 : -p.inl ≤ a) (h2 : a ≤ p.pump) (hc : p.can1 nx d lv a) (hm : ∀ b, -p.inl ≤ b → b ≤ p.pump → p.can1 nx d lv b → p.cost1 nx d lv a ≤ p.cost1 nx d lv b ∧ (b < a → p.cost1 nx d lv a < p.cost1 nx d lv b)) : p.bestD nx d lv = (a, p.cost1 nx d lv a) := by
  rcases PoD.best_spec hp hi h hd lv with ⟨-, h4⟩ | ⟨h3, h4, h5, h6, h7, h8⟩
  · exact absurd hc (h4 a h1 h2)
  · obtain ⟨h9, h10⟩ := hm _ h3 h4 h5
    obtain ⟨h11, h12⟩ := h8 a h1 h2 hc
    have e : (p.bestD nx d lv).1 = a := by
      rcases Int.lt_trichotomy (p.bestD nx d lv).1 a with hlt | he | hgt
      · have := h10 hlt; omega
      · exact he
      · have := h12 hgt; omega
    rw [← e, ← h6]
end
/-- What one day costs in an easier polder. -/
theorem PoD.step {p p' : PoD} (hp : 0 ≤ p.pump) (hi : 0 ≤ p.inl) (hp' : 0 ≤ p'.pump) (hi' : 0 ≤ p'.inl) {φ σ : Int → Int} (hk : ∀ lv, p.kept lv → p'.kept (φ lv)) (hσ : ∀ a, -p.inl ≤ a → a ≤ p.pump → -p'.inl ≤ σ a ∧ σ a ≤ p'.pump)
    {nx nx' : Int → Int} (h : Cst nx) (h' : Cst nx') (hn : ∀ lv, p.kept lv → nx lv ≠ -1 → nx' (φ lv) ≠ -1 ∧ nx' (φ lv) ≤ nx lv) {d d' : Dy} (hd : d.Ok) (hd' : d'.Ok)
    (hpr : ∀ a, -p.inl ≤ a → a ≤ p.pump → d'.price (σ a) ≤ d.price a) (hr : ∀ r', d'.lo ≤ r' → r' ≤ d'.hi → ∃ r, d.lo ≤ r ∧ r ≤ d.hi ∧ ∀ lv a, φ lv - σ a + r' - d'.sp = φ (lv - a + r - d.sp)) {lv : Int} (hb : (p.bestD nx d lv).2 ≠ -1) :
    (p'.bestD nx' d' (φ lv)).2 ≠ -1 ∧ (p'.bestD nx' d' (φ lv)).2 ≤ (p.bestD nx d lv).2 := by
  obtain ⟨h1, h2, h3, h4, -⟩ := PoD.best_at hp hi h hd hb
  obtain ⟨h5, h6⟩ := hσ _ h1 h2
  have hc3 := (PoD.can_iff h).1 h3
  have hc : p'.can1 nx' d' (φ lv) (σ (p.bestD nx d lv).1) := by
    refine (PoD.can_iff h').2 fun r' hr1 hr2 => ?_
    obtain ⟨r, hr3, hr4, e⟩ := hr r' hr1 hr2
    obtain ⟨h7, h8⟩ := hc3 r hr3 hr4
    rw [e]
    exact ⟨hk _ h7, (hn _ h7 h8).1⟩
  have hle := PoD.best_le hp' hi' h' hd' h5 h6 hc
  refine ⟨(PoD.best_can hp' hi' h' hd').2 ⟨_, h5, h6, hc⟩, Int.le_trans hle ?_⟩
  rw [h4]
  unfold PoD.cost1
  have hpl := hpr _ h1 h2
  obtain ⟨r', hr1, hr2, er⟩ := PoD.wor_at h' hd'.r1 hc
  obtain ⟨r, hr3, hr4, e⟩ := hr r' hr1 hr2
  obtain ⟨h7, h8⟩ := hc3 r hr3 hr4
  have hw := PoD.wor_le h h3 hr3 hr4
  rw [PoD.atD_eq h7] at hw
  rw [e, PoD.atD_eq (hk _ h7)] at er
  have := (hn _ h7 h8).2
  omega
/-- What days cost in an easier polder. -/
theorem PoD.sim {p p' : PoD} (hp : 0 ≤ p.pump) (hi : 0 ≤ p.inl) (hp' : 0 ≤ p'.pump) (hi' : 0 ≤ p'.inl) {φ σ : Int → Int} (hk : ∀ lv, p.kept lv → p'.kept (φ lv)) (hσ : ∀ a, -p.inl ≤ a → a ≤ p.pump → -p'.inl ≤ σ a ∧ σ a ≤ p'.pump) :
    ∀ (n : Nat) (ds ds' : List Dy), ds.length = n → ds'.length = n → (∀ d, d ∈ ds → d.Ok) → (∀ d, d ∈ ds' → d.Ok) →
      (∀ (i : Nat) (d d' : Dy), ds[i]? = some d → ds'[i]? = some d' → (∀ a, -p.inl ≤ a → a ≤ p.pump → d'.price (σ a) ≤ d.price a) ∧ ∀ r', d'.lo ≤ r' → r' ≤ d'.hi → ∃ r, d.lo ≤ r ∧ r ≤ d.hi ∧ ∀ lv a, φ lv - σ a + r' - d'.sp = φ (lv - a + r - d.sp)) →
      ∀ lv, p.vals ds lv ≠ -1 → p'.vals ds' (φ lv) ≠ -1 ∧ p'.vals ds' (φ lv) ≤ p.vals ds lv
  | 0, ds, ds', hl, hl', _, _, _, lv, _ => by
    obtain rfl := List.eq_nil_of_length_eq_zero hl
    obtain rfl := List.eq_nil_of_length_eq_zero hl'
    exact ⟨fun e => by have e2 : (0 : Int) = -1 := e; omega, Int.le_refl _⟩
  | n + 1, d :: ds, d' :: ds', hl, hl', ho, ho', hR, lv, hb => by
    have ih := PoD.sim hp hi hp' hi' hk hσ n ds ds' (by simpa using hl) (by simpa using hl') (fun x hx => ho x (List.mem_cons.2 (.inr hx))) (fun x hx => ho' x (List.mem_cons.2 (.inr hx))) (fun i x x' hx hx' => hR (i + 1) x x' (by simpa using hx) (by simpa using hx'))
    obtain ⟨h1, h2⟩ := hR 0 d d' rfl rfl
    exact PoD.step hp hi hp' hi' hk hσ (PoD.vals_ge hp hi fun x hx => ho x (List.mem_cons.2 (.inr hx))) (PoD.vals_ge hp' hi' fun x hx => ho' x (List.mem_cons.2 (.inr hx))) (fun lv _ h => ih lv h) (ho d (by simp)) (ho' d' (by simp)) h1 h2 hb
  | n + 1, [], _, hl, _, _, _, _, _, _ => by simp at hl
  | n + 1, _ :: _, [], _, hl', _, _, _, _, _ => by simp at hl'
/-- The costs have a bound. -/
theorem PoD.vals_le {p : PoD} (hp : 0 ≤ p.pump) (hi : 0 ≤ p.inl) (hp2 : p.pump ≤ 20) (hi2 : p.inl ≤ 20) : ∀ {ds : List Dy}, (∀ d, d ∈ ds → d.Ok) → ∀ lv, p.vals ds lv ≤ 2000 * ds.length
  | [], _ => fun lv => by show (0 : Int) ≤ _; simp
  | d :: ds, hd => fun lv => by
    have hge := PoD.vals_ge hp hi (ds := ds) fun x hx => hd x (List.mem_cons.2 (.inr hx))
    have hdk := hd d (by simp)
    have ih := PoD.vals_le hp hi hp2 hi2 (ds := ds) fun x hx => hd x (List.mem_cons.2 (.inr hx))
    show (p.bestD (p.vals ds) d lv).2 ≤ _
    rw [List.length_cons]
    by_cases hb : (p.bestD (p.vals ds) d lv).2 = -1
    · rw [hb]; omega
    · obtain ⟨h1, h2, h3, h4, -⟩ := PoD.best_at hp hi hge hdk hb
      rw [h4]
      unfold PoD.cost1
      have := Dy.price_le hdk (a := (p.bestD (p.vals ds) d lv).1) (by omega) (by omega)
      obtain ⟨r, hr1, hr2, e⟩ := PoD.wor_at hge hdk.r1 h3
      obtain ⟨h7, -⟩ := (PoD.can_iff hge).1 h3 r hr1 hr2
      rw [PoD.atD_eq h7] at e
      have := ih (lv - (p.bestD (p.vals ds) d lv).1 + r - d.sp)
      omega
/-- Levels that can be held lie side by side. -/
theorem PoD.convex {p : PoD} (hp : 0 ≤ p.pump) (hi : 0 ≤ p.inl) : ∀ {ds : List Dy}, (∀ d, d ∈ ds → d.Ok) → ∀ l1 l2 lv, l1 ≤ lv → lv ≤ l2 → p.vals ds l1 ≠ -1 → p.vals ds l2 ≠ -1 → p.vals ds lv ≠ -1
  | [], _, _, _, _, _, _, h, _ => h
  | d :: ds, hd, l1, l2, lv, h1, h2, hb1, hb2 => by
    have hge := PoD.vals_ge hp hi (ds := ds) fun x hx => hd x (List.mem_cons.2 (.inr hx))
    have hdk := hd d (by simp)
    have ih := PoD.convex hp hi (ds := ds) fun x hx => hd x (List.mem_cons.2 (.inr hx))
    obtain ⟨a1, ha1, hb1, hc1⟩ := (PoD.best_can hp hi hge hdk).1 hb1
    obtain ⟨a2, ha2, hb2, hc2⟩ := (PoD.best_can hp hi hge hdk).1 hb2
    have hc1 := (PoD.can_iff hge).1 hc1
    have hc2 := (PoD.can_iff hge).1 hc2
    refine (PoD.best_can hp hi hge hdk).2 ?_
    have fin : ∀ a, -p.inl ≤ a → a ≤ p.pump → ((l1 - a1 ≤ lv - a ∧ lv - a ≤ l2 - a2) ∨ (l2 - a2 ≤ lv - a ∧ lv - a ≤ l1 - a1)) → ∃ a, -p.inl ≤ a ∧ a ≤ p.pump ∧ p.can1 (p.vals ds) d lv a := fun a h3 h4 h5 => by
      refine ⟨a, h3, h4, (PoD.can_iff hge).2 fun r hr1 hr2 => ?_⟩
      obtain ⟨⟨k1, k2⟩, n1⟩ := hc1 r hr1 hr2
      obtain ⟨⟨k3, k4⟩, n2⟩ := hc2 r hr1 hr2
      rcases h5 with ⟨h5, h6⟩ | ⟨h5, h6⟩
      · exact ⟨⟨by omega, by omega⟩, ih (l1 - a1 + r - d.sp) (l2 - a2 + r - d.sp) _ (by omega) (by omega) n1 n2⟩
      · exact ⟨⟨by omega, by omega⟩, ih (l2 - a2 + r - d.sp) (l1 - a1 + r - d.sp) _ (by omega) (by omega) n2 n1⟩
    by_cases hle : l1 - a1 ≤ l2 - a2
    · by_cases hm : -p.inl ≤ lv - (l2 - a2)
      · exact fin (lv - (l2 - a2)) hm (by omega) (.inl ⟨by omega, by omega⟩)
      · exact fin (-p.inl) (Int.le_refl _) (by omega) (.inl ⟨by omega, by omega⟩)
    · exact fin (lv - (l1 - a1)) (by omega) (by omega) (.inr ⟨by omega, by omega⟩)
/-- Where no level can be held, none can be before. -/
theorem PoD.none_before {p : PoD} (hp : 0 ≤ p.pump) (hi : 0 ≤ p.inl) : ∀ (j : Nat) {ds : List Dy}, (∀ d, d ∈ ds → d.Ok) → j ≤ ds.length → (∀ lv, p.kept lv → p.vals (ds.drop j) lv = -1) → ∀ lv, p.kept lv → p.vals ds lv = -1
  | 0, ds, _, _, h, lv, hk => by rw [List.drop_zero] at h; exact h lv hk
  | j + 1, [], _, hj, _, _, _ => by simp at hj
  | j + 1, d :: ds, hd, hj, h, lv, hk => by
    have hge := PoD.vals_ge hp hi (ds := ds) fun x hx => hd x (List.mem_cons.2 (.inr hx))
    have hdk := hd d (by simp)
    have ih := PoD.none_before hp hi j (ds := ds) (fun x hx => hd x (List.mem_cons.2 (.inr hx))) (by simpa using hj) (by simpa using h)
    refine Classical.byContradiction fun hb => ?_
    obtain ⟨a, ha, hb, hc⟩ := (PoD.best_can hp hi hge hdk).1 hb
    obtain ⟨k, n⟩ := (PoD.can_iff hge).1 hc d.lo (Int.le_refl _) hdk.r1
    exact n (ih _ k)
/-- The levels, the amounts and what they cost, by the best rule. -/
def PoD.play (p : PoD) : List Dy → Int → List Int → List Int × List Int × Int
  | d :: ds, lv, r :: rs =>
    let a := (p.bestD (p.vals ds) d lv).1
    let x := p.play ds (lv + (r - d.sp - a)) rs
    ((lv + (r - d.sp - a)) :: x.1, a :: x.2.1, d.price a + x.2.2)
  | _, _, _ => ([], [], 0)
/-- By the best rule each level is kept, for no more than the cost. -/
theorem PoD.play_ok {p : PoD} (hp : 0 ≤ p.pump) (hi : 0 ≤ p.inl) : ∀ {ds : List Dy} {rs : List Int} {lv : Int}, (∀ d, d ∈ ds → d.Ok) → rs.length = ds.length → (∀ (i : Nat) d r, ds[i]? = some d → rs[i]? = some r → d.lo ≤ r ∧ r ≤ d.hi) → p.vals ds lv ≠ -1 →
    (p.play ds lv rs).2.2 ≤ p.vals ds lv ∧ 0 ≤ (p.play ds lv rs).2.2 ∧ (∀ x, x ∈ (p.play ds lv rs).1 → p.kept x) ∧ (∀ a, a ∈ (p.play ds lv rs).2.1 → -p.inl ≤ a ∧ a ≤ p.pump)
  | [], [], lv, _, _, _, _ => ⟨by show (0 : Int) ≤ 0; omega, by show (0 : Int) ≤ 0; omega, fun x hx => (by simp [PoD.play] at hx), fun x hx => (by simp [PoD.play] at hx)⟩
  | [], _ :: _, _, _, hl, _, _ => by simp at hl
  | _ :: _, [], _, _, hl, _, _ => by simp at hl
  | d :: ds, r :: rs, lv, hd, hl, hr, hb => by
    have hge := PoD.vals_ge hp hi (ds := ds) fun x hx => hd x (List.mem_cons.2 (.inr hx))
    have hdk := hd d (by simp)
    obtain ⟨h1, h2, h3, h4, h5⟩ := PoD.best_at hp hi hge hdk hb
    obtain ⟨hr1, hr2⟩ := hr 0 d r rfl rfl
    obtain ⟨hk, hn⟩ := (PoD.can_iff hge).1 h3 r hr1 hr2
    have hw := PoD.wor_le hge h3 hr1 hr2
    rw [PoD.atD_eq hk] at hw
    have e : lv - (p.bestD (p.vals ds) d lv).1 + r - d.sp = lv + (r - d.sp - (p.bestD (p.vals ds) d lv).1) := by omega
    rw [e] at hk hn hw
    obtain ⟨i1, i2, i3, i4⟩ := PoD.play_ok hp hi (ds := ds) (rs := rs) (fun x hx => hd x (List.mem_cons.2 (.inr hx))) (by simpa using hl) (fun i x y hx hy => hr (i + 1) x y (by simpa using hx) (by simpa using hy)) hn
    have hpr := d.price_nonneg hdk (p.bestD (p.vals ds) d lv).1
    have h6 : p.vals (d :: ds) lv = p.wor (p.vals ds) d (lv - (p.bestD (p.vals ds) d lv).1) + d.price (p.bestD (p.vals ds) d lv).1 := h4
    rw [PoD.play]
    dsimp only
    refine ⟨by omega, by omega, fun x hx => ?_, fun x hx => ?_⟩
    · rcases List.mem_cons.1 hx with rfl | hx
      · exact hk
      · exact i3 x hx
    · rcases List.mem_cons.1 hx with rfl | hx
      · exact ⟨h1, h2⟩
      · exact i4 x hx
/-- A table that keeps has no number below the least cost. -/
theorem PoD.keeps_ge {p : PoD} (hp : 0 ≤ p.pump) (hi : 0 ≤ p.inl) : ∀ {ds : List Dy} {T : Nat → Int → Int}, (∀ d, d ∈ ds → d.Ok) → (∀ i, Cst (T i)) →
    (∀ (i : Nat) d lv, ds[i]? = some d → p.kept lv → T i lv ≠ -1 → (p.bestD (T (i + 1)) d lv).2 ≠ -1 ∧ (p.bestD (T (i + 1)) d lv).2 ≤ T i lv) → (∀ lv, p.kept lv → T ds.length lv = 0) → ∀ lv, p.kept lv → T 0 lv ≠ -1 → p.vals ds lv ≠ -1 ∧ p.vals ds lv ≤ T 0 lv
  | [], T, _, _, _, hl, lv, hk, _ => by
    have : T 0 lv = 0 := hl lv hk
    rw [this]
    exact ⟨fun e => by have e2 : (0 : Int) = -1 := e; omega, Int.le_refl _⟩
  | d :: ds, T, hd, hc, hT, hl, lv, hk, hn => by
    have hge := PoD.vals_ge hp hi (ds := ds) fun x hx => hd x (List.mem_cons.2 (.inr hx))
    have hdk := hd d (by simp)
    have ih := PoD.keeps_ge hp hi (ds := ds) (T := fun i => T (i + 1)) (fun x hx => hd x (List.mem_cons.2 (.inr hx))) (fun i => hc (i + 1)) (fun i x lv hx => hT (i + 1) x lv (by simpa using hx)) (fun lv hk => by have := hl lv hk; rw [List.length_cons] at this; exact this)
    obtain ⟨h1, h2⟩ := hT 0 d lv rfl hk hn
    obtain ⟨h3, h4⟩ := PoD.step (p := p) (p' := p) hp hi hp hi (φ := id) (σ := id) (fun _ h => h) (fun _ h1 h2 => ⟨h1, h2⟩) (hc 1) hge (fun lv hk hn => ih lv hk hn) hdk hdk (fun _ _ _ => Int.le_refl _) (fun r h1 h2 => ⟨r, h1, h2, fun _ _ => rfl⟩) h1
    exact ⟨h3, Int.le_trans h4 h2⟩
/-- A table that needs has no number above the least cost, and -1 only where a level cannot be held. -/
theorem PoD.needs_le {p : PoD} (hp : 0 ≤ p.pump) (hi : 0 ≤ p.inl) : ∀ {ds : List Dy} {T : Nat → Int → Int}, (∀ d, d ∈ ds → d.Ok) → (∀ i, Cst (T i)) →
    (∀ (i : Nat) d lv, ds[i]? = some d → p.kept lv → (p.bestD (T (i + 1)) d lv).2 = -1 ∨ (T i lv ≠ -1 ∧ T i lv ≤ (p.bestD (T (i + 1)) d lv).2)) → (∀ lv, p.kept lv → T ds.length lv = 0) → ∀ lv, p.kept lv → p.vals ds lv ≠ -1 → T 0 lv ≠ -1 ∧ T 0 lv ≤ p.vals ds lv
  | [], T, _, _, _, hl, lv, hk, _ => by
    have : T 0 lv = 0 := hl lv hk
    rw [this]
    exact ⟨by omega, Int.le_refl _⟩
  | d :: ds, T, hd, hc, hT, hl, lv, hk, hn => by
    have hge := PoD.vals_ge hp hi (ds := ds) fun x hx => hd x (List.mem_cons.2 (.inr hx))
    have hdk := hd d (by simp)
    have ih := PoD.needs_le hp hi (ds := ds) (T := fun i => T (i + 1)) (fun x hx => hd x (List.mem_cons.2 (.inr hx))) (fun i => hc (i + 1)) (fun i x lv hx => hT (i + 1) x lv (by simpa using hx)) (fun lv hk => by have := hl lv hk; rw [List.length_cons] at this; exact this)
    obtain ⟨h3, h4⟩ := PoD.step (p := p) (p' := p) hp hi hp hi (φ := id) (σ := id) (fun _ h => h) (fun _ h1 h2 => ⟨h1, h2⟩) hge (hc 1) (fun lv hk hn => ih lv hk hn) hdk hdk (fun _ _ _ => Int.le_refl _) (fun r h1 h2 => ⟨r, h1, h2, fun _ _ => rfl⟩) hn
    rcases hT 0 d lv rfl hk with h5 | ⟨h5, h6⟩
    · exact absurd h5 h3
    · exact ⟨h5, Int.le_trans h6 h4⟩
end Go.Proofs.Yteognijlgalahaa
