/- Polders: what is valid, least costs, best amounts: the mathematics. -/
import Derived.Test.YteognijlgalahaaB
namespace Go.Proofs.Yteognijlgalahaa
open Go.RowKit

/-- A day. -/
structure Dy where
  lo : Int
  hi : Int
  sp : Int
  ou : Int
  inn : Int
/-- A polder. -/
structure PoD where
  low : Int
  high : Int
  slo : Int
  shi : Int
  pump : Int
  inl : Int
  ds : List Dy
def spanP (lo hi a b : Int) : Bool := inB lo a hi && decide (hi ≤ b)
theorem spanP_iff {lo hi a b : Int} : spanP lo hi a b = true ↔ a ≤ lo ∧ lo ≤ hi ∧ hi ≤ b := by unfold spanP; rw [Bool.and_eq_true, inB_iff, decide_eq_true_eq]; omega
def Dy.okB (d : Dy) : Bool := spanP d.lo d.hi 0 30 && inB d.sp 0 30 && inB d.ou 0 100 && inB d.inn 0 100
def PoD.validB (p : PoD) : Bool := decide (1 ≤ p.ds.length) && spanP p.low p.high 0 60 && spanP p.slo p.shi p.low p.high && inB p.pump 0 20 && inB p.inl 0 20 && p.ds.all Dy.okB
/-- The error of a polder. -/
def PoD.fault (p : PoD) : Int := if 12 < p.ds.length then 3 else if p.validB then 0 else 1
structure Dy.Ok (d : Dy) : Prop where
  r0 : 0 ≤ d.lo
  r1 : d.lo ≤ d.hi
  r2 : d.hi ≤ 30
  s0 : 0 ≤ d.sp
  s1 : d.sp ≤ 30
  o0 : 0 ≤ d.ou
  o1 : d.ou ≤ 100
  i0 : 0 ≤ d.inn
  i1 : d.inn ≤ 100
structure PoD.Ok (p : PoD) : Prop where
  n1 : 1 ≤ p.ds.length
  n2 : p.ds.length ≤ 12
  l0 : 0 ≤ p.low
  l1 : p.low ≤ p.high
  l2 : p.high ≤ 60
  s0 : p.low ≤ p.slo
  s1 : p.slo ≤ p.shi
  s2 : p.shi ≤ p.high
  p0 : 0 ≤ p.pump
  p1 : p.pump ≤ 20
  i0 : 0 ≤ p.inl
  i1 : p.inl ≤ 20
  d : ∀ d, d ∈ p.ds → d.Ok
theorem Dy.okB_iff {d : Dy} : d.okB = true ↔ d.Ok := by
  unfold Dy.okB
  rw [Bool.and_eq_true, Bool.and_eq_true, Bool.and_eq_true, spanP_iff, inB_iff, inB_iff, inB_iff]
  constructor
  · rintro ⟨⟨⟨h1, h2⟩, h3⟩, h4⟩; constructor <;> omega
  · rintro ⟨h1, h2, h3, h4, h5, h6, h7, h8, h9⟩; omega
theorem PoD.fault_iff {p : PoD} : p.fault = 0 ↔ p.Ok := by
  unfold PoD.fault
  constructor
  · intro h
    split at h
    · omega
    · split at h
      · rename_i h1 h2
        unfold PoD.validB at h2
        simp only [Bool.and_eq_true, spanP_iff, inB_iff, decide_eq_true_eq, List.all_eq_true, Dy.okB_iff] at h2
        obtain ⟨⟨⟨⟨⟨h3, h4⟩, h5⟩, h6⟩, h7⟩, h8⟩ := h2
        constructor <;> first | omega | exact h8
      · omega
  · rintro ⟨n1, n2, l0, l1, l2, s0, s1, s2, p0, p1, i0, i1, d⟩
    rw [if_neg (by omega), if_pos]
    unfold PoD.validB
    simp only [Bool.and_eq_true, spanP_iff, inB_iff, decide_eq_true_eq, List.all_eq_true, Dy.okB_iff]
    exact ⟨⟨⟨⟨⟨n1, by omega⟩, by omega⟩, by omega⟩, by omega⟩, d⟩
/-- What an amount costs. -/
def Dy.price (d : Dy) (a : Int) : Int := if a < 0 then -a * d.inn else a * d.ou
theorem Dy.price_nonneg {d : Dy} (h : d.Ok) (a : Int) : 0 ≤ d.price a := by
  unfold Dy.price
  split
  · exact Int.mul_nonneg (by omega) h.i0
  · exact Int.mul_nonneg (by omega) h.o0
theorem Dy.price_le {d : Dy} (h : d.Ok) {a : Int} (h0 : -20 ≤ a) (h1 : a ≤ 20) : d.price a ≤ 2000 := by
  unfold Dy.price
  split
  · have := Int.mul_le_mul (show -a ≤ 20 by omega) h.i1 h.i0 (by omega); omega
  · have := Int.mul_le_mul (show a ≤ 20 by omega) h.o1 h.o0 (by omega); omega
/-- The greater of two costs, or never. -/
def gre (a b : Int) : Int := if a = -1 then -1 else if b = -1 then -1 else max a b
theorem gre_no {a b : Int} : gre a b = -1 ∨ (a ≠ -1 ∧ b ≠ -1 ∧ gre a b = max a b) := by
  unfold gre
  by_cases h : a = -1
  · rw [if_pos h]; exact .inl rfl
  · rw [if_neg h]
    by_cases h2 : b = -1
    · rw [if_pos h2]; exact .inl rfl
    · rw [if_neg h2]; exact .inr ⟨h, h2, rfl⟩
/-- The greatest of the first costs, or never. -/
def greTo (f : Nat → Int) : Nat → Int
  | 0 => 0
  | i + 1 => gre (greTo f i) (f i)
theorem greTo_ge {f : Nat → Int} (hf : ∀ k, -1 ≤ f k) : ∀ i, -1 ≤ greTo f i
  | 0 => by rw [greTo]; omega
  | i + 1 => by
    have := greTo_ge hf i
    have := hf i
    rw [greTo]
    unfold gre
    split
    · omega
    · split <;> omega
theorem greTo_spec {f : Nat → Int} (hf : ∀ k, -1 ≤ f k) : ∀ i, (greTo f i = -1 ↔ ∃ k : Nat, k < i ∧ f k = -1) ∧ (greTo f i ≠ -1 → (∀ k : Nat, k < i → f k ≤ greTo f i) ∧ (greTo f i = 0 ∨ ∃ k : Nat, k < i ∧ f k = greTo f i))
  | 0 => by
    rw [greTo]
    refine ⟨⟨fun h => by omega, fun ⟨k, h, _⟩ => by omega⟩, fun _ => ⟨fun k h => by omega, .inl rfl⟩⟩
  | i + 1 => by
    obtain ⟨h1, h2⟩ := greTo_spec hf i
    have hg := greTo_ge hf i
    have ha := hf i
    rw [greTo]
    rcases gre_no (a := greTo f i) (b := f i) with hn | ⟨hw, hb, he⟩
    · rw [hn]
      refine ⟨⟨fun _ => ?_, fun _ => rfl⟩, fun hc => absurd rfl hc⟩
      unfold gre at hn
      split at hn
      · rename_i hw
        obtain ⟨k, hk, e⟩ := h1.1 hw
        exact ⟨k, by omega, e⟩
      · split at hn
        · rename_i hb
          exact ⟨i, by omega, hb⟩
        · omega
    · rw [he]
      obtain ⟨h3, h4⟩ := h2 hw
      refine ⟨⟨fun hc => by omega, ?_⟩, fun _ => ⟨fun k hk => ?_, ?_⟩⟩
      · rintro ⟨k, hk, e⟩
        exfalso
        by_cases hki : k = i
        · subst hki; exact hb e
        · exact hw (h1.2 ⟨k, by omega, e⟩)
      · clear h1 h2 h4
        by_cases hki : k = i
        · subst hki; omega
        · have := h3 k (by omega); omega
      · clear h1 h2 h3
        rcases h4 with h4 | ⟨k, hk, e⟩
        · by_cases hle : greTo f i ≤ f i
          · exact .inr ⟨i, by omega, by omega⟩
          · left; omega
        · by_cases hle : greTo f i ≤ f i
          · exact .inr ⟨i, by omega, by omega⟩
          · exact .inr ⟨k, by omega, by omega⟩
theorem greTo_congr {f g : Nat → Int} : ∀ {i : Nat}, (∀ k, k < i → f k = g k) → greTo f i = greTo g i
  | 0, _ => rfl
  | i + 1, h => by rw [greTo, greTo, greTo_congr fun k hk => h k (by omega), h i (by omega)]
/-- The cost of a level behind a day: never, if it is not kept. -/
def PoD.atD (p : PoD) (nx : Int → Int) (lv : Int) : Int := if inB lv p.low p.high then nx lv else -1
/-- The worst of the first rains. -/
def PoD.worAt (p : PoD) (nx : Int → Int) (d : Dy) (left : Int) (i : Nat) : Int := p.atD nx (left + (d.lo + i) - d.sp)
def PoD.worTo (p : PoD) (nx : Int → Int) (d : Dy) (left : Int) (i : Nat) : Int := greTo (p.worAt nx d left) i
def Dy.rains (d : Dy) : Nat := (d.hi + 1 - d.lo).toNat
def PoD.wor (p : PoD) (nx : Int → Int) (d : Dy) (left : Int) : Int := p.worTo nx d left d.rains
/-- The best of the first amounts, and what it costs. -/
def PoD.bestTo (p : PoD) (nx : Int → Int) (d : Dy) (lv : Int) : Nat → Int × Int
  | 0 => (0, -1)
  | i + 1 =>
    let b := p.bestTo nx d lv i
    let w := p.wor nx d (lv - (-p.inl + i))
    if w = -1 then b else
      let s := w + d.price (-p.inl + i)
      if b.2 = -1 ∨ s < b.2 then (-p.inl + i, s) else b
def PoD.amts (p : PoD) : Nat := (p.pump + 1 + p.inl).toNat
def PoD.bestD (p : PoD) (nx : Int → Int) (d : Dy) (lv : Int) : Int × Int := p.bestTo nx d lv p.amts
/-- The least cost of each level, when such days are left. -/
def PoD.vals (p : PoD) : List Dy → Int → Int
  | [] => fun _ => 0
  | d :: ds => fun lv => (p.bestD (p.vals ds) d lv).2
/-- What an amount costs at worst. -/
def PoD.cost1 (p : PoD) (nx : Int → Int) (d : Dy) (lv a : Int) : Int := p.wor nx d (lv - a) + d.price a
def PoD.can1 (p : PoD) (nx : Int → Int) (d : Dy) (lv a : Int) : Prop := p.wor nx d (lv - a) ≠ -1
/-- Never, or not below 0. -/
def Cst (nx : Int → Int) : Prop := ∀ lv, -1 ≤ nx lv
theorem PoD.atD_ge {p : PoD} {nx : Int → Int} (h : Cst nx) (lv : Int) : -1 ≤ p.atD nx lv := by unfold PoD.atD; split; exact h lv; omega
theorem PoD.worTo_ge {p : PoD} {nx : Int → Int} (h : Cst nx) (d : Dy) (left : Int) (i : Nat) : -1 ≤ p.worTo nx d left i := greTo_ge (fun _ => PoD.atD_ge h _) i
/-- The worst: never just if a rain's level is never; else not below any of them, and 0 or one of them. -/
theorem PoD.worTo_spec {p : PoD} {nx : Int → Int} (h : Cst nx) (d : Dy) (left : Int) (i : Nat) : (p.worTo nx d left i = -1 ↔ ∃ k : Nat, k < i ∧ p.atD nx (left + (d.lo + k) - d.sp) = -1) ∧ (p.worTo nx d left i ≠ -1 → (∀ k : Nat, k < i → p.atD nx (left + (d.lo + k) - d.sp) ≤ p.worTo nx d left i) ∧ (p.worTo nx d left i = 0 ∨ ∃ k : Nat, k < i ∧ p.atD nx (left + (d.lo + k) - d.sp) = p.worTo nx d left i)) :=
  greTo_spec (f := p.worAt nx d left) (fun _ => PoD.atD_ge h _) i
theorem PoD.wor_iff {p : PoD} {nx : Int → Int} (h : Cst nx) {d : Dy} (left : Int) : p.wor nx d left = -1 ↔ ∃ r, d.lo ≤ r ∧ r ≤ d.hi ∧ p.atD nx (left + r - d.sp) = -1 := by
  unfold PoD.wor Dy.rains
  rw [(PoD.worTo_spec h d left _).1]
  constructor
  · rintro ⟨k, hk, e⟩
    exact ⟨d.lo + k, by omega, by omega, e⟩
  · rintro ⟨r, h1, h2, e⟩
    exact ⟨(r - d.lo).toNat, by omega, by rw [show d.lo + ((r - d.lo).toNat : Int) = r by omega]; exact e⟩
theorem PoD.wor_ge {p : PoD} {nx : Int → Int} (h : Cst nx) {d : Dy} (left : Int) : -1 ≤ p.wor nx d left := PoD.worTo_ge h d left _
theorem PoD.wor_le {p : PoD} {nx : Int → Int} (h : Cst nx) {d : Dy} {left : Int} (hw : p.wor nx d left ≠ -1) {r : Int} (h1 : d.lo ≤ r) (h2 : r ≤ d.hi) : p.atD nx (left + r - d.sp) ≤ p.wor nx d left := by
  have := ((PoD.worTo_spec (p := p) h d left d.rains).2 hw).1 (r - d.lo).toNat (by unfold Dy.rains; omega)
  rw [show d.lo + ((r - d.lo).toNat : Int) = r by omega] at this
  exact this
theorem PoD.wor_at {p : PoD} {nx : Int → Int} (h : Cst nx) {d : Dy} {left : Int} (hd : d.lo ≤ d.hi) (hw : p.wor nx d left ≠ -1) : ∃ r, d.lo ≤ r ∧ r ≤ d.hi ∧ p.atD nx (left + r - d.sp) = p.wor nx d left := by
  rcases ((PoD.worTo_spec (p := p) h d left d.rains).2 hw).2 with h0 | ⟨k, hk, e⟩
  · refine ⟨d.lo, Int.le_refl _, hd, ?_⟩
    have h1 := PoD.wor_le h hw (Int.le_refl _) hd
    have h2 := PoD.atD_ge (p := p) h (left + d.lo - d.sp)
    have h3 : p.atD nx (left + d.lo - d.sp) ≠ -1 := fun e => hw ((PoD.wor_iff h left).2 ⟨d.lo, Int.le_refl _, hd, e⟩)
    have h4 : p.wor nx d left = 0 := h0
    omega
  · exact ⟨d.lo + k, by omega, by unfold Dy.rains at hk; omega, e⟩
/-- The best of the first amounts: none, or the first of the least. -/
theorem PoD.bestTo_spec {p : PoD} {nx : Int → Int} (h : Cst nx) {d : Dy} (hd : d.Ok) (lv : Int) : ∀ i,
    ((p.bestTo nx d lv i = (0, -1) ∧ ∀ k : Nat, k < i → ¬ p.can1 nx d lv (-p.inl + k)) ∨
      (∃ k : Nat, k < i ∧ (p.bestTo nx d lv i).1 = -p.inl + k ∧ p.can1 nx d lv (-p.inl + k) ∧ (p.bestTo nx d lv i).2 = p.cost1 nx d lv (-p.inl + k) ∧ 0 ≤ (p.bestTo nx d lv i).2 ∧
        ∀ j : Nat, j < i → p.can1 nx d lv (-p.inl + j) → (p.bestTo nx d lv i).2 ≤ p.cost1 nx d lv (-p.inl + j) ∧ (j < k → (p.bestTo nx d lv i).2 < p.cost1 nx d lv (-p.inl + j))))
  | 0 => .inl ⟨rfl, fun k h => by omega⟩
  | i + 1 => by
    have ih := PoD.bestTo_spec (p := p) h hd lv i
    have hw := PoD.wor_ge (p := p) h (d := d) (lv - (-p.inl + i))
    have hp := d.price_nonneg hd (-p.inl + i)
    rw [PoD.bestTo]
    dsimp only
    by_cases hc : p.wor nx d (lv - (-p.inl + i)) = -1
    · rw [if_pos hc]
      rcases ih with ⟨h1, h2⟩ | ⟨k, hk, h1, h2, h3, h4, h5⟩
      · refine .inl ⟨h1, fun j hj => ?_⟩
        by_cases e : j = i
        · subst e; exact fun hcan => hcan hc
        · exact h2 j (by omega)
      · refine .inr ⟨k, by omega, h1, h2, h3, h4, fun j hj hcan => ?_⟩
        by_cases e : j = i
        · subst e; exact absurd hc hcan
        · exact h5 j (by omega) hcan
    · rw [if_neg hc]
      rcases ih with ⟨h1, h2⟩ | ⟨k, hk, h1, h2, h3, h4, h5⟩
      · rw [h1, if_pos (.inl rfl)]
        refine .inr ⟨i, by omega, rfl, hc, rfl, by dsimp only; omega, fun j hj hcan => ?_⟩
        by_cases e : j = i
        · subst e; exact ⟨Int.le_refl _, fun hlt => by omega⟩
        · exact absurd hcan (h2 j (by omega))
      · by_cases hlt : p.wor nx d (lv - (-p.inl + i)) + d.price (-p.inl + i) < (p.bestTo nx d lv i).2
        · rw [if_pos (.inr hlt)]
          refine .inr ⟨i, by omega, rfl, hc, rfl, by dsimp only; omega, fun j hj hcan => ?_⟩
          by_cases e : j = i
          · subst e; exact ⟨Int.le_refl _, fun hlt => by omega⟩
          · have := (h5 j (by omega) hcan).1
            dsimp only
            exact ⟨by omega, fun _ => by omega⟩
        · rw [if_neg (by omega)]
          refine .inr ⟨k, by omega, h1, h2, h3, h4, fun j hj hcan => ?_⟩
          by_cases e : j = i
          · subst e
            exact ⟨by unfold PoD.cost1; omega, fun hlt => by omega⟩
          · exact h5 j (by omega) hcan
/-- The best amount: none will do, or the first of those that cost the least. -/
theorem PoD.best_spec {p : PoD} (hp : 0 ≤ p.pump) (hi : 0 ≤ p.inl) {nx : Int → Int} (h : Cst nx) {d : Dy} (hd : d.Ok) (lv : Int) :
    (p.bestD nx d lv = (0, -1) ∧ ∀ a, -p.inl ≤ a → a ≤ p.pump → ¬ p.can1 nx d lv a) ∨
      (-p.inl ≤ (p.bestD nx d lv).1 ∧ (p.bestD nx d lv).1 ≤ p.pump ∧ p.can1 nx d lv (p.bestD nx d lv).1 ∧ (p.bestD nx d lv).2 = p.cost1 nx d lv (p.bestD nx d lv).1 ∧ 0 ≤ (p.bestD nx d lv).2 ∧
        ∀ a, -p.inl ≤ a → a ≤ p.pump → p.can1 nx d lv a → (p.bestD nx d lv).2 ≤ p.cost1 nx d lv a ∧ (a < (p.bestD nx d lv).1 → (p.bestD nx d lv).2 < p.cost1 nx d lv a)) := by
  have key : ∀ a, -p.inl ≤ a → a ≤ p.pump → ∃ k : Nat, k < p.amts ∧ a = -p.inl + k := fun a h1 h2 => ⟨(a + p.inl).toNat, by unfold PoD.amts; omega, by omega⟩
  unfold PoD.bestD
  rcases PoD.bestTo_spec (p := p) h hd lv p.amts with ⟨h1, h2⟩ | ⟨k, hk, h1, h2, h3, h4, h5⟩
  · refine .inl ⟨h1, fun a ha hb => ?_⟩
    obtain ⟨k, hk, rfl⟩ := key a ha hb
    exact h2 k hk
  · rw [h1]
    refine .inr ⟨by omega, by unfold PoD.amts at hk; omega, h2, h3, h4, fun a ha hb hc => ?_⟩
    obtain ⟨j, hj, rfl⟩ := key a ha hb
    obtain ⟨h6, h7⟩ := h5 j hj hc
    exact ⟨h6, fun hlt => h7 (by omega)⟩
theorem PoD.vals_ge {p : PoD} (hp : 0 ≤ p.pump) (hi : 0 ≤ p.inl) : ∀ {ds : List Dy}, (∀ d, d ∈ ds → d.Ok) → Cst (p.vals ds)
  | [], _ => fun lv => by show (-1 : Int) ≤ 0; omega
  | d :: ds, hd => fun lv => by
    show -1 ≤ (p.bestD (p.vals ds) d lv).2
    rcases PoD.best_spec hp hi (PoD.vals_ge hp hi (ds := ds) fun x hx => hd x (List.mem_cons.2 (.inr hx))) (hd d (by simp)) lv with ⟨h1, -⟩ | ⟨-, -, -, -, h, -⟩
    · rw [h1]; show (-1 : Int) ≤ -1; omega
    · omega
/-- The cost of a polder, by the costs of the levels on the day 0. -/
def PoD.costAt (p : PoD) (nx : Int → Int) (i : Nat) : Int := nx (p.slo + i)
def PoD.starts (p : PoD) : Nat := (p.shi + 1 - p.slo).toNat
def PoD.costD (p : PoD) : Int := greTo (p.costAt (p.vals p.ds)) p.starts
section
variable {p : PoD} (hok : p.Ok)
include hok
theorem PoD.Ok.cst : Cst (p.vals p.ds) := PoD.vals_ge hok.p0 hok.i0 hok.d
theorem PoD.Ok.cstDrop (i : Nat) : Cst (p.vals (p.ds.drop i)) := PoD.vals_ge hok.p0 hok.i0 fun d hd => hok.d d (List.mem_of_mem_drop hd)
theorem PoD.Ok.cost_iff : p.costD = -1 ↔ ∃ s, p.slo ≤ s ∧ s ≤ p.shi ∧ p.vals p.ds s = -1 := by
  unfold PoD.costD PoD.starts
  rw [(greTo_spec (f := p.costAt (p.vals p.ds)) (fun _ => hok.cst _) _).1]
  constructor
  · rintro ⟨k, hk, e⟩
    exact ⟨p.slo + k, by omega, by omega, e⟩
  · rintro ⟨s, h1, h2, e⟩
    refine ⟨(s - p.slo).toNat, by omega, ?_⟩
    unfold PoD.costAt
    rw [show p.slo + ((s - p.slo).toNat : Int) = s by omega]; exact e
theorem PoD.Ok.cost_le (hc : p.costD ≠ -1) {s : Int} (h1 : p.slo ≤ s) (h2 : s ≤ p.shi) : p.vals p.ds s ≤ p.costD := by
  have := ((greTo_spec (f := p.costAt (p.vals p.ds)) (fun _ => hok.cst _) p.starts).2 hc).1 (s - p.slo).toNat (by unfold PoD.starts; omega)
  unfold PoD.costAt at this
  rw [show p.slo + ((s - p.slo).toNat : Int) = s by omega] at this
  exact this
theorem PoD.Ok.cost_at (hc : p.costD ≠ -1) : ∃ s, p.slo ≤ s ∧ s ≤ p.shi ∧ p.vals p.ds s = p.costD := by
  rcases ((greTo_spec (f := p.costAt (p.vals p.ds)) (fun _ => hok.cst _) p.starts).2 hc).2 with h0 | ⟨k, hk, e⟩
  · have h1 := hok.cost_le hc (Int.le_refl _) hok.s1
    have h2 := hok.cst p.slo
    have h3 : p.vals p.ds p.slo ≠ -1 := fun e => hc (hok.cost_iff.2 ⟨p.slo, Int.le_refl _, hok.s1, e⟩)
    have h4 : p.costD = 0 := h0
    exact ⟨p.slo, Int.le_refl _, hok.s1, by omega⟩
  · exact ⟨p.slo + k, by omega, by unfold PoD.starts at hk; omega, e⟩
end
end Go.Proofs.Yteognijlgalahaa
