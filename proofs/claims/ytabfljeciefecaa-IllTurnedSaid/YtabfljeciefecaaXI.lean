/- The texts SJ RXS SK, joined. -/
import Derived.Test.YtabfljeciefecaaXH
import Derived.Test.YtabfljeciefecaaXF
/- A row read from its other end. -/
namespace Go.Proofs.Ytabfljeciefecaa
open Go.RowKit Go.Lib

def Nt.turn (n : Int) (x : Nt) : Nt := { x with p := n - 1 - x.p }
def RwD.turn (r : RwD) : RwD := { r with dug := r.dug.reverse, ns := r.ns.map (Nt.turn r.n) }
theorem turn_turn (r : RwD) : r.turn.turn = r := by
  obtain ⟨n, ws, lag, sh, old, cl, dug, ns⟩ := r
  unfold RwD.turn
  simp only [List.reverse_reverse, List.map_map]
  congr 1
  refine (List.map_congr_left fun x _ => ?_).trans (List.map_id ns)
  show Nt.turn n (Nt.turn n x) = x
  unfold Nt.turn
  obtain ⟨p, w, k, y⟩ := x
  simp only [Nt.mk.injEq, and_true]
  omega
def turnT (N : Nat) (t : List Int) : List Int := (t.take N).reverse ++ t.drop N
theorem turnT_at {N : Nat} {t : List Int} (hN : N ≤ t.length) (p : Nat) : (turnT N t).getD p 0 = if p < N then t.getD (N - 1 - p) 0 else t.getD p 0 := by
  unfold turnT
  have hl : (t.take N).length = N := by rw [List.length_take]; omega
  by_cases h : p < N
  · rw [if_pos h, List.getD, List.getElem?_append_left (by rw [List.length_reverse, hl]; exact h), List.getElem?_reverse (by rw [hl]; exact h), hl, List.getElem?_take, if_pos (by omega)]
    rfl
  · rw [if_neg h, List.getD, List.getElem?_append_right (by rw [List.length_reverse, hl]; omega), List.length_reverse, hl, List.getElem?_drop, show N + (p - N) = p by omega]
    rfl
theorem turnT_length {N : Nat} {t : List Int} (hN : N ≤ t.length) : (turnT N t).length = t.length := by
  unfold turnT
  rw [List.length_append, List.length_reverse, List.length_take, List.length_drop]; omega
theorem turnT_turnT {N : Nat} {t : List Int} (hN : N ≤ t.length) : turnT N (turnT N t) = t := by
  have hl : (t.take N).reverse.length = N := by rw [List.length_reverse, List.length_take]; omega
  unfold turnT
  rw [List.take_append_of_le_length (by omega), List.drop_append_of_le_length (by omega), List.take_of_length_le (by omega), List.drop_eq_nil_of_le (by omega), List.nil_append, List.reverse_reverse, List.take_append_drop]
theorem turnT_trw {W N : Nat} {t : List Int} (hN : N ≤ 10) (h : TrW W t) : TrW W (turnT N t) := by
  refine ⟨(turnT_length (by rw [h.len]; exact hN)).trans h.len, fun i => ?_⟩
  rw [turnT_at (by rw [h.len]; exact hN)]
  split
  · exact h.b _
  · exact h.b _
section
variable {r : RwD}
theorem turn_dg (r : RwD) {p : Nat} (hp : p < r.dug.length) : r.turn.dg ((r.dug.length - 1 - p : Nat) : Int) = r.dg (p : Nat) := by
  unfold RwD.dg RwD.turn
  simp only [Int.toNat_natCast, List.getD]
  rw [List.getElem?_reverse (by omega), show r.dug.length - 1 - (r.dug.length - 1 - p) = p by omega]
theorem turn_noted (sh old n : Int) (N : Nat) (hn : n = (N : Int)) (hN : N ≤ 10) : ∀ (ns : List Nt) (ws ws' : List (Int × Int)), (∀ x, x ∈ ns → 0 ≤ x.p ∧ x.p < n) → ws.length = 10 → ws'.length = 10 → (∀ p, p < N → winAt ws' p = winAt ws (N - 1 - p)) →
    ∀ p, p < N → winAt (notedD sh old ws' (ns.map (Nt.turn n))) p = winAt (notedD sh old ws ns) (N - 1 - p)
  | [], _, _, _, _, _, h => h
  | x :: ns, ws, ws', hx, h1, h2, h => by
    have hxx := hx x (by simp)
    have ih := turn_noted sh old n N hn hN ns (noteD sh old ws x) (noteD sh old ws' (Nt.turn n x)) (fun y hy => hx y (by simp [hy])) (by rw [noteD_length]; exact h1) (by rw [noteD_length]; exact h2) (fun p hp => ?_)
    · exact ih
    · have e1 : (Nt.turn n x).p.toNat = N - 1 - x.p.toNat := by unfold Nt.turn; dsimp only; omega
      have e2 : alwD sh old (Nt.turn n x) = alwD sh old x := rfl
      unfold noteD
      rw [winAt_set, winAt_set, e1, e2, h _ (by omega), show N - 1 - (N - 1 - x.p.toNat) = x.p.toNat by omega]
      by_cases e : p = N - 1 - x.p.toNat
      · rw [if_pos ⟨e, by omega⟩, if_pos ⟨by omega, by omega⟩]
      · rw [if_neg (fun h => e h.1), if_neg (fun h => e (by omega)), h p hp]
theorem turn_wins (hf : r.fault = 0) {p : Nat} (hp : p < r.dug.length) : winAt r.turn.wins p = winAt r.wins (r.dug.length - 1 - p) := by
  obtain ⟨hok, hns, -, -, -⟩ := fault_ok hf
  have hd10 : r.dug.length ≤ 10 := by have := hok.dug; have := hok.n1; omega
  refine turn_noted r.sh r.old r.n r.dug.length hok.dug.symm hd10 r.ns anyD anyD (fun x hx => ?_) rfl rfl (fun q hq => ?_) p hp
  · have := hns x hx
    unfold RwD.haveB at this
    simp only [Bool.and_eq_true, inB_iff] at this
    omega
  · unfold winAt anyD
    simp only [List.getD, List.getElem?_replicate]
    rw [if_pos (by omega), if_pos (by omega)]
theorem mem_src (hok : r.Ok) {p : Nat} {week : Int} (hp : p < r.dug.length) {q : Nat} : q ∈ r.srcD p week ↔ q < r.dug.length ∧ r.srcOk p week q = true ∧ (p : Int) - (r.wk week).f ≤ q ∧ (q : Int) ≤ p + (r.wk week).f := by
  have hd := hok.dug
  have hf : 0 ≤ (r.wk week).f := by
    unfold RwD.wk
    rw [List.getD]
    cases h : r.ws[(week - 1).toNat]? with
    | none => exact Int.le_refl _
    | some y => exact (hok.wk y (List.mem_of_getElem? h)).1
  unfold RwD.srcD RwD.srcFrom
  rw [List.mem_filter, List.mem_range'_1]
  unfold RwD.nearD RwD.farD
  constructor
  · rintro ⟨h1, h2⟩
    exact ⟨by omega, h2, by omega, by omega⟩
  · rintro ⟨h1, h2, h3, h4⟩
    exact ⟨by omega, h2⟩
theorem turn_ok (hok : r.Ok) : r.turn.Ok := ⟨hok.n0, hok.n1, hok.lag, hok.sh, hok.old, by show ((r.dug.reverse).length : Int) = r.n; rw [List.length_reverse]; exact hok.dug, hok.wk, hok.nw⟩
theorem turn_len (r : RwD) : r.turn.dug.length = r.dug.length := List.length_reverse
theorem turn_fall1 (hok : r.Ok) {t : List Int} (ht : t.length = 10) {p : Nat} (hp : p < r.dug.length) {k : Int} (hf : r.fallB t p k = true) : r.turn.fallB (turnT r.dug.length t) (r.dug.length - 1 - p) k = true := by
  have hd10 : r.dug.length ≤ 10 := by have := hok.dug; have := hok.n1; omega
  have hd := hok.dug
  unfold RwD.fallB at *
  split
  · rename_i h0; rw [if_pos h0] at hf; exact hf
  · rename_i h0
    rw [if_neg h0] at hf
    rw [turn_dg r hp]
    split
    · rename_i h1; rw [if_pos h1] at hf; exact hf
    · rename_i h1
      rw [if_neg h1] at hf
      rw [Bool.or_eq_true] at *
      refine hf.imp (fun hs => ?_) (fun hs => ?_)
      · unfold RwD.srcAny at *
        rw [List.any_eq_true] at *
        obtain ⟨q, hq, hd1⟩ := hs
        obtain ⟨h2, h3, h4, h5⟩ := (mem_src hok hp).1 hq
        refine ⟨r.dug.length - 1 - q, (mem_src (turn_ok hok) (by rw [turn_len]; omega)).2 ⟨by rw [turn_len]; omega, ?_, ?_, ?_⟩, ?_⟩
        · unfold RwD.srcOk at *
          rw [Bool.and_eq_true, decide_eq_true_eq] at *
          rw [turn_dg r h2]
          exact ⟨by omega, h3.2⟩
        · show ((r.dug.length - 1 - p : Nat) : Int) - (r.wk k).f ≤ _; omega
        · show _ ≤ ((r.dug.length - 1 - p : Nat) : Int) + (r.wk k).f; omega
        · rw [turnT_at (by omega), if_pos (by omega), show r.dug.length - 1 - (r.dug.length - 1 - q) = q by omega]
          exact hd1
      · unfold RwD.reachB at *
        rw [Bool.and_eq_true, decide_eq_true_eq] at *
        refine ⟨hs.1, ?_⟩
        show min ((r.dug.length - 1 - p : Nat) : Int) (r.n - 1 - ((r.dug.length - 1 - p : Nat) : Int)) < (r.wk k).f
        have := hs.2
        omega
theorem turn_poss (hf : r.fault = 0) {t : List Int} (ht : t.length = 10) (h : r.possB r.wins t = true) : r.turn.possB r.turn.wins (turnT r.dug.length t) = true := by
  obtain ⟨hok, -, -, -, -⟩ := fault_ok hf
  have hd10 : r.dug.length ≤ 10 := by have := hok.dug; have := hok.n1; omega
  refine all_range.2 fun q hq => ?_
  rw [turn_len] at hq
  have hp := all_range.1 h (r.dug.length - 1 - q) (by omega)
  unfold RwD.possAt winD at *
  rw [turn_wins hf hq, turnT_at (by omega), if_pos hq]
  rw [Bool.and_eq_true, Bool.or_eq_true] at *
  refine ⟨hp.1, hp.2.imp id fun h2 => ?_⟩
  have := turn_fall1 hok ht (p := r.dug.length - 1 - q) (by omega) h2
  rwa [show r.dug.length - 1 - (r.dug.length - 1 - q) = q by omega] at this
theorem turn_fault (hf : r.fault = 0) : r.turn.fault = 0 := by
  obtain ⟨hok, hns, hdg, hlw, hln⟩ := fault_ok hf
  have hd := hok.dug
  refine fault_yes hlw (by show (r.ns.map _).length ≤ 40; rw [List.length_map]; exact hln) ?_
  unfold RwD.validB
  simp only [Bool.and_eq_true, inB_iff, decide_eq_true_eq, List.all_eq_true]
  refine ⟨⟨⟨⟨⟨⟨⟨⟨hok.n0, hok.n1⟩, fun y hy => hok.wk y hy⟩, hok.lag⟩, hok.sh⟩, hok.old⟩, (turn_ok hok).dug⟩, fun m hm => ?_⟩, fun y hy => ?_⟩
  · exact hdg m (List.mem_reverse.1 hm)
  · obtain ⟨x, hx, rfl⟩ := List.mem_map.1 hy
    have := hns x hx
    unfold RwD.haveB at *
    simp only [Bool.and_eq_true, inB_iff, decide_eq_true_eq] at *
    obtain ⟨⟨⟨h1, h2⟩, h3⟩, h4⟩ := this
    have e : (Nt.turn r.n x).p = ((r.dug.length - 1 - x.p.toNat : Nat) : Int) := by unfold Nt.turn; dsimp only; omega
    refine ⟨⟨⟨?_, h2⟩, ?_⟩, h4⟩
    · rw [e]; show (0 : Int) ≤ _ ∧ _ ≤ r.n - 1; omega
    · rw [e, turn_dg r (by omega)]
      have e2 : r.dg ((x.p.toNat : Nat) : Int) = r.dg x.p := by congr 1; omega
      rw [e2]; exact h3
theorem turn_can (hf : r.fault = 0) : r.turn.can = r.can := by
  obtain ⟨hok, -, -, -, -⟩ := fault_ok hf
  have hd10 : r.dug.length ≤ 10 := by have := hok.dug; have := hok.n1; omega
  have key : ∀ {x : RwD}, x.fault = 0 → x.can = true → x.turn.can = true := fun {x} hx h => by
    obtain ⟨hokx, -, -, -, -⟩ := fault_ok hx
    have hx10 : x.dug.length ≤ 10 := by have := hokx.dug; have := hokx.n1; omega
    exact early_can (turn_ok hokx) (turnT_trw hx10 (earliest_ok (r := x))) (turn_poss hx (earliest_ok (r := x)).len h)
  rw [Bool.eq_iff_iff]
  refine ⟨fun h => ?_, key hf⟩
  have := key (turn_fault hf) h
  rwa [turn_turn] at this
theorem turn_early (hf : r.fault = 0) (hc : r.can = true) {p : Nat} (hp : p < r.dug.length) : r.turn.earliest.getD (r.dug.length - 1 - p) 0 = r.earliest.getD p 0 := by
  have key : ∀ {x : RwD}, x.fault = 0 → x.can = true → ∀ q, q < x.dug.length → x.turn.earliest.getD (x.dug.length - 1 - q) 0 ≤ x.earliest.getD q 0 := fun {x} hx h q hq => by
    obtain ⟨hokx, -, -, -, -⟩ := fault_ok hx
    have hx10 : x.dug.length ≤ 10 := by have := hokx.dug; have := hokx.n1; omega
    have he := earliest_ok (r := x)
    have := early_least (turn_ok hokx) (turnT_trw hx10 he) (turn_poss hx he.len h) (x.dug.length - 1 - q) (by rw [turn_len]; omega)
    rw [turnT_at (by rw [he.len]; exact hx10), if_pos (by omega), show x.dug.length - 1 - (x.dug.length - 1 - q) = q by omega] at this
    exact this
  have h1 := key hf hc p hp
  have h2 := key (turn_fault hf) (by rw [turn_can hf]; exact hc) (r.dug.length - 1 - p) (by rw [turn_len]; omega)
  rw [turn_turn, turn_len, show r.dug.length - 1 - (r.dug.length - 1 - p) = p by omega] at h2
  omega
/-- May a plant be spared? -/
theorem spare_iff (hok : r.Ok) {p : Nat} (hp : p < r.dug.length) : r.possB (withoutD r.wins p) (r.earlyD (withoutD r.wins p)) = true ↔ ∃ t, TrW r.ws.length t ∧ r.possB r.wins t = true ∧ t.getD p 0 = 31 := by
  have hd10 : r.dug.length ≤ 10 := by have := hok.dug; have := hok.n1; omega
  rw [can_iff hok]
  constructor
  · rintro ⟨t, hT, ht⟩
    refine ⟨t, hT, poss_wide (r := r) (fun q k h => ?_) ht, ?_⟩
    · rw [winD_without' _ _ (by rw [r.wins_length]; omega), Bool.and_eq_true] at h; exact h.1
    · have h := all_range.1 ht p hp
      unfold RwD.possAt at h
      rw [Bool.and_eq_true, winD_without' _ _ (by rw [r.wins_length]; omega), Bool.and_eq_true] at h
      simpa using h.1.2
  · rintro ⟨t, hT, ht, h31⟩
    refine ⟨t, hT, all_range.2 fun q hq => ?_⟩
    have h := all_range.1 ht q hq
    unfold RwD.possAt at *
    rw [Bool.and_eq_true] at *
    refine ⟨?_, h.2⟩
    rw [winD_without' _ _ (by rw [r.wins_length]; omega), h.1, Bool.true_and]
    by_cases e : q = p
    · subst e; rw [h31]; simp
    · simp [e]
theorem turn_known (hf : r.fault = 0) (hc : r.can = true) {p : Nat} (hp : p < r.dug.length) : r.turn.knownD r.turn.wins r.turn.earliest (r.dug.length - 1 - p) = r.knownD r.wins r.earliest p := by
  have key : ∀ {x : RwD}, x.fault = 0 → ∀ q, q < x.dug.length → x.possB (withoutD x.wins q) (x.earlyD (withoutD x.wins q)) = true → x.turn.possB (withoutD x.turn.wins (x.dug.length - 1 - q)) (x.turn.earlyD (withoutD x.turn.wins (x.dug.length - 1 - q))) = true := fun {x} hx q hq h => by
    obtain ⟨hokx, -, -, -, -⟩ := fault_ok hx
    have hx10 : x.dug.length ≤ 10 := by have := hokx.dug; have := hokx.n1; omega
    obtain ⟨t, hT, ht, h31⟩ := (spare_iff hokx hq).1 h
    refine (spare_iff (turn_ok hokx) (by rw [turn_len]; omega)).2 ⟨_, turnT_trw hx10 hT, turn_poss hx hT.len ht, ?_⟩
    rw [turnT_at (by rw [hT.len]; exact hx10), if_pos (by omega), show x.dug.length - 1 - (x.dug.length - 1 - q) = q by omega, h31]
  have h1 := key hf p hp
  have h2 := key (turn_fault hf) (r.dug.length - 1 - p) (by rw [turn_len]; omega)
  rw [turn_turn, turn_len, show r.dug.length - 1 - (r.dug.length - 1 - p) = p by omega] at h2
  unfold RwD.knownD
  rw [turn_early hf hc hp]
  split
  · rfl
  · by_cases e : r.possB (withoutD r.wins p) (r.earlyD (withoutD r.wins p)) = true
    · rw [if_pos e, if_pos (h1 e)]
    · rw [if_neg e, if_neg (fun h => e (h2 h))]
theorem turn_last (r : RwD) {p : Nat} (hp : p < r.dug.length) : r.turn.lastB (r.dug.length - 1 - p) = r.lastB p := by
  unfold RwD.lastB
  rw [turn_dg r hp]; rfl
theorem turn_ill (hN : r.dug.length ≤ 10) {t s : List Int} (h : ∀ p, p < r.dug.length → s.getD (r.dug.length - 1 - p) 0 = t.getD p 0) : (r.turn.illB s).length = (r.illB t).length := by
  refine Nat.le_antisymm ?_ ?_
  · have := length_le_sub (l := r.turn.illB s) (m := (r.illB t).map fun q => r.dug.length - 1 - q) illB_nodup fun p hp => ?_
    · rwa [List.length_map] at this
    · obtain ⟨⟨h1, h2⟩, h3⟩ := mem_illB.1 hp
      rw [turn_len] at h1
      refine List.mem_map.2 ⟨r.dug.length - 1 - p, mem_illB.2 ⟨⟨by omega, ?_⟩, ?_⟩, by omega⟩
      · rw [← turn_last r (by omega), show r.dug.length - 1 - (r.dug.length - 1 - p) = p by omega]; exact h2
      · rw [← h _ (by omega), show r.dug.length - 1 - (r.dug.length - 1 - p) = p by omega]; exact h3
  · have := length_le_sub (l := r.illB t) (m := (r.turn.illB s).map fun q => r.dug.length - 1 - q) illB_nodup fun p hp => ?_
    · rwa [List.length_map] at this
    · obtain ⟨⟨h1, h2⟩, h3⟩ := mem_illB.1 hp
      refine List.mem_map.2 ⟨r.dug.length - 1 - p, mem_illB.2 ⟨⟨by rw [turn_len]; omega, ?_⟩, ?_⟩, by omega⟩
      · rw [turn_last r h1]; exact h2
      · rw [h _ h1]; exact h3
theorem turn_least (hf : r.fault = 0) {m : Nat} (h : Least r r.wins m) : Least r.turn r.turn.wins m := by
  obtain ⟨hok, -, -, -, -⟩ := fault_ok hf
  have hd10 : r.dug.length ≤ 10 := by have := hok.dug; have := hok.n1; omega
  have hT2 : ∀ {t : List Int}, t.length = 10 → (r.turn.illB (turnT r.dug.length t)).length = (r.illB t).length := fun {t} ht => turn_ill hd10 fun p hp => by
    rw [turnT_at (by omega), if_pos (by omega), show r.dug.length - 1 - (r.dug.length - 1 - p) = p by omega]
  refine ⟨fun t hT ht => ?_, ?_⟩
  · have h1 := turn_poss (turn_fault hf) hT.len ht
    rw [turn_turn, turn_len] at h1
    have h2 := h.le _ (turnT_trw hd10 hT) h1
    have h3 := hT2 (t := turnT r.dug.length t) ((turnT_trw hd10 hT).len)
    rw [turnT_turnT (by rw [hT.len]; exact hd10)] at h3
    omega
  · obtain ⟨t, hT, ht, he⟩ := h.at_
    exact ⟨_, turnT_trw hd10 hT, turn_poss hf hT.len ht, by rw [hT2 hT.len, he]⟩
end
end Go.Proofs.Ytabfljeciefecaa

/- A row of the law's own, written in place. -/
namespace Go.Proofs.Ytabfljeciefecaa
open Go.RowKit Go.Lib

theorem own_set_cell {w : World} {base k : Nat} {e : TypeId} {A : Option Addr} {n c g i : Nat} {xs : List Value} {u : Value} (h : w.ownsRow base e k (.slice A n c) n xs) (hA : A = some ⟨g, 0, none⟩) (_hi : i < xs.length) :
    (w.setCell ⟨g, i, none⟩ u).ownsRow base e k (.slice A n c) n (xs.set i u) := by
  subst hA
  refine ⟨by rw [List.length_set]; exact h.1, ?_⟩
  rcases h.2 with ⟨hv, h0⟩ | ⟨g', cap, cur, hv, hbg, hgg, hnc, hcm, hcs, htake⟩
  · cases hv
  · cases hv
    refine .inr ⟨g, c, cur.setIfInBounds i u, rfl, hbg, ?_, hnc, hcm, by simpa using hcs, ?_⟩
    · exact (show Lies w g e cur from hgg).set i u
    · rw [← htake, Array.toList_setIfInBounds, List.take_set]
theorem flat_set {α : Type} {enc : α → List Value} {k : Nat} (hk : ∀ x, (enc x).length = k) {q : Nat} {u : Value} {y z : α} (hq : q < k) (hy : enc y = (enc z).set q u) : ∀ (l : List α) (p : Nat), l[p]? = some z → (l.flatMap enc).set (p * k + q) u = (l.set p y).flatMap enc
  | [], p, h => by simp at h
  | x :: l, 0, h => by
    simp at h; subst h
    rw [List.flatMap_cons, List.set_cons_zero, List.flatMap_cons, List.set_append_left _ _ (by rw [hk]; omega), hy]
    simp
  | x :: l, p + 1, h => by
    rw [List.flatMap_cons, List.set_cons_succ, List.flatMap_cons, List.set_append_right _ _ (by rw [hk, Nat.add_mul]; omega), hk, ← flat_set hk hq hy l p (by simpa using h)]
    congr 2
    rw [Nat.add_mul]; omega
section
variable {w W : World} {g B2 : Nat} {q : RwM}
theorem int_ne_note : (3 : TypeId) ≠ 61 := by decide
theorem own_addr {base k : Nat} {e : TypeId} {A : Option Addr} {n c : Nat} {xs : List Value} (h : W.ownsRow base e k (.slice A n c) n xs) (hn : 0 < n) : ∃ g5 cur, A = some ⟨g5, 0, none⟩ ∧ base ≤ g5 ∧ Lies W g5 e cur := by
  rcases h.2 with ⟨hv, h0⟩ | ⟨g', cap, cur, hv, hbg, hgg, _⟩
  · omega
  · cases hv; exact ⟨g', cur, rfl, hbg, hgg⟩
/-- The row with another number for a plant dug. -/
def RwM.dugS (q : RwM) (p : Nat) (v : Int) : RwM := { q with dug := ⟨q.dug.A, q.dug.l.set p v, q.dug.c⟩ }
theorem RowX.dugSet (h : RowX w g B2 q W) {p : Nat} (hp : p < q.dug.l.length) : ∃ g5, q.dug.A = some ⟨g5, 0, none⟩ ∧ (∃ y, W.cell? ⟨g5, p, none⟩ = some (.int .i64 y)) ∧ W.frozen? ⟨g5, p, none⟩ = false ∧ ∀ v, RowX w g B2 (q.dugS p v) (W.setCell ⟨g5, p, none⟩ (.int .i64 v)) := by
  obtain ⟨g5, cur, hA, hb5, hl5⟩ := own_addr h.dg (by omega)
  obtain ⟨z, hz⟩ : ∃ z, q.dug.l[p]? = some z := ⟨q.dug.l[p], by simp [hp]⟩
  obtain ⟨A', c', e1, -, hS⟩ := Sl.of_own (enc := encI) (fun _ => rfl) h.dg rfl
  cases e1
  obtain ⟨b, off, e2, hbl, hc⟩ := hS.cell1 hz
  rw [hA] at e2
  cases e2
  refine ⟨g5, hA, ⟨z, by simpa using hc⟩, hl5.free p, fun v => ?_⟩
  have hO := Only.set g5 p W (.int .i64 v)
  have hne : g ≠ g5 := lies_ne h.o hl5 row_ne_int
  have hln : (q.dug.l.set p v).length = q.dug.l.length := List.length_set
  refine ⟨?_, hO.below h.b hb5, h.g0, h.B0, by rw [hO.size]; exact h.B1, hO.slNe h.ws (fun a e => by have := h.ap a _ e hA; dsimp only at this; omega), h.wg, h.ap, ?_, h.db, ?_, h.lw, h.ln, by show (q.dug.l.set p v).length ≤ 15; rw [hln]; exact h.ld, h.kn, fun e => by show (q.dug.l.set p v).length = 0 ∧ _; rw [hln]; exact h.nn e⟩
  · have h1 := hO.lies h.o hne
    unfold RwM.dugS RwM.cells at *
    simpa using h1
  · have h1 := own_set_cell (u := .int .i64 v) h.dg hA (i := p) (by rw [flat_len (enc := encI) (k := 1) (fun _ => rfl), Nat.mul_one]; exact hp)
    have h2 := flat_set (enc := encI) (k := 1) (fun _ => rfl) (q := 0) (u := .int .i64 v) (y := v) (z := z) (by omega) rfl q.dug.l p hz
    rw [Nat.mul_one, Nat.add_zero] at h2
    rw [h2] at h1
    unfold RwM.dugS
    dsimp only
    rw [hln]; exact h1
  · exact own_keep h.ns fun j hj => hO.block j (by
      obtain ⟨_, _, cs, hcs⟩ := own_at h.ns hj
      exact (lies_ne hl5 hcs int_ne_note).symm)
/-- The row with another plant for a note. -/
def RwM.noteS (q : RwM) (p : Nat) (y : Nt) : RwM := { q with ns := ⟨q.ns.A, q.ns.l.set p y, q.ns.c⟩ }
theorem RowX.noteSet (h : RowX w g B2 q W) {p : Nat} {z : Nt} (hz : q.ns.l[p]? = some z) : ∃ g7, q.ns.A = some ⟨g7, 0, none⟩ ∧ W.cell? ⟨g7, p * 4, none⟩ = some (.int .i64 z.p) ∧ W.frozen? ⟨g7, p * 4, none⟩ = false ∧ ∀ v, RowX w g B2 (q.noteS p { z with p := v }) (W.setCell ⟨g7, p * 4, none⟩ (.int .i64 v)) := by
  have hp := (List.getElem?_eq_some_iff.1 hz).1
  obtain ⟨g7, cur, hA, hb7, hl7⟩ := own_addr h.ns (by omega)
  obtain ⟨A', c', e1, -, hS⟩ := Sl.of_own (enc := encN) (fun _ => rfl) h.ns rfl
  cases e1
  obtain ⟨b, off, e2, hbl, hc, -⟩ := hS.cellN hz
  rw [hA] at e2
  cases e2
  refine ⟨g7, hA, by simpa using hc, hl7.free _, fun v => ?_⟩
  have hO := Only.set g7 (p * 4) W (.int .i64 v)
  have hne : g ≠ g7 := lies_ne h.o hl7 row_ne_note
  have hln : (q.ns.l.set p { z with p := v }).length = q.ns.l.length := List.length_set
  refine ⟨?_, hO.below h.b (Nat.le_trans h.B0 hb7), h.g0, h.B0, by rw [hO.size]; exact h.B1, h.ws.below (hO.below (Below.refl _ _) hb7), h.wg, h.ap, ?_, h.db, ?_, h.lw, by show (q.ns.l.set p { z with p := v }).length ≤ 46; rw [hln]; exact h.ln, h.ld, fun y hy => ?_, h.nn⟩
  · have h1 := hO.lies h.o hne
    unfold RwM.noteS RwM.cells at *
    simpa using h1
  · exact own_keep h.dg fun j hj => hO.block j (by
      obtain ⟨a, ha, rfl⟩ := own_blk hj
      have := h.db a ha; omega)
  · have h1 := own_set_cell (u := .int .i64 v) h.ns hA (i := p * 4 + 0) (by rw [flat_len (enc := encN) (k := 4) (fun _ => rfl)]; omega)
    have h2 := flat_set (enc := encN) (k := 4) (fun _ => rfl) (q := 0) (u := .int .i64 v) (y := { z with p := v }) (z := z) (by omega) rfl q.ns.l p hz
    rw [h2] at h1
    unfold RwM.noteS
    dsimp only
    rw [hln]; exact h1
  · rcases List.mem_or_eq_of_mem_set hy with h1 | rfl
    · exact h.kn y h1
    · exact h.kn z (List.mem_of_getElem? hz)
end
/-- The first k of a list turned. -/
def turnK (k : Nat) (l : List Int) : List Int := l.reverse.take k ++ l.drop k
theorem turnK_zero (l : List Int) : turnK 0 l = l := by simp [turnK]
theorem turnK_all (l : List Int) : turnK l.length l = l.reverse := by unfold turnK; rw [List.drop_eq_nil_of_le (Nat.le_refl _), List.append_nil, List.take_of_length_le (by simp)]
theorem turnK_length (k : Nat) (l : List Int) (hk : k ≤ l.length) : (turnK k l).length = l.length := by unfold turnK; rw [List.length_append, List.length_take, List.length_drop, List.length_reverse]; omega
theorem turnK_succ (k : Nat) (l : List Int) (hk : k < l.length) : (turnK k l).set k (l[l.length - 1 - k]'(by omega)) = turnK (k + 1) l := by
  refine List.ext_getElem? fun i => ?_
  unfold turnK
  have hr : (l.reverse.take k).length = k := by rw [List.length_take, List.length_reverse]; omega
  have hr1 : (l.reverse.take (k + 1)).length = k + 1 := by rw [List.length_take, List.length_reverse]; omega
  rw [List.getElem?_set]
  by_cases e : k = i
  · subst e
    rw [if_pos rfl, if_pos (by rw [List.length_append, hr, List.length_drop]; omega), List.getElem?_append_left (by omega), List.getElem?_take, if_pos (by omega), List.getElem?_reverse (by omega), List.getElem?_eq_getElem (by omega)]
  · rw [if_neg e]
    by_cases h : i < k
    · rw [List.getElem?_append_left (by omega), List.getElem?_append_left (by omega), List.getElem?_take, List.getElem?_take, if_pos h, if_pos (by omega)]
    · rw [List.getElem?_append_right (by omega), List.getElem?_append_right (by omega), hr, hr1, List.getElem?_drop, List.getElem?_drop]
      congr 1; omega
end Go.Proofs.Ytabfljeciefecaa

/- IllTurned: the walk. -/
namespace Go.Proofs.Ytabfljeciefecaa
open Go.RowKit Go.Lib

set_option maxRecDepth 100000 in
set_option maxHeartbeats 8000000 in
theorem IllTurned_unready (r : RwM) (w : World) (h : OpenRow r w) (hy : (r.d.thin && decide (r.d.fault = 0)) = false) : Calls Try.prog 14 #[.agg r.cells.toArray] w fun e w' => e = .returned (.bool true) ∧ Below w.heap.size w w' := by
  have l0 : Lies (w.alloc (.cells r.cells.toArray 26)) w.heap.size 26 r.cells.toArray := Lies.fresh _ _ _
  have b0 : Below w.heap.size w (w.alloc (.cells r.cells.toArray 26)) := (by repeat (first | (with_reducible assumption) | (with_reducible exact Below.refl _ _) | (with_reducible refine Below.drew ?_) | (with_reducible refine below_drewN ?_ _) | ((with_reducible refine Below.setCell ?_ ?_ _); rotate_left; focus (first | (simp; done) | (simp; omega) | omega)) | ((with_reducible refine Below.alloc ?_ ?_ _); rotate_left; focus (first | (simp; done) | (simp; omega) | omega))))
  have hR := fun W hb => ready_no h hy (W := W) hb
  have HR := Lib.hid hR
  have L0 := Lib.hid l0
  have B0 := Lib.hid b0
  clear hR l0 b0 hy h
  go_enter Try.func14, Try.ntmps14
  go_upto_region 1 with (fail)
  change Code.wp _ _ _ _ (w.alloc (.cells r.cells.toArray 26))
  generalize w.alloc (.cells r.cells.toArray 26) = w0 at *
  go_wp2_with (first
    | (refine wpList_load_row (o := ⟨some 22, _, _, _, _, _⟩) ?_ 26 (.tmp 1) ?_ w.heap.size ?_ 26 r.cells.toArray (0, 0) _ L0.out Try.underlying26 rfl size_refrow ?_; rfl; rfl; rfl)
    | (go_at_call 38; refine (HR.out _ B0.out).mono ?_; rintro e w1 ⟨rfl, hb1⟩)
    | (go_at_call 16; refine (awake_any _).mono ?_; rintro e w2 ⟨rfl, hb2⟩))
  go_ret
  exact ⟨rfl, B0.out.trans ((hb1.trans (hb2.mono hb1.size)).mono B0.out.size)⟩
/-- The row, with its list of weeks turned up to k, and its notes up to j. -/
def RwM.dugK (q : RwM) (k : Nat) : RwM := { q with dug := ⟨q.dug.A, turnK k q.dug.l, q.dug.c⟩ }
def notesK (n : Int) (j : Nat) (l : List Nt) : List Nt := (l.take j).map (Nt.turn n) ++ l.drop j
def RwM.nsK (q : RwM) (j : Nat) : RwM := { q with ns := ⟨q.ns.A, notesK q.n j q.ns.l, q.ns.c⟩ }
theorem notesK_length (n : Int) (j : Nat) (l : List Nt) : (notesK n j l).length = l.length := by
  unfold notesK; rw [List.length_append, List.length_map, List.length_take, List.length_drop]; omega
theorem notesK_zero (n : Int) (l : List Nt) : notesK n 0 l = l := by simp [notesK]
theorem notesK_all (n : Int) (l : List Nt) : notesK n l.length l = l.map (Nt.turn n) := by unfold notesK; rw [List.drop_eq_nil_of_le (Nat.le_refl _), List.append_nil, List.take_of_length_le (Nat.le_refl _)]
theorem notesK_at (n : Int) (j : Nat) (l : List Nt) : (notesK n j l)[j]? = l[j]? := by
  unfold notesK
  by_cases h : j ≤ l.length
  · rw [List.getElem?_append_right (by rw [List.length_map, List.length_take]; omega), List.length_map, List.length_take, List.getElem?_drop]
    congr 1; omega
  · rw [List.getElem?_eq_none (by rw [List.length_append, List.length_map, List.length_take, List.length_drop]; omega), List.getElem?_eq_none (by omega)]
theorem notesK_succ (n : Int) (j : Nat) (l : List Nt) (z : Nt) (h : l[j]? = some z) : (notesK n j l).set j (Nt.turn n z) = notesK n (j + 1) l := by
  have hj := (List.getElem?_eq_some_iff.1 h).1
  refine List.ext_getElem? fun i => ?_
  unfold notesK
  have hl : ((l.take j).map (Nt.turn n)).length = j := by rw [List.length_map, List.length_take]; omega
  have hl1 : ((l.take (j + 1)).map (Nt.turn n)).length = j + 1 := by rw [List.length_map, List.length_take]; omega
  rw [List.getElem?_set]
  by_cases e : j = i
  · subst e
    rw [if_pos rfl, if_pos (by rw [List.length_append, hl, List.length_drop]; omega), List.getElem?_append_left (by omega), List.getElem?_map, List.getElem?_take, if_pos (by omega), h]; rfl
  · rw [if_neg e]
    by_cases h2 : i < j
    · rw [List.getElem?_append_left (by omega), List.getElem?_append_left (by omega), List.getElem?_map, List.getElem?_map, List.getElem?_take, List.getElem?_take, if_pos h2, if_pos (by omega)]
    · rw [List.getElem?_append_right (by omega), List.getElem?_append_right (by omega), hl, hl1, List.getElem?_drop, List.getElem?_drop]
      congr 1; omega
theorem dugK_zero (q : RwM) : q.dugK 0 = q := by unfold RwM.dugK; rw [turnK_zero]
theorem nsK_zero (q : RwM) : q.nsK 0 = q := by unfold RwM.nsK; rw [notesK_zero]
theorem dugK_succ (q : RwM) (k : Nat) (hk : k < q.dug.l.length) : (q.dugK k).dugS k (q.dug.l[q.dug.l.length - 1 - k]'(by omega)) = q.dugK (k + 1) := by
  unfold RwM.dugS RwM.dugK
  dsimp only
  rw [turnK_succ k _ hk]
theorem nsK_succ (q : RwM) (j : Nat) (z : Nt) (h : q.ns.l[j]? = some z) : (q.nsK j).noteS j { z with p := q.n - 1 - z.p } = q.nsK (j + 1) := by
  unfold RwM.noteS RwM.nsK
  dsimp only
  rw [← notesK_succ q.n j _ z h]
  rfl
theorem turned_d {r q : RwM} (h : q.d = r.d) : ((q.dugK q.dug.l.length).nsK q.ns.l.length).d = r.d.turn := by
  rw [← h]
  unfold RwM.nsK RwM.dugK RwM.d RwD.turn
  dsimp only
  rw [turnK_all, notesK_all]
set_option maxRecDepth 100000 in
set_option maxHeartbeats 16000000 in
theorem IllTurned_main (r : RwM) (w : World) (hr : r.At w w.heap.size) (ht : ThinM r) (hy : (r.d.thin && decide (r.d.fault = 0)) = true) (hf : r.d.fault = 0) :
    Calls Try.prog 14 #[.agg r.cells.toArray] w fun e w' => e = .returned (.bool true) ∧ Below w.heap.size w w' := by
  have l0 : Lies (w.alloc (.cells r.cells.toArray 26)) w.heap.size 26 r.cells.toArray := Lies.fresh _ _ _
  have b0 : Below w.heap.size w (w.alloc (.cells r.cells.toArray 26)) := (by repeat (first | (with_reducible assumption) | (with_reducible exact Below.refl _ _) | (with_reducible refine Below.drew ?_) | (with_reducible refine below_drewN ?_ _) | ((with_reducible refine Below.setCell ?_ ?_ _); rotate_left; focus (first | (simp; done) | (simp; omega) | omega)) | ((with_reducible refine Below.alloc ?_ ?_ _); rotate_left; focus (first | (simp; done) | (simp; omega) | omega))))
  have hR := fun W (hb : Below w.heap.size w W) => ready_any r W (hr.below hb hb.size)
  rw [hy] at hR
  obtain ⟨hok, hns, -, -, -⟩ := fault_ok hf
  obtain ⟨N, hN⟩ : ∃ N, N = r.dug.l.length := ⟨_, rfl⟩
  have hnn : r.n = (N : Int) := by rw [hN]; exact hok.dug.symm
  have hN1 : 1 ≤ N := by have := hok.n0; have h2 : r.d.n = r.n := rfl; omega
  have hN10 : N ≤ 10 := by have := hok.n1; have h2 : r.d.n = r.n := rfl; omega
  have hNz : (N : Int) ≤ 10 := by omega
  have hNo : (1 : Int) ≤ (N : Int) := by omega
  have hnp : ∀ x, x ∈ r.ns.l → 0 ≤ x.p ∧ x.p ≤ (N : Int) - 1 := fun x hx => by
    have h := hns x hx
    unfold RwD.haveB at h
    simp only [Bool.and_eq_true, inB_iff] at h
    have h2 : r.d.n = r.n := rfl
    omega
  have HR := Lib.hid hR
  have L0 := Lib.hid l0
  have B0 := Lib.hid b0
  have HRR := Lib.hid hr
  have HT := Lib.hid ht
  have HF := Lib.hid hf
  have HNE := Lib.hid hnn
  have HNL := Lib.hid hN
  have HNP := Lib.hid hnp
  clear hR l0 b0 hy hr ht hf hok hns hnn hN hnp
  go_enter Try.func14, Try.ntmps14
  go_upto_region 1 with (fail)
  change Code.wp _ _ _ _ (w.alloc (.cells r.cells.toArray 26))
  generalize w.alloc (.cells r.cells.toArray 26) = w0 at *
  go_upto_region 3 with (first
    | (refine wpList_load_row (o := ⟨some 22, _, _, _, _, _⟩) ?_ 26 (.tmp 1) ?_ w.heap.size ?_ 26 r.cells.toArray (0, 0) _ L0.out Try.underlying26 rfl size_refrow ?_; rfl; rfl; rfl)
    | (go_at_call 38; refine (HR.out _ B0.out).mono ?_; rintro e w1 ⟨rfl, hb1⟩))
  have L1 := Lib.hid (L0.out.call hb1)
  have B1 := Lib.hid (B0.out.trans (hb1.mono B0.out.size))
  clear hb1 L0 B0 HR
  have a3 : w1.cell? ⟨w.heap.size, 0, none⟩ = some (.int .i64 N) := by rw [← HNE.out]; exact L1.out.at_ 0
  go_upto_region 4 with (fail)
  clear a3
  have hRW := Lib.hid (lawRow_thin r w1 (HRR.out.below B1.out B1.out.size) HT.out)
  go_upto_region 5 with (first
    | (refine wpList_load_row (o := ⟨some 28, _, _, _, _, _⟩) ?_ 26 (.tmp 1) ?_ w.heap.size ?_ 26 r.cells.toArray (0, 0) _ L1.out Try.underlying26 rfl size_refrow ?_; rfl; rfl; rfl)
    | (go_at_call 18; refine hRW.out.mono ?_; rintro e w2 ⟨q, rfl, hq⟩)
    | (refine wpList_store_cells (o := ⟨none, .store 34 (.tmp 4) _, _, _, _, _⟩) ?_ 34 (.tmp 4) (.tmp 29) ?_ w2.heap.size 0 ?_ 34 zrow q.cells ?_ (Lies.fresh w2 34 zrow.toArray) (by simp [zrow, RwM.cells]) size_row (part_one q _ _ _ rfl rfl rfl) ?_; rfl; rfl; rfl; rfl; intro w3 HS3 HO3; (try simp only [Act.put])))
  have hs3 := HS3.out
  rw [splice_whole (by rfl)] at hs3
  have hzz := (Below.refl w2.heap.size w2).alloc (Nat.le_refl _) (.cells zrow.toArray 34)
  obtain ⟨B2, hX3⟩ := RowX.of (w := w1) hq hzz HO3.out hs3 (.inr (Nat.le_refl _)) (hq.b.trans (hzz.mono hq.b.size)) (Nat.le_refl _) hq.b.size
  have X3 := Lib.hid hX3
  have HQD := Lib.hid hq.d
  have hql : q.dug.l = r.dug.l := congrArg RwD.dug hq.d
  have hqn : q.ns.l = r.ns.l := congrArg RwD.ns hq.d
  have hqp : q.n = r.n := congrArg RwD.n hq.d
  have HQL := Lib.hid hql
  have HQN := Lib.hid hqn
  have HQP := Lib.hid hqp
  have hgW : w.heap.size < w1.heap.size := L1.out.in_
  have hgx : w1.heap.size ≤ w2.heap.size := hX3.g0
  clear hRW hs3 hzz hX3 hq HS3 HO3 hql hqn hqp
  generalize w2.heap.size = gx at *
  go_wp2
  go_loopw [5] (fun s5 wr => ∃ k : Nat, k ≤ N ∧ s5 = .int .i64 k ∧ Aside (RowX w1 gx B2 (q.dugK k) wr)) (fun i _ => N - (intOf i).toNat)
  case atStart => exact ⟨0, by omega, rfl, (show RowX w1 gx B2 (q.dugK 0) _ by rw [dugK_zero]; exact X3.out)⟩
  case round =>
    obtain ⟨k, hk, rfl, HX⟩ := hrel
    clear X3
    by_cases hlt : k < N
    · have hltz : (k : Int) < (N : Int) := by omega
      have hk0 : (0 : Int) ≤ (k : Int) := by omega
      have hnl := HNL.out
      have hql := HQL.out
      have hkd : k < (q.dugK k).dug.l.length := by show k < (turnK k q.dug.l).length; rw [turnK_length _ _ (by rw [hql]; omega), hql]; omega
      obtain ⟨g5, hA5, ⟨y5, cy⟩, fy, hset⟩ := HX.out.dugSet hkd
      obtain ⟨d, hd⟩ : ∃ d, r.dug.l[N - 1 - k]? = some d := ⟨r.dug.l[N - 1 - k]'(by omega), by simp⟩
      obtain ⟨b6, o6, hA6, hb6, c45⟩ := HRR.out.dug.cell1 hd
      have hBw := B1.out.trans (HX.out.b.mono B1.out.size)
      have e45 : wr.cell? ⟨b6, o6 + (N - 1 - k), none⟩ = some (.int .i64 d) := (hBw.cell (p := ⟨b6, o6 + (N - 1 - k), none⟩) hb6).trans c45
      have e36 : wr.cell? ⟨gx, 6, none⟩ = some (.slice (q.dugK k).dug.A (q.dugK k).dug.l.length (q.dugK k).dug.c) := HX.out.o.at_ 6
      have e39 : wr.cell? ⟨w.heap.size, 6, none⟩ = some (.slice r.dug.A r.dug.l.length r.dug.c) := (L1.out.call HX.out.b).at_ 6
      have hl1 : (q.dugK k).dug.l.length = N := by show (turnK k q.dug.l).length = N; rw [turnK_length _ _ (by rw [hql]; omega), hql]; omega
      rw [hA5, hl1] at e36
      rw [hA6, ← hnl] at e39
      have HXX := Lib.hid HX.out
      have HSET := Lib.hid hset
      have HA := Lib.hid hA5
      have HD := Lib.hid hd
      clear hset hd c45 hA5 hA6 hkd HX hBw hnl hql
      have hkl := Lib.hid (show (q.dugK k).dug.l[(q.dugK k).dug.l.length]? = none by simp)
      clear hkl
      obtain ⟨j, hj⟩ : ∃ j, j = N - 1 - k := ⟨_, rfl⟩
      rw [← hj] at e45 HD
      have hjz : (N : Int) - 1 - (k : Int) = (j : Int) := by omega
      have hj0 : (0 : Int) ≤ (j : Int) := by omega
      have hjN : (j : Int) < (N : Int) := by omega
      have HJ := Lib.hid hj
      have hw1 : IntKind.i64.wrap ((N : Int) - 1) = (N : Int) - 1 := IntWalk.i64_in _ (by omega)
      have hw2 : IntKind.i64.wrap (j : Int) = (j : Int) := IntWalk.i64_in _ (by omega)
      have hgl : gx < wr.heap.size := HXX.out.o.in_
      have hwl : w.heap.size < wr.heap.size := by omega
      have hbl : b6 < wr.heap.size := by omega
      clear hj
      go_upto_region 8 with (fail)
      have k36 : ∀ c : Cls (fun W => Below wr.heap.size wr W), c.val.cell? ⟨gx, 6, none⟩ = some (.slice (some ⟨g5, 0, none⟩) N (q.dugK k).dug.c) := fun c => (c.h.cell (p := ⟨gx, 6, none⟩) hgl).trans e36
      have k39 : ∀ c : Cls (fun W => Below wr.heap.size wr W), c.val.cell? ⟨w.heap.size, 6, none⟩ = some (.slice (some ⟨b6, o6, none⟩) N r.dug.c) := fun c => (c.h.cell (p := ⟨w.heap.size, 6, none⟩) hwl).trans e39
      have k45 : ∀ c : Cls (fun W => Below wr.heap.size wr W), c.val.cell? ⟨b6, o6 + j, none⟩ = some (.int .i64 d) := fun c => (c.h.cell (p := ⟨b6, o6 + j, none⟩) hbl).trans e45
      haveI hne : Nonempty (Cls (fun W => Below wr.heap.size wr W)) := ⟨⟨wr, Below.refl _ _⟩⟩
      clear e36 e39 e45 cy fy
      refine wp_region_ways3 12 [0, 1, 2, 3, 4, 5, 6, 7, 8, 9, 10] (.take 11 .fin) (fun W => ∃ cc : Cls (fun W => Below wr.heap.size wr W), W = cc.val) (by kernel_rfl) (by kernel_rfl) (Cls.here (Below.refl _ _).drew) ?_
      simp only [List.filterMap_cons, List.filterMap_nil, List.take_succ_cons, List.take_zero, List.getElem?_toArray, List.getElem?_cons_zero, List.getElem?_cons_succ, List.drop_succ_cons, List.drop_zero]
      repeat (first | go_big_quiet_step (rfl) | quiet_step (rfl))
      refine wpQuiet_nil ?_
      clear k36 k39 k45
      have X0 := Lib.hid (HXX.out.call (Below.refl wr.heap.size wr).drew)
      generalize wr.drew = d0 at *
      rw [wpWy_take]
      simp only [List.getElem?_toArray, List.getElem?_cons_succ, List.getElem?_cons_zero]
      first | go_big_quiet_step (rfl) | quiet_step (rfl)
      refine wpQuiet_nil ?_
      rw [wpWy_fin]
      obtain ⟨g5', hA5', ⟨y, cy⟩, fy, hset⟩ := X0.out.dugSet (show k < (q.dugK k).dug.l.length by rw [hl1]; exact hlt)
      have hg5 := HA.out
      rw [hA5'] at hg5
      cases hg5
      have HSET2 := Lib.hid (hset d)
      clear hset HSET X0
      go_wp2
      go_roundw
      case rel =>
        refine ⟨k + 1, by omega, by go_num, ?_⟩
        have h1 := HSET2.out
        have hdl : (q.dug.l[q.dug.l.length - 1 - k]'(by have := HQL.out; have := HNL.out; rw [HQL.out]; omega)) = d := by
          have h2 := HD.out
          rw [← HQL.out] at h2
          have h3 : q.dug.l.length - 1 - k = j := by have := HQL.out; have := HNL.out; have := HJ.out; rw [HQL.out]; omega
          simp only [h3]
          exact (List.getElem?_eq_some_iff.1 h2).2
        rw [← hdl, dugK_succ q k (by have := HNL.out; rw [HQL.out]; omega), hdl] at h1
        exact h1
      case measure => simp [intOf]; omega
    · obtain rfl : k = N := by omega
      have hnl := HNL.out
      have hql := HQL.out
      have hqn := HQN.out
      obtain ⟨q1, hq1⟩ : ∃ q1, q1 = q.dugK k := ⟨_, rfl⟩
      obtain ⟨M, hM⟩ : ∃ M, M = r.ns.l.length := ⟨_, rfl⟩
      have hM45 : M ≤ 45 := by have := HT.out.n; omega
      have hMz : (M : Int) ≤ 45 := by omega
      have hx1 := HX.out
      rw [← hq1] at hx1
      have h1n : q1.n = (k : Int) := by rw [hq1, ← HNE.out, ← HQP.out]; rfl
      have h1s : q1.ns.l = r.ns.l := by rw [hq1]; exact hqn
      have htd : (q1.nsK M).d = r.d.turn := by
        have h := turned_d HQD.out
        rw [hql, ← hnl, hqn, ← hM] at h
        rw [hq1]; exact h
      have X1 := Lib.hid hx1
      have HQ1N := Lib.hid h1n
      have HQ1S := Lib.hid h1s
      have HTD := Lib.hid htd
      have HM := Lib.hid hM
      clear HX hx1 h1n h1s htd hM hnl hql hqn hq1 HQD HQL HQN HQP
      go_wp2
      go_loopw [6] (fun s6 wq => ∃ j : Nat, j ≤ M ∧ s6 = .int .i64 j ∧ Aside (RowX w1 gx B2 (q1.nsK j) wq)) (fun i _ => M - (intOf i).toNat)
      case atStart => exact ⟨0, by omega, rfl, (show RowX w1 gx B2 (q1.nsK 0) _ by rw [nsK_zero]; exact X1.out)⟩
      case round =>
        obtain ⟨j, hj, rfl, HX⟩ := hrel
        clear X1
        have hl1 : (q1.nsK j).ns.l.length = M := by show (notesK q1.n j q1.ns.l).length = M; rw [notesK_length, HQ1S.out, ← HM.out]
        have e55 : wr.cell? ⟨gx, 7, none⟩ = some (.slice (q1.nsK j).ns.A M (q1.nsK j).ns.c) := by rw [← hl1]; exact HX.out.o.at_ 7
        by_cases hlt : j < M
        · have hltz : (j : Int) < (M : Int) := by omega
          have hj0 : (0 : Int) ≤ (j : Int) := by omega
          obtain ⟨z, hz⟩ : ∃ z, r.ns.l[j]? = some z := ⟨r.ns.l[j]'(by rw [← HM.out]; exact hlt), by simp⟩
          have hzK : (q1.nsK j).ns.l[j]? = some z := by show (notesK q1.n j q1.ns.l)[j]? = _; rw [notesK_at, HQ1S.out, hz]
          obtain ⟨g7, hA7, cz, fz, hset⟩ := HX.out.noteSet hzK
          obtain ⟨hz0, hz1⟩ := HNP.out z (List.mem_of_getElem? hz)
          rw [hA7] at e55
          have hw1 : IntKind.i64.wrap ((k : Int) - 1) = (k : Int) - 1 := IntWalk.i64_in _ (by omega)
          have hw2 : IntKind.i64.wrap ((k : Int) - 1 - z.p) = (k : Int) - 1 - z.p := IntWalk.i64_in _ (by omega)
          have hgl : gx < wr.heap.size := HX.out.o.in_
          have hg7l : g7 < wr.heap.size := (own_at HX.out.ns (by rw [hA7]; rfl)).2.1
          have HXX := Lib.hid HX.out
          have HZ := Lib.hid hz
          have HZK := Lib.hid hzK
          have HA := Lib.hid hA7
          have k55 : ∀ c : Cls (fun W => Below wr.heap.size wr W), c.val.cell? ⟨gx, 7, none⟩ = some (.slice (some ⟨g7, 0, none⟩) M (q1.nsK j).ns.c) := fun c => (c.h.cell (p := ⟨gx, 7, none⟩) hgl).trans e55
          have k64 : ∀ c : Cls (fun W => Below wr.heap.size wr W), c.val.cell? ⟨g7, j * 4, none⟩ = some (.int .i64 z.p) := fun c => (c.h.cell (p := ⟨g7, j * 4, none⟩) hg7l).trans cz
          clear hset hz hzK hA7 HX cz fz hl1
          go_upto_region 12 with (fail)
          clear e55
          haveI hne : Nonempty (Cls (fun W => Below wr.heap.size wr W)) := ⟨⟨wr, Below.refl _ _⟩⟩
          refine wp_region_ways3 14 [0, 1, 2, 3, 4, 5, 6, 7, 8, 9, 10, 11] (.take 12 (.take 13 .fin)) (fun W => ∃ cc : Cls (fun W => Below wr.heap.size wr W), W = cc.val) (by kernel_rfl) (by kernel_rfl) (Cls.here (Below.refl _ _).drew) ?_
          simp only [List.filterMap_cons, List.filterMap_nil, List.take_succ_cons, List.take_zero, List.getElem?_toArray, List.getElem?_cons_zero, List.getElem?_cons_succ, List.drop_succ_cons, List.drop_zero]
          repeat (first | go_big_quiet_step (rfl) | quiet_step (rfl))
          refine wpQuiet_nil ?_
          clear k55 k64
          have X0 := Lib.hid (HXX.out.call (Below.refl wr.heap.size wr).drew)
          generalize wr.drew = d0 at *
          rw [wpWy_take]
          simp only [List.getElem?_toArray, List.getElem?_cons_succ, List.getElem?_cons_zero]
          first | go_big_quiet_step (rfl) | quiet_step (rfl)
          refine wpQuiet_nil ?_
          rw [wpWy_take]
          simp only [List.getElem?_toArray, List.getElem?_cons_succ, List.getElem?_cons_zero]
          first | go_big_quiet_step (rfl) | quiet_step (rfl)
          refine wpQuiet_nil ?_
          rw [wpWy_fin]
          obtain ⟨g7', hA7', cy, fy, hset⟩ := X0.out.noteSet HZK.out
          have hg7 := HA.out
          rw [hA7'] at hg7
          cases hg7
          have HSET2 := Lib.hid (hset ((k : Int) - 1 - z.p))
          clear hset X0
          go_wp2
          go_roundw
          case rel =>
            refine ⟨j + 1, by omega, by go_num, ?_⟩
            have h1 := HSET2.out
            rw [← HQ1N.out, nsK_succ q1 j z (by rw [HQ1S.out]; exact HZ.out)] at h1
            rw [HQ1N.out] at h1
            exact h1
          case measure => simp [intOf]; omega
        · obtain rfl : j = M := by omega
          go_upto_region 13 with (fail)
          clear e55
          have XT0 := HX.out
          obtain ⟨qt, hqt⟩ : ∃ qt, qt = q1.nsK j := ⟨_, rfl⟩
          rw [← hqt] at XT0
          have htd := HTD.out
          rw [← hqt] at htd
          have XT := Lib.hid XT0
          have HTT := Lib.hid htd
          have hb1r := XT0.b
          have LR := Lib.hid (L1.out.call hb1r)
          have BR := Lib.hid (B1.out.trans (hb1r.mono B1.out.size))
          have RR := Lib.hid (fun W (hb : Below wr.heap.size wr W) => lawRow_thin r W ((HRR.out.below BR.out BR.out.size).below hb hb.size) HT.out)
          have hcl : ∃ lenT, (q1.nsK j).ns.l.length = lenT ∧ lenT = j := ⟨_, hl1, rfl⟩
          clear hcl hl1 HX hqt htd XT0 hb1r HTD HQ1N HQ1S HNP
          have hft := turn_fault HF.out
          have hct := turn_can HF.out
          have DZ := Lib.hid (Below.refl wr.heap.size wr)
          cases hc : r.d.can with
          | false =>
            rw [hc] at hct
            have er := err_sick HF.out hc
            have et := err_sick hft hct
            have kr := fun q w0 W (h : LawR r w0 q W) => Known_of_no h (by rw [er]; decide)
            have fr := fun q w0 W (h : LawR r w0 q W) => First_of_no h (by rw [er]; decide)
            have cr := fun q w0 W (h : LawR r w0 q W) => Count_of_no h (by rw [er]; decide)
            have kt := fun W (hb : Below wr.heap.size wr W) => Known_no qt W (XT.out.call hb).at_ (by rw [HTT.out, et]; decide)
            have ft := fun W (hb : Below wr.heap.size wr W) => First_no qt W (XT.out.call hb).at_ (by rw [HTT.out, et]; decide)
            have ct := fun W (hb : Below wr.heap.size wr W) => Count_no qt W (XT.out.call hb).at_ (by rw [HTT.out, et]; decide)
            rw [er] at kr fr cr
            rw [HTT.out, et] at kt ft ct
            have HKnownR := Lib.hid kr
            have HFirstR := Lib.hid fr
            have HCountR := Lib.hid cr
            have HKnownT := Lib.hid kt
            have HFirstT := Lib.hid ft
            have HCountT := Lib.hid ct
            clear kr fr cr kt ft ct er et hft hct hc
            go_upto_region 14 with (first
              | (refine wpList_load_row (o := ⟨some 69, _, _, _, _, _⟩) ?_ 26 (.tmp 1) ?_ w.heap.size ?_ 26 r.cells.toArray (0, 0) _ (LR.out.call DZ.out) Try.underlying26 rfl size_refrow ?_; rfl; rfl; rfl)
              | (go_at_call_of 18 (Value.agg r.cells.toArray); refine (RR.out _ DZ.out).mono ?_; rintro e u0 ⟨q0, rfl, hq0⟩)
              | (go_at_call_of 27 (Value.agg q0.cells.toArray); refine (HKnownR.out q0 _ _ hq0).mono ?_; rintro e v0 ⟨rfl, hb0⟩))
            have hbb0 := hq0.b.trans (hb0.mono hq0.b.size)
            have D0 := Lib.hid (DZ.out.trans (hbb0.mono DZ.out.size))
            clear hb0 hbb0 hq0
            go_upto_region 15 with (first
              | (refine wpList_load_row (o := ⟨some 75, _, _, _, _, _⟩) ?_ 34 (.tmp 4) ?_ gx ?_ 34 qt.cells.toArray (0, 0) _ (XT.out.call D0.out).o Try.underlying34 rfl size_row ?_; rfl; rfl; rfl)
              | (go_at_call_of 27 (Value.agg qt.cells.toArray); refine (HKnownT.out _ D0.out).mono ?_; rintro e v1 ⟨rfl, hb1⟩))
            have hbb1 := hb1
            have D1 := Lib.hid (D0.out.trans (hbb1.mono D0.out.size))
            clear hb1 hbb1 D0
            go_upto_region 16 with (first
              | (refine wpList_load_row (o := ⟨some 80, _, _, _, _, _⟩) ?_ 26 (.tmp 1) ?_ w.heap.size ?_ 26 r.cells.toArray (0, 0) _ (LR.out.call D1.out) Try.underlying26 rfl size_refrow ?_; rfl; rfl; rfl)
              | (go_at_call_of 18 (Value.agg r.cells.toArray); refine (RR.out _ D1.out).mono ?_; rintro e u2 ⟨q2, rfl, hq2⟩)
              | (go_at_call_of 19 (Value.agg q2.cells.toArray); refine (HFirstR.out q2 _ _ hq2).mono ?_; rintro e v2 ⟨rfl, hb2⟩))
            have hbb2 := hq2.b.trans (hb2.mono hq2.b.size)
            have D2 := Lib.hid (D1.out.trans (hbb2.mono D1.out.size))
            clear hb2 hbb2 hq2 D1
            go_upto_region 17 with (first
              | (refine wpList_load_row (o := ⟨some 86, _, _, _, _, _⟩) ?_ 34 (.tmp 4) ?_ gx ?_ 34 qt.cells.toArray (0, 0) _ (XT.out.call D2.out).o Try.underlying34 rfl size_row ?_; rfl; rfl; rfl)
              | (go_at_call_of 19 (Value.agg qt.cells.toArray); refine (HFirstT.out _ D2.out).mono ?_; rintro e v3 ⟨rfl, hb3⟩))
            have hbb3 := hb3
            have D3 := Lib.hid (D2.out.trans (hbb3.mono D2.out.size))
            clear hb3 hbb3 D2
            go_upto_region 18 with (first
              | (refine wpList_load_row (o := ⟨some 91, _, _, _, _, _⟩) ?_ 26 (.tmp 1) ?_ w.heap.size ?_ 26 r.cells.toArray (0, 0) _ (LR.out.call D3.out) Try.underlying26 rfl size_refrow ?_; rfl; rfl; rfl)
              | (go_at_call_of 18 (Value.agg r.cells.toArray); refine (RR.out _ D3.out).mono ?_; rintro e u4 ⟨q4, rfl, hq4⟩)
              | (go_at_call_of 28 (Value.agg q4.cells.toArray); refine (HCountR.out q4 _ _ hq4).mono ?_; rintro e v4 ⟨rfl, hb4⟩))
            have hbb4 := hq4.b.trans (hb4.mono hq4.b.size)
            have D4 := Lib.hid (D3.out.trans (hbb4.mono D3.out.size))
            clear hb4 hbb4 hq4 D3
            go_upto_region 19 with (first
              | (refine wpList_load_row (o := ⟨some 98, _, _, _, _, _⟩) ?_ 34 (.tmp 4) ?_ gx ?_ 34 qt.cells.toArray (0, 0) _ (XT.out.call D4.out).o Try.underlying34 rfl size_row ?_; rfl; rfl; rfl)
              | (go_at_call_of 28 (Value.agg qt.cells.toArray); refine (HCountT.out _ D4.out).mono ?_; rintro e v5 ⟨rfl, hb5⟩))
            have hbb5 := hb5
            have D5 := Lib.hid (D4.out.trans (hbb5.mono D4.out.size))
            clear hb5 hbb5 D4
            clear RR HKnownR HFirstR HCountR HKnownT HFirstT HCountT XT LR
            go_wp2
            go_loopw [21] (fun s21 wq => s21 = .int .i64 0 ∧ Aside (Below v5.heap.size v5 wq)) (fun _ _ => 0)
            case atStart => exact ⟨rfl, Below.refl _ _⟩
            case round =>
              obtain ⟨rfl, HB⟩ := hrel
              go_wp2_with (go_at_call 16; refine (awake_any _).mono ?_; rintro e v9 ⟨rfl, hb9⟩)
              go_ret
              exact ⟨rfl, BR.out.trans ((D5.out.trans ((HB.out.trans (hb9.mono HB.out.size)).mono D5.out.size)).mono BR.out.size)⟩
          | true =>
            rw [hc] at hct
            have er := err_ok HF.out hc
            have et := err_ok hft hct
            have hdl : r.d.dug.length = k := HNL.out.symm
            have hd10 : r.d.dug.length ≤ 10 := by omega
            have hil : (r.d.turn.illB r.d.turn.earliest).length = (r.d.illB r.d.earliest).length := turn_ill hd10 fun p hp => turn_early HF.out hc hp
            have hls : ∀ m m' : Nat, Least r.d r.d.wins m → Least r.d.turn r.d.turn.wins m' → m = m' := fun m m' h1 h2 => (turn_least HF.out h1).uniq h2
            have hka : r.d.knowns.length = k := by unfold RwD.knowns; rw [List.length_map, List.length_range, hdl]
            have hkb : r.d.turn.knowns.length = k := by unfold RwD.knowns; rw [List.length_map, List.length_range, turn_len, hdl]
            have hfa : r.d.firstD.length = k := by rw [firstD_length _ hd10, hdl]
            have hfb : r.d.turn.firstD.length = k := by rw [firstD_length _ (by rw [turn_len]; exact hd10), turn_len, hdl]
            have hkk : ∀ p, p < k → r.d.turn.knowns[k - 1 - p]? = r.d.knowns[p]? := fun p hp => by
              rw [knowns_at r.d.turn (p := k - 1 - p) (by rw [turn_len]; omega), knowns_at r.d (p := p) (by omega), ← turn_known HF.out hc (p := p) (by omega), hdl]
            have hff : ∀ p, p < k → r.d.turn.firstD[k - 1 - p]? = r.d.firstD[p]? := fun p hp => by
              have h1 : r.d.turn.earliest.length = 10 := earliest_ok.len
              have h2 : r.d.earliest.length = 10 := earliest_ok.len
              have h3 := turn_early HF.out hc (p := p) (by omega)
              rw [hdl] at h3
              unfold RwD.firstD
              rw [List.getElem?_map, List.getElem?_map, List.getElem?_take, List.getElem?_take, if_pos (by rw [turn_len]; omega), if_pos (by omega)]
              rw [List.getD, List.getD, List.getElem?_eq_getElem (by omega), List.getElem?_eq_getElem (by omega)] at h3
              rw [List.getElem?_eq_getElem (by omega), List.getElem?_eq_getElem (by omega)]
              simp only [Option.getD_some] at h3
              rw [h3]
            have kr := fun q w0 W (h : LawR r w0 q W) => Known_of h er
            have fr := fun q w0 W (h : LawR r w0 q W) => First_of h er
            have cr := fun q w0 W (h : LawR r w0 q W) => Count_of h er
            have kt := fun W (hb : Below wr.heap.size wr W) => Known_yes qt W (XT.out.call hb).at_ (by rw [HTT.out, et])
            have ft := fun W (hb : Below wr.heap.size wr W) => First_yes qt W (XT.out.call hb).at_ (by rw [HTT.out, et])
            have ct := fun W (hb : Below wr.heap.size wr W) => Count_yes qt W (XT.out.call hb).at_ (by rw [HTT.out, et])
            rw [HTT.out] at kt ft ct
            unfold YesC at cr ct
            rw [hil] at ct
            generalize r.d.knowns = la at *
            generalize r.d.turn.knowns = lb at *
            generalize r.d.firstD = lf at *
            generalize r.d.turn.firstD = lg at *
            generalize (r.d.illB r.d.earliest).length = M1 at *
            have HKnownR := Lib.hid kr
            have HFirstR := Lib.hid fr
            have HCountR := Lib.hid cr
            have HKnownT := Lib.hid kt
            have HFirstT := Lib.hid ft
            have HCountT := Lib.hid ct
            have HLS := Lib.hid hls
            have HKA := Lib.hid hka
            have HKB := Lib.hid hkb
            have HFA := Lib.hid hfa
            have HFB := Lib.hid hfb
            have HKK := Lib.hid hkk
            have HFF := Lib.hid hff
            clear kr fr cr kt ft ct er et hft hct hc hil hls hka hkb hfa hfb hkk hff hdl hd10
            go_upto_region 14 with (first
              | (refine wpList_load_row (o := ⟨some 69, _, _, _, _, _⟩) ?_ 26 (.tmp 1) ?_ w.heap.size ?_ 26 r.cells.toArray (0, 0) _ (LR.out.call DZ.out) Try.underlying26 rfl size_refrow ?_; rfl; rfl; rfl)
              | (go_at_call_of 18 (Value.agg r.cells.toArray); refine (RR.out _ DZ.out).mono ?_; rintro e u0 ⟨q0, rfl, hq0⟩)
              | (go_at_call_of 27 (Value.agg q0.cells.toArray); refine (HKnownR.out q0 _ _ hq0).mono ?_; rintro e v0 ⟨A0, c0, rfl, hA0, hS0, hb0⟩))
            have hbb0 := hq0.b.trans (hb0.mono hq0.b.size)
            have D0 := Lib.hid (DZ.out.trans (hbb0.mono DZ.out.size))
            have S0 := Lib.hid hS0
            clear hb0 hbb0 hq0 hS0 hA0
            go_upto_region 15 with (first
              | (refine wpList_load_row (o := ⟨some 75, _, _, _, _, _⟩) ?_ 34 (.tmp 4) ?_ gx ?_ 34 qt.cells.toArray (0, 0) _ (XT.out.call D0.out).o Try.underlying34 rfl size_row ?_; rfl; rfl; rfl)
              | (go_at_call_of 27 (Value.agg qt.cells.toArray); refine (HKnownT.out _ D0.out).mono ?_; rintro e v1 ⟨A1, c1, rfl, hA1, hS1, hb1⟩))
            have hbb1 := hb1
            have D1 := Lib.hid (D0.out.trans (hbb1.mono D0.out.size))
            have S0 := Lib.hid ((S0.out.below hbb1).more hbb1.size)
            have S1 := Lib.hid hS1
            clear hb1 hbb1 hS1 hA1 D0
            go_upto_region 16 with (first
              | (refine wpList_load_row (o := ⟨some 80, _, _, _, _, _⟩) ?_ 26 (.tmp 1) ?_ w.heap.size ?_ 26 r.cells.toArray (0, 0) _ (LR.out.call D1.out) Try.underlying26 rfl size_refrow ?_; rfl; rfl; rfl)
              | (go_at_call_of 18 (Value.agg r.cells.toArray); refine (RR.out _ D1.out).mono ?_; rintro e u2 ⟨q2, rfl, hq2⟩)
              | (go_at_call_of 19 (Value.agg q2.cells.toArray); refine (HFirstR.out q2 _ _ hq2).mono ?_; rintro e v2 ⟨A2, c2, rfl, hA2, hS2, hb2⟩))
            have hbb2 := hq2.b.trans (hb2.mono hq2.b.size)
            have D2 := Lib.hid (D1.out.trans (hbb2.mono D1.out.size))
            have S0 := Lib.hid ((S0.out.below hbb2).more hbb2.size)
            have S1 := Lib.hid ((S1.out.below hbb2).more hbb2.size)
            have S2 := Lib.hid hS2
            clear hb2 hbb2 hq2 hS2 hA2 D1
            go_upto_region 17 with (first
              | (refine wpList_load_row (o := ⟨some 86, _, _, _, _, _⟩) ?_ 34 (.tmp 4) ?_ gx ?_ 34 qt.cells.toArray (0, 0) _ (XT.out.call D2.out).o Try.underlying34 rfl size_row ?_; rfl; rfl; rfl)
              | (go_at_call_of 19 (Value.agg qt.cells.toArray); refine (HFirstT.out _ D2.out).mono ?_; rintro e v3 ⟨A3, c3, rfl, hA3, hS3, hb3⟩))
            have hbb3 := hb3
            have D3 := Lib.hid (D2.out.trans (hbb3.mono D2.out.size))
            have S0 := Lib.hid ((S0.out.below hbb3).more hbb3.size)
            have S1 := Lib.hid ((S1.out.below hbb3).more hbb3.size)
            have S2 := Lib.hid ((S2.out.below hbb3).more hbb3.size)
            have S3 := Lib.hid hS3
            clear hb3 hbb3 hS3 hA3 D2
            go_upto_region 18 with (first
              | (refine wpList_load_row (o := ⟨some 91, _, _, _, _, _⟩) ?_ 26 (.tmp 1) ?_ w.heap.size ?_ 26 r.cells.toArray (0, 0) _ (LR.out.call D3.out) Try.underlying26 rfl size_refrow ?_; rfl; rfl; rfl)
              | (go_at_call_of 18 (Value.agg r.cells.toArray); refine (RR.out _ D3.out).mono ?_; rintro e u4 ⟨q4, rfl, hq4⟩)
              | (go_at_call_of 28 (Value.agg q4.cells.toArray); refine (HCountR.out q4 _ _ hq4).mono ?_; rintro e v4 ⟨m4, rfl, hl4, hb4⟩))
            have hbb4 := hq4.b.trans (hb4.mono hq4.b.size)
            have D4 := Lib.hid (D3.out.trans (hbb4.mono D3.out.size))
            have S0 := Lib.hid ((S0.out.below hbb4).more hbb4.size)
            have S1 := Lib.hid ((S1.out.below hbb4).more hbb4.size)
            have S2 := Lib.hid ((S2.out.below hbb4).more hbb4.size)
            have S3 := Lib.hid ((S3.out.below hbb4).more hbb4.size)
            have HL4 := Lib.hid hl4
            clear hb4 hbb4 hq4 hl4 D3
            go_upto_region 19 with (first
              | (refine wpList_load_row (o := ⟨some 98, _, _, _, _, _⟩) ?_ 34 (.tmp 4) ?_ gx ?_ 34 qt.cells.toArray (0, 0) _ (XT.out.call D4.out).o Try.underlying34 rfl size_row ?_; rfl; rfl; rfl)
              | (go_at_call_of 28 (Value.agg qt.cells.toArray); refine (HCountT.out _ D4.out).mono ?_; rintro e v5 ⟨m5, rfl, hl5, hb5⟩))
            have hbb5 := hb5
            have D5 := Lib.hid (D4.out.trans (hbb5.mono D4.out.size))
            have S0 := Lib.hid ((S0.out.below hbb5).more hbb5.size)
            have S1 := Lib.hid ((S1.out.below hbb5).more hbb5.size)
            have S2 := Lib.hid ((S2.out.below hbb5).more hbb5.size)
            have S3 := Lib.hid ((S3.out.below hbb5).more hbb5.size)
            have HL5 := Lib.hid hl5
            clear hb5 hbb5 hl5 D4
            obtain rfl := HLS.out m4 m5 HL4.out HL5.out
            clear RR HKnownR HFirstR HCountR HKnownT HFirstT HCountT XT LR HL4 HL5 HLS
            have hka := HKA.out
            have hkb := HKB.out
            have hfa := HFA.out
            have hfb := HFB.out
            have f1 : ((la.length : Int) != (lb.length : Int)) = false := by rw [hka, hkb]; simp
            have f2 : ((lf.length : Int) != (lg.length : Int)) = false := by rw [hfa, hfb]; simp
            have f3 : ((m4 : Int) != (m4 : Int)) = false := by simp
            have f4 : ((M1 : Int) != (M1 : Int)) = false := by simp
            have f5 : ((la.length : Int) != (k : Int)) = false := by rw [hka]; simp
            have f6 : ((lf.length : Int) != (k : Int)) = false := by rw [hfa]; simp
            have z1 : (la.length : Int) ≤ 10 := by omega
            have z2 : (lb.length : Int) ≤ 10 := by omega
            have z3 : (lf.length : Int) ≤ 10 := by omega
            have z4 : (lg.length : Int) ≤ 10 := by omega
            clear hka hkb hfa hfb
            go_wp2
            clear f1 f2 f3 f4 f5 f6
            go_loopw [21] (fun s21 wq => ∃ i : Nat, i ≤ k ∧ s21 = .int .i64 i ∧ Aside (Below v5.heap.size v5 wq)) (fun i _ => k - (intOf i).toNat)
            case atStart => exact ⟨0, by omega, rfl, Below.refl _ _⟩
            case round =>
              obtain ⟨i, hi, rfl, HB⟩ := hrel
              by_cases hlt2 : i < k
              · have hka := HKA.out
                have hkb := HKB.out
                have hfa := HFA.out
                have hfb := HFB.out
                have hi0 : (0 : Int) ≤ (i : Int) := by omega
                have hiz : (i : Int) < (la.length : Int) := by omega
                have hiz2 : (i : Int) < (lf.length : Int) := by omega
                have hizk : (i : Int) < (k : Int) := by omega
                obtain ⟨jj, hjj⟩ : ∃ jj, jj = k - 1 - i := ⟨_, rfl⟩
                have hjz : (k : Int) - 1 - (i : Int) = (jj : Int) := by omega
                have hj0 : (0 : Int) ≤ (jj : Int) := by omega
                have hjb : (jj : Int) < (lb.length : Int) := by omega
                have hjg : (jj : Int) < (lg.length : Int) := by omega
                have hw1 : IntKind.i64.wrap ((k : Int) - 1) = (k : Int) - 1 := IntWalk.i64_in _ (by omega)
                have hw2 : IntKind.i64.wrap (jj : Int) = (jj : Int) := IntWalk.i64_in _ (by omega)
                obtain ⟨x, hx⟩ : ∃ x, la[i]? = some x := ⟨la[i]'(by omega), by simp⟩
                obtain ⟨y, hy⟩ : ∃ y, lf[i]? = some y := ⟨lf[i]'(by omega), by simp⟩
                have hx2 := (HKK.out i hlt2).trans hx
                have hy2 := (HFF.out i hlt2).trans hy
                rw [← hjj] at hx2 hy2
                obtain ⟨b1, o1, e1, hb1, p1⟩ := S0.out.cell8 hx
                obtain ⟨b2, o2, e2, hb2, p2⟩ := S1.out.cell8 hx2
                obtain ⟨b3, o3, e3, hb3, p3⟩ := S2.out.cell1 hy
                obtain ⟨b4, o4, e4, hb4, p4⟩ := S3.out.cell1 hy2
                have r1 := cell_regrown ((HB.out.cell (p := ⟨b1, o1 + i, none⟩) hb1).trans p1)
                have r2 := cell_regrown ((HB.out.cell (p := ⟨b2, o2 + jj, none⟩) hb2).trans p2)
                have r3 := cell_regrown ((HB.out.cell (p := ⟨b3, o3 + i, none⟩) hb3).trans p3)
                have r4 := cell_regrown ((HB.out.cell (p := ⟨b4, o4 + jj, none⟩) hb4).trans p4)
                have n1 : ((x : Int) != x) = false := by simp
                have n2 : ((y : Int) != y) = false := by simp
                have HB' := Lib.hid HB.out
                clear hx hy hx2 hy2 p1 p2 p3 p4 HB hjj hka hkb hfa hfb
                go_upto_region 24 with (fail)
                subst e1 e2 e3 e4
                refine wp_region_quiet_below (by kernel_rfl) (by kernel_rfl) ?_; (repeat (first | go_big_quiet_step ((rfl)) | quiet_step ((rfl)))); refine wpQuiet_nil ?_; intro wq hwq; have hbq : Below _ _ wq := (by obtain ⟨p, rfl⟩ := hwq; exact below_regrown _ _ _); clear hwq
                clear r1 r2 r3 r4
                go_wp2
                go_roundw
                case rel => exact ⟨i + 1, by omega, by go_num, HB'.out.trans (hbq.mono HB'.out.size)⟩
                case measure => simp [intOf]; omega
              · obtain rfl : i = k := by omega
                have hka := HKA.out
                have hge : ¬ ((i : Int) < (la.length : Int)) := by omega
                have HB' := Lib.hid HB.out
                clear HB hka
                go_wp2_with (go_at_call 16; refine (awake_any _).mono ?_; rintro e v9 ⟨rfl, hb9⟩)
                go_ret
                exact ⟨rfl, BR.out.trans ((D5.out.trans ((HB'.out.trans (hb9.mono HB'.out.size)).mono D5.out.size)).mono BR.out.size)⟩
theorem IllTurned_walk (r : RwM) (w : World) (h : OpenRow r w) : Calls Try.prog 14 #[.agg r.cells.toArray] w fun e w' => e = .returned (.bool true) ∧ Below w.heap.size w w' := by
  cases hy : r.d.thin && decide (r.d.fault = 0) with
  | false => exact IllTurned_unready r w h hy
  | true =>
    have hy2 := hy
    rw [Bool.and_eq_true, decide_eq_true_eq] at hy2
    obtain ⟨hr, ht⟩ := h.thin hy2.1
    exact IllTurned_main r w hr ht hy hy2.2
end Go.Proofs.Ytabfljeciefecaa
