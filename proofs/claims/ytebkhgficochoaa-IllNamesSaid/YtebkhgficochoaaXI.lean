/- The texts SJ RXS, joined. -/
import Derived.Test.YtebkhgficochoaaXH
import Derived.Test.YtebkhgficochoaaXF
/- A row read from its other end. -/
namespace Go.Proofs.Ytebkhgficochoaa
open Go.RowKit Go.Lib

def Nt.turn (n : Int) (x : Nt) : Nt := { x with p := n - 1 - x.p }
def RwD.turn (r : RwD) : RwD := { r with dug := r.dug.reverse, ns := r.ns.map (Nt.turn r.n) }
theorem turn_turn (r : RwD) : r.turn.turn = r := by
  obtain ⟨n, ws, lag, sh, old, cl, dug, ns⟩ := r
  unfold RwD.turn
  simp only [List.reverse_reverse, List.map_map]
  congr 1
  refine (List.map_congr_left fun x _ => ?_).trans (List.map_id ns)
  show Nt.turn n (Nt.turn n x) = x
  unfold Nt.turn
  obtain ⟨p, w, k, y⟩ := x
  simp only [Nt.mk.injEq, and_true]
  omega
def turnT (N : Nat) (t : List Int) : List Int := (t.take N).reverse ++ t.drop N
theorem turnT_at {N : Nat} {t : List Int} (hN : N ≤ t.length) (p : Nat) : (turnT N t).getD p 0 = if p < N then t.getD (N - 1 - p) 0 else t.getD p 0 := by
  unfold turnT
  have hl : (t.take N).length = N := by rw [List.length_take]; omega
  by_cases h : p < N
  · rw [if_pos h, List.getD, List.getElem?_append_left (by rw [List.length_reverse, hl]; exact h), List.getElem?_reverse (by rw [hl]; exact h), hl, List.getElem?_take, if_pos (by omega)]
    rfl
  · rw [if_neg h, List.getD, List.getElem?_append_right (by rw [List.length_reverse, hl]; omega), List.length_reverse, hl, List.getElem?_drop, show N + (p - N) = p by omega]
    rfl
theorem turnT_length {N : Nat} {t : List Int} (hN : N ≤ t.length) : (turnT N t).length = t.length := by
  unfold turnT
  rw [List.length_append, List.length_reverse, List.length_take, List.length_drop]; omega
theorem turnT_turnT {N : Nat} {t : List Int} (hN : N ≤ t.length) : turnT N (turnT N t) = t := by
  have hl : (t.take N).reverse.length = N := by rw [List.length_reverse, List.length_take]; omega
  unfold turnT
  rw [List.take_append_of_le_length (by omega), List.drop_append_of_le_length (by omega), List.take_of_length_le (by omega), List.drop_eq_nil_of_le (by omega), List.nil_append, List.reverse_reverse, List.take_append_drop]
theorem turnT_trw {W N : Nat} {t : List Int} (hN : N ≤ 10) (h : TrW W t) : TrW W (turnT N t) := by
  refine ⟨(turnT_length (by rw [h.len]; exact hN)).trans h.len, fun i => ?_⟩
  rw [turnT_at (by rw [h.len]; exact hN)]
  split
  · exact h.b _
  · exact h.b _
section
variable {r : RwD}
theorem turn_dg (r : RwD) {p : Nat} (hp : p < r.dug.length) : r.turn.dg ((r.dug.length - 1 - p : Nat) : Int) = r.dg (p : Nat) := by
  unfold RwD.dg RwD.turn
  simp only [Int.toNat_natCast, List.getD]
  rw [List.getElem?_reverse (by omega), show r.dug.length - 1 - (r.dug.length - 1 - p) = p by omega]
theorem turn_noted (sh old n : Int) (N : Nat) (hn : n = (N : Int)) (hN : N ≤ 10) : ∀ (ns : List Nt) (ws ws' : List (Int × Int)), (∀ x, x ∈ ns → 0 ≤ x.p ∧ x.p < n) → ws.length = 10 → ws'.length = 10 → (∀ p, p < N → winAt ws' p = winAt ws (N - 1 - p)) →
    ∀ p, p < N → winAt (notedD sh old ws' (ns.map (Nt.turn n))) p = winAt (notedD sh old ws ns) (N - 1 - p)
  | [], _, _, _, _, _, h => h
  | x :: ns, ws, ws', hx, h1, h2, h => by
    have hxx := hx x (by simp)
    have ih := turn_noted sh old n N hn hN ns (noteD sh old ws x) (noteD sh old ws' (Nt.turn n x)) (fun y hy => hx y (by simp [hy])) (by rw [noteD_length]; exact h1) (by rw [noteD_length]; exact h2) (fun p hp => ?_)
    · exact ih
    · have e1 : (Nt.turn n x).p.toNat = N - 1 - x.p.toNat := by unfold Nt.turn; dsimp only; omega
      have e2 : alwD sh old (Nt.turn n x) = alwD sh old x := rfl
      unfold noteD
      rw [winAt_set, winAt_set, e1, e2, h _ (by omega), show N - 1 - (N - 1 - x.p.toNat) = x.p.toNat by omega]
      by_cases e : p = N - 1 - x.p.toNat
      · rw [if_pos ⟨e, by omega⟩, if_pos ⟨by omega, by omega⟩]
      · rw [if_neg (fun h => e h.1), if_neg (fun h => e (by omega)), h p hp]
theorem turn_wins (hf : r.fault = 0) {p : Nat} (hp : p < r.dug.length) : winAt r.turn.wins p = winAt r.wins (r.dug.length - 1 - p) := by
  obtain ⟨hok, hns, -, -, -⟩ := fault_ok hf
  have hd10 : r.dug.length ≤ 10 := by have := hok.dug; have := hok.n1; omega
  refine turn_noted r.sh r.old r.n r.dug.length hok.dug.symm hd10 r.ns anyD anyD (fun x hx => ?_) rfl rfl (fun q hq => ?_) p hp
  · have := hns x hx
    unfold RwD.haveB at this
    simp only [Bool.and_eq_true, inB_iff] at this
    omega
  · unfold winAt anyD
    simp only [List.getD, List.getElem?_replicate]
    rw [if_pos (by omega), if_pos (by omega)]
theorem mem_src (hok : r.Ok) {p : Nat} {week : Int} (hp : p < r.dug.length) {q : Nat} : q ∈ r.srcD p week ↔ q < r.dug.length ∧ r.srcOk p week q = true ∧ (p : Int) - (r.wk week).f ≤ q ∧ (q : Int) ≤ p + (r.wk week).f := by
  have hd := hok.dug
  have hf : 0 ≤ (r.wk week).f := by
    unfold RwD.wk
    rw [List.getD]
    cases h : r.ws[(week - 1).toNat]? with
    | none => exact Int.le_refl _
    | some y => exact (hok.wk y (List.mem_of_getElem? h)).1
  unfold RwD.srcD RwD.srcFrom
  rw [List.mem_filter, List.mem_range'_1]
  unfold RwD.nearD RwD.farD
  constructor
  · rintro ⟨h1, h2⟩
    exact ⟨by omega, h2, by omega, by omega⟩
  · rintro ⟨h1, h2, h3, h4⟩
    exact ⟨by omega, h2⟩
theorem turn_ok (hok : r.Ok) : r.turn.Ok := ⟨hok.n0, hok.n1, hok.lag, hok.sh, hok.old, by show ((r.dug.reverse).length : Int) = r.n; rw [List.length_reverse]; exact hok.dug, hok.wk, hok.nw⟩
theorem turn_len (r : RwD) : r.turn.dug.length = r.dug.length := List.length_reverse
theorem turn_fall1 (hok : r.Ok) {t : List Int} (ht : t.length = 10) {p : Nat} (hp : p < r.dug.length) {k : Int} (hf : r.fallB t p k = true) : r.turn.fallB (turnT r.dug.length t) (r.dug.length - 1 - p) k = true := by
  have hd10 : r.dug.length ≤ 10 := by have := hok.dug; have := hok.n1; omega
  have hd := hok.dug
  unfold RwD.fallB at *
  split
  · rename_i h0; rw [if_pos h0] at hf; exact hf
  · rename_i h0
    rw [if_neg h0] at hf
    rw [turn_dg r hp]
    split
    · rename_i h1; rw [if_pos h1] at hf; exact hf
    · rename_i h1
      rw [if_neg h1] at hf
      rw [Bool.or_eq_true] at *
      refine hf.imp (fun hs => ?_) (fun hs => ?_)
      · unfold RwD.srcAny at *
        rw [List.any_eq_true] at *
        obtain ⟨q, hq, hd1⟩ := hs
        obtain ⟨h2, h3, h4, h5⟩ := (mem_src hok hp).1 hq
        refine ⟨r.dug.length - 1 - q, (mem_src (turn_ok hok) (by rw [turn_len]; omega)).2 ⟨by rw [turn_len]; omega, ?_, ?_, ?_⟩, ?_⟩
        · unfold RwD.srcOk at *
          rw [Bool.and_eq_true, decide_eq_true_eq] at *
          rw [turn_dg r h2]
          exact ⟨by omega, h3.2⟩
        · show ((r.dug.length - 1 - p : Nat) : Int) - (r.wk k).f ≤ _; omega
        · show _ ≤ ((r.dug.length - 1 - p : Nat) : Int) + (r.wk k).f; omega
        · rw [turnT_at (by omega), if_pos (by omega), show r.dug.length - 1 - (r.dug.length - 1 - q) = q by omega]
          exact hd1
      · unfold RwD.reachB at *
        rw [Bool.and_eq_true, decide_eq_true_eq] at *
        refine ⟨hs.1, ?_⟩
        show min ((r.dug.length - 1 - p : Nat) : Int) (r.n - 1 - ((r.dug.length - 1 - p : Nat) : Int)) < (r.wk k).f
        have := hs.2
        omega
theorem turn_poss (hf : r.fault = 0) {t : List Int} (ht : t.length = 10) (h : r.possB r.wins t = true) : r.turn.possB r.turn.wins (turnT r.dug.length t) = true := by
  obtain ⟨hok, -, -, -, -⟩ := fault_ok hf
  have hd10 : r.dug.length ≤ 10 := by have := hok.dug; have := hok.n1; omega
  refine all_range.2 fun q hq => ?_
  rw [turn_len] at hq
  have hp := all_range.1 h (r.dug.length - 1 - q) (by omega)
  unfold RwD.possAt winD at *
  rw [turn_wins hf hq, turnT_at (by omega), if_pos hq]
  rw [Bool.and_eq_true, Bool.or_eq_true] at *
  refine ⟨hp.1, hp.2.imp id fun h2 => ?_⟩
  have := turn_fall1 hok ht (p := r.dug.length - 1 - q) (by omega) h2
  rwa [show r.dug.length - 1 - (r.dug.length - 1 - q) = q by omega] at this
theorem turn_fault (hf : r.fault = 0) : r.turn.fault = 0 := by
  obtain ⟨hok, hns, hdg, hlw, hln⟩ := fault_ok hf
  have hd := hok.dug
  refine fault_yes hlw (by show (r.ns.map _).length ≤ 40; rw [List.length_map]; exact hln) ?_
  unfold RwD.validB
  simp only [Bool.and_eq_true, inB_iff, decide_eq_true_eq, List.all_eq_true]
  refine ⟨⟨⟨⟨⟨⟨⟨⟨hok.n0, hok.n1⟩, fun y hy => hok.wk y hy⟩, hok.lag⟩, hok.sh⟩, hok.old⟩, (turn_ok hok).dug⟩, fun m hm => ?_⟩, fun y hy => ?_⟩
  · exact hdg m (List.mem_reverse.1 hm)
  · obtain ⟨x, hx, rfl⟩ := List.mem_map.1 hy
    have := hns x hx
    unfold RwD.haveB at *
    simp only [Bool.and_eq_true, inB_iff, decide_eq_true_eq] at *
    obtain ⟨⟨⟨h1, h2⟩, h3⟩, h4⟩ := this
    have e : (Nt.turn r.n x).p = ((r.dug.length - 1 - x.p.toNat : Nat) : Int) := by unfold Nt.turn; dsimp only; omega
    refine ⟨⟨⟨?_, h2⟩, ?_⟩, h4⟩
    · rw [e]; show (0 : Int) ≤ _ ∧ _ ≤ r.n - 1; omega
    · rw [e, turn_dg r (by omega)]
      have e2 : r.dg ((x.p.toNat : Nat) : Int) = r.dg x.p := by congr 1; omega
      rw [e2]; exact h3
theorem turn_can (hf : r.fault = 0) : r.turn.can = r.can := by
  obtain ⟨hok, -, -, -, -⟩ := fault_ok hf
  have hd10 : r.dug.length ≤ 10 := by have := hok.dug; have := hok.n1; omega
  have key : ∀ {x : RwD}, x.fault = 0 → x.can = true → x.turn.can = true := fun {x} hx h => by
    obtain ⟨hokx, -, -, -, -⟩ := fault_ok hx
    have hx10 : x.dug.length ≤ 10 := by have := hokx.dug; have := hokx.n1; omega
    exact early_can (turn_ok hokx) (turnT_trw hx10 (earliest_ok (r := x))) (turn_poss hx (earliest_ok (r := x)).len h)
  rw [Bool.eq_iff_iff]
  refine ⟨fun h => ?_, key hf⟩
  have := key (turn_fault hf) h
  rwa [turn_turn] at this
theorem turn_early (hf : r.fault = 0) (hc : r.can = true) {p : Nat} (hp : p < r.dug.length) : r.turn.earliest.getD (r.dug.length - 1 - p) 0 = r.earliest.getD p 0 := by
  have key : ∀ {x : RwD}, x.fault = 0 → x.can = true → ∀ q, q < x.dug.length → x.turn.earliest.getD (x.dug.length - 1 - q) 0 ≤ x.earliest.getD q 0 := fun {x} hx h q hq => by
    obtain ⟨hokx, -, -, -, -⟩ := fault_ok hx
    have hx10 : x.dug.length ≤ 10 := by have := hokx.dug; have := hokx.n1; omega
    have he := earliest_ok (r := x)
    have := early_least (turn_ok hokx) (turnT_trw hx10 he) (turn_poss hx he.len h) (x.dug.length - 1 - q) (by rw [turn_len]; omega)
    rw [turnT_at (by rw [he.len]; exact hx10), if_pos (by omega), show x.dug.length - 1 - (x.dug.length - 1 - q) = q by omega] at this
    exact this
  have h1 := key hf hc p hp
  have h2 := key (turn_fault hf) (by rw [turn_can hf]; exact hc) (r.dug.length - 1 - p) (by rw [turn_len]; omega)
  rw [turn_turn, turn_len, show r.dug.length - 1 - (r.dug.length - 1 - p) = p by omega] at h2
  omega
/-- May a plant be spared? -/
theorem spare_iff (hok : r.Ok) {p : Nat} (hp : p < r.dug.length) : r.possB (withoutD r.wins p) (r.earlyD (withoutD r.wins p)) = true ↔ ∃ t, TrW r.ws.length t ∧ r.possB r.wins t = true ∧ t.getD p 0 = 31 := by
  have hd10 : r.dug.length ≤ 10 := by have := hok.dug; have := hok.n1; omega
  rw [can_iff hok]
  constructor
  · rintro ⟨t, hT, ht⟩
    refine ⟨t, hT, poss_wide (r := r) (fun q k h => ?_) ht, ?_⟩
    · rw [winD_without' _ _ (by rw [r.wins_length]; omega), Bool.and_eq_true] at h; exact h.1
    · have h := all_range.1 ht p hp
      unfold RwD.possAt at h
      rw [Bool.and_eq_true, winD_without' _ _ (by rw [r.wins_length]; omega), Bool.and_eq_true] at h
      simpa using h.1.2
  · rintro ⟨t, hT, ht, h31⟩
    refine ⟨t, hT, all_range.2 fun q hq => ?_⟩
    have h := all_range.1 ht q hq
    unfold RwD.possAt at *
    rw [Bool.and_eq_true] at *
    refine ⟨?_, h.2⟩
    rw [winD_without' _ _ (by rw [r.wins_length]; omega), h.1, Bool.true_and]
    by_cases e : q = p
    · subst e; rw [h31]; simp
    · simp [e]
theorem turn_known (hf : r.fault = 0) (hc : r.can = true) {p : Nat} (hp : p < r.dug.length) : r.turn.knownD r.turn.wins r.turn.earliest (r.dug.length - 1 - p) = r.knownD r.wins r.earliest p := by
  have key : ∀ {x : RwD}, x.fault = 0 → ∀ q, q < x.dug.length → x.possB (withoutD x.wins q) (x.earlyD (withoutD x.wins q)) = true → x.turn.possB (withoutD x.turn.wins (x.dug.length - 1 - q)) (x.turn.earlyD (withoutD x.turn.wins (x.dug.length - 1 - q))) = true := fun {x} hx q hq h => by
    obtain ⟨hokx, -, -, -, -⟩ := fault_ok hx
    have hx10 : x.dug.length ≤ 10 := by have := hokx.dug; have := hokx.n1; omega
    obtain ⟨t, hT, ht, h31⟩ := (spare_iff hokx hq).1 h
    refine (spare_iff (turn_ok hokx) (by rw [turn_len]; omega)).2 ⟨_, turnT_trw hx10 hT, turn_poss hx hT.len ht, ?_⟩
    rw [turnT_at (by rw [hT.len]; exact hx10), if_pos (by omega), show x.dug.length - 1 - (x.dug.length - 1 - q) = q by omega, h31]
  have h1 := key hf p hp
  have h2 := key (turn_fault hf) (r.dug.length - 1 - p) (by rw [turn_len]; omega)
  rw [turn_turn, turn_len, show r.dug.length - 1 - (r.dug.length - 1 - p) = p by omega] at h2
  unfold RwD.knownD
  rw [turn_early hf hc hp]
  split
  · rfl
  · by_cases e : r.possB (withoutD r.wins p) (r.earlyD (withoutD r.wins p)) = true
    · rw [if_pos e, if_pos (h1 e)]
    · rw [if_neg e, if_neg (fun h => e (h2 h))]
theorem turn_last (r : RwD) {p : Nat} (hp : p < r.dug.length) : r.turn.lastB (r.dug.length - 1 - p) = r.lastB p := by
  unfold RwD.lastB
  rw [turn_dg r hp]; rfl
theorem turn_ill (hN : r.dug.length ≤ 10) {t s : List Int} (h : ∀ p, p < r.dug.length → s.getD (r.dug.length - 1 - p) 0 = t.getD p 0) : (r.turn.illB s).length = (r.illB t).length := by
  refine Nat.le_antisymm ?_ ?_
  · have := length_le_sub (l := r.turn.illB s) (m := (r.illB t).map fun q => r.dug.length - 1 - q) illB_nodup fun p hp => ?_
    · rwa [List.length_map] at this
    · obtain ⟨⟨h1, h2⟩, h3⟩ := mem_illB.1 hp
      rw [turn_len] at h1
      refine List.mem_map.2 ⟨r.dug.length - 1 - p, mem_illB.2 ⟨⟨by omega, ?_⟩, ?_⟩, by omega⟩
      · rw [← turn_last r (by omega), show r.dug.length - 1 - (r.dug.length - 1 - p) = p by omega]; exact h2
      · rw [← h _ (by omega), show r.dug.length - 1 - (r.dug.length - 1 - p) = p by omega]; exact h3
  · have := length_le_sub (l := r.illB t) (m := (r.turn.illB s).map fun q => r.dug.length - 1 - q) illB_nodup fun p hp => ?_
    · rwa [List.length_map] at this
    · obtain ⟨⟨h1, h2⟩, h3⟩ := mem_illB.1 hp
      refine List.mem_map.2 ⟨r.dug.length - 1 - p, mem_illB.2 ⟨⟨by rw [turn_len]; omega, ?_⟩, ?_⟩, by omega⟩
      · rw [turn_last r h1]; exact h2
      · rw [h _ h1]; exact h3
theorem turn_least (hf : r.fault = 0) {m : Nat} (h : Least r r.wins m) : Least r.turn r.turn.wins m := by
  obtain ⟨hok, -, -, -, -⟩ := fault_ok hf
  have hd10 : r.dug.length ≤ 10 := by have := hok.dug; have := hok.n1; omega
  have hT2 : ∀ {t : List Int}, t.length = 10 → (r.turn.illB (turnT r.dug.length t)).length = (r.illB t).length := fun {t} ht => turn_ill hd10 fun p hp => by
    rw [turnT_at (by omega), if_pos (by omega), show r.dug.length - 1 - (r.dug.length - 1 - p) = p by omega]
  refine ⟨fun t hT ht => ?_, ?_⟩
  · have h1 := turn_poss (turn_fault hf) hT.len ht
    rw [turn_turn, turn_len] at h1
    have h2 := h.le _ (turnT_trw hd10 hT) h1
    have h3 := hT2 (t := turnT r.dug.length t) ((turnT_trw hd10 hT).len)
    rw [turnT_turnT (by rw [hT.len]; exact hd10)] at h3
    omega
  · obtain ⟨t, hT, ht, he⟩ := h.at_
    exact ⟨_, turnT_trw hd10 hT, turn_poss hf hT.len ht, by rw [hT2 hT.len, he]⟩
end
end Go.Proofs.Ytebkhgficochoaa

/- A row of the law's own, written in place. -/
namespace Go.Proofs.Ytebkhgficochoaa
open Go.RowKit Go.Lib

theorem own_set_cell {w : World} {base k : Nat} {e : TypeId} {A : Option Addr} {n c g i : Nat} {xs : List Value} {u : Value} (h : w.ownsRow base e k (.slice A n c) n xs) (hA : A = some ⟨g, 0, none⟩) (_hi : i < xs.length) :
    (w.setCell ⟨g, i, none⟩ u).ownsRow base e k (.slice A n c) n (xs.set i u) := by
  subst hA
  refine ⟨by rw [List.length_set]; exact h.1, ?_⟩
  rcases h.2 with ⟨hv, h0⟩ | ⟨g', cap, cur, hv, hbg, hgg, hnc, hcm, hcs, htake⟩
  · cases hv
  · cases hv
    refine .inr ⟨g, c, cur.setIfInBounds i u, rfl, hbg, ?_, hnc, hcm, by simpa using hcs, ?_⟩
    · exact (show Lies w g e cur from hgg).set i u
    · rw [← htake, Array.toList_setIfInBounds, List.take_set]
theorem flat_set {α : Type} {enc : α → List Value} {k : Nat} (hk : ∀ x, (enc x).length = k) {q : Nat} {u : Value} {y z : α} (hq : q < k) (hy : enc y = (enc z).set q u) : ∀ (l : List α) (p : Nat), l[p]? = some z → (l.flatMap enc).set (p * k + q) u = (l.set p y).flatMap enc
  | [], p, h => by simp at h
  | x :: l, 0, h => by
    simp at h; subst h
    rw [List.flatMap_cons, List.set_cons_zero, List.flatMap_cons, List.set_append_left _ _ (by rw [hk]; omega), hy]
    simp
  | x :: l, p + 1, h => by
    rw [List.flatMap_cons, List.set_cons_succ, List.flatMap_cons, List.set_append_right _ _ (by rw [hk, Nat.add_mul]; omega), hk, ← flat_set hk hq hy l p (by simpa using h)]
    congr 2
    rw [Nat.add_mul]; omega
section
variable {w W : World} {g B2 : Nat} {q : RwM}
theorem int_ne_note : (3 : TypeId) ≠ 61 := by decide
theorem own_addr {base k : Nat} {e : TypeId} {A : Option Addr} {n c : Nat} {xs : List Value} (h : W.ownsRow base e k (.slice A n c) n xs) (hn : 0 < n) : ∃ g5 cur, A = some ⟨g5, 0, none⟩ ∧ base ≤ g5 ∧ Lies W g5 e cur := by
  rcases h.2 with ⟨hv, h0⟩ | ⟨g', cap, cur, hv, hbg, hgg, _⟩
  · omega
  · cases hv; exact ⟨g', cur, rfl, hbg, hgg⟩
/-- The row with another number for a plant dug. -/
def RwM.dugS (q : RwM) (p : Nat) (v : Int) : RwM := { q with dug := ⟨q.dug.A, q.dug.l.set p v, q.dug.c⟩ }
theorem RowX.dugSet (h : RowX w g B2 q W) {p : Nat} (hp : p < q.dug.l.length) : ∃ g5, q.dug.A = some ⟨g5, 0, none⟩ ∧ (∃ y, W.cell? ⟨g5, p, none⟩ = some (.int .i64 y)) ∧ W.frozen? ⟨g5, p, none⟩ = false ∧ ∀ v, RowX w g B2 (q.dugS p v) (W.setCell ⟨g5, p, none⟩ (.int .i64 v)) := by
  obtain ⟨g5, cur, hA, hb5, hl5⟩ := own_addr h.dg (by omega)
  obtain ⟨z, hz⟩ : ∃ z, q.dug.l[p]? = some z := ⟨q.dug.l[p], by simp [hp]⟩
  obtain ⟨A', c', e1, -, hS⟩ := Sl.of_own (enc := encI) (fun _ => rfl) h.dg rfl
  cases e1
  obtain ⟨b, off, e2, hbl, hc⟩ := hS.cell1 hz
  rw [hA] at e2
  cases e2
  refine ⟨g5, hA, ⟨z, by simpa using hc⟩, hl5.free p, fun v => ?_⟩
  have hO := Only.set g5 p W (.int .i64 v)
  have hne : g ≠ g5 := lies_ne h.o hl5 row_ne_int
  have hln : (q.dug.l.set p v).length = q.dug.l.length := List.length_set
  refine ⟨?_, hO.below h.b hb5, h.g0, h.B0, by rw [hO.size]; exact h.B1, hO.slNe h.ws (fun a e => by have := h.ap a _ e hA; dsimp only at this; omega), h.wg, h.ap, ?_, h.db, ?_, h.lw, h.ln, by show (q.dug.l.set p v).length ≤ 15; rw [hln]; exact h.ld, h.kn, fun e => by show (q.dug.l.set p v).length = 0 ∧ _; rw [hln]; exact h.nn e⟩
  · have h1 := hO.lies h.o hne
    unfold RwM.dugS RwM.cells at *
    simpa using h1
  · have h1 := own_set_cell (u := .int .i64 v) h.dg hA (i := p) (by rw [flat_len (enc := encI) (k := 1) (fun _ => rfl), Nat.mul_one]; exact hp)
    have h2 := flat_set (enc := encI) (k := 1) (fun _ => rfl) (q := 0) (u := .int .i64 v) (y := v) (z := z) (by omega) rfl q.dug.l p hz
    rw [Nat.mul_one, Nat.add_zero] at h2
    rw [h2] at h1
    unfold RwM.dugS
    dsimp only
    rw [hln]; exact h1
  · exact own_keep h.ns fun j hj => hO.block j (by
      obtain ⟨_, _, cs, hcs⟩ := own_at h.ns hj
      exact (lies_ne hl5 hcs int_ne_note).symm)
/-- The row with another plant for a note. -/
def RwM.noteS (q : RwM) (p : Nat) (y : Nt) : RwM := { q with ns := ⟨q.ns.A, q.ns.l.set p y, q.ns.c⟩ }
theorem RowX.noteSet (h : RowX w g B2 q W) {p : Nat} {z : Nt} (hz : q.ns.l[p]? = some z) : ∃ g7, q.ns.A = some ⟨g7, 0, none⟩ ∧ W.cell? ⟨g7, p * 4, none⟩ = some (.int .i64 z.p) ∧ W.frozen? ⟨g7, p * 4, none⟩ = false ∧ ∀ v, RowX w g B2 (q.noteS p { z with p := v }) (W.setCell ⟨g7, p * 4, none⟩ (.int .i64 v)) := by
  have hp := (List.getElem?_eq_some_iff.1 hz).1
  obtain ⟨g7, cur, hA, hb7, hl7⟩ := own_addr h.ns (by omega)
  obtain ⟨A', c', e1, -, hS⟩ := Sl.of_own (enc := encN) (fun _ => rfl) h.ns rfl
  cases e1
  obtain ⟨b, off, e2, hbl, hc, -⟩ := hS.cellN hz
  rw [hA] at e2
  cases e2
  refine ⟨g7, hA, by simpa using hc, hl7.free _, fun v => ?_⟩
  have hO := Only.set g7 (p * 4) W (.int .i64 v)
  have hne : g ≠ g7 := lies_ne h.o hl7 row_ne_note
  have hln : (q.ns.l.set p { z with p := v }).length = q.ns.l.length := List.length_set
  refine ⟨?_, hO.below h.b (Nat.le_trans h.B0 hb7), h.g0, h.B0, by rw [hO.size]; exact h.B1, h.ws.below (hO.below (Below.refl _ _) hb7), h.wg, h.ap, ?_, h.db, ?_, h.lw, by show (q.ns.l.set p { z with p := v }).length ≤ 46; rw [hln]; exact h.ln, h.ld, fun y hy => ?_, h.nn⟩
  · have h1 := hO.lies h.o hne
    unfold RwM.noteS RwM.cells at *
    simpa using h1
  · exact own_keep h.dg fun j hj => hO.block j (by
      obtain ⟨a, ha, rfl⟩ := own_blk hj
      have := h.db a ha; omega)
  · have h1 := own_set_cell (u := .int .i64 v) h.ns hA (i := p * 4 + 0) (by rw [flat_len (enc := encN) (k := 4) (fun _ => rfl)]; omega)
    have h2 := flat_set (enc := encN) (k := 4) (fun _ => rfl) (q := 0) (u := .int .i64 v) (y := { z with p := v }) (z := z) (by omega) rfl q.ns.l p hz
    rw [h2] at h1
    unfold RwM.noteS
    dsimp only
    rw [hln]; exact h1
  · rcases List.mem_or_eq_of_mem_set hy with h1 | rfl
    · exact h.kn y h1
    · exact h.kn z (List.mem_of_getElem? hz)
end
/-- The first k of a list turned. -/
def turnK (k : Nat) (l : List Int) : List Int := l.reverse.take k ++ l.drop k
theorem turnK_zero (l : List Int) : turnK 0 l = l := by simp [turnK]
theorem turnK_all (l : List Int) : turnK l.length l = l.reverse := by unfold turnK; rw [List.drop_eq_nil_of_le (Nat.le_refl _), List.append_nil, List.take_of_length_le (by simp)]
theorem turnK_length (k : Nat) (l : List Int) (hk : k ≤ l.length) : (turnK k l).length = l.length := by unfold turnK; rw [List.length_append, List.length_take, List.length_drop, List.length_reverse]; omega
theorem turnK_succ (k : Nat) (l : List Int) (hk : k < l.length) : (turnK k l).set k (l[l.length - 1 - k]'(by omega)) = turnK (k + 1) l := by
  refine List.ext_getElem? fun i => ?_
  unfold turnK
  have hr : (l.reverse.take k).length = k := by rw [List.length_take, List.length_reverse]; omega
  have hr1 : (l.reverse.take (k + 1)).length = k + 1 := by rw [List.length_take, List.length_reverse]; omega
  rw [List.getElem?_set]
  by_cases e : k = i
  · subst e
    rw [if_pos rfl, if_pos (by rw [List.length_append, hr, List.length_drop]; omega), List.getElem?_append_left (by omega), List.getElem?_take, if_pos (by omega), List.getElem?_reverse (by omega), List.getElem?_eq_getElem (by omega)]
  · rw [if_neg e]
    by_cases h : i < k
    · rw [List.getElem?_append_left (by omega), List.getElem?_append_left (by omega), List.getElem?_take, List.getElem?_take, if_pos h, if_pos (by omega)]
    · rw [List.getElem?_append_right (by omega), List.getElem?_append_right (by omega), hr, hr1, List.getElem?_drop, List.getElem?_drop]
      congr 1; omega
end Go.Proofs.Ytebkhgficochoaa
