/- The texts SD SE SF SG SH SI, joined. -/
import Derived.Test.YtebkhgficochoaaXE
import Derived.WideKeyPair
import Derived.Maps.Own
import Derived.Test.YtebkhgficochoaaXF
import Derived.Test.YtebkhgficochoaaXG
/- The least number of ill plants: the search's mathematics. -/
namespace Go.Proofs.Ytebkhgficochoaa
open Go.RowKit Go.Lib

/-- The windows, where some plants are spared. -/
def spareW (ws : List (Int × Int)) (S : List Bool) : List (Int × Int) := ws.mapIdx fun p w => if S.getD p false then andD w (31, 31) else w
theorem spareW_length (ws : List (Int × Int)) (S : List Bool) : (spareW ws S).length = ws.length := by simp [spareW]
theorem spareW_at (ws : List (Int × Int)) (S : List Bool) (p : Nat) (hp : p < ws.length) : winAt (spareW ws S) p = if S.getD p false then andD (winAt ws p) (31, 31) else winAt ws p := by
  unfold winAt spareW
  simp only [List.getD, List.getElem?_mapIdx, List.getElem?_eq_getElem hp, Option.map_some, Option.getD_some]
  rfl
theorem getD_setB (S : List Bool) (p i : Nat) (hp : p < S.length) : (S.set p true).getD i false = if i = p then true else S.getD i false := by
  simp only [List.getD, List.getElem?_set]
  by_cases e : p = i
  · subst e; rw [if_pos rfl, if_pos hp, if_pos rfl]; rfl
  · rw [if_neg e, if_neg (fun h => e h.symm)]
theorem spareW_set (ws : List (Int × Int)) (S : List Bool) (p : Nat) (hp : p < ws.length) (hs : p < S.length) (h : S.getD p false = false) : withoutD (spareW ws S) p = spareW ws (S.set p true) := by
  refine List.ext_getElem? fun i => ?_
  unfold withoutD
  rw [List.getElem?_set]
  by_cases e : p = i
  · subst e
    rw [if_pos rfl, if_pos (by rw [spareW_length]; exact hp), spareW_at _ _ _ hp, h]
    unfold spareW winAt
    rw [List.getElem?_mapIdx, List.getElem?_eq_getElem hp, Option.map_some, getD_setB S p p hs, if_pos rfl]
    simp [List.getD, List.getElem?_eq_getElem hp]
  · rw [if_neg e]
    unfold spareW
    rw [List.getElem?_mapIdx, List.getElem?_mapIdx, getD_setB S p i hs, if_neg (fun h => e h.symm)]
theorem spareW_none (ws : List (Int × Int)) : spareW ws (List.replicate 10 false) = ws := by
  refine List.ext_getElem? fun i => ?_
  unfold spareW
  rw [List.getElem?_mapIdx]
  have : (List.replicate 10 false).getD i false = false := by
    simp only [List.getD, List.getElem?_replicate]; split <;> rfl
  rw [this]; simp
theorem winD_spare (ws : List (Int × Int)) (S : List Bool) (p : Nat) (t : Int) (hp : p < ws.length) : winD (spareW ws S) p t = (winD ws p t && (!S.getD p false || decide (t = 31))) := by
  unfold winD
  rw [spareW_at _ _ _ hp]
  cases S.getD p false
  · simp
  · rw [if_pos rfl, Bool.eq_iff_iff]
    simp only [Bool.and_eq_true, inB_iff, Bool.not_true, Bool.false_or, decide_eq_true_eq]
    unfold andD
    dsimp only
    omega
/-- The ill plants that count, of a truth. -/
def RwD.illB (r : RwD) (t : List Int) : List Nat := (thoseD r.lastB r.dug.length).filter fun q => decide (t.getD q 0 ≤ r.ws.length)
/-- Of the earliest truth, where some are spared: can it be, and who is ill? -/
def RwD.canS (r : RwD) (ws : List (Int × Int)) (S : List Bool) : Bool := r.possB (spareW ws S) (r.earlyD (spareW ws S))
def RwD.illS (r : RwD) (ws : List (Int × Int)) (S : List Bool) : List Nat := r.illB (r.earlyD (spareW ws S))
section
variable {r : RwD} {ws : List (Int × Int)}
/-- What was tried is done with. -/
def Closed (r : RwD) (ws : List (Int × Int)) (T : List (List Bool)) (m : Nat) (S : List Bool) : Prop :=
  r.canS ws S = true → m ≤ (r.illS ws S).length ∧ ∀ p, p ∈ r.illS ws S → S.set p true ∈ T
theorem Closed.mono {T T' : List (List Bool)} {m m' : Nat} {S : List Bool} (h : Closed r ws T m S) (hT : ∀ x, x ∈ T → x ∈ T') (hm : m' ≤ m) : Closed r ws T' m' S :=
  fun hc => ⟨Nat.le_trans hm (h hc).1, fun p hp => hT _ ((h hc).2 p hp)⟩
/-- What a call of the search does to the sets that were tried, and the least number. -/
structure Tried (r : RwD) (ws : List (Int × Int)) (T : List (List Bool)) (m : Nat) (S : List Bool) (T' : List (List Bool)) (m' : Nat) : Prop where
  sub : ∀ x, x ∈ T → x ∈ T'
  mem : S ∈ T'
  le : m' ≤ m
  cl : ∀ x, x ∈ T' → x ∉ T → Closed r ws T' m' x
  at_ : m' = m ∨ ∃ x, r.canS ws x = true ∧ (r.illS ws x).length = m'
theorem Tried.hit {T : List (List Bool)} {m : Nat} {S : List Bool} (h : S ∈ T) : Tried r ws T m S T m := ⟨fun _ h => h, h, Nat.le_refl _, fun _ h h2 => absurd h h2, .inl rfl⟩
theorem Tried.sick {T : List (List Bool)} {m : Nat} {S : List Bool} (h : r.canS ws S = false) : Tried r ws T m S (S :: T) m :=
  ⟨fun _ h => List.mem_cons_of_mem _ h, List.mem_cons_self, Nat.le_refl _, fun x hx hn => by
    rcases List.mem_cons.1 hx with rfl | hx
    · intro hc; rw [h] at hc; cases hc
    · exact absurd hx hn, .inl rfl⟩
/-- In the loop over those who are ill. -/
structure TryL (r : RwD) (ws : List (Int × Int)) (T : List (List Bool)) (m : Nat) (S : List Bool) (k : Nat) (T' : List (List Bool)) (m' : Nat) : Prop where
  sub : ∀ x, x ∈ S :: T → x ∈ T'
  le : m' ≤ m
  li : m' ≤ (r.illS ws S).length
  cl : ∀ x, x ∈ T' → x ∉ S :: T → Closed r ws T' m' x
  dn : ∀ j p, j < k → (r.illS ws S)[j]? = some p → S.set p true ∈ T'
  at_ : m' = m ∨ ∃ x, r.canS ws x = true ∧ (r.illS ws x).length = m'
theorem TryL.start {T : List (List Bool)} {m : Nat} {S : List Bool} (h : r.canS ws S = true) : TryL r ws T m S 0 (S :: T) (min m (r.illS ws S).length) :=
  ⟨fun _ h => h, Nat.min_le_left _ _, Nat.min_le_right _ _, fun _ h h2 => absurd h h2, fun _ _ h => absurd h (Nat.not_lt_zero _), by
    by_cases e : m ≤ (r.illS ws S).length
    · exact .inl (Nat.min_eq_left e)
    · exact .inr ⟨S, h, (Nat.min_eq_right (by omega)).symm⟩⟩
theorem TryL.next {T T1 T2 : List (List Bool)} {m m1 m2 k p : Nat} {S : List Bool} (h : TryL r ws T m S k T1 m1) (hp : (r.illS ws S)[k]? = some p) (ht : Tried r ws T1 m1 (S.set p true) T2 m2) : TryL r ws T m S (k + 1) T2 m2 := by
  refine ⟨fun x hx => ht.sub x (h.sub x hx), Nat.le_trans ht.le h.le, Nat.le_trans ht.le h.li, fun x hx hn => ?_, fun j q hj hq => ?_, ?_⟩
  · by_cases e : x ∈ T1
    · exact (h.cl x e hn).mono ht.sub ht.le
    · exact ht.cl x hx e
  · by_cases e : j = k
    · subst e; rw [hp] at hq; cases hq; exact ht.mem
    · exact ht.sub _ (h.dn j q (by omega) hq)
  · rcases ht.at_ with e | e
    · rw [e]; exact h.at_
    · exact .inr e
theorem TryL.done {T T1 : List (List Bool)} {m m1 : Nat} {S : List Bool} (h : TryL r ws T m S (r.illS ws S).length T1 m1) : Tried r ws T m S T1 m1 := by
  refine ⟨fun x hx => h.sub x (List.mem_cons_of_mem _ hx), h.sub S List.mem_cons_self, h.le, fun x hx hn => ?_, h.at_⟩
  by_cases e : x = S
  · subst e
    exact fun _ => ⟨h.li, fun p hp => by
      obtain ⟨j, hj, rfl⟩ := List.getElem_of_mem hp
      exact h.dn j _ hj (by simp [hj])⟩
  · exact h.cl x hx (by simp [e, hn])
end
def falses (S : List Bool) : Nat := (S.filter (! ·)).length
theorem falses_set : ∀ {S : List Bool} {p : Nat}, S.getD p false = false → p < S.length → falses (S.set p true) + 1 = falses S
  | [], _, _, h => by simp at h
  | b :: S, 0, h, _ => by
    have : b = false := by simpa using h
    subst this
    simp [falses]
  | b :: S, p + 1, h, hp => by
    have ih := falses_set (S := S) (p := p) (by simpa using h) (by simpa using hp)
    unfold falses at *
    cases b <;> simp_all <;> omega
theorem mem_illB {r : RwD} {t : List Int} {p : Nat} : p ∈ r.illB t ↔ (p < r.dug.length ∧ r.lastB p = true) ∧ t.getD p 0 ≤ r.ws.length := by
  unfold RwD.illB thoseD
  rw [List.mem_filter, List.mem_filter, List.mem_range, decide_eq_true_eq]
theorem illB_nodup {r : RwD} {t : List Int} : (r.illB t).Nodup := by
  unfold RwD.illB thoseD
  exact (List.nodup_range.filter _).filter _
/-- Who is spared is not ill. -/
theorem ill_free {r : RwD} (hok : r.Ok) {ws : List (Int × Int)} (hws : ws.length = 10) {S : List Bool} (hc : r.canS ws S = true) {p : Nat} (hp : p ∈ r.illS ws S) : S.getD p false = false ∧ p < 10 := by
  obtain ⟨⟨h1, h2⟩, h3⟩ := mem_illB.1 hp
  have hn10 : r.dug.length ≤ 10 := by have := hok.dug; have := hok.n1; omega
  have hw30 := hok.nw
  refine ⟨?_, by omega⟩
  have h := all_range.1 hc p h1
  unfold RwD.possAt at h
  rw [Bool.and_eq_true, winD_spare _ _ _ _ (by omega), Bool.and_eq_true, Bool.or_eq_true, decide_eq_true_eq] at h
  rcases h.1.2 with h4 | h4
  · simpa using h4
  · omega
/-- A truth is possible where those are spared that it spares. -/
theorem poss_set {r : RwD} {ws : List (Int × Int)} (hws : ws.length = 10) (hn10 : r.dug.length ≤ 10) {S : List Bool} (hS : S.length = 10) {t : List Int} (ht : r.possB (spareW ws S) t = true) {p : Nat} (hp : t.getD p 0 = 31) (hp10 : p < 10) : r.possB (spareW ws (S.set p true)) t = true := by
  refine all_range.2 fun q hq => ?_
  have h := all_range.1 ht q hq
  unfold RwD.possAt at *
  rw [Bool.and_eq_true, winD_spare _ _ _ _ (by omega), Bool.and_eq_true, Bool.or_eq_true] at *
  refine ⟨⟨h.1.1, ?_⟩, h.2⟩
  rw [getD_setB S p q (by omega)]
  split
  · rename_i e; subst e; right; simpa using hp
  · exact h.1.2
theorem poss_of_spare {r : RwD} {ws : List (Int × Int)} (hws : ws.length = 10) (hn10 : r.dug.length ≤ 10) {S : List Bool} {t : List Int} (ht : r.possB (spareW ws S) t = true) : r.possB ws t = true := by
  refine all_range.2 fun q hq => ?_
  have h := all_range.1 ht q hq
  unfold RwD.possAt at *
  rw [Bool.and_eq_true, winD_spare _ _ _ _ (by omega), Bool.and_eq_true] at h
  rw [Bool.and_eq_true]
  exact ⟨h.1.1, h.2⟩
theorem length_le_sub {l m : List Nat} (hl : l.Nodup) (h : ∀ x, x ∈ l → x ∈ m) : l.length ≤ m.length := by
  induction l generalizing m with
  | nil => simp
  | cons x l ih =>
    have hx := h x (by simp)
    have h2 := ih (List.nodup_cons.1 hl).2 (m := m.erase x) (fun y hy => (List.mem_erase_of_ne (show y ≠ x from fun e => (List.nodup_cons.1 hl).1 (by subst e; exact hy))).2 (h y (by simp [hy])))
    rw [List.length_erase_of_mem hx] at h2
    have := List.length_pos_of_mem hx
    simp; omega
/-- No truth has fewer. -/
theorem tried_least {r : RwD} (hok : r.Ok) {ws : List (Int × Int)} (hws : ws.length = 10) {T : List (List Bool)} {m : Nat} (hT : ∀ x, x ∈ T → Closed r ws T m x) {t : List Int} (hTr : TrW r.ws.length t) :
    ∀ k (S : List Bool), falses S = k → S.length = 10 → S ∈ T → r.possB (spareW ws S) t = true → m ≤ (r.illB t).length := by
  have hn10 : r.dug.length ≤ 10 := by have := hok.dug; have := hok.n1; omega
  intro k
  induction k with
  | zero =>
    intro S hk hl hm ht
    have hc : r.canS ws S = true := early_can hok hTr ht
    obtain ⟨h1, h2⟩ := hT S hm hc
    refine Nat.le_trans h1 (length_le_sub illB_nodup fun p hp => ?_)
    obtain ⟨hf, h10⟩ := ill_free hok hws hc hp
    have := falses_set hf (by omega)
    omega
  | succ k ih =>
    intro S hk hl hm ht
    have hc : r.canS ws S = true := early_can hok hTr ht
    obtain ⟨h1, h2⟩ := hT S hm hc
    by_cases hall : ∀ p, p ∈ r.illS ws S → p ∈ r.illB t
    · exact Nat.le_trans h1 (length_le_sub illB_nodup hall)
    · obtain ⟨p, hp⟩ := Classical.not_forall.1 hall
      obtain ⟨hp, hnp⟩ := Classical.not_imp.1 hp
      obtain ⟨hf, h10⟩ := ill_free hok hws hc hp
      have hmb := (mem_illB.1 hp).1
      have h31 : t.getD p 0 = 31 := by
        refine (hTr.b p).resolve_right fun h => hnp (mem_illB.2 ⟨hmb, h.2⟩)
      have := falses_set hf (by omega)
      exact ih (S.set p true) (by omega) (by rw [List.length_set]; exact hl) (h2 p hp) (poss_set hws hn10 hl ht h31 h10)
/-- What the search finds is the least number of all truths, if one is possible. -/
structure Least (r : RwD) (ws : List (Int × Int)) (m : Nat) : Prop where
  le : ∀ t, TrW r.ws.length t → r.possB ws t = true → m ≤ (r.illB t).length
  at_ : ∃ t, TrW r.ws.length t ∧ r.possB ws t = true ∧ (r.illB t).length = m
theorem tried_all {r : RwD} (hok : r.Ok) {ws : List (Int × Int)} (hws : ws.length = 10) (hc : r.possB ws (r.earlyD ws) = true) {T : List (List Bool)} {m : Nat} (h : Tried r ws [] r.dug.length (List.replicate 10 false) T m) : Least r ws m := by
  have hn10 : r.dug.length ≤ 10 := by have := hok.dug; have := hok.n1; omega
  have hcl : ∀ x, x ∈ T → Closed r ws T m x := fun x hx => h.cl x hx (by simp)
  have hc0 : r.canS ws (List.replicate 10 false) = true := by unfold RwD.canS; rw [spareW_none]; exact hc
  refine ⟨fun t hTr ht => tried_least hok hws hcl hTr _ (List.replicate 10 false) rfl (by simp) h.mem (by rw [spareW_none]; exact ht), ?_⟩
  have key : ∃ x, r.canS ws x = true ∧ (r.illS ws x).length = m := by
    rcases h.at_ with e | e
    · refine ⟨_, hc0, ?_⟩
      have h1 := (hcl _ h.mem hc0).1
      have h2 : (r.illS ws (List.replicate 10 false)).length ≤ r.dug.length := by
        unfold RwD.illS RwD.illB thoseD
        exact Nat.le_trans (List.length_filter_le _ _) (Nat.le_trans (List.length_filter_le _ _) (by simp))
      omega
    · exact e
  obtain ⟨x, hx, he⟩ := key
  exact ⟨r.earlyD (spareW ws x), early_ok r _, poss_of_spare hws hn10 hx, he⟩
theorem Least.uniq {r : RwD} {ws : List (Int × Int)} {m m' : Nat} (h : Least r ws m) (h' : Least r ws m') : m = m' := by
  obtain ⟨t, h1, h2, h3⟩ := h.at_
  obtain ⟨t', h1', h2', h3'⟩ := h'.at_
  have := h.le t' h1' h2'
  have := h'.le t h1 h2
  omega
end Go.Proofs.Ytebkhgficochoaa

/- A map of sets of plants, as a set of them; worlds of which two blocks have turned. -/
namespace Go.Proofs.Ytebkhgficochoaa
open Go.RowKit Go.Lib
open Go.WideMaps (ArrKey KeyLaw)
open Go.ChangeMaps (setBlock heap_setBlock_same heap_setBlock_other)

def boolsL (S : List Bool) : List Value := S.map Value.bool
theorem boolsL_length (S : List Bool) : (boolsL S).length = S.length := by simp [boolsL]
theorem boolsL_one (S : List Bool) : ∀ v ∈ boolsL S, v.oneCell' = true := by
  intro v hv
  obtain ⟨x, _, rfl⟩ := List.mem_map.1 hv
  rfl
theorem arrB : ArrKey Try.prog 120 4 10 := ⟨Try.underlying120, by kernel_rfl, by kernel_rfl, by kernel_rfl⟩
theorem keyB_law : KeyLaw Try.prog 120 := arrB.law
theorem types_pos : ∃ m, Try.prog.types.size = m + 1 := ⟨Try.prog.types.size - 1, by kernel_rfl⟩
theorem keyOfB {S : List Bool} (h : S.length = 10) : ∃ kl, keyOf Try.prog 120 (.agg (boolsL S).toArray) = some kl := by
  obtain ⟨a, b, c, d, e, f, g, i, j, k, rfl⟩ : ∃ a b c d e f g i j k, S = [a, b, c, d, e, f, g, i, j, k] := by
    match S, h with
    | [a, b, c, d, e, f, g, i, j, k], _ => exact ⟨a, b, c, d, e, f, g, i, j, k, rfl⟩
  have hkt := arrB.keyType types_pos
  obtain ⟨m, hm⟩ := types_pos
  refine ⟨.string (keyBytes [.bool a, .bool b, .bool c, .bool d, .bool e, .bool f, .bool g, .bool i, .bool j, .bool k]), ?_⟩
  show keyOf _ _ (.agg #[.bool a, .bool b, .bool c, .bool d, .bool e, .bool f, .bool g, .bool i, .bool j, .bool k]) = _
  unfold keyOf
  simp only [arrB.hu]
  rw [if_pos (by simp [hkt, Value.formed, arrB.hu, arrB.size]), hm]
  unfold Program.keyLits
  simp only [arrB.hu, Value.cells]
  rw [if_pos (by rw [arrB.size]; rfl), show List.range 10 = [0, 1, 2, 3, 4, 5, 6, 7, 8, 9] from rfl]
  simp only [List.mapM_cons, List.mapM_nil]
  simp [arrB.one, Program.keyLits, Try.underlying4]
theorem bools_inj {a b : List Bool} (h : Value.agg (boolsL a).toArray = .agg (boolsL b).toArray) : a = b := by
  have h1 : (boolsL a).toArray = (boolsL b).toArray := by injection h
  have h2 : a.map Value.bool = b.map Value.bool := by
    have := congrArg Array.toList h1
    simpa [boolsL] using this
  exact (List.map_inj_right (fun x y e => by injection e)).1 h2
/-- Block b is a map of just the sets of T. -/
def SetM (w : World) (b : Nat) (T : List (List Bool)) : Prop :=
  ∃ es clock, w.heap[b]? = some (.map es clock) ∧ (∀ x, x ∈ es.toList → ∃ S, S ∈ T ∧ S.length = 10 ∧ x.key = .agg (boolsL S).toArray ∧ x.val = .bool true) ∧ ∀ S, S ∈ T → ∃ x, x ∈ es.toList ∧ x.key = .agg (boolsL S).toArray
theorem SetM.in_ {w : World} {b : Nat} {T : List (List Bool)} (h : SetM w b T) : b < w.heap.size := by
  obtain ⟨es, clock, hb, _⟩ := h
  exact (Array.getElem?_eq_some_iff.1 hb).1
theorem SetM.to_ {w w' : World} {b : Nat} {T : List (List Bool)} (h : SetM w b T) (e : w'.heap[b]? = w.heap[b]?) : SetM w' b T := by
  obtain ⟨es, clock, hm, r⟩ := h
  exact ⟨es, clock, e.trans hm, r⟩
theorem SetM.call {w w' : World} {b : Nat} {T : List (List Bool)} (h : SetM w b T) (hb : Below w.heap.size w w') : SetM w' b T := h.to_ (hb.block b h.in_)
theorem SetM.ne {w : World} {b g : Nat} {T : List (List Bool)} {t : TypeId} {cs : Array Value} (h : SetM w b T) (hl : Lies w g t cs) : b ≠ g := by
  rintro rfl
  obtain ⟨es, clock, hm, _⟩ := h
  unfold Lies at hl
  rw [hl] at hm; cases hm
theorem setM_made (w : World) : SetM (w.alloc (.map #[] 0)) w.heap.size [] := ⟨#[], 0, (MapKept.heap_alloc w _).1, by simp, by simp⟩
theorem setM_keys {es : Array MapEntry} {T : List (List Bool)} (h : ∀ x, x ∈ es.toList → ∃ S, S ∈ T ∧ S.length = 10 ∧ x.key = .agg (boolsL S).toArray ∧ x.val = .bool true) : ∀ x ∈ es.toList, ∃ l, keyOf Try.prog 120 x.key = some l := fun x hx => by
  obtain ⟨S, _, h5, e, _⟩ := h x hx
  rw [e]; exact keyOfB h5
theorem setM_look {w : World} {b : Nat} {T : List (List Bool)} (h : SetM w b T) {S : List Bool} (h5 : S.length = 10) :
    (Instr.lookup 117 (.map (some b)) (.agg (boolsL S).toArray) false).run Try.prog w = .ok (.bool (decide (S ∈ T))) w := by
  obtain ⟨es, clock, hb, hr, hT⟩ := h
  obtain ⟨kl, hk⟩ := keyOfB h5
  rcases keyB_law.find w hk es.toList (setM_keys hr) with ⟨h1, h2⟩ | ⟨j, e0, h1, h2, h3⟩
  · have hn : S ∉ T := fun hS => by
      obtain ⟨x, hx, hxk⟩ := hT S hS
      exact h2 x hx hxk
    rw [decide_eq_false hn]
    simp [Instr.lookup, run_underlying Try.underlying117, MapKept.run_getObj_map hb, keyB_law.check w _ hk, h1, Result.andThen]
  · obtain ⟨S', hS', _, e1, e2⟩ := hr e0 (List.mem_of_getElem? h2)
    obtain rfl := bools_inj (e1.symm.trans h3)
    rw [decide_eq_true hS']
    simp [Instr.lookup, run_underlying Try.underlying117, MapKept.run_getObj_map hb, keyB_law.check w _ hk, h1, e2, Result.andThen]
theorem setM_put {w : World} {b : Nat} {T : List (List Bool)} (h : SetM w b T) {S : List Bool} (h5 : S.length = 10) (hn : S ∉ T) :
    ∃ w', (Instr.mapUpdate 117 (.map (some b)) (.agg (boolsL S).toArray) (.bool true)).run Try.prog w = .ok () w' ∧ SetM w' b (S :: T) ∧ w.grownBy w' (some b) := by
  obtain ⟨es, clock, hb, hr, hT⟩ := h
  obtain ⟨kl, hk⟩ := keyOfB h5
  rcases keyB_law.find w hk es.toList (setM_keys hr) with ⟨h1, h2⟩ | ⟨j, e0, h1, h2, h3⟩
  · refine ⟨setBlock w b (.map (es.push ⟨.agg (boolsL S).toArray, .bool true, clock⟩) (clock + 1)), ?_, ⟨_, _, heap_setBlock_same hb _, fun x hx => ?_, fun S' hS' => ?_⟩, ⟨rfl, rfl, rfl, by simp [setBlock], fun i _ hi => heap_setBlock_other hb _ (fun e => hi (by rw [e]))⟩⟩
    · simp [Instr.mapUpdate, run_underlying Try.underlying117, MapKept.run_getObj_map hb, keyB_law.check w false hk, h1, MapKept.run_setObj_map _ hb, Result.andThen, setBlock]
    · simp only [Array.toList_push, List.mem_append, List.mem_singleton] at hx
      rcases hx with hx | rfl
      · obtain ⟨S', a1, a2, a3, a4⟩ := hr x hx
        exact ⟨S', List.mem_cons_of_mem _ a1, a2, a3, a4⟩
      · exact ⟨S, List.mem_cons_self, h5, rfl, rfl⟩
    · simp only [Array.toList_push, List.mem_append, List.mem_singleton]
      rcases List.mem_cons.1 hS' with rfl | hS'
      · exact ⟨_, .inr rfl, rfl⟩
      · obtain ⟨x, hx, hxk⟩ := hT S' hS'
        exact ⟨x, .inl hx, hxk⟩
  · exfalso
    obtain ⟨S', hS', _, e1, e2⟩ := hr e0 (List.mem_of_getElem? h2)
    exact hn (by rw [← bools_inj (e1.symm.trans h3)]; exact hS')
/-- Of w nothing but two blocks has turned; more may have been made. -/
structure St2 (b g : Nat) (w w' : World) : Prop where
  os : w'.os = w.os
  tape : w'.tape = w.tape
  output : w'.output = w.output
  size : w.heap.size ≤ w'.heap.size
  block : ∀ k, k < w.heap.size → k ≠ b → k ≠ g → w'.heap[k]? = w.heap[k]?
section
variable {b g : Nat} {w w' w'' : World}
theorem St2.refl (b g : Nat) (w : World) : St2 b g w w := ⟨rfl, rfl, rfl, Nat.le_refl _, fun _ _ _ _ => rfl⟩
theorem St2.trans (h : St2 b g w w') (h' : St2 b g w' w'') : St2 b g w w'' :=
  ⟨h'.os.trans h.os, h'.tape.trans h.tape, h'.output.trans h.output, Nat.le_trans h.size h'.size, fun k hk h1 h2 => (h'.block k (Nat.lt_of_lt_of_le hk h.size) h1 h2).trans (h.block k hk h1 h2)⟩
theorem St2.of_below (h : Below w.heap.size w w') : St2 b g w w' := ⟨h.os, h.tape, h.output, h.size, fun k hk _ _ => h.block k hk⟩
theorem St2.of_only1 (h : Only b w w') : St2 b g w w' := ⟨h.os, h.tape, h.output, by rw [h.size]; exact Nat.le_refl _, fun k _ h1 _ => h.block k h1⟩
theorem St2.of_only2 (h : Only g w w') : St2 b g w w' := ⟨h.os, h.tape, h.output, by rw [h.size]; exact Nat.le_refl _, fun k _ _ h1 => h.block k h1⟩
theorem St2.of_grown (h : w.grownBy w' (some g)) : St2 b g w w' := ⟨h.os, h.tape, h.output, h.size, fun k hk _ h1 => h.block k hk (by simpa using h1)⟩
theorem St2.lies (h : St2 b g w w') {k : Nat} {t : TypeId} {cs : Array Value} (hl : Lies w k t cs) (h1 : k ≠ b) (h2 : k ≠ g) : Lies w' k t cs := hl.to_ (h.block k hl.in_ h1 h2)
theorem St2.below {B : Nat} {w0 : World} (h : St2 b g w w') (hb : Below B w0 w) (h1 : B ≤ b) (h2 : B ≤ g) (hB : B ≤ w.heap.size) : Below B w0 w' :=
  ⟨h.os.trans hb.os, h.tape.trans hb.tape, h.output.trans hb.output, Nat.le_trans hb.size h.size, fun k hk => (h.block k (by omega) (by omega) (by omega)).trans (hb.block k hk)⟩
theorem St2.cell {w w' : World} (h : St2 b g w w') {k i : Nat} {v : Value} (hk : k < w.heap.size) (h1 : k ≠ b) (h2 : k ≠ g) (hc : w.cell? ⟨k, i, none⟩ = some v) : w'.cell? ⟨k, i, none⟩ = some v := by
  have := h.block k hk h1 h2
  rw [← hc]
  simp only [World.cell?, this]
end
section
variable {w : World} {ops : Array Oper} {rest : List Oper} {o : Oper} {a : Act} {Q : Exit → Act → World → Prop}
theorem wpList_look_set (hg : o.guard = none) (m x : Operand) (hop : o.op = Op.lookup 117 m x false) (b : Nat) (T : List (List Bool)) (hm : a.eval m = .map (some b)) (h : SetM w b T) (S : List Bool) (h5 : S.length = 10) (hx : a.eval x = .agg (boolsL S).toArray)
    (hK : wpList Try.prog ops Q rest (a.put o.dst (.bool (decide (S ∈ T)))) w) : wpList Try.prog ops Q (o :: rest) a w := by
  refine wpList_plain hg fun K' hK' => ?_
  have hrun := setM_look h h5
  unfold Oper.wp
  simp [execOp, hop, hm, hx, hrun, Result.andThen]
  exact hK' _ _ (by simpa using hK)
theorem wpList_put_set (hg : o.guard = none) (m x v : Operand) (hop : o.op = Op.mapUpdate 117 m x v) (b : Nat) (T : List (List Bool)) (hm : a.eval m = .map (some b)) (h : SetM w b T) (S : List Bool) (h5 : S.length = 10) (hn : S ∉ T) (hx : a.eval x = .agg (boolsL S).toArray) (hv : a.eval v = .bool true)
    (hK : ∀ w', SetM w' b (S :: T) → w.grownBy w' (some b) → wpList Try.prog ops Q rest (a.put o.dst undef) w') : wpList Try.prog ops Q (o :: rest) a w := by
  refine wpList_plain hg fun K' hK' => ?_
  obtain ⟨w', hrun, r1, r2⟩ := setM_put h h5 hn
  unfold Oper.wp
  simp [execOp, hop, hm, hx, hv, hrun, Result.andThen]
  exact hK' _ _ (hK w' r1 r2)
end
end Go.Proofs.Ytebkhgficochoaa

/- ill; the search for the least number of ill plants. -/
namespace Go.Proofs.Ytebkhgficochoaa
open Go.RowKit Go.Lib

def RwD.illI (r : RwD) (t : List Int) : List Int := (r.illB t).map fun q : Nat => (q : Int)
theorem illI_len (r : RwD) (t : List Int) : (r.illI t).length = (r.illB t).length := by simp [RwD.illI]
theorem illB_len (r : RwD) (t : List Int) : (r.illB t).length ≤ r.dug.length := by
  unfold RwD.illB thoseD
  exact Nat.le_trans (List.length_filter_le _ _) (Nat.le_trans (List.length_filter_le _ _) (by simp))
set_option maxRecDepth 100000 in
set_option maxHeartbeats 4000000 in
theorem ill_any (c : CoM) (t : List Int) (w : World) (hws : c.ws.length = 10) (hr : c.r.At w w.heap.size) (hok : c.r.d.Ok) (ht : t.length = 10) :
    Calls Try.prog 57 #[.agg c.cells.toArray, .agg (vals t)] w (RetOwn (c.r.d.illI t) w) := by
  have l0 : Lies ((w.alloc (.cells c.cells.toArray 84)).alloc (.cells (vals t) 86)) w.heap.size 84 c.cells.toArray := (Lies.fresh _ _ _).alloc _
  have l1 : Lies ((w.alloc (.cells c.cells.toArray 84)).alloc (.cells (vals t) 86)) (w.heap.size + 1) 86 (vals t) := Lies.fresh' (by simp)
  have b0 : Below w.heap.size w ((w.alloc (.cells c.cells.toArray 84)).alloc (.cells (vals t) 86)) := (by repeat (first | (with_reducible assumption) | (with_reducible exact Below.refl _ _) | (with_reducible refine Below.drew ?_) | (with_reducible refine below_drewN ?_ _) | ((with_reducible refine Below.setCell ?_ ?_ _); rotate_left; focus (first | (simp; done) | (simp; omega) | omega)) | ((with_reducible refine Below.alloc ?_ ?_ _); rotate_left; focus (first | (simp; done) | (simp; omega) | omega))))
  have hC : Calls Try.prog 81 #[.agg c.cells.toArray, .agg (vals t), .int .i64 (c.r.ws.l.length : Int)] _ (RetOwn (c.r.d.illI t) _) := cases_own c t (c.r.ws.l.length : Int) _ hws (hr.below b0 b0.size) hok ht
  have hsz : (Try.prog.info? 84).map (·.size) = some c.cells.toArray.size := by rw [List.size_toArray, c.len hws]; exact size_co
  have hst : (Try.prog.info? 86).map (·.size) = some t.length := by rw [ht]; exact size_tr
  generalize c.r.d.illI t = il at *
  have L0 := Lib.hid l0
  have L1 := Lib.hid l1
  have B0 := Lib.hid b0
  have HC := Lib.hid hC
  have HSZ := Lib.hid hsz
  have HST := Lib.hid hst
  clear l0 l1 b0 hC hsz hst hws hr hok ht
  go_enter Try.func57, Try.ntmps57
  go_upto_region 1 with (fail)
  change Code.wp _ _ _ _ ((w.alloc (.cells c.cells.toArray 84)).alloc (.cells (vals t) 86))
  generalize (w.alloc (.cells c.cells.toArray 84)).alloc (.cells (vals t) 86) = w0 at *
  have a1 : w0.cell? ⟨w.heap.size, 1, none⟩ = some (.slice c.r.ws.A c.r.ws.l.length c.r.ws.c) := by rw [L0.out.at_]; exact (co_at c).1
  go_wp2_with (first
    | (refine wpList_load_row (o := ⟨some 5, _, _, _, _, _⟩) ?_ 84 (.tmp 2) ?_ w.heap.size ?_ 84 c.cells.toArray (0, 0) _ L0.out Try.underlying84 rfl HSZ.out ?_; rfl; rfl; rfl)
    | (refine wpList_load_ints (o := ⟨some 6, _, _, _, _, _⟩) ?_ 86 (.tmp 3) ?_ (w.heap.size + 1) 0 ?_ 86 t t _ L1.out (fun j v h => by simpa using h) Try.underlying86 rfl HST.out ?_; rfl; rfl; rfl)
    | (go_at_call 81; refine HC.out.mono ?_; rintro e w5 ⟨A, cap, rfl, hO, hb5⟩))
  go_ret
  exact ⟨A, cap, rfl, ownsRow_base hO B0.out.size, B0.out.trans (hb5.mono B0.out.size)⟩
abbrev fTry (gT gL gF : Nat) : Value := .func (.func 80) #[] #[.pointer (some ⟨gT, 0, none⟩), .pointer (some ⟨gL, 0, none⟩), .pointer (some ⟨gF, 0, none⟩)]
/-- The search's memory. -/
structure TyM (gT gL gF gm : Nat) (w0 : World) (T : List (List Bool)) (m : Nat) (W : World) : Prop where
  lT : Lies W gT 117 #[.map (some gm)]
  lL : Lies W gL 3 #[.int .i64 m]
  lF : Lies W gF 118 #[fTry gT gL gF]
  mp : SetM W gm T
  b : Below w0.heap.size w0 W
  tl : gT ≠ gL
  fl : gF ≠ gL
  z : w0.heap.size ≤ gL
  zm : w0.heap.size ≤ gm
section
variable {gT gL gF gm : Nat} {w0 W W' : World} {T T' : List (List Bool)} {m : Nat}
theorem TyM.call (h : TyM gT gL gF gm w0 T m W) (hb : Below W.heap.size W W') : TyM gT gL gF gm w0 T m W' :=
  ⟨h.lT.call hb, h.lL.call hb, h.lF.call hb, h.mp.call hb, h.b.trans (hb.mono h.b.size), h.tl, h.fl, h.z, h.zm⟩
theorem TyM.set (h : TyM gT gL gF gm w0 T m W) (m' : Nat) : TyM gT gL gF gm w0 T m' (W.setCell ⟨gL, 0, none⟩ (.int .i64 m')) :=
  have hO := Only.set gL 0 W (.int .i64 m')
  ⟨hO.lies h.lT h.tl, h.lL.set 0 _, hO.lies h.lF h.fl, h.mp.to_ (hO.block _ (h.mp.ne h.lL)), hO.below h.b h.z, h.tl, h.fl, h.z, h.zm⟩
theorem TyM.only (h : TyM gT gL gF gm w0 T m W) {g : Nat} {t : TypeId} {cs : Array Value} (hl : Lies W g t cs) (hO : Only g W W') (h1 : gT ≠ g) (h2 : gL ≠ g) (h3 : gF ≠ g) (h4 : w0.heap.size ≤ g) : TyM gT gL gF gm w0 T m W' :=
  ⟨hO.lies h.lT h1, hO.lies h.lL h2, hO.lies h.lF h3, h.mp.to_ (hO.block _ (h.mp.ne hl)), hO.below h.b h4, h.tl, h.fl, h.z, h.zm⟩
theorem TyM.put (h : TyM gT gL gF gm w0 T m W) (hm : SetM W' gm T') (hg : W.grownBy W' (some gm)) : TyM gT gL gF gm w0 T' m W' := by
  have hne : ∀ {g t cs}, Lies W g t cs → some g ≠ some gm := fun hl e => h.mp.ne hl (by simpa using e.symm)
  have hz : ∀ k, (some gm : Option Nat) = some k → w0.heap.size ≤ k := fun k e => by
    have e2 : gm = k := by simpa using e
    rw [← e2]; exact h.zm
  exact ⟨h.lT.grown hg (hne h.lT), h.lL.grown hg (hne h.lL), h.lF.grown hg (hne h.lF), hm, h.b.grown hg h.b.size hz, h.tl, h.fl, h.z, h.zm⟩
end
/-- What a call of the search does. -/
def TyR (c : CoM) (gT gL gF gm : Nat) (w0 : World) (T : List (List Bool)) (m : Nat) (S : List Bool) (W : World) (w' : World) : Prop :=
  ∃ T' m', Tried c.r.d c.ws T m S T' m' ∧ TyM gT gL gF gm w0 T' m' w' ∧ St2 gL gm W w'
def TyT (c : CoM) (gT gL gF gm : Nat) (w0 : World) (k : Nat) : Prop :=
  ∀ (S : List Bool) (T : List (List Bool)) (m : Nat) (W : World), falses S ≤ k → S.length = 10 → m ≤ 10 → TyM gT gL gF gm w0 T m W →
    Calls Try.prog 80 #[.agg (boolsL S).toArray, .agg (CoM.cells ⟨c.r, spareW c.ws S⟩).toArray, .pointer (some ⟨gT, 0, none⟩), .pointer (some ⟨gL, 0, none⟩), .pointer (some ⟨gF, 0, none⟩)] W
      fun e w' => e = .returned (.tuple #[]) ∧ TyR c gT gL gF gm w0 T m S W w'
theorem size_pl : (Try.prog.info? 120).map (·.size) = some 10 := by kernel_rfl
set_option maxRecDepth 100000 in
set_option maxHeartbeats 4000000 in
theorem try_hit (c : CoM) (gT gL gF gm : Nat) (w0 : World) (S : List Bool) (T : List (List Bool)) (m : Nat) (W : World) (hl : S.length = 10) (hM : TyM gT gL gF gm w0 T m W) (hS : S ∈ T) :
    Calls Try.prog 80 #[.agg (boolsL S).toArray, .agg (CoM.cells ⟨c.r, spareW c.ws S⟩).toArray, .pointer (some ⟨gT, 0, none⟩), .pointer (some ⟨gL, 0, none⟩), .pointer (some ⟨gF, 0, none⟩)] W
      fun e w' => e = .returned (.tuple #[]) ∧ TyR c gT gL gF gm w0 T m S W w' := by
  have b0 : Below W.heap.size W ((W.alloc (.cells (boolsL S).toArray 120)).alloc (.cells (CoM.cells ⟨c.r, spareW c.ws S⟩).toArray 84)) := ((Below.refl _ _).alloc (Nat.le_refl _) _).alloc (by simp) _
  have l0 : Lies ((W.alloc (.cells (boolsL S).toArray 120)).alloc (.cells (CoM.cells ⟨c.r, spareW c.ws S⟩).toArray 84)) W.heap.size 120 (boolsL S).toArray := (Lies.fresh _ _ _).alloc _
  have hM0 := hM.call b0
  have hsz : (Try.prog.info? 120).map (·.size) = some (boolsL S).toArray.size := by rw [List.size_toArray, boolsL_length, hl]; exact size_pl
  have L0 := Lib.hid l0
  have B0 := Lib.hid b0
  have M0 := Lib.hid hM0
  have HSZ := Lib.hid hsz
  have HL := Lib.hid hl
  have HS := Lib.hid hS
  have hd : decide (S ∈ T) = true := decide_eq_true hS
  clear l0 b0 hM0 hsz hl hM hS
  generalize (CoM.cells ⟨c.r, spareW c.ws S⟩).toArray = cc at *
  go_enter Try.func80, Try.ntmps80
  go_upto_region 1 with (fail)
  change Code.wp _ _ _ _ ((W.alloc (.cells (boolsL S).toArray 120)).alloc (.cells cc 84))
  generalize (W.alloc (.cells (boolsL S).toArray 120)).alloc (.cells cc 84) = w1 at *
  have a0 : w1.cell? ⟨gT, 0, none⟩ = some (.map (some gm)) := M0.out.lT.at_ 0
  go_wp2_with (first
    | (refine wpList_load_row (o := ⟨some 14, _, _, _, _, _⟩) ?_ 120 (.tmp 5) ?_ W.heap.size ?_ 120 (boolsL S).toArray (0, 0) _ L0.out Try.underlying120 rfl HSZ.out ?_; rfl; rfl; rfl)
    | (refine wpList_look_set (o := ⟨some 15, _, _, _, _, _⟩) ?_ (.tmp 13) (.tmp 14) ?_ gm T ?_ M0.out.mp S HL.out ?_ ?_; rfl; rfl; rfl; rfl))
  exact bodyPost_ret (results_none rfl _ _ _) rfl ⟨rfl, T, m, Tried.hit HS.out, M0.out, St2.of_below B0.out⟩
theorem zpl_len : (boolsL (List.replicate 10 false)).length = 10 := rfl
/-- What the rounds of the search keep. -/
structure TyL (c : CoM) (gT gL gF gm : Nat) (w0 : World) (S : List Bool) (ws : List (Int × Int)) (T : List (List Bool)) (m : Nat) (il : List Int) (B : Nat) (vI : Value) (j : Nat) (W wr : World) : Prop where
  t : ∃ T1 m1, TryL c.r.d c.ws T m S j T1 m1 ∧ TyM gT gL gF gm w0 T1 m1 wr
  p : Lies wr W.heap.size 120 (boolsL S).toArray
  c : Lies wr (W.heap.size + 1) 84 (CoM.cells ⟨c.r, ws⟩).toArray
  i : wr.ownsRow B 3 1 vI il.length (il.flatMap encI)
  s : St2 gL gm W wr
theorem TyL.call {c : CoM} {gT gL gF gm : Nat} {w0 : World} {S : List Bool} {ws : List (Int × Int)} {T : List (List Bool)} {m : Nat} {il : List Int} {B : Nat} {vI : Value} {j : Nat} {W wr wr' : World} (h : TyL c gT gL gF gm w0 S ws T m il B vI j W wr) (hb : Below wr.heap.size wr wr') : TyL c gT gL gF gm w0 S ws T m il B vI j W wr' := by
  obtain ⟨T1, m1, h1, h2⟩ := h.t
  exact ⟨⟨T1, m1, h1, h2.call hb⟩, h.p.call hb, h.c.call hb, ownsRow_call h.i hb, h.s.trans (St2.of_below hb)⟩
theorem boolsL_set (S : List Bool) (p : Nat) : (boolsL S).toArray.setIfInBounds p (.bool true) = (boolsL (S.set p true)).toArray := by simp [boolsL, List.map_set]
theorem boolsL_at {S : List Bool} {p : Nat} (h : p < S.length) : (boolsL S).toArray[p]? = some (.bool (S.getD p false)) := by
  simp [boolsL, List.getD, h]
set_option maxRecDepth 100000 in
set_option maxHeartbeats 8000000 in
theorem try_miss (c : CoM) (gT gL gF gm : Nat) (w0 : World) (hws : c.ws.length = 10) (hr : c.r.At w0 w0.heap.size) (hok : c.r.d.Ok) (k : Nat) (ih : ∀ j, j + 1 = k → TyT c gT gL gF gm w0 j)
    (S : List Bool) (T : List (List Bool)) (m : Nat) (W : World) (hf : falses S ≤ k) (hl : S.length = 10) (hm : m ≤ 10) (hM : TyM gT gL gF gm w0 T m W) (hS : S ∉ T) :
    Calls Try.prog 80 #[.agg (boolsL S).toArray, .agg (CoM.cells ⟨c.r, spareW c.ws S⟩).toArray, .pointer (some ⟨gT, 0, none⟩), .pointer (some ⟨gL, 0, none⟩), .pointer (some ⟨gF, 0, none⟩)] W
      fun e w' => e = .returned (.tuple #[]) ∧ TyR c gT gL gF gm w0 T m S W w' := by
  obtain ⟨ws, hgw⟩ : ∃ ws, ws = spareW c.ws S := ⟨_, rfl⟩
  rw [← hgw]
  have hws2 : ws.length = 10 := by rw [hgw, spareW_length]; exact hws
  have b0 : Below W.heap.size W ((W.alloc (.cells (boolsL S).toArray 120)).alloc (.cells (CoM.cells ⟨c.r, ws⟩).toArray 84)) := ((Below.refl _ _).alloc (Nat.le_refl _) _).alloc (by simp) _
  have l0 : Lies ((W.alloc (.cells (boolsL S).toArray 120)).alloc (.cells (CoM.cells ⟨c.r, ws⟩).toArray 84)) W.heap.size 120 (boolsL S).toArray := (Lies.fresh _ _ _).alloc _
  have l1 : Lies ((W.alloc (.cells (boolsL S).toArray 120)).alloc (.cells (CoM.cells ⟨c.r, ws⟩).toArray 84)) (W.heap.size + 1) 84 (CoM.cells ⟨c.r, ws⟩).toArray := Lies.fresh' (by simp)
  have hz0 : ((W.alloc (.cells (boolsL S).toArray 120)).alloc (.cells (CoM.cells ⟨c.r, ws⟩).toArray 84)).heap.size = W.heap.size + 2 := by simp
  have hM0 := hM.call b0
  have hgLW := hM.lL.in_
  have hgmW := hM.mp.in_
  have hsz : (Try.prog.info? 120).map (·.size) = some (boolsL S).toArray.size := by rw [List.size_toArray, boolsL_length, hl]; exact size_pl
  have hsl : (Try.prog.info? 120).map (·.size) = some (boolsL S).length := by rw [boolsL_length, hl]; exact size_pl
  have hfl : 0 + (boolsL S).length ≤ (boolsL (List.replicate 10 false)).length := by rw [boolsL_length, hl]; decide
  have hwl : (boolsL S).length = (boolsL (List.replicate 10 false)).length := by rw [boolsL_length, hl]; rfl
  have hsc : (Try.prog.info? 84).map (·.size) = some (CoM.cells ⟨c.r, ws⟩).toArray.size := by rw [List.size_toArray, CoM.len _ hws2]; exact size_co
  have hE := fun V (hb : Below w0.heap.size w0 V) => earliestTruth_any ⟨c.r, ws⟩ V hws2 (hr.below hb hb.size) hok
  have hI := fun V (hb : Below w0.heap.size w0 V) => ill_any ⟨c.r, ws⟩ (c.r.d.earlyD ws) V hws2 (hr.below hb hb.size) hok (early_ok c.r.d _).len
  have hWO := fun (p : Nat) V (hp : p < 10) => without_any ⟨c.r, ws⟩ p V hws2 hp
  have htl : (c.r.d.earlyD ws).length = 10 := (early_ok c.r.d _).len
  have hst : (Try.prog.info? 86).map (·.size) = some (c.r.d.earlyD ws).length := by rw [htl]; exact size_tr
  have hfit : 0 + (c.r.d.earlyD ws).length ≤ (List.replicate 10 (0 : Int)).length := by rw [htl]; simp
  have hwt : (c.r.d.earlyD ws).length = (List.replicate 10 (0 : Int)).length := by rw [htl]; rfl
  have hil : c.r.d.illI (c.r.d.earlyD ws) = (c.r.d.illS c.ws S).map fun q : Nat => (q : Int) := by rw [hgw]; rfl
  have hcs : c.r.d.possB ws (c.r.d.earlyD ws) = c.r.d.canS c.ws S := by rw [hgw]; rfl
  have hl10 : (c.r.d.illI (c.r.d.earlyD ws)).length ≤ 10 := by rw [illI_len]; have := illB_len c.r.d (c.r.d.earlyD ws); have := hok.dug; have := hok.n1; omega
  have hd : decide (S ∈ T) = false := decide_eq_false hS
  dsimp only at hE hI hWO
  rw [hcs] at hE
  have HIL := Lib.hid hil
  have HWS := Lib.hid hws
  have HSP := Lib.hid hgw
  generalize hge : c.r.d.earlyD ws = et at *
  generalize hgi : c.r.d.illI et = il at *
  have L0 := Lib.hid l0
  have L1 := Lib.hid l1
  have B0 := Lib.hid b0
  have M0 := Lib.hid hM0
  have HSZ := Lib.hid hsz
  have HSL := Lib.hid hsl
  have HFL := Lib.hid hfl
  have HWL := Lib.hid hwl
  have HSC := Lib.hid hsc
  have HST := Lib.hid hst
  have HFT := Lib.hid hfit
  have HWT := Lib.hid hwt
  have HL := Lib.hid hl
  have HS := Lib.hid hS
  have HE := Lib.hid hE
  have HI := Lib.hid hI
  have HWO := Lib.hid hWO
  have HZ := Lib.hid hz0
  have HF := Lib.hid hf
  have HIH := Lib.hid ih
  have HOK := Lib.hid hok
  have HRR := Lib.hid hr
  have hlz : (il.length : Int) ≤ 10 := by omega
  have hmz : (m : Int) ≤ 10 := by omega
  clear l0 l1 b0 hM0 hsz hsc hst hfit hwt hl hM hS hE hI hz0 hf ih hok hr hws hil hcs hge hgi htl hws2 hgw hsl hfl hwl hWO
  go_enter Try.func80, Try.ntmps80
  go_upto_region 1 with (fail)
  change Code.wp _ _ _ _ ((W.alloc (.cells (boolsL S).toArray 120)).alloc (.cells (CoM.cells ⟨c.r, ws⟩).toArray 84))
  generalize (W.alloc (.cells (boolsL S).toArray 120)).alloc (.cells (CoM.cells ⟨c.r, ws⟩).toArray 84) = w1 at *
  have a0 : w1.cell? ⟨gT, 0, none⟩ = some (.map (some gm)) := M0.out.lT.at_ 0
  go_upto_region 3 with (first
    | (refine wpList_load_row (o := ⟨some 14, _, _, _, _, _⟩) ?_ 120 (.tmp 5) ?_ W.heap.size ?_ 120 (boolsL S).toArray (0, 0) _ L0.out Try.underlying120 rfl HSZ.out ?_; rfl; rfl; rfl)
    | (refine wpList_load_row (o := ⟨some 17, _, _, _, _, _⟩) ?_ 120 (.tmp 5) ?_ W.heap.size ?_ 120 (boolsL S).toArray (0, 0) _ L0.out Try.underlying120 rfl HSZ.out ?_; rfl; rfl; rfl)
    | (refine wpList_look_set (o := ⟨some 15, _, _, _, _, _⟩) ?_ (.tmp 13) (.tmp 14) ?_ gm T ?_ M0.out.mp S HL.out ?_ ?_; rfl; rfl; rfl; rfl)
    | (at_mapUpdate; refine wpList_put_set rfl (.tmp 16) (.tmp 17) (.const (.bool true)) rfl gm T rfl M0.out.mp S HL.out HS.out rfl rfl ?_; intro w2 hM2 hg2))
  have hne1 := M0.out.mp.ne L0.out
  have hne2 := M0.out.mp.ne L1.out
  have L02 := Lib.hid (L0.out.grown hg2 (fun e => hne1 (by simpa using e.symm)))
  have L12 := Lib.hid (L1.out.grown hg2 (fun e => hne2 (by simpa using e.symm)))
  have M2 := Lib.hid (M0.out.put hM2 hg2)
  have S2 := Lib.hid ((St2.of_below B0.out).trans (St2.of_grown hg2) : St2 gL gm W w2)
  have hz2 : W.heap.size + 2 ≤ w2.heap.size := by have := HZ.out; have := hg2.size; omega
  clear a0 hM2 hg2 hne1 hne2 L0 L1 M0 B0 HZ
  go_upto_region 4 with (first
    | (refine wpList_load_row (o := ⟨some 19, _, _, _, _, _⟩) ?_ 84 (.tmp 6) ?_ (W.heap.size + 1) ?_ 84 (CoM.cells ⟨c.r, ws⟩).toArray (0, 0) _ L12.out Try.underlying84 rfl HSC.out ?_; rfl; rfl; rfl)
    | (go_at_call 72; refine (HE.out _ M2.out.b).mono ?_; rintro e w3 ⟨rfl, hb3⟩)
    | (refine wpList_store_ints (o := ⟨none, .store 86 (.tmp 7) _, _, _, _, _⟩) ?_ 86 (.tmp 7) (.tmp 21) ?_ w3.heap.size 0 ?_ 86 (List.replicate 10 0) et ?_ (Lies.fresh w3 86 (vals (List.replicate 10 0))) HFT.out HST.out ?_; rfl; rfl; rfl; rfl; intro w4 HS4 HO4; (try simp only [Act.put])))
  have hs4 := HS4.out
  rw [splice_all HWT.out] at hs4
  have hb4 : Below w3.heap.size w3 w4 := HO4.out.below ((Below.refl _ _).alloc (Nat.le_refl _) _) (Nat.le_refl _)
  have hb24 := hb3.trans (hb4.mono hb3.size)
  have L04 := Lib.hid (L02.out.call hb24)
  have L14 := Lib.hid (L12.out.call hb24)
  have M4 := Lib.hid (M2.out.call hb24)
  have S4 := Lib.hid (S2.out.trans (St2.of_below hb24))
  have T4 := Lib.hid hs4
  have hz4 : W.heap.size + 2 ≤ w4.heap.size := Nat.le_trans hz2 hb24.size
  clear hs4 hb4 hb24 hb3 HS4 HO4 L02 L12 M2 S2 hz2
  generalize w3.heap.size = gt at *
  cases hcs : c.r.d.canS c.ws S with
  | false =>
    go_wp2
    exact bodyPost_ret (results_none rfl _ _ _) rfl ⟨rfl, S :: T, m, Tried.sick hcs, M4.out, S4.out⟩
  | true =>
    have HCS := Lib.hid hcs
    clear hcs
    go_upto_region 6 with (first
      | (refine wpList_load_row (o := ⟨some 25, _, _, _, _, _⟩) ?_ 84 (.tmp 6) ?_ (W.heap.size + 1) ?_ 84 (CoM.cells ⟨c.r, ws⟩).toArray (0, 0) _ L14.out Try.underlying84 rfl HSC.out ?_; rfl; rfl; rfl)
      | (refine wpList_load_ints (o := ⟨some 26, _, _, _, _, _⟩) ?_ 86 (.tmp 7) ?_ gt 0 ?_ 86 et et _ T4.out (fun j v h => by simpa using h) Try.underlying86 rfl HST.out ?_; rfl; rfl; rfl)
      | (go_at_call 57; refine (HI.out _ M4.out.b).mono ?_; rintro e w5 ⟨A5, c5, rfl, ho5, hb5⟩))
    have M5 := Lib.hid (M4.out.call hb5)
    have a6 : w5.cell? ⟨gL, 0, none⟩ = some (.int .i64 m) := M5.out.lL.at_ 0
    have f6 : w5.frozen? ⟨gL, 0, none⟩ = false := M5.out.lL.free 0
    go_upto_region 7 with (fail)
    rw [show (min (m : Int) (il.length : Int)) = ((min m il.length : Nat) : Int) by omega]
    have hlen : (c.r.d.illS c.ws S).length = il.length := by rw [HIL.out, List.length_map]
    have hO6 := Only.set gL 0 w5 (.int .i64 ((min m il.length : Nat) : Int))
    have hY : TyL c gT gL gF gm w0 S ws T m il w4.heap.size (.slice A5 il.length c5) 0 W (w5.setCell ⟨gL, 0, none⟩ (.int .i64 ((min m il.length : Nat) : Int))) := by
      refine ⟨⟨S :: T, min m il.length, ?_, M5.out.set _⟩, hO6.lies (L04.out.call hb5) (by omega), hO6.lies (L14.out.call hb5) (by omega), own_keep ho5 fun j hj => hO6.block j (by have := (own_at ho5 hj).1; omega), (S4.out.trans (St2.of_below hb5)).trans (St2.of_only1 hO6)⟩
      have := TryL.start (T := T) (m := m) HCS.out
      rwa [hlen] at this
    have Y0 := Lib.hid hY
    have HLEN := Lib.hid hlen
    have hgB : W.heap.size ≤ w4.heap.size := by omega
    have hB5 := hb5.size
    have hW6 : w4.heap.size ≤ (w5.setCell ⟨gL, 0, none⟩ (.int .i64 ((min m il.length : Nat) : Int))).heap.size := by rw [hO6.size]; exact hB5
    clear hY hO6 hlen a6 f6 M5 ho5 hb5 T4 M4 S4 L04 L14 hB5 HE HI HS HST HFT HWT
    generalize w5.setCell ⟨gL, 0, none⟩ (.int .i64 ((min m il.length : Nat) : Int)) = w6 at *
    generalize w4.heap.size = B at *
    go_wp2
    go_loopw [34] (fun s34 wr => ∃ j : Nat, j ≤ il.length ∧ s34 = .int .i64 j ∧ B ≤ wr.heap.size ∧ Aside (TyL c gT gL gF gm w0 S ws T m il B (.slice A5 il.length c5) j W wr)) (fun i _ => il.length - (intOf i).toNat)
    case atStart => exact ⟨0, by omega, rfl, hW6, Y0.out⟩
    case round =>
      obtain ⟨j, hj, rfl, hBw, HY⟩ := hrel
      clear Y0 hW6
      by_cases hlt : j < il.length
      · have hltz : (j : Int) < (il.length : Int) := by omega
        have hj0 : (0 : Int) ≤ (j : Int) := by omega
        have hlen := HLEN.out
        obtain ⟨p, hp⟩ : ∃ p, (c.r.d.illS c.ws S)[j]? = some p := ⟨(c.r.d.illS c.ws S)[j]'(by omega), by simp⟩
        have hx : il[j]? = some (p : Int) := by rw [HIL.out, List.getElem?_map, hp]; rfl
        obtain ⟨hfree, hp10⟩ := ill_free HOK.out HWS.out HCS.out (List.mem_of_getElem? hp)
        have hpz : (p : Int) < 10 := by omega
        have hp0 : (0 : Int) ≤ (p : Int) := by omega
        obtain ⟨_, _, e1, _, hS1⟩ := Sl.of_own (enc := encI) (fun _ => rfl) HY.out.i rfl
        cases e1
        obtain ⟨tb, off, hAT, htb, c2⟩ := hS1.cell1 hx
        have HP := Lib.hid hp
        have HFR := Lib.hid hfree
        subst hAT
        have HYR := Lib.hid HY.out
        clear hp hx hfree hS1 hlen HY
        go_upto_region 11 with (first
          | (refine wpList_load_row (o := ⟨some 38, _, _, _, _, _⟩) ?_ 120 (.tmp 5) ?_ W.heap.size ?_ 120 (boolsL S).toArray (0, 0) _ HYR.out.p Try.underlying120 rfl HSZ.out ?_; rfl; rfl; rfl)
          | (refine wpList_store_cells (o := ⟨none, .store 120 (.tmp 12) _, _, _, _, _⟩) ?_ 120 (.tmp 12) (.tmp 38) ?_ wr.heap.size 0 ?_ 120 (boolsL (List.replicate 10 false)) (boolsL S) ?_ (Lies.fresh wr 120 (boolsL (List.replicate 10 false)).toArray) HFL.out HSL.out (boolsL_one S) ?_; rfl; rfl; rfl; rfl; intro w7 HS7 HO7; (try simp only [Act.put])))
        have hs7 := HS7.out
        rw [splice_whole HWL.out] at hs7
        have hb7 : Below wr.heap.size wr w7 := HO7.out.below ((Below.refl _ _).alloc (Nat.le_refl _) _) (Nat.le_refl _)
        have d11 : w7.cell? ⟨wr.heap.size, p, none⟩ = some (.bool false) := by rw [hs7.at_, boolsL_at (by rw [HL.out]; exact hp10), HFR.out]
        have f11 : w7.frozen? ⟨wr.heap.size, p, none⟩ = false := hs7.free p
        go_upto_region 12 with (fail)
        have hO8 := Only.set wr.heap.size p w7 (.bool true)
        have hb8 : Below wr.heap.size wr (w7.setCell ⟨wr.heap.size, p, none⟩ (.bool true)) := hO8.below hb7 (Nat.le_refl _)
        have Y8 := Lib.hid (HYR.out.call hb8)
        have hl8 := hs7.set p (.bool true)
        rw [boolsL_set] at hl8
        have P8 := Lib.hid hl8
        have hB8 : B ≤ (w7.setCell ⟨wr.heap.size, p, none⟩ (.bool true)).heap.size := Nat.le_trans hBw hb8.size
        have hgW : W.heap.size ≤ wr.heap.size := HYR.out.s.size
        clear hs7 hb7 d11 f11 hO8 hb8 hl8 HS7 HO7 HYR c2 hBw htb
        generalize wr.heap.size = gq at *
        generalize w7.setCell ⟨gq, p, none⟩ (.bool true) = w8 at *
        obtain ⟨T1, m1, ht1, hM1⟩ := Y8.out.t
        have h8gT := hM1.lT.in_
        have h8gF := hM1.lF.in_
        have h8F : gF ≠ gm := fun e => (hM1.mp.ne hM1.lF) e.symm
        have h8q : gq ≠ gm := fun e => (hM1.mp.ne P8.out) e.symm
        have h8q2 : gq ≠ gL := by omega
        have h8c : W.heap.size + 1 ≠ gm := by omega
        have h8c2 : W.heap.size + 1 ≠ gL := by omega
        have e41 : ∀ cc : Cls (fun V => St2 gL gm w8 V), cc.val.cell? ⟨gF, 0, none⟩ = some (fTry gT gL gF) := fun cc => cc.h.cell h8gF hM1.fl h8F (hM1.lF.at_ 0)
        have hr42 : ∀ V, (∃ cc : Cls (fun V => St2 gL gm w8 V), V = cc.val) → V.rangeAt gq 0 (boolsL (S.set p true)) := by
          rintro V ⟨cc, rfl⟩
          exact Lies.range (cs := boolsL (S.set p true)) (cc.h.lies P8.out h8q2 h8q) (fun j v hj => by simpa using hj)
        have hr43 : ∀ V, (∃ cc : Cls (fun V => St2 gL gm w8 V), V = cc.val) → V.rangeAt (W.heap.size + 1) 0 (CoM.cells ⟨c.r, ws⟩) := by
          rintro V ⟨cc, rfl⟩
          exact Lies.range (cs := CoM.cells ⟨c.r, ws⟩) (cc.h.lies Y8.out.c h8c2 h8c) (fun j v hj => by simpa using hj)
        have hsx : (Try.prog.info? 120).map (·.size) = some (boolsL (S.set p true)).length := by rw [boolsL_length, List.length_set, HL.out]; exact size_pl
        have hsy : (Try.prog.info? 84).map (·.size) = some (CoM.cells ⟨c.r, ws⟩).length := by have := HSC.out; rwa [List.size_toArray] at this
        have hnx : falses (S.set p true) + 1 = falses S := falses_set HFR.out (by rw [HL.out]; exact hp10)
        have hk1 : ∃ k1, k1 + 1 = k := ⟨k - 1, by have := HF.out; omega⟩
        obtain ⟨k1, hk1⟩ := hk1
        have hm1 : m1 ≤ 10 := Nat.le_trans ht1.le hm
        have hCA := fun V (hV : Below w8.heap.size w8 V) => HIH.out k1 hk1 (S.set p true) T1 m1 V (by have := HF.out; omega) (by rw [List.length_set]; exact HL.out) hm1 (hM1.call hV)
        have hwd : withoutD ws p = spareW c.ws (S.set p true) := by rw [HSP.out]; exact spareW_set c.ws S p (by rw [HWS.out]; exact hp10) (by rw [HL.out]; exact hp10) HFR.out
        rw [← hwd] at hCA
        have HCA := Lib.hid hCA
        have HR42 := Lib.hid hr42
        have HR43 := Lib.hid hr43
        have HSX := Lib.hid hsx
        have HSY := Lib.hid hsy
        have HT1 := Lib.hid ht1
        haveI hne : Nonempty (Cls (fun V => St2 gL gm w8 V)) := ⟨⟨w8, St2.refl _ _ _⟩⟩
        clear hr42 hr43 hsx hsy ht1 hCA hwd hnx hk1 hm1
        refine wp_region_wayw [0, 1, 2, 3] (.way 4 (.way 5 .fin .fin) .fin) (fun V => ∃ cc : Cls (fun V => St2 gL gm w8 V), V = cc.val) (by kernel_rfl) (by kernel_rfl) (Cls.here (St2.of_below (Below.refl _ _).drew)) ?_
        simp only [List.filterMap_cons, List.filterMap_nil, List.getElem?_toArray, List.getElem?_cons_zero, List.getElem?_cons_succ]
        repeat (first
          | (refine wpQuiet_load_wholeG (o := ⟨some 42, _, _, _, _, _⟩) ?_ 120 (.tmp 12) ?_ gq 0 ?_ (boolsL (S.set p true)) _ HR42.out Try.underlying120 rfl HSX.out ?_; rfl; rfl; rfl; simp only [Act.put, List.setIfInBounds_toArray, List.set_cons_zero, List.set_cons_succ])
          | (refine wpQuiet_load_wholeG (o := ⟨some 43, _, _, _, _, _⟩) ?_ 84 (.tmp 6) ?_ (W.heap.size + 1) 0 ?_ (CoM.cells ⟨c.r, ws⟩) _ HR43.out Try.underlying84 rfl HSY.out ?_; rfl; rfl; rfl; simp only [Act.put, List.setIfInBounds_toArray, List.set_cons_zero, List.set_cons_succ])
          | go_big_quiet_step (rfl) | quiet_step (rfl))
        refine wpQuiet_nil ?_
        clear e41
        have D0 := Lib.hid (show Below w8.heap.size w8 w8.drew from (Below.refl _ _).drew)
        generalize w8.drew = d0 at *
        rw [wpWy_way]
        refine ⟨?_, by exact trivial⟩
        simp only [List.getElem?_toArray, List.getElem?_cons_succ, List.getElem?_cons_zero]
        go_wp2_with (go_at_call 79; refine (HWO.out p _ hp10).mono ?_; rintro e d1 ⟨rfl, hb1⟩)
        have D1 := Lib.hid (D0.out.trans (hb1.mono D0.out.size))
        refine Ends.intro ⟨Cls.here (St2.of_below D1.out), ?_⟩
        rw [wpWy_way]
        refine ⟨?_, by exact trivial⟩
        simp only [List.getElem?_toArray, List.getElem?_cons_succ, List.getElem?_cons_zero]
        go_wp2_with (go_at_call 80; refine (HCA.out _ D1.out).mono ?_; rintro e d2 ⟨rfl, T2, m2, ht2, hM2, hs2⟩)
        have D2 := Lib.hid ((St2.of_below D1.out).trans hs2 : St2 gL gm w8 d2)
        refine Ends.intro ⟨Cls.here D2.out, ?_⟩
        rw [wpWy_fin]
        have HM2 := Lib.hid hM2
        have HT2 := Lib.hid ht2
        clear hb1 D0 D1 hs2 hM2 ht2 hM1 HCA HR42 HR43
        go_wp2
        go_roundw
        case rel =>
          refine ⟨j + 1, by omega, by go_num, Nat.le_trans hB8 D2.out.size, ?_⟩
          exact ⟨⟨T2, m2, HT1.out.next HP.out HT2.out, HM2.out⟩, D2.out.lies Y8.out.p (by omega) (by omega), D2.out.lies Y8.out.c (by omega) (by omega), own_keep Y8.out.i (fun i hi => D2.out.block i (own_at Y8.out.i hi).2.1 (by have := (own_at Y8.out.i hi).1; omega) (by have := (own_at Y8.out.i hi).1; omega)), Y8.out.s.trans D2.out⟩
        case measure => simp [intOf]; omega
      · obtain rfl : j = il.length := by omega
        obtain ⟨T1, m1, h1, h2⟩ := HY.out.t
        have H1 := Lib.hid h1
        have H2 := Lib.hid h2
        have H3 := Lib.hid HY.out.s
        clear h1 h2 HY
        go_wp2
        exact bodyPost_end (results_none rfl _ _ _) rfl ⟨rfl, T1, m1, TryL.done (by rw [HLEN.out]; exact H1.out), H2.out, H3.out⟩
theorem try_any (c : CoM) (gT gL gF gm : Nat) (w0 : World) (hws : c.ws.length = 10) (hr : c.r.At w0 w0.heap.size) (hok : c.r.d.Ok) : ∀ k, TyT c gT gL gF gm w0 k
  | 0 => fun S T m W hf hl hm hM => by
    by_cases hS : S ∈ T
    · exact try_hit c gT gL gF gm w0 S T m W hl hM hS
    · exact try_miss c gT gL gF gm w0 hws hr hok 0 (fun j hj => by omega) S T m W hf hl hm hM hS
  | k + 1 => fun S T m W hf hl hm hM => by
    by_cases hS : S ∈ T
    · exact try_hit c gT gL gF gm w0 S T m W hl hM hS
    · exact try_miss c gT gL gF gm w0 hws hr hok (k + 1) (fun j hj => by
        have : j = k := by omega
        subst this
        exact try_any c gT gL gF gm w0 hws hr hok j) S T m W hf hl hm hM hS
end Go.Proofs.Ytebkhgficochoaa

/- leastIll, Count. -/
namespace Go.Proofs.Ytebkhgficochoaa
open Go.RowKit Go.Lib

theorem built_pl : Try.prog.built 120 [] = some (boolsL (List.replicate 10 false)).toArray := by kernel_rfl
theorem TyM.start {w w1 : World} (n : Nat) (hb : Below w.heap.size w w1) : TyM (w1.heap.size + 1 + 1) w1.heap.size (w1.heap.size + 1 + 1 + 1) (w1.heap.size + 1) w [] n
    ((((w1.alloc (.cells #[.int .i64 n] 3)).alloc (.map #[] 0)).alloc (.cells #[.map (some (w1.heap.size + 1))] 117)).alloc (.cells #[fTry (w1.heap.size + 1 + 1) w1.heap.size (w1.heap.size + 1 + 1 + 1)] 118)) := by
  have hm := setM_made (w1.alloc (.cells #[.int .i64 n] 3))
  have hz : (w1.alloc (.cells #[.int .i64 n] 3)).heap.size = w1.heap.size + 1 := by simp
  rw [hz] at hm
  have h0 := hb.size
  exact ⟨(Lies.fresh' (by simp)).alloc _, (((Lies.fresh _ _ _).alloc _).alloc _).alloc _, Lies.fresh' (by simp), (hm.call ((Below.refl _ _).alloc (Nat.le_refl _) _)).call ((Below.refl _ _).alloc (Nat.le_refl _) _),
    (((hb.alloc h0 _).alloc (by simp; omega) _).alloc (by simp; omega) _).alloc (by simp; omega) _, by omega, by omega, h0, by omega⟩
set_option maxRecDepth 100000 in
set_option maxHeartbeats 8000000 in
theorem leastIll_any (c : CoM) (w : World) (hws : c.ws.length = 10) (hr : c.r.At w w.heap.size) (hok : c.r.d.Ok) (hc : c.r.d.possB c.ws (c.r.d.earlyD c.ws) = true) :
    Calls Try.prog 56 #[.agg c.cells.toArray] w fun e w' => ∃ m : Nat, e = .returned (.int .i64 m) ∧ Least c.r.d c.ws m ∧ Below w.heap.size w w' := by
  have l0 : Lies (w.alloc (.cells c.cells.toArray 84)) w.heap.size 84 c.cells.toArray := Lies.fresh _ _ _
  have b0 : Below w.heap.size w (w.alloc (.cells c.cells.toArray 84)) := (by repeat (first | (with_reducible assumption) | (with_reducible exact Below.refl _ _) | (with_reducible refine Below.drew ?_) | (with_reducible refine below_drewN ?_ _) | ((with_reducible refine Below.setCell ?_ ?_ _); rotate_left; focus (first | (simp; done) | (simp; omega) | omega)) | ((with_reducible refine Below.alloc ?_ ?_ _); rotate_left; focus (first | (simp; done) | (simp; omega) | omega))))
  have hsz : (Try.prog.info? 84).map (·.size) = some c.cells.toArray.size := by rw [List.size_toArray, c.len hws]; exact size_co
  have hn10 : c.r.d.dug.length ≤ 10 := by have := hok.dug; have := hok.n1; omega
  obtain ⟨n, hn⟩ : ∃ n, n = c.r.d.dug.length := ⟨_, rfl⟩
  have hnn : c.r.n = (n : Int) := by rw [hn]; exact hok.dug.symm
  have hTA := fun gT gL gF gm T m W hM => try_any c gT gL gF gm w hws hr hok 10 (List.replicate 10 false) T m W (by decide) (by simp) hM
  rw [spareW_none] at hTA
  have hfin := fun T m h => tried_all (r := c.r.d) hok hws hc (T := T) (m := m) h
  rw [← hn] at hfin
  have L0 := Lib.hid l0
  have B0 := Lib.hid b0
  have HSZ := Lib.hid hsz
  have HTA := Lib.hid hTA
  have HFI := Lib.hid hfin
  have HNN := Lib.hid hnn
  have hnz : n ≤ 10 := by omega
  clear l0 b0 hsz hTA hfin hn hnn hn10 hok hws hr hc
  go_enter Try.func56, Try.ntmps56
  go_upto_region 1 with (fail)
  change Code.wp _ _ _ _ (w.alloc (.cells c.cells.toArray 84))
  generalize w.alloc (.cells c.cells.toArray 84) = w1 at *
  have a0 : w1.cell? ⟨w.heap.size, 0, none⟩ = some (.int .i64 n) := by rw [L0.out.at_, co_n, HNN.out]
  have hmm := @run_makeMap Try.prog
  go_upto_region 5 with (fail)
  have M0 := Lib.hid (TyM.start n B0.out)
  have hb4 : Below w1.heap.size w1 ((((w1.alloc (.cells #[.int .i64 n] 3)).alloc (.map #[] 0)).alloc (.cells #[.map (some (w1.heap.size + 1))] 117)).alloc (.cells #[fTry (w1.heap.size + 1 + 1) w1.heap.size (w1.heap.size + 1 + 1 + 1)] 118)) := (((((Below.refl _ _).alloc (Nat.le_refl _) _).alloc (by simp) _).alloc (by simp; omega) _).alloc (by simp; omega) _)
  have L4 := Lib.hid (L0.out.call hb4)
  change Code.wp _ _ _ _ ((((w1.alloc (.cells #[.int .i64 n] 3)).alloc (.map #[] 0)).alloc (.cells #[.map (some (w1.heap.size + 1))] 117)).alloc (.cells #[fTry (w1.heap.size + 1 + 1) w1.heap.size (w1.heap.size + 1 + 1 + 1)] 118))
  clear hb4 L0 B0 a0 hmm
  generalize ((((w1.alloc (.cells #[.int .i64 n] 3)).alloc (.map #[] 0)).alloc (.cells #[.map (some (w1.heap.size + 1))] 117)).alloc (.cells #[fTry (w1.heap.size + 1 + 1) w1.heap.size (w1.heap.size + 1 + 1 + 1)] 118)) = w4 at *
  generalize w1.heap.size = z at *
  have c4 : w4.cell? ⟨z + 1 + 1 + 1, 0, none⟩ = some (fTry (z + 1 + 1) z (z + 1 + 1 + 1)) := M0.out.lF.at_ 0
  have HC := Lib.hid (HTA.out _ _ _ _ [] n w4 hnz M0.out)
  clear HTA
  go_upto_region 6 with (first
    | (refine wpList_build (o := ⟨some 12, _, _, _, _, _⟩) ?_ 120 #[] ?_ #[] ?_ (boolsL (List.replicate 10 false)).toArray built_pl ?_; rfl; rfl; rfl)
    | (refine wpList_load_row (o := ⟨some 13, _, _, _, _, _⟩) ?_ 84 (.tmp 1) ?_ w.heap.size ?_ 84 c.cells.toArray (0, 0) _ L4.out Try.underlying84 rfl HSZ.out ?_; rfl; rfl; rfl)
    | (go_at_call 80; refine HC.out.mono ?_; rintro e w5 ⟨rfl, T, m, ht, hM, hs⟩))
  have c5 : w5.cell? ⟨z, 0, none⟩ = some (.int .i64 m) := hM.lL.at_ 0
  have HM := Lib.hid hM.b
  have HF2 := Lib.hid (HFI.out T m ht)
  clear hM hs ht c4 HC M0 L4 HFI
  go_wp2
  go_ret
  exact ⟨m, rfl, HF2.out, HM.out⟩
def NoC (err : Int) (w : World) (e : Ending) (w' : World) : Prop := e = .returned (.tuple #[.int .i64 0, .int .i64 0, .int .i64 err]) ∧ Below w.heap.size w w'
/-- What Count tells: the least number, and the earliest truth's. -/
def YesC (r : RwD) (w : World) (e : Ending) (w' : World) : Prop := ∃ m : Nat, e = .returned (.tuple #[.int .i64 m, .int .i64 (r.illB r.earliest).length, .int .i64 0]) ∧ Least r r.wins m ∧ Below w.heap.size w w'
set_option maxRecDepth 100000 in
set_option maxHeartbeats 4000000 in
theorem Count_no (r : RwM) (w : World) (hr : r.At w w.heap.size) (he : r.d.err ≠ 0) : Calls Try.prog 28 #[.agg r.cells.toArray] w (NoC r.d.err w) := by
  have l0 : Lies (w.alloc (.cells r.cells.toArray 34)) w.heap.size 34 r.cells.toArray := Lies.fresh _ _ _
  have b0 : Below w.heap.size w (w.alloc (.cells r.cells.toArray 34)) := (by repeat (first | (with_reducible assumption) | (with_reducible exact Below.refl _ _) | (with_reducible refine Below.drew ?_) | (with_reducible refine below_drewN ?_ _) | ((with_reducible refine Below.setCell ?_ ?_ _); rotate_left; focus (first | (simp; done) | (simp; omega) | omega)) | ((with_reducible refine Below.alloc ?_ ?_ _); rotate_left; focus (first | (simp; done) | (simp; omega) | omega))))
  have hQ := lookAt_no r _ (hr.below b0 b0.size) he
  generalize r.d.err = err at *
  have hfb : (err != 0) = true := by simpa using he
  have L0 := Lib.hid l0
  have B0 := Lib.hid b0
  have HQ := Lib.hid hQ
  clear l0 b0 hQ he hr
  go_enter Try.func28, Try.ntmps28
  go_upto_region 1 with (fail)
  change Code.wp _ _ _ _ (w.alloc (.cells r.cells.toArray 34))
  generalize w.alloc (.cells r.cells.toArray 34) = w0 at *
  go_wp2_with (first
    | (refine wpList_load_row (o := ⟨some 8, _, _, _, _, _⟩) ?_ 34 (.tmp 1) ?_ w.heap.size ?_ 34 r.cells.toArray (0, 0) _ L0.out Try.underlying34 rfl size_row ?_; rfl; rfl; rfl)
    | (go_at_call 47; refine HQ.out.mono ?_; rintro e w5 ⟨rfl, hb5⟩)
    | (refine wpList_store_cells (o := ⟨none, .store 84 (.tmp 5) _, _, _, _, _⟩) ?_ 84 (.tmp 5) (.tmp 10) ?_ w5.heap.size 0 ?_ 84 zco zco ?_ ((Lies.fresh w5 84 zco.toArray).alloc _) (by simp) size_zco zco_one ?_; rfl; rfl; rfl; rfl; intro w6 HS6 HO6)
    | (refine wpList_store_ints (o := ⟨none, .store 86 (.tmp 6) _, _, _, _, _⟩) ?_ 86 (.tmp 6) (.tmp 11) ?_ (w5.heap.size + 1) 0 ?_ 86 (List.replicate 10 0) (List.replicate 10 0) ?_ (HO6.out.lies (Lies.fresh' (by simp)) (by omega)) (by simp) size_ztr ?_; rfl; rfl; rfl; rfl; intro w7 HS7 HO7))
  exact bodyPost_ret (results_tmp3 rfl _ _ _) rfl ⟨rfl, HO7.out.below (HO6.out.below (((B0.out.trans (hb5.mono B0.out.size)).alloc (B0.out.trans (hb5.mono B0.out.size)).size _).alloc (by have := (B0.out.trans (hb5.mono B0.out.size)).size; simp; omega) _) (B0.out.trans (hb5.mono B0.out.size)).size) (by have := (B0.out.trans (hb5.mono B0.out.size)).size; omega)⟩
set_option maxRecDepth 100000 in
set_option maxHeartbeats 8000000 in
theorem Count_yes (r : RwM) (w : World) (hr : r.At w w.heap.size) (he : r.d.err = 0) : Calls Try.prog 28 #[.agg r.cells.toArray] w (YesC r.d w) := by
  obtain ⟨hf, hc⟩ := err_zero he
  obtain ⟨hok, hn, hd, hlw, hln⟩ := fault_ok hf
  have l0 : Lies (w.alloc (.cells r.cells.toArray 34)) w.heap.size 34 r.cells.toArray := Lies.fresh _ _ _
  have b0 : Below w.heap.size w (w.alloc (.cells r.cells.toArray 34)) := (by repeat (first | (with_reducible assumption) | (with_reducible exact Below.refl _ _) | (with_reducible refine Below.drew ?_) | (with_reducible refine below_drewN ?_ _) | ((with_reducible refine Below.setCell ?_ ?_ _); rotate_left; focus (first | (simp; done) | (simp; omega) | omega)) | ((with_reducible refine Below.alloc ?_ ?_ _); rotate_left; focus (first | (simp; done) | (simp; omega) | omega))))
  have hQ := lookAt_yes r _ (hr.below b0 b0.size) hf hc
  have hlen : r.d.earliest.length = 10 := earliest_ok.len
  have hL := fun W (hb : Below w.heap.size w W) => leastIll_any r.co W r.d.wins_length (hr.below hb hb.size) hok hc
  have hI := fun W (hb : Below w.heap.size w W) => ill_any r.co r.d.earliest W r.d.wins_length (hr.below hb hb.size) hok hlen
  change ∀ W, Below w.heap.size w W → Calls Try.prog 57 #[.agg r.co.cells.toArray, .agg (vals r.d.earliest)] W (RetOwn (r.d.illI r.d.earliest) W) at hI
  change ∀ W, Below w.heap.size w W → Calls Try.prog 56 #[.agg r.co.cells.toArray] W fun e w' => ∃ m : Nat, e = .returned (.int .i64 m) ∧ Least r.d r.d.wins m ∧ Below W.heap.size W w' at hL
  have hil : (r.d.illI r.d.earliest).length = (r.d.illB r.d.earliest).length := illI_len _ _
  have hilz : ((r.d.illI r.d.earliest).length : Int) ≤ 10 := by rw [illI_len]; have := illB_len r.d r.d.earliest; have := hok.dug; have := hok.n1; omega
  have hszc : (Try.prog.info? 84).map (·.size) = some r.co.cells.length := by rw [CoM.len _ r.d.wins_length]; exact size_co
  have hszcA : (Try.prog.info? 84).map (·.size) = some r.co.cells.toArray.size := by simpa using hszc
  have hszt : (Try.prog.info? 86).map (·.size) = some r.d.earliest.length := by rw [hlen]; exact size_tr
  have hwc : r.co.cells.length = zco.length := by rw [CoM.len _ r.d.wins_length]; rfl
  have hwt : r.d.earliest.length = (List.replicate 10 (0 : Int)).length := by rw [hlen]; rfl
  unfold YesC
  rw [← hil]
  generalize r.d.illI r.d.earliest = il at *
  have L0 := Lib.hid l0
  have B0 := Lib.hid b0
  have HQ := Lib.hid hQ
  have HL := Lib.hid hL
  have HI := Lib.hid hI
  have HSC := Lib.hid hszc
  have HSCA := Lib.hid hszcA
  have HST := Lib.hid hszt
  have HWT := Lib.hid hwt
  have HWC := Lib.hid hwc
  have HFC := Lib.hid (show 0 + r.co.cells.length ≤ zco.length by rw [hwc]; simp)
  have HFT := Lib.hid (show 0 + r.d.earliest.length ≤ (List.replicate 10 (0 : Int)).length by rw [hwt]; simp)
  have HONE := Lib.hid (show ∀ v ∈ r.co.cells, v.oneCell' = true from co_one r r.d.wins)
  clear l0 b0 hQ he hr hf hc hok hn hd hlw hln hlen hszc hszcA hszt hwc hwt hL hI hil
  go_enter Try.func28, Try.ntmps28
  go_upto_region 1 with (fail)
  change Code.wp _ _ _ _ (w.alloc (.cells r.cells.toArray 34))
  generalize w.alloc (.cells r.cells.toArray 34) = w0 at *
  go_upto_region 4 with (first
    | (refine wpList_load_row (o := ⟨some 8, _, _, _, _, _⟩) ?_ 34 (.tmp 1) ?_ w.heap.size ?_ 34 r.cells.toArray (0, 0) _ L0.out Try.underlying34 rfl size_row ?_; rfl; rfl; rfl)
    | (go_at_call 47; refine HQ.out.mono ?_; rintro e w5 ⟨rfl, hb5⟩)
    | (refine wpList_store_cells (o := ⟨none, .store 84 (.tmp 5) _, _, _, _, _⟩) ?_ 84 (.tmp 5) (.tmp 10) ?_ w5.heap.size 0 ?_ 84 zco r.co.cells ?_ ((Lies.fresh w5 84 zco.toArray).alloc _) HFC.out HSC.out HONE.out ?_; rfl; rfl; rfl; rfl; intro w6 HS6 HO6)
    | (refine wpList_store_ints (o := ⟨none, .store 86 (.tmp 6) _, _, _, _, _⟩) ?_ 86 (.tmp 6) (.tmp 11) ?_ (w5.heap.size + 1) 0 ?_ 86 (List.replicate 10 0) r.d.earliest ?_ (HO6.out.lies (Lies.fresh' (by simp)) (by omega)) HFT.out HST.out ?_; rfl; rfl; rfl; rfl; intro w7 HS7 HO7; (try simp only [Act.put])))
  have hb7 : Below w.heap.size w w7 := HO7.out.below (HO6.out.below (((B0.out.trans (hb5.mono B0.out.size)).alloc (B0.out.trans (hb5.mono B0.out.size)).size _).alloc (by have := (B0.out.trans (hb5.mono B0.out.size)).size; simp; omega) _) (B0.out.trans (hb5.mono B0.out.size)).size) (by have := (B0.out.trans (hb5.mono B0.out.size)).size; omega)
  have hs7 := HS7.out
  rw [splice_all HWT.out] at hs7
  have hs6 := HS6.out
  rw [splice_whole HWC.out] at hs6
  have T7 := Lib.hid hs7
  have C7 := Lib.hid (HO7.out.lies hs6 (by omega))
  have B7 := Lib.hid hb7
  generalize w5.heap.size = g5 at *
  clear hs7 hs6 hb7 HS7 HO7 HS6 HO6 hb5 HQ L0 B0
  have hr5 : ∀ V, (∃ cc : Cls (fun V => Below w7.heap.size w7 V), V = cc.val) → V.rangeAt g5 0 r.co.cells := by
    rintro V ⟨cc, rfl⟩
    exact Lies.range (cs := r.co.cells) (C7.out.call cc.h) (fun j v hj => by simpa using hj)
  have hr6 : ∀ V, (∃ cc : Cls (fun V => Below w7.heap.size w7 V), V = cc.val) → V.rangeAt (g5 + 1) 0 (r.d.earliest.map (Value.int .i64)) := by
    rintro V ⟨cc, rfl⟩
    exact Lies.range (cs := r.d.earliest.map (Value.int .i64)) (T7.out.call cc.h) (fun j v hj => by simpa using hj)
  have HR5 := Lib.hid hr5
  have HR6 := Lib.hid hr6
  have HSTM := Lib.hid (show (Try.prog.info? 86).map (·.size) = some (r.d.earliest.map (Value.int .i64)).length by rw [List.length_map]; exact HST.out)
  clear hr5 hr6
  haveI hne : Nonempty (Cls (fun V => Below w7.heap.size w7 V)) := ⟨⟨w7, Below.refl _ _⟩⟩
  refine wp_region_wayw [0, 2, 3] (.way 1 (.way 4 (.take 5 (.take 6 (.take 7 (.take 8 .fin)))) .fin) .fin) (fun V => ∃ cc : Cls (fun V => Below w7.heap.size w7 V), V = cc.val) (by kernel_rfl) (by kernel_rfl) (Cls.here (Below.refl _ _).drew) ?_
  simp only [List.filterMap_cons, List.filterMap_nil, List.getElem?_toArray, List.getElem?_cons_zero, List.getElem?_cons_succ]
  repeat (first
    | (refine wpQuiet_load_wholeG (o := ⟨some 16, _, _, _, _, _⟩) ?_ 84 (.tmp 5) ?_ g5 0 ?_ r.co.cells _ HR5.out Try.underlying84 rfl HSC.out ?_; rfl; rfl; rfl; simp only [Act.put, List.setIfInBounds_toArray, List.set_cons_zero, List.set_cons_succ])
    | (refine wpQuiet_load_wholeG (o := ⟨some 18, _, _, _, _, _⟩) ?_ 84 (.tmp 5) ?_ g5 0 ?_ r.co.cells _ HR5.out Try.underlying84 rfl HSC.out ?_; rfl; rfl; rfl; simp only [Act.put, List.setIfInBounds_toArray, List.set_cons_zero, List.set_cons_succ])
    | (refine wpQuiet_load_wholeG (o := ⟨some 19, _, _, _, _, _⟩) ?_ 86 (.tmp 6) ?_ (g5 + 1) 0 ?_ (r.d.earliest.map (Value.int .i64)) _ HR6.out Try.underlying86 rfl HSTM.out ?_; rfl; rfl; rfl; simp only [Act.put, List.setIfInBounds_toArray, List.set_cons_zero, List.set_cons_succ])
    | go_big_quiet_step (rfl) | quiet_step (rfl))
  refine wpQuiet_nil ?_
  have D0 := Lib.hid (show Below w7.heap.size w7 w7.drew from (Below.refl _ _).drew)
  generalize w7.drew = d0 at *
  rw [wpWy_way]
  refine ⟨?_, by exact trivial⟩
  simp only [List.getElem?_toArray, List.getElem?_cons_succ, List.getElem?_cons_zero]
  go_wp2_with (go_at_call 56; refine (HL.out _ (B7.out.trans (D0.out.mono B7.out.size))).mono ?_; rintro e d1 ⟨m, rfl, hm, hb1⟩)
  have D1 := Lib.hid (D0.out.trans (hb1.mono D0.out.size))
  refine Ends.intro ⟨Cls.here D1.out, ?_⟩
  rw [wpWy_way]
  refine ⟨?_, by exact trivial⟩
  simp only [List.getElem?_toArray, List.getElem?_cons_succ, List.getElem?_cons_zero]
  go_wp2_with (go_at_call 57; refine (HI.out _ (B7.out.trans (D1.out.mono B7.out.size))).mono ?_; rintro e d2 ⟨A, cap, rfl, ho, hb2⟩)
  have D2 := Lib.hid (D1.out.trans (hb2.mono D1.out.size))
  refine Ends.intro ⟨Cls.here D2.out, ?_⟩
  rw [wpWy_take]
  simp only [List.getElem?_toArray, List.getElem?_cons_succ, List.getElem?_cons_zero]
  first | go_big_quiet_step (rfl) | quiet_step (rfl)
  refine wpQuiet_nil ?_
  rw [wpWy_take]
  simp only [List.getElem?_toArray, List.getElem?_cons_succ, List.getElem?_cons_zero]
  first | go_big_quiet_step (rfl) | quiet_step (rfl)
  refine wpQuiet_nil ?_
  rw [wpWy_take]
  simp only [List.getElem?_toArray, List.getElem?_cons_succ, List.getElem?_cons_zero]
  first | go_big_quiet_step (rfl) | quiet_step (rfl)
  refine wpQuiet_nil ?_
  rw [wpWy_take]
  simp only [List.getElem?_toArray, List.getElem?_cons_succ, List.getElem?_cons_zero]
  first | go_big_quiet_step (rfl) | quiet_step (rfl)
  refine wpQuiet_nil ?_
  rw [wpWy_fin]
  go_wp2
  exact bodyPost_ret (results_tmp3 rfl _ _ _) rfl ⟨m, rfl, hm, B7.out.trans (D2.out.mono B7.out.size)⟩
end Go.Proofs.Ytebkhgficochoaa

/- One note more: nothing more is possible. -/
namespace Go.Proofs.Ytebkhgficochoaa
open Go.RowKit Go.Lib

/-- A row with one note more. -/
def RwD.more (r : RwD) (x : Nt) : RwD := { r with ns := r.ns ++ [x] }
section
variable {r : RwD} {x : Nt}
theorem more_wins (r : RwD) (x : Nt) : (r.more x).wins = noteD r.sh r.old r.wins x := by
  unfold RwD.wins RwD.more notedD
  dsimp only
  rw [List.foldl_append]
  rfl
theorem more_have (hf : (r.more x).fault = 0) : r.haveB x = true := by
  obtain ⟨-, hns, -, -, -⟩ := fault_ok hf
  exact hns x (by show x ∈ r.ns ++ [x]; simp)
theorem more_win {p : Nat} {t : Int} (hr : r.fault = 0) (hf : (r.more x).fault = 0) (h : winD (r.more x).wins p t = true) : winD r.wins p t = true := by
  obtain ⟨hok, -, -, -, -⟩ := fault_ok hr
  obtain ⟨h1, -, -⟩ := note_plant hok (more_have hf)
  have hd10 : r.dug.length ≤ 10 := by have := hok.dug; have := hok.n1; omega
  rw [more_wins, winD_note _ _ _ _ (by rw [r.wins_length]; omega), Bool.and_eq_true] at h
  exact h.1
/-- Where the windows are wider, more is possible. -/
theorem poss_wide {ws wx : List (Int × Int)} (h : ∀ p t, winD wx p t = true → winD ws p t = true) {t : List Int} (ht : r.possB wx t = true) : r.possB ws t = true := by
  refine all_range.2 fun q hq => ?_
  have hp := all_range.1 ht q hq
  unfold RwD.possAt at *
  rw [Bool.and_eq_true] at *
  exact ⟨h _ _ hp.1, hp.2⟩
theorem more_poss (hr : r.fault = 0) (hf : (r.more x).fault = 0) {t : List Int} (ht : (r.more x).possB (r.more x).wins t = true) : r.possB r.wins t = true :=
  poss_wide (r := r) (fun _ _ h => more_win hr hf h) ht
theorem more_less (hr : r.fault = 0) (hf : (r.more x).fault = 0) (hc : (r.more x).can = true) : r.can = true ∧ ∀ q, q < r.dug.length → r.earliest.getD q 0 ≤ (r.more x).earliest.getD q 0 :=
  less_of (fault_ok hr).1 (fault_ok hf).1 rfl rfl (fun _ _ ht => more_poss hr hf ht) hc
theorem winD_without' (ws : List (Int × Int)) (p : Nat) (hp : p < ws.length) (q : Nat) (t : Int) : winD (withoutD ws p) q t = (winD ws q t && (!decide (q = p) || decide (t = 31))) := by
  by_cases e : q = p
  · subst e; rw [winD_without ws q hp]; simp
  · unfold winD withoutD
    rw [winAt_set, if_neg (fun h => e h.1)]
    simp [e]
/-- What was known stays known. -/
theorem more_known (hr : r.fault = 0) (hf : (r.more x).fault = 0) (hc : (r.more x).can = true) {p : Nat} (hp : p < r.dug.length) (h3 : r.knownD r.wins r.earliest p ≠ 3) :
    r.knownD r.wins r.earliest p = (r.more x).knownD (r.more x).wins (r.more x).earliest p := by
  obtain ⟨hok, -, -, -, -⟩ := fault_ok hr
  obtain ⟨hokx, -, -, -, -⟩ := fault_ok hf
  obtain ⟨-, hle⟩ := more_less hr hf hc
  have hd10 : r.dug.length ≤ 10 := by have := hok.dug; have := hok.n1; omega
  have hx := earliest_ok (r := r.more x)
  have hlx : (r.more x).ws.length = r.ws.length := rfl
  have hw := (fault_ok hr).2.2.2.1
  have hl := hle p hp
  unfold RwD.knownD at *
  by_cases e : r.earliest.getD p 0 = 31
  · rw [if_pos e, if_pos]
    have := hx.b p
    omega
  · rw [if_neg e] at h3 ⊢
    have hno : ¬ r.possB (withoutD r.wins p) (r.earlyD (withoutD r.wins p)) = true := fun h => h3 (by rw [if_pos h])
    rw [if_neg hno]
    have key : ∀ t, TrW r.ws.length t → (r.more x).possB (r.more x).wins t = true → t.getD p 0 ≠ 31 := fun t hT ht h31 => by
      refine hno (early_can hok hT (all_range.2 fun q hq => ?_))
      have h := all_range.1 (more_poss hr hf ht) q hq
      unfold RwD.possAt at *
      rw [Bool.and_eq_true] at *
      refine ⟨?_, h.2⟩
      rw [winD_without' _ _ (by rw [r.wins_length]; omega), h.1, Bool.true_and]
      by_cases e : q = p
      · subst e; rw [h31]; simp
      · simp [e]
    rw [if_neg (key _ hx hc), if_neg]
    intro h2
    refine key _ (early_ok (r.more x) _) (poss_wide (r := r.more x) (fun q t h => ?_) h2) ?_
    · rw [winD_without' _ _ (by rw [(r.more x).wins_length]; omega), Bool.and_eq_true] at h; exact h.1
    · have h := all_range.1 h2 p hp
      unfold RwD.possAt at h
      rw [Bool.and_eq_true, winD_without' _ _ (by rw [(r.more x).wins_length]; omega), Bool.and_eq_true] at h
      simpa using h.1.2
theorem illB_sub {r x : RwD} {s t : List Int} (hn : x.dug = r.dug) (hw : x.ws.length = r.ws.length) (h : ∀ q, q < r.dug.length → s.getD q 0 ≤ t.getD q 0) : (x.illB t).length ≤ (r.illB s).length := by
  refine length_le_sub illB_nodup fun p hp => ?_
  obtain ⟨⟨h1, h2⟩, h3⟩ := mem_illB.1 hp
  rw [hn] at h1
  refine mem_illB.2 ⟨⟨h1, ?_⟩, ?_⟩
  · unfold RwD.lastB RwD.dg at *; rw [← hn, ← hw]; exact h2
  · have := h p h1; omega
theorem more_least (hr : r.fault = 0) (hf : (r.more x).fault = 0) {m k : Nat} (h1 : Least r r.wins m) (h2 : Least (r.more x) (r.more x).wins k) : m ≤ k := by
  obtain ⟨t, hT, ht, he⟩ := h2.at_
  have := h1.le t hT (more_poss hr hf ht)
  have h3 : (r.illB t).length = ((r.more x).illB t).length := rfl
  omega
theorem more_most (hr : r.fault = 0) (hf : (r.more x).fault = 0) (hc : (r.more x).can = true) : ((r.more x).illB (r.more x).earliest).length ≤ (r.illB r.earliest).length :=
  illB_sub rfl rfl (more_less hr hf hc).2
end
end Go.Proofs.Ytebkhgficochoaa

/- IllNotes: the walk. -/
namespace Go.Proofs.Ytebkhgficochoaa
open Go.RowKit Go.Lib

theorem info_rnote : (Try.prog.info? 67).map (fun i => (i.zero, i.size, i.bytes)) = some (some (.agg #[.int .i64 0, .int .i64 0, .int .u8 0, .bool false]), 4, 24) := by kernel_rfl
theorem wpList_app_rnotes {ops : Array Oper} {rest : List Oper} {o : Oper} {a : Act} {w : World} {Q : Exit → Act → World → Prop} (hgd : o.guard = none) (s x : Operand) (ho : o.op = .call { callee := .builtin .append, args := #[s, x], argTypes := #[24, 24] })
    (base : Nat) (v : Value) (xs : List Nt) (hs : a.eval s = v) (hown : w.ownsRow base 67 4 v xs.length (xs.flatMap encN)) (A : Option Addr) (c : Nat) (ys : List Nt) (hx : a.eval x = .slice A ys.length c) (hA : A = none → ys.length = 0 ∧ c = 0) (hy : Sl w w.heap.size 4 encN A ys) (hl : xs.length + ys.length ≤ 1000) (hb : base ≤ w.heap.size)
    (h : ∀ v' w', w'.ownsRow base 67 4 v' (xs ++ ys).length ((xs ++ ys).flatMap encN) → Below base w w' → w.grownBy w' v.ownBlock → wpList Try.prog ops Q rest (a.put o.dst v') w') : wpList Try.prog ops Q (o :: rest) a w := by
  obtain ⟨i0, hi, hp⟩ := Option.map_eq_some_iff.1 info_rnote
  have hz0 := congrArg (·.1) hp
  have hz1 := congrArg (·.2.1) hp
  have hz2 := congrArg (·.2.2) hp
  dsimp only at hz0 hz1 hz2
  have hln : (ys.flatMap encN).length = ys.length * 4 := flat_len (enc := encN) (fun _ => rfl) _
  have h1c : ∀ u ∈ ys.flatMap encN, u.oneCell' = true := fun u hu => by
    obtain ⟨z, _, hz⟩ := List.mem_flatMap.1 hu
    exact encN_one z u hz
  refine wpList_append_sl hgd s x 24 ho base 67 i0 _ 4 24 Try.underlying24 hi hz0 hz1 hz2 rfl (by decide) v xs.length _ hs hown A ys.length c (ys.flatMap encN) hx hln hA (hy.news (enc := encN) (fun _ => rfl)) h1c (by unfold maxLen; omega) (by omega) hb ?_
  intro v' w' hown' hg _
  refine h v' w' (by rw [List.length_append, List.flatMap_append]; exact hown') ((Below.refl base w).grown hg hb (fun k e => (hown.lt k e).1)) hg
theorem size_rnote : (Try.prog.info? 67).map (·.size) = some 4 := by kernel_rfl
set_option maxRecDepth 100000 in
set_option maxHeartbeats 8000000 in
theorem IllNotes_unready (r : RwM) (x : Nt) (w : World) (h : OpenRow r w) (hy : (r.d.thin && decide (r.d.fault = 0)) = false) : Calls Try.prog 9 #[.agg r.cells.toArray, .agg (encN x).toArray] w fun e w' => e = .returned (.bool true) ∧ Below w.heap.size w w' := by
  have l0 : Lies ((w.alloc (.cells r.cells.toArray 26)).alloc (.cells (encN x).toArray 67)) w.heap.size 26 r.cells.toArray := (Lies.fresh _ _ _).alloc _
  have b0 : Below w.heap.size w ((w.alloc (.cells r.cells.toArray 26)).alloc (.cells (encN x).toArray 67)) := (by repeat (first | (with_reducible assumption) | (with_reducible exact Below.refl _ _) | (with_reducible refine Below.drew ?_) | (with_reducible refine below_drewN ?_ _) | ((with_reducible refine Below.setCell ?_ ?_ _); rotate_left; focus (first | (simp; done) | (simp; omega) | omega)) | ((with_reducible refine Below.alloc ?_ ?_ _); rotate_left; focus (first | (simp; done) | (simp; omega) | omega))))
  have hR := fun W hb => ready_no h hy (W := W) hb
  have HR := Lib.hid hR
  have L0 := Lib.hid l0
  have B0 := Lib.hid b0
  clear hR l0 b0 hy h
  go_enter Try.func9, Try.ntmps9
  go_upto_region 1 with (fail)
  change Code.wp _ _ _ _ ((w.alloc (.cells r.cells.toArray 26)).alloc (.cells (encN x).toArray 67))
  generalize (w.alloc (.cells r.cells.toArray 26)).alloc (.cells (encN x).toArray 67) = w0 at *
  go_wp2_with (first
    | (refine wpList_load_row (o := ⟨some 17, _, _, _, _, _⟩) ?_ 26 (.tmp 2) ?_ w.heap.size ?_ 26 r.cells.toArray (0, 0) _ L0.out Try.underlying26 rfl size_refrow ?_; rfl; rfl; rfl)
    | (go_at_call 38; refine (HR.out _ B0.out).mono ?_; rintro e w1 ⟨rfl, hb1⟩)
    | (go_at_call 16; refine (awake_any _).mono ?_; rintro e w2 ⟨rfl, hb2⟩))
  go_ret
  exact ⟨rfl, B0.out.trans ((hb1.trans (hb2.mono hb1.size)).mono B0.out.size)⟩
/-- Known of a row from Row, whatever it tells. -/
theorem Known_either {r : RwM} (hf : r.d.fault = 0) : ∃ er : Int, ∀ (q : RwM) (w0 W : World), LawR r w0 q W → Calls Try.prog 27 #[.agg q.cells.toArray] W fun e w' => ∃ (A : Option Addr) (n c : Nat), e = .returned (.tuple #[.slice A n c, .int .i64 er]) ∧ Below W.heap.size W w' := by
  cases hc : r.d.can with
  | true => exact ⟨0, fun q w0 W h => (Known_of h (err_ok hf hc)).mono fun e w' ⟨A, c, h1, _, _, h2⟩ => ⟨A, _, c, h1, h2⟩⟩
  | false => exact ⟨10, fun q w0 W h => (Known_of_no h (by rw [err_sick hf hc]; decide)).mono fun e w' ⟨h1, h2⟩ => ⟨none, 0, 0, by rw [h1, err_sick hf hc], h2⟩⟩
theorem Count_of {r q : RwM} {w W : World} (hq : LawR r w q W) (hb : r.d.err = 0) : Calls Try.prog 28 #[.agg q.cells.toArray] W (YesC r.d W) := by
  have := Count_yes q W hq.at_ (by rw [hq.d]; exact hb)
  rwa [hq.d] at this
theorem Count_of_no {r q : RwM} {w W : World} (hq : LawR r w q W) (hb : r.d.err ≠ 0) : Calls Try.prog 28 #[.agg q.cells.toArray] W (NoC r.d.err W) := by
  have := Count_no q W hq.at_ (by rw [hq.d]; exact hb)
  rwa [hq.d] at this
/-- less, of a row and one with a note more. -/
theorem less_more (r x0 : RwM) (x : Nt) (w : World) (hr : r.At w w.heap.size) (hx : x0.At w w.heap.size) (ht : ThinM r) (htx : ThinM x0) (he : x0.d = r.d.more x) (hf : r.d.fault = 0) (hfx : x0.d.fault = 0) :
    Calls Try.prog 41 #[.agg r.cells.toArray, .agg x0.cells.toArray] w fun e w' => e = .returned (.bool true) ∧ Below w.heap.size w w' := by
  obtain ⟨hok, -, -, hlw, -⟩ := fault_ok hf
  obtain ⟨hokx, -, -, hlwx, -⟩ := fault_ok hfx
  have h10 : r.d.dug.length ≤ 10 := by have := hok.dug; have := hok.n1; omega
  have h10x : x0.d.dug.length ≤ 10 := by have := hokx.dug; have := hokx.n1; omega
  cases hcx : x0.d.can with
  | false =>
    cases hcr : r.d.can with
    | true => exact less_sick_yes r x0 w hr hx ht htx (err_ok hf hcr) (err_sick hfx hcx)
    | false => exact less_sick_no r x0 w hr hx ht htx (err_sick hf hcr) (err_sick hfx hcx)
  | true =>
    have hfx2 := hfx
    have hcx2 := hcx
    rw [he] at hfx2 hcx2
    obtain ⟨hcr, hle⟩ := more_less hf hfx2 hcx2
    refine less_both r x0 w hr hx ht htx (err_ok hf hcr) (err_ok hfx hcx) ?_ ?_ hok.n1 fun k a b ha hb => ?_
    · rw [firstD_length _ h10]; exact hok.dug
    · rw [firstD_length _ h10x]; exact (show (x0.d.dug.length : Int) = r.d.n by rw [he]; exact hok.dug)
    · obtain ⟨hk, rfl⟩ := first_at h10 ha
      obtain ⟨hk2, rfl⟩ := first_at h10x hb
      have b1 := (earliest_ok (r := x0.d)).b k
      have b2 := (earliest_ok (r := r.d)).b k
      have h3 := hle k hk
      rw [← he] at h3
      exact out31_le (by omega) (by omega) h3
/-- Behind the appends: the row x0, one note more than r. -/
structure NoteX (r x0 : RwM) (x : Nt) (w : World) (gx : Nat) (W : World) : Prop where
  o : Lies W gx 26 x0.cells.toArray
  a : x0.At W W.heap.size
  t : ThinM x0
  e : x0.d = r.d.more x
  r : Lies W w.heap.size 26 r.cells.toArray
  b : Below w.heap.size w W
theorem note_mk {r : RwM} {x : Nt} {w W : World} {gx BB : Nat} {A : Option Addr} {c : Nat} (ho : Lies W gx 26 r.cells.toArray) (hL : Lies W w.heap.size 26 r.cells.toArray) (hB : Below w.heap.size w W) (hr : r.At w w.heap.size) (ht : ThinM r) (hn : r.ns.l.length ≤ 40) (hx : 0 ≤ x.k ∧ x.k ≤ 255)
    (hg : w.heap.size < gx) (hgB : gx < BB) (how : W.ownsRow BB 67 4 (.slice A (r.ns.l ++ [x]).length c) (r.ns.l ++ [x]).length ((r.ns.l ++ [x]).flatMap encN)) :
    ∃ x0, NoteX r x0 x w gx (W.setCell ⟨gx, 7, none⟩ (.slice A (r.ns.l ++ [x]).length c)) := by
  have hO := Only.set gx 7 W (.slice A (r.ns.l ++ [x]).length c)
  have h5 := own_keep how fun j hj => hO.block j (by have := (own_at how hj).1; omega)
  obtain ⟨_, _, e1, _, s1⟩ := Sl.of_own (enc := encN) (fun _ => rfl) h5 rfl
  cases e1
  have hb := hO.below hB (by omega)
  have ha := hr.below hb hb.size
  refine ⟨{ r with ns := ⟨A, r.ns.l ++ [x], c⟩ }, ?_, ⟨ha.ws, ha.dug, s1, ha.lw, ha.ld, by show (r.ns.l ++ [x]).length ≤ 1000000; rw [List.length_append]; simp; omega, fun y hy => ?_⟩, ⟨ht.w, by show (r.ns.l ++ [x]).length ≤ 45; rw [List.length_append]; simp; omega, ht.d, ht.nn⟩, rfl, hO.lies hL (by omega), hb⟩
  · have h7 := ho.set 7 (.slice A (r.ns.l ++ [x]).length c)
    unfold RwM.cells at *
    simpa using h7
  · rcases List.mem_append.1 hy with hy | hy
    · exact hr.kn y hy
    · simp at hy; subst hy; exact hx
set_option maxRecDepth 100000 in
set_option maxHeartbeats 16000000 in
theorem IllNotes_main (r : RwM) (x : Nt) (w : World) (hx : 0 ≤ x.k ∧ x.k ≤ 255) (hr : r.At w w.heap.size) (ht : ThinM r) (hnn : r.ns.A = none → r.ns.l.length = 0 ∧ r.ns.c = 0) (hy : (r.d.thin && decide (r.d.fault = 0)) = true) (hf : r.d.fault = 0) :
    Calls Try.prog 9 #[.agg r.cells.toArray, .agg (encN x).toArray] w fun e w' => e = .returned (.bool true) ∧ Below w.heap.size w w' := by
  obtain ⟨xp, xw, xk, xy⟩ := x
  have l0 : Lies ((w.alloc (.cells r.cells.toArray 26)).alloc (.cells (encN ⟨xp, xw, xk, xy⟩).toArray 67)) w.heap.size 26 r.cells.toArray := (Lies.fresh _ _ _).alloc _
  have l1 : Lies ((w.alloc (.cells r.cells.toArray 26)).alloc (.cells (encN ⟨xp, xw, xk, xy⟩).toArray 67)) (w.heap.size + 1) 67 (encN ⟨xp, xw, xk, xy⟩).toArray := Lies.fresh' (by simp)
  have b0 : Below w.heap.size w ((w.alloc (.cells r.cells.toArray 26)).alloc (.cells (encN ⟨xp, xw, xk, xy⟩).toArray 67)) := (by repeat (first | (with_reducible assumption) | (with_reducible exact Below.refl _ _) | (with_reducible refine Below.drew ?_) | (with_reducible refine below_drewN ?_ _) | ((with_reducible refine Below.setCell ?_ ?_ _); rotate_left; focus (first | (simp; done) | (simp; omega) | omega)) | ((with_reducible refine Below.alloc ?_ ?_ _); rotate_left; focus (first | (simp; done) | (simp; omega) | omega))))
  have hR := fun W (hb : Below w.heap.size w W) => ready_any r W (hr.below hb hb.size)
  rw [hy] at hR
  have hn40 : r.ns.l.length ≤ 40 := (fault_ok hf).2.2.2.2
  have HR := Lib.hid hR
  have L0 := Lib.hid l0
  have N0 := Lib.hid l1
  have B0 := Lib.hid b0
  have HRR := Lib.hid hr
  have HT := Lib.hid ht
  have HF := Lib.hid hf
  have HNN := Lib.hid hnn
  have HX := Lib.hid hx
  clear hR l0 l1 b0 hy hr ht hnn hf hx
  go_enter Try.func9, Try.ntmps9
  go_upto_region 1 with (fail)
  change Code.wp _ _ _ _ ((w.alloc (.cells r.cells.toArray 26)).alloc (.cells (encN ⟨xp, xw, xk, xy⟩).toArray 67))
  generalize (w.alloc (.cells r.cells.toArray 26)).alloc (.cells (encN ⟨xp, xw, xk, xy⟩).toArray 67) = w0 at *
  go_upto_region 3 with (first
    | (refine wpList_load_row (o := ⟨some 17, _, _, _, _, _⟩) ?_ 26 (.tmp 2) ?_ w.heap.size ?_ 26 r.cells.toArray (0, 0) _ L0.out Try.underlying26 rfl size_refrow ?_; rfl; rfl; rfl)
    | (go_at_call 38; refine (HR.out _ B0.out).mono ?_; rintro e w1 ⟨rfl, hb1⟩))
  have L1 := Lib.hid (L0.out.call hb1)
  have N1 := Lib.hid (N0.out.call hb1)
  have B1 := Lib.hid (B0.out.trans (hb1.mono B0.out.size))
  clear hb1 L0 N0 B0 HR
  have Z3 := Lib.hid (show Lies (w1.alloc (.cells zrow.toArray 26)) w1.heap.size 26 zrow.toArray from Lies.fresh _ _ _)
  go_upto_region 4 with (first
    | (refine wpList_load_row (o := ⟨some 21, _, _, _, _, _⟩) ?_ 26 (.tmp 2) ?_ w.heap.size ?_ 26 r.cells.toArray (0, 0) _ L1.out Try.underlying26 rfl size_refrow ?_; rfl; rfl; rfl)
    | (refine wpList_store_cells (o := ⟨none, .store 26 (.tmp 5) _, _, _, _, _⟩) ?_ 26 (.tmp 5) (.tmp 21) ?_ w1.heap.size 0 ?_ 26 zrow r.cells ?_ Z3.out (by simp [zrow, RwM.cells]) size_refrow (part_one r _ _ _ rfl rfl rfl) ?_; rfl; rfl; rfl; rfl; intro w4 HS4 HO4; (try simp only [Act.put])))
  have hs4 := HS4.out
  rw [splice_whole (by rfl)] at hs4
  have hz3 := (Below.refl w1.heap.size w1).alloc (Nat.le_refl _) (.cells zrow.toArray 26)
  have hb4 : Below w1.heap.size w1 w4 := HO4.out.below hz3 (Nat.le_refl _)
  have L4 := Lib.hid (L1.out.call hb4)
  have N4 := Lib.hid (N1.out.call hb4)
  have B4 := Lib.hid (B1.out.trans (hb4.mono B1.out.size))
  have X4 := Lib.hid hs4
  have hgx : w.heap.size < w1.heap.size := L1.out.in_
  have hgx4 : w1.heap.size < w4.heap.size := X4.out.in_
  clear hs4 hz3 hb4 HS4 HO4 Z3 L1 N1 B1
  generalize w1.heap.size = gx at *
  go_cut [5] from 22 to 29 (fun s5 wx => s5 = .pointer (some ⟨gx, 0, none⟩) ∧ ∃ x0, NoteX r x0 ⟨xp, xw, xk, xy⟩ w gx wx)
  case first =>
    have c23 : ∀ c : Cls (fun W => Below w4.heap.size w4 W), c.val.cell? ⟨w.heap.size, 7, none⟩ = some (.slice r.ns.A r.ns.l.length r.ns.c) := fun c => (L4.out.call c.h).at_ 7
    have hr26 : ∀ W, (∃ cc : Cls (fun W => Below w4.heap.size w4 W), W = cc.val) → W.rangeAt (w.heap.size + 1) 0 [.int .i64 xp, .int .i64 xw, .int .u8 xk, .bool xy] := by
      rintro W ⟨cc, rfl⟩
      exact Lies.range (cs := encN ⟨xp, xw, xk, xy⟩) (N4.out.call cc.h) (fun j v hj => by rw [Nat.zero_add]; exact hj)
    have HR26 := Lib.hid hr26
    have HD4 := Lib.hid ((HRR.out.ns.below B4.out).more B4.out.size)
    clear hr26
    haveI hne : Nonempty (Cls (fun W => Below w4.heap.size w4 W)) := ⟨⟨w4, Below.refl _ _⟩⟩
    refine wp_region_ways3 8 [1, 2, 4] (.way 0 (.way 3 (.way 5 (.way 6 (.take 7 .fin) .fin) .fin) (.way 5 (.way 3 (.way 6 (.take 7 .fin) .fin) .fin) .fin)) (.way 5 (.way 0 (.way 3 (.way 6 (.take 7 .fin) .fin) .fin) .fin) .fin)) (fun W => ∃ cc : Cls (fun W => Below w4.heap.size w4 W), W = cc.val) (by kernel_rfl) (by kernel_rfl) (Cls.here (Below.refl _ _).drew) ?_
    simp only [List.filterMap_cons, List.filterMap_nil, List.take_succ_cons, List.take_zero, List.getElem?_toArray, List.getElem?_cons_zero, List.getElem?_cons_succ, List.drop_succ_cons, List.drop_zero]
    repeat (first
      | (refine wpQuiet_load_wholeG (o := ⟨some 26, _, _, _, _, _⟩) ?_ 67 (.tmp 3) ?_ (w.heap.size + 1) 0 ?_ [.int .i64 xp, .int .i64 xw, .int .u8 xk, .bool xy] _ HR26.out Try.underlying67 rfl size_rnote ?_; rfl; rfl; rfl; simp only [Act.put, List.setIfInBounds_toArray, List.set_cons_zero, List.set_cons_succ])
      | go_big_quiet_step (rfl) | quiet_step (rfl))
    refine wpQuiet_nil ?_
    clear c23
    have D0 := Lib.hid (show Below w4.heap.size w4 w4.drew from (Below.refl _ _).drew)
    generalize w4.drew = d0 at *
    rw [wpWy_way]
    refine ⟨?_, ?_⟩
    · simp only [List.getElem?_toArray, List.getElem?_cons_zero]
      go_wp2_with (fail)
      have hbq := (Below.refl d0.heap.size d0).alloc (Nat.le_refl _) (.cells #[] 67)
      have O1 := Lib.hid (show (d0.alloc (.cells #[] 67)).ownsRow w4.heap.size 67 4 (.slice (some ⟨d0.heap.size, 0, none⟩) 0 0) ([] : List Nt).length (([] : List Nt).flatMap encN) by simpa using World.ownsRow_made d0 #[] 0 D0.out.size (by decide) (by simp))
      have D1 := Lib.hid (D0.out.trans (hbq.mono D0.out.size))
      have I0 := Lib.hid (show d0.heap.size < (d0.alloc (.cells #[] 67)).heap.size by simp)
      clear hbq
      generalize d0.alloc (.cells #[] 67) = d1 at *
      generalize d0.heap.size = g0 at *
      refine Ends.intro ⟨Cls.here D1.out, ?_⟩
      rw [wpWy_way]
      refine ⟨?_, ?_⟩
      · simp only [List.getElem?_toArray, List.getElem?_cons_succ, List.getElem?_cons_zero]
        go_wp2_with (refine wpList_app_rnotes (o := ⟨some 25, _, _, _, _, _⟩) ?_ (.tmp 22) (.tmp 24) ?_ w4.heap.size (.slice (some ⟨g0, 0, none⟩) 0 0) [] ?_ O1.out r.ns.A r.ns.c r.ns.l ?_ HNN.out ((HD4.out.below D1.out).more D1.out.size) (by simp; omega) D1.out.size ?_; rfl; rfl; rfl; rfl; intro v3 d2 hown3 hb3 hg3)
        rw [List.nil_append] at hown3
        have D2 := Lib.hid (D1.out.trans hb3)
        have O3 := Lib.hid hown3
        have ⟨A3, c3, hv3, hA3, _⟩ := Sl.of_own (enc := encN) (fun _ => rfl) hown3 rfl
        subst hv3
        clear hown3 hb3 hg3 hA3
        refine Ends.intro ⟨Cls.here D2.out, ?_⟩
        rw [wpWy_way]
        refine ⟨?_, by exact trivial⟩
        simp only [List.getElem?_toArray, List.getElem?_cons_succ, List.getElem?_cons_zero]
        go_wp2_with (fail)
        have hbq := (Below.refl d2.heap.size d2).alloc (Nat.le_refl _) (.cells #[.int .i64 xp, .int .i64 xw, .int .u8 xk, .bool xy] 67)
        have E5 := Lib.hid (show Lies (d2.alloc (.cells #[.int .i64 xp, .int .i64 xw, .int .u8 xk, .bool xy] 67)) d2.heap.size 67 (encN ⟨xp, xw, xk, xy⟩).toArray from Lies.fresh' rfl)
        have O3 := Lib.hid (ownsRow_call O3.out hbq)
        have D3 := Lib.hid (D2.out.trans (hbq.mono D2.out.size))
        have I5 := Lib.hid (show d2.heap.size < (d2.alloc (.cells #[.int .i64 xp, .int .i64 xw, .int .u8 xk, .bool xy] 67)).heap.size by simp)
        clear hbq
        generalize d2.alloc (.cells #[.int .i64 xp, .int .i64 xw, .int .u8 xk, .bool xy] 67) = d3 at *
        generalize d2.heap.size = g5 at *
        refine Ends.intro ⟨Cls.here D3.out, ?_⟩
        rw [wpWy_way]
        refine ⟨?_, by exact trivial⟩
        simp only [List.getElem?_toArray, List.getElem?_cons_succ, List.getElem?_cons_zero]
        go_wp2_with (refine wpList_app_rnotes (o := ⟨some 28, _, _, _, _, _⟩) ?_ (.tmp 25) (.tmp 27) ?_ w4.heap.size (.slice A3 r.ns.l.length c3) r.ns.l ?_ O3.out (some ⟨g5, 0, none⟩) 1 [⟨xp, xw, xk, xy⟩] ?_ (by simp) (lies_one rfl E5.out) (by simp; omega) D3.out.size ?_; rfl; rfl; rfl; rfl; intro v6 d4 hown6 hb6 hg6)
        have D4 := Lib.hid (D3.out.trans hb6)
        have O6 := Lib.hid hown6
        have ⟨A6, c6, hv6, hA6, _⟩ := Sl.of_own (enc := encN) (fun _ => rfl) hown6 rfl
        subst hv6
        clear hown6 hb6 hg6 hA6
        refine Ends.intro ⟨Cls.here D4.out, ?_⟩
        rw [wpWy_take]
        simp only [List.getElem?_toArray, List.getElem?_cons_succ, List.getElem?_cons_zero]
        first | go_big_quiet_step (rfl) | quiet_step (rfl)
        refine wpQuiet_nil ?_
        rw [wpWy_fin]
        have X9 := Lib.hid (X4.out.below D4.out hgx4)
        have c29 : d4.cell? ⟨gx, 7, none⟩ = some (.slice r.ns.A r.ns.l.length r.ns.c) := X9.out.at_ 7
        have f29 : d4.frozen? ⟨gx, 7, none⟩ = false := X9.out.free 7
        have HNX := Lib.hid (note_mk X9.out (L4.out.call D4.out) (B4.out.trans (D4.out.mono B4.out.size)) HRR.out HT.out hn40 HX.out hgx hgx4 O6.out)
        have h6 := HNX.out
        rw [show (r.ns.l ++ [(⟨xp, xw, xk, xy⟩ : Nt)]).length = r.ns.l.length + 1 by simp] at h6
        have HNY := Lib.hid h6
        clear h6 HNX
        go_wp2
        go_meet
        case rel => exact ⟨rfl, HNY.out⟩
      · rw [wpWy_way]
        refine ⟨?_, by exact trivial⟩
        simp only [List.getElem?_toArray, List.getElem?_cons_succ, List.getElem?_cons_zero]
        go_wp2_with (fail)
        have hbq := (Below.refl d1.heap.size d1).alloc (Nat.le_refl _) (.cells #[.int .i64 xp, .int .i64 xw, .int .u8 xk, .bool xy] 67)
        have E5 := Lib.hid (show Lies (d1.alloc (.cells #[.int .i64 xp, .int .i64 xw, .int .u8 xk, .bool xy] 67)) d1.heap.size 67 (encN ⟨xp, xw, xk, xy⟩).toArray from Lies.fresh' rfl)
        have O1 := Lib.hid (ownsRow_call O1.out hbq)
        have G50 := Lib.hid (show d1.heap.size ≠ g0 by have := I0.out; omega)
        have D2 := Lib.hid (D1.out.trans (hbq.mono D1.out.size))
        have I5 := Lib.hid (show d1.heap.size < (d1.alloc (.cells #[.int .i64 xp, .int .i64 xw, .int .u8 xk, .bool xy] 67)).heap.size by simp)
        clear hbq
        generalize d1.alloc (.cells #[.int .i64 xp, .int .i64 xw, .int .u8 xk, .bool xy] 67) = d2 at *
        generalize d1.heap.size = g5 at *
        refine Ends.intro ⟨Cls.here D2.out, ?_⟩
        rw [wpWy_way]
        refine ⟨?_, by exact trivial⟩
        simp only [List.getElem?_toArray, List.getElem?_cons_succ, List.getElem?_cons_zero]
        go_wp2_with (refine wpList_app_rnotes (o := ⟨some 25, _, _, _, _, _⟩) ?_ (.tmp 22) (.tmp 24) ?_ w4.heap.size (.slice (some ⟨g0, 0, none⟩) 0 0) [] ?_ O1.out r.ns.A r.ns.c r.ns.l ?_ HNN.out ((HD4.out.below D2.out).more D2.out.size) (by simp; omega) D2.out.size ?_; rfl; rfl; rfl; rfl; intro v3 d3 hown3 hb3 hg3)
        rw [List.nil_append] at hown3
        have D3 := Lib.hid (D2.out.trans hb3)
        have O3 := Lib.hid hown3
        have E5 := Lib.hid (E5.out.grown hg3 (fun e => G50.out (by simpa [Value.ownBlock] using e)))
        have ⟨A3, c3, hv3, hA3, _⟩ := Sl.of_own (enc := encN) (fun _ => rfl) hown3 rfl
        subst hv3
        clear hown3 hb3 hg3 hA3
        refine Ends.intro ⟨Cls.here D3.out, ?_⟩
        rw [wpWy_way]
        refine ⟨?_, by exact trivial⟩
        simp only [List.getElem?_toArray, List.getElem?_cons_succ, List.getElem?_cons_zero]
        go_wp2_with (refine wpList_app_rnotes (o := ⟨some 28, _, _, _, _, _⟩) ?_ (.tmp 25) (.tmp 27) ?_ w4.heap.size (.slice A3 r.ns.l.length c3) r.ns.l ?_ O3.out (some ⟨g5, 0, none⟩) 1 [⟨xp, xw, xk, xy⟩] ?_ (by simp) (lies_one rfl E5.out) (by simp; omega) D3.out.size ?_; rfl; rfl; rfl; rfl; intro v6 d4 hown6 hb6 hg6)
        have D4 := Lib.hid (D3.out.trans hb6)
        have O6 := Lib.hid hown6
        have ⟨A6, c6, hv6, hA6, _⟩ := Sl.of_own (enc := encN) (fun _ => rfl) hown6 rfl
        subst hv6
        clear hown6 hb6 hg6 hA6
        refine Ends.intro ⟨Cls.here D4.out, ?_⟩
        rw [wpWy_take]
        simp only [List.getElem?_toArray, List.getElem?_cons_succ, List.getElem?_cons_zero]
        first | go_big_quiet_step (rfl) | quiet_step (rfl)
        refine wpQuiet_nil ?_
        rw [wpWy_fin]
        have X9 := Lib.hid (X4.out.below D4.out hgx4)
        have c29 : d4.cell? ⟨gx, 7, none⟩ = some (.slice r.ns.A r.ns.l.length r.ns.c) := X9.out.at_ 7
        have f29 : d4.frozen? ⟨gx, 7, none⟩ = false := X9.out.free 7
        have HNX := Lib.hid (note_mk X9.out (L4.out.call D4.out) (B4.out.trans (D4.out.mono B4.out.size)) HRR.out HT.out hn40 HX.out hgx hgx4 O6.out)
        have h6 := HNX.out
        rw [show (r.ns.l ++ [(⟨xp, xw, xk, xy⟩ : Nt)]).length = r.ns.l.length + 1 by simp] at h6
        have HNY := Lib.hid h6
        clear h6 HNX
        go_wp2
        go_meet
        case rel => exact ⟨rfl, HNY.out⟩
    · rw [wpWy_way]
      refine ⟨?_, by exact trivial⟩
      simp only [List.getElem?_toArray, List.getElem?_cons_succ, List.getElem?_cons_zero]
      go_wp2_with (fail)
      have hbq := (Below.refl d0.heap.size d0).alloc (Nat.le_refl _) (.cells #[.int .i64 xp, .int .i64 xw, .int .u8 xk, .bool xy] 67)
      have E5 := Lib.hid (show Lies (d0.alloc (.cells #[.int .i64 xp, .int .i64 xw, .int .u8 xk, .bool xy] 67)) d0.heap.size 67 (encN ⟨xp, xw, xk, xy⟩).toArray from Lies.fresh' rfl)
      have D1 := Lib.hid (D0.out.trans (hbq.mono D0.out.size))
      have I5 := Lib.hid (show d0.heap.size < (d0.alloc (.cells #[.int .i64 xp, .int .i64 xw, .int .u8 xk, .bool xy] 67)).heap.size by simp)
      clear hbq
      generalize d0.alloc (.cells #[.int .i64 xp, .int .i64 xw, .int .u8 xk, .bool xy] 67) = d1 at *
      generalize d0.heap.size = g5 at *
      refine Ends.intro ⟨Cls.here D1.out, ?_⟩
      rw [wpWy_way]
      refine ⟨?_, by exact trivial⟩
      simp only [List.getElem?_toArray, List.getElem?_cons_zero]
      go_wp2_with (fail)
      have hbq := (Below.refl d1.heap.size d1).alloc (Nat.le_refl _) (.cells #[] 67)
      have E5 := Lib.hid (E5.out.alloc (.cells #[] 67))
      have G50 := Lib.hid (show g5 ≠ d1.heap.size by have := I5.out; omega)
      have O1 := Lib.hid (show (d1.alloc (.cells #[] 67)).ownsRow w4.heap.size 67 4 (.slice (some ⟨d1.heap.size, 0, none⟩) 0 0) ([] : List Nt).length (([] : List Nt).flatMap encN) by simpa using World.ownsRow_made d1 #[] 0 D1.out.size (by decide) (by simp))
      have D2 := Lib.hid (D1.out.trans (hbq.mono D1.out.size))
      have I0 := Lib.hid (show d1.heap.size < (d1.alloc (.cells #[] 67)).heap.size by simp)
      clear hbq
      generalize d1.alloc (.cells #[] 67) = d2 at *
      generalize d1.heap.size = g0 at *
      refine Ends.intro ⟨Cls.here D2.out, ?_⟩
      rw [wpWy_way]
      refine ⟨?_, by exact trivial⟩
      simp only [List.getElem?_toArray, List.getElem?_cons_succ, List.getElem?_cons_zero]
      go_wp2_with (refine wpList_app_rnotes (o := ⟨some 25, _, _, _, _, _⟩) ?_ (.tmp 22) (.tmp 24) ?_ w4.heap.size (.slice (some ⟨g0, 0, none⟩) 0 0) [] ?_ O1.out r.ns.A r.ns.c r.ns.l ?_ HNN.out ((HD4.out.below D2.out).more D2.out.size) (by simp; omega) D2.out.size ?_; rfl; rfl; rfl; rfl; intro v3 d3 hown3 hb3 hg3)
      rw [List.nil_append] at hown3
      have D3 := Lib.hid (D2.out.trans hb3)
      have O3 := Lib.hid hown3
      have E5 := Lib.hid (E5.out.grown hg3 (fun e => G50.out (by simpa [Value.ownBlock] using e)))
      have ⟨A3, c3, hv3, hA3, _⟩ := Sl.of_own (enc := encN) (fun _ => rfl) hown3 rfl
      subst hv3
      clear hown3 hb3 hg3 hA3
      refine Ends.intro ⟨Cls.here D3.out, ?_⟩
      rw [wpWy_way]
      refine ⟨?_, by exact trivial⟩
      simp only [List.getElem?_toArray, List.getElem?_cons_succ, List.getElem?_cons_zero]
      go_wp2_with (refine wpList_app_rnotes (o := ⟨some 28, _, _, _, _, _⟩) ?_ (.tmp 25) (.tmp 27) ?_ w4.heap.size (.slice A3 r.ns.l.length c3) r.ns.l ?_ O3.out (some ⟨g5, 0, none⟩) 1 [⟨xp, xw, xk, xy⟩] ?_ (by simp) (lies_one rfl E5.out) (by simp; omega) D3.out.size ?_; rfl; rfl; rfl; rfl; intro v6 d4 hown6 hb6 hg6)
      have D4 := Lib.hid (D3.out.trans hb6)
      have O6 := Lib.hid hown6
      have ⟨A6, c6, hv6, hA6, _⟩ := Sl.of_own (enc := encN) (fun _ => rfl) hown6 rfl
      subst hv6
      clear hown6 hb6 hg6 hA6
      refine Ends.intro ⟨Cls.here D4.out, ?_⟩
      rw [wpWy_take]
      simp only [List.getElem?_toArray, List.getElem?_cons_succ, List.getElem?_cons_zero]
      first | go_big_quiet_step (rfl) | quiet_step (rfl)
      refine wpQuiet_nil ?_
      rw [wpWy_fin]
      have X9 := Lib.hid (X4.out.below D4.out hgx4)
      have c29 : d4.cell? ⟨gx, 7, none⟩ = some (.slice r.ns.A r.ns.l.length r.ns.c) := X9.out.at_ 7
      have f29 : d4.frozen? ⟨gx, 7, none⟩ = false := X9.out.free 7
      have HNX := Lib.hid (note_mk X9.out (L4.out.call D4.out) (B4.out.trans (D4.out.mono B4.out.size)) HRR.out HT.out hn40 HX.out hgx hgx4 O6.out)
      have h6 := HNX.out
      rw [show (r.ns.l ++ [(⟨xp, xw, xk, xy⟩ : Nt)]).length = r.ns.l.length + 1 by simp] at h6
      have HNY := Lib.hid h6
      clear h6 HNX
      go_wp2
      go_meet
      case rel => exact ⟨rfl, HNY.out⟩
  case rest =>
    obtain ⟨rfl, x0, hX⟩ := hcut
    have FX := Lib.hid (refFault_any x0 wc hX.a)
    have RR := Lib.hid (fun W (hb : Below wc.heap.size wc W) => lawRow_thin r W ((HRR.out.below hX.b hX.b.size).below hb hb.size) HT.out)
    have RX := Lib.hid (fun W (hb : Below wc.heap.size wc W) => lawRow_thin x0 W (hX.a.below hb hb.size) hX.t)
    have LR := Lib.hid hX.r
    have LX := Lib.hid hX.o
    have BC := Lib.hid hX.b
    have HE := Lib.hid hX.e
    have AR := Lib.hid (HRR.out.below hX.b hX.b.size)
    have AX := Lib.hid hX.a
    have TX := Lib.hid hX.t
    clear hX L4 N4 B4 X4 HRR HNN HX
    by_cases hfx : x0.d.fault = 0
    case neg =>
      have hd : (x0.d.fault != 0) = true := by simpa using hfx
      clear hfx RR RX
      generalize x0.d.fault = fx at *
      go_wp2_with (first
        | (refine wpList_load_row (o := ⟨some 30, _, _, _, _, _⟩) ?_ 26 (.tmp 5) ?_ gx ?_ 26 x0.cells.toArray (0, 0) _ LX.out Try.underlying26 rfl size_refrow ?_; rfl; rfl; rfl)
        | (go_at_call 22; refine FX.out.mono ?_; rintro e w6 ⟨rfl, hb6⟩)
        | (go_at_call 16; refine (awake_any _).mono ?_; rintro e w7 ⟨rfl, hb7⟩))
      go_ret
      exact ⟨rfl, BC.out.trans ((hb6.trans (hb7.mono hb6.size)).mono BC.out.size)⟩
    have hff := hfx
    rw [HE.out] at hff
    have HFX := Lib.hid hfx
    have HFF := Lib.hid hff
    have fx := FX.out
    rw [hfx] at fx
    have FX := Lib.hid fx
    clear fx hff hfx
    go_upto_region 7 with (first
      | (refine wpList_load_row (o := ⟨some 30, _, _, _, _, _⟩) ?_ 26 (.tmp 5) ?_ gx ?_ 26 x0.cells.toArray (0, 0) _ LX.out Try.underlying26 rfl size_refrow ?_; rfl; rfl; rfl)
      | (go_at_call 22; refine FX.out.mono ?_; rintro e w6 ⟨rfl, hb6⟩))
    have D6 := Lib.hid hb6
    have LR6 := Lib.hid (LR.out.call hb6)
    clear hb6 FX
    have LX6 := Lib.hid (LX.out.call D6.out)
    have LE := Lib.hid (fun W (hb : Below wc.heap.size wc W) => less_more r x0 _ W (AR.out.below hb hb.size) (AX.out.below hb hb.size) HT.out TX.out HE.out HF.out HFX.out)
    cases hcx : x0.d.can with
    | false =>
      obtain ⟨er, hK⟩ := Known_either HF.out
      have hKX := fun q w0 W (h : LawR x0 w0 q W) => Known_of_no h (by rw [err_sick HFX.out hcx]; decide)
      rw [err_sick HFX.out hcx] at hKX
      have HK := Lib.hid hK
      have HKX := Lib.hid hKX
      clear hK hKX hcx
      go_upto_region 8 with (first
        | (refine wpList_load_row (o := ⟨some 35, _, _, _, _, _⟩) ?_ 26 (.tmp 2) ?_ w.heap.size ?_ 26 r.cells.toArray (0, 0) _ LR6.out Try.underlying26 rfl size_refrow ?_; rfl; rfl; rfl)
        | (go_at_call_of 18 (Value.agg r.cells.toArray); refine (RR.out _ D6.out).mono ?_; rintro e w7 ⟨q7, rfl, hq7⟩)
        | (go_at_call_of 27 (Value.agg q7.cells.toArray); refine (HK.out q7 _ _ hq7).mono ?_; rintro e w8 ⟨A8, n8, c8, rfl, hb8⟩))
      have D8 := Lib.hid (D6.out.trans ((hq7.b.trans (hb8.mono hq7.b.size)).mono D6.out.size))
      have LX8 := Lib.hid (LX.out.call D8.out)
      clear hq7 hb8
      go_upto_region 9 with (first
        | (refine wpList_load_row (o := ⟨some 41, _, _, _, _, _⟩) ?_ 26 (.tmp 5) ?_ gx ?_ 26 x0.cells.toArray (0, 0) _ LX8.out Try.underlying26 rfl size_refrow ?_; rfl; rfl; rfl)
        | (go_at_call_of 18 (Value.agg x0.cells.toArray); refine (RX.out _ D8.out).mono ?_; rintro e w9 ⟨q9, rfl, hq9⟩)
        | (go_at_call_of 27 (Value.agg q9.cells.toArray); refine (HKX.out q9 _ _ hq9).mono ?_; rintro e wa ⟨rfl, hba⟩))
      have Da := Lib.hid (D8.out.trans ((hq9.b.trans (hba.mono hq9.b.size)).mono D8.out.size))
      have LXa := Lib.hid (LX.out.call Da.out)
      have LRa := Lib.hid (LR.out.call Da.out)
      clear hq9 hba RR RX HK HKX LX8 LX6 LR6
      go_wp2_with (first
        | (refine wpList_load_row (o := ⟨some 46, _, _, _, _, _⟩) ?_ 26 (.tmp 2) ?_ w.heap.size ?_ 26 r.cells.toArray (0, 0) _ LRa.out Try.underlying26 rfl size_refrow ?_; rfl; rfl; rfl)
        | (refine wpList_load_row (o := ⟨some 47, _, _, _, _, _⟩) ?_ 26 (.tmp 5) ?_ gx ?_ 26 x0.cells.toArray (0, 0) _ LXa.out Try.underlying26 rfl size_refrow ?_; rfl; rfl; rfl)
        | (go_at_call_of 41 (Value.agg r.cells.toArray); refine (LE.out _ Da.out).mono ?_; rintro e wb ⟨rfl, hbb⟩)
        | (go_at_call 16; refine (awake_any _).mono ?_; rintro e wd ⟨rfl, hbd⟩))
      go_ret
      exact ⟨rfl, BC.out.trans ((Da.out.trans ((hbb.trans (hbd.mono hbb.size)).mono Da.out.size)).mono BC.out.size)⟩
    | true =>
      have hcx2 := hcx
      rw [HE.out] at hcx2
      obtain ⟨hcr, -⟩ := more_less HF.out HFF.out hcx2
      have her := err_ok HF.out hcr
      have hex := err_ok HFX.out hcx
      obtain ⟨hok, -, -, -, -⟩ := fault_ok HF.out
      obtain ⟨N, hN⟩ : ∃ N, N = r.dug.l.length := ⟨_, rfl⟩
      have hnn : r.n = (N : Int) := by rw [hN]; exact hok.dug.symm
      have hN10 : N ≤ 10 := by have := hok.n1; have h2 : r.d.n = r.n := rfl; omega
      have hlk : r.d.knowns.length = N := by unfold RwD.knowns; rw [List.length_map, List.length_range, hN]; rfl
      have hlx : x0.d.knowns.length = N := by rw [HE.out]; unfold RwD.knowns; rw [List.length_map, List.length_range, hN]; rfl
      have hsame : ∀ (k : Nat) (a b : Int), r.d.knowns[k]? = some a → x0.d.knowns[k]? = some b → a = 3 ∨ a = b := fun k a b ha hb => by
        have hk : k < r.d.dug.length := by have := (List.getElem?_eq_some_iff.1 ha).1; rw [hlk, hN] at this; exact this
        rw [knowns_at r.d hk] at ha
        rw [HE.out, knowns_at (r.d.more _) hk] at hb
        cases ha; cases hb
        by_cases h3 : r.d.knownD r.d.wins r.d.earliest k = 3
        · exact .inl h3
        · exact .inr (more_known HF.out HFF.out hcx2 hk h3)
      have hKR := fun q w0 W (h : LawR r w0 q W) => Known_of h her
      have hKX := fun q w0 W (h : LawR x0 w0 q W) => Known_of h hex
      have hCR := fun q w0 W (h : LawR r w0 q W) => Count_of h her
      have hCX := fun q w0 W (h : LawR x0 w0 q W) => Count_of h hex
      unfold YesC at hCR hCX
      have hlow : ∀ m k : Nat, Least r.d r.d.wins m → Least x0.d x0.d.wins k → m ≤ k := fun m k h1 h2 => by rw [HE.out] at h2; exact more_least HF.out HFF.out h1 h2
      have hhigh : (x0.d.illB x0.d.earliest).length ≤ (r.d.illB r.d.earliest).length := by rw [HE.out]; exact more_most HF.out HFF.out hcx2
      generalize r.d.knowns = la at *
      generalize x0.d.knowns = lb at *
      generalize (x0.d.illB x0.d.earliest).length = M2 at *
      generalize (r.d.illB r.d.earliest).length = M1 at *
      have HKR := Lib.hid hKR
      have HKX := Lib.hid hKX
      have HCR := Lib.hid hCR
      have HCX := Lib.hid hCX
      have HSM := Lib.hid hsame
      have HLO := Lib.hid hlow
      have HNE := Lib.hid hnn
      have HLA := Lib.hid hlk
      have HLB := Lib.hid hlx
      clear hKR hKX hCR hCX hsame hlow hnn hlk hlx hok hN her hex hcr hcx2 hcx
      have hd1 : decide ((M1 : Int) < (M2 : Int)) = false := by simp; omega
      have hd2 : decide (M1 < M2) = false := by simp; omega
      go_upto_region 8 with (first
        | (refine wpList_load_row (o := ⟨some 35, _, _, _, _, _⟩) ?_ 26 (.tmp 2) ?_ w.heap.size ?_ 26 r.cells.toArray (0, 0) _ LR6.out Try.underlying26 rfl size_refrow ?_; rfl; rfl; rfl)
        | (go_at_call_of 18 (Value.agg r.cells.toArray); refine (RR.out _ D6.out).mono ?_; rintro e w7 ⟨q7, rfl, hq7⟩)
        | (go_at_call_of 27 (Value.agg q7.cells.toArray); refine (HKR.out q7 _ _ hq7).mono ?_; rintro e w8 ⟨A8, c8, rfl, hA8, hS8, hb8⟩))
      have D8 := Lib.hid (D6.out.trans ((hq7.b.trans (hb8.mono hq7.b.size)).mono D6.out.size))
      have LX8 := Lib.hid (LX.out.call D8.out)
      have SA8 := Lib.hid hS8
      clear hq7 hb8 hS8 hA8
      go_upto_region 9 with (first
        | (refine wpList_load_row (o := ⟨some 41, _, _, _, _, _⟩) ?_ 26 (.tmp 5) ?_ gx ?_ 26 x0.cells.toArray (0, 0) _ LX8.out Try.underlying26 rfl size_refrow ?_; rfl; rfl; rfl)
        | (go_at_call_of 18 (Value.agg x0.cells.toArray); refine (RX.out _ D8.out).mono ?_; rintro e w9 ⟨q9, rfl, hq9⟩)
        | (go_at_call_of 27 (Value.agg q9.cells.toArray); refine (HKX.out q9 _ _ hq9).mono ?_; rintro e wa ⟨Aa, ca, rfl, hAa, hSa, hba⟩))
      have hb8a := hq9.b.trans (hba.mono hq9.b.size)
      have Da := Lib.hid (D8.out.trans (hb8a.mono D8.out.size))
      have SAa := Lib.hid ((SA8.out.below hb8a).more hb8a.size)
      have SBa := Lib.hid hSa
      have LXa := Lib.hid (LX.out.call Da.out)
      have LRa := Lib.hid (LR.out.call Da.out)
      clear hq9 hba hb8a hSa hAa HKR HKX LX8 LX6 LR6 SA8
      go_upto_region 13 with (first
        | (refine wpList_load_row (o := ⟨some 46, _, _, _, _, _⟩) ?_ 26 (.tmp 2) ?_ w.heap.size ?_ 26 r.cells.toArray (0, 0) _ LRa.out Try.underlying26 rfl size_refrow ?_; rfl; rfl; rfl)
        | (refine wpList_load_row (o := ⟨some 47, _, _, _, _, _⟩) ?_ 26 (.tmp 5) ?_ gx ?_ 26 x0.cells.toArray (0, 0) _ LXa.out Try.underlying26 rfl size_refrow ?_; rfl; rfl; rfl)
        | (go_at_call_of 41 (Value.agg r.cells.toArray); refine (LE.out _ Da.out).mono ?_; rintro e wb ⟨rfl, hbb⟩))
      have Db := Lib.hid (Da.out.trans (hbb.mono Da.out.size))
      have SAb := Lib.hid ((SAa.out.below hbb).more hbb.size)
      have SBb := Lib.hid ((SBa.out.below hbb).more hbb.size)
      have LRb := Lib.hid (LR.out.call Db.out)
      clear hbb SAa SBa LXa LRa LE
      go_upto_region 14 with (first
        | (refine wpList_load_row (o := ⟨some 58, _, _, _, _, _⟩) ?_ 26 (.tmp 2) ?_ w.heap.size ?_ 26 r.cells.toArray (0, 0) _ LRb.out Try.underlying26 rfl size_refrow ?_; rfl; rfl; rfl)
        | (go_at_call_of 18 (Value.agg r.cells.toArray); refine (RR.out _ Db.out).mono ?_; rintro e wd ⟨qd, rfl, hqd⟩)
        | (go_at_call_of 28 (Value.agg qd.cells.toArray); refine (HCR.out qd _ _ hqd).mono ?_; rintro e we ⟨m1, rfl, hl1, hbe⟩))
      have hbbe := hqd.b.trans (hbe.mono hqd.b.size)
      have De := Lib.hid (Db.out.trans (hbbe.mono Db.out.size))
      have SAe := Lib.hid ((SAb.out.below hbbe).more hbbe.size)
      have SBe := Lib.hid ((SBb.out.below hbbe).more hbbe.size)
      have LXe := Lib.hid (LX.out.call De.out)
      have HL1 := Lib.hid hl1
      clear hbbe hqd hbe hl1 SAb SBb LRb HCR
      go_upto_region 15 with (first
        | (refine wpList_load_row (o := ⟨some 65, _, _, _, _, _⟩) ?_ 26 (.tmp 5) ?_ gx ?_ 26 x0.cells.toArray (0, 0) _ LXe.out Try.underlying26 rfl size_refrow ?_; rfl; rfl; rfl)
        | (go_at_call_of 18 (Value.agg x0.cells.toArray); refine (RX.out _ De.out).mono ?_; rintro e wf ⟨qf, rfl, hqf⟩)
        | (go_at_call_of 28 (Value.agg qf.cells.toArray); refine (HCX.out qf _ _ hqf).mono ?_; rintro e wg ⟨m2, rfl, hl2, hbg⟩))
      have hbeg := hqf.b.trans (hbg.mono hqf.b.size)
      have Dg := Lib.hid (De.out.trans (hbeg.mono De.out.size))
      have SAg := Lib.hid ((SAe.out.below hbeg).more hbeg.size)
      have SBg := Lib.hid ((SBe.out.below hbeg).more hbeg.size)
      have LRg := Lib.hid (LR.out.call Dg.out)
      have hmm := HLO.out m1 m2 HL1.out hl2
      have hd3 : decide ((m2 : Int) < (m1 : Int)) = false := by simp; omega
      have hd4 : decide (m2 < m1) = false := by simp; omega
      have hlan := HLA.out
      have hlbn := HLB.out
      have hla : ((la.length : Int) != (N : Int)) = false := by rw [hlan]; simp
      have hlb : ((lb.length : Int) != (N : Int)) = false := by rw [hlbn]; simp
      have hlaz : (la.length : Int) ≤ 10 := by omega
      have hlbz : (lb.length : Int) ≤ 10 := by omega
      have a0 : wg.cell? ⟨w.heap.size, 0, none⟩ = some (.int .i64 N) := by rw [← HNE.out]; exact LRg.out.at_ 0
      clear hbeg hqf hbg hl2 HL1 HLO SAe SBe LXe HCX RR RX hmm hlan hlbn D6 D8 Da Db De
      go_wp2
      clear a0 hla hlb hd1 hd2 hd3 hd4
      go_loopw [16] (fun s16 wr => ∃ k : Nat, k ≤ N ∧ s16 = .int .i64 k ∧ Aside (Below wg.heap.size wg wr)) (fun i _ => N - (intOf i).toNat)
      case atStart => exact ⟨0, by omega, rfl, Below.refl _ _⟩
      case round =>
        obtain ⟨k, hk, rfl, HB⟩ := hrel
        have c0 : wr.cell? ⟨w.heap.size, 0, none⟩ = some (.int .i64 N) := by rw [← HNE.out]; exact (LRg.out.call HB.out).at_ 0
        by_cases hlt : k < N
        · have hltz : (k : Int) < (N : Int) := by omega
          have hlta : (k : Int) < (la.length : Int) := by have := HLA.out; omega
          have hltb : (k : Int) < (lb.length : Int) := by have := HLB.out; omega
          have hk0 : (0 : Int) ≤ (k : Int) := by omega
          obtain ⟨a, ha⟩ : ∃ a, la[k]? = some a := ⟨la[k]'(by omega), by simp⟩
          obtain ⟨b, hb⟩ : ∃ b, lb[k]? = some b := ⟨lb[k]'(by omega), by simp⟩
          have hab := HSM.out k a b ha hb
          obtain ⟨b1, o1, e1, hb1, p1⟩ := SAg.out.cell8 ha
          obtain ⟨b2, o2, e2, hb2, p2⟩ := SBg.out.cell8 hb
          have r1 := cell_regrown ((HB.out.cell (p := ⟨b1, o1 + k, none⟩) hb1).trans p1)
          have r2 := cell_regrown ((HB.out.cell (p := ⟨b2, o2 + k, none⟩) hb2).trans p2)
          have HB' := Lib.hid HB.out
          clear ha hb p1 p2
          go_upto_region 20 with (fail)
          clear c0
          subst e1 e2
          by_cases h3 : a = 3
          · subst h3
            clear hab HB
            refine wp_region_quiet_below (by kernel_rfl) (by kernel_rfl) ?_; (repeat (first | go_big_quiet_step ((fail)) | quiet_step ((fail)))); refine wpQuiet_nil ?_; intro wq hwq; have hbq : Below _ _ wq := (by obtain ⟨p, rfl⟩ := hwq; exact below_regrown _ _ _); clear hwq
            clear r1 r2
            go_wp2
            go_roundw
            case rel => exact ⟨k + 1, by omega, by go_num, HB'.out.trans (hbq.mono HB'.out.size)⟩
            case measure => simp [intOf]; omega
          · obtain rfl := hab.resolve_left h3
            have d3 : ((a : Int) != 3) = true := by simpa using h3
            have d4 : ((a : Int) != a) = false := by simp
            clear hab HB h3
            refine wp_region_quiet_below (by kernel_rfl) (by kernel_rfl) ?_; (repeat (first | go_big_quiet_step ((fail)) | quiet_step ((fail)))); refine wpQuiet_nil ?_; intro wq hwq; have hbq : Below _ _ wq := (by obtain ⟨p, rfl⟩ := hwq; exact below_regrown _ _ _); clear hwq
            clear r1 r2
            go_wp2
            go_roundw
            case rel => exact ⟨k + 1, by omega, by go_num, HB'.out.trans (hbq.mono HB'.out.size)⟩
            case measure => simp [intOf]; omega
        · obtain rfl : k = N := by omega
          have HB' := Lib.hid HB.out
          clear HB
          go_wp2_with (go_at_call 16; refine (awake_any _).mono ?_; rintro e wh ⟨rfl, hbh⟩)
          go_ret
          exact ⟨rfl, BC.out.trans ((Dg.out.trans ((HB'.out.trans (hbh.mono HB'.out.size)).mono Dg.out.size)).mono BC.out.size)⟩
theorem IllNotes_walk (r : RwM) (x : Nt) (w : World) (h : OpenRow r w) (hx : 0 ≤ x.k ∧ x.k ≤ 255) : Calls Try.prog 9 #[.agg r.cells.toArray, .agg (encN x).toArray] w fun e w' => e = .returned (.bool true) ∧ Below w.heap.size w w' := by
  cases hy : r.d.thin && decide (r.d.fault = 0) with
  | false => exact IllNotes_unready r x w h hy
  | true =>
    have hy2 := hy
    rw [Bool.and_eq_true, decide_eq_true_eq] at hy2
    obtain ⟨hr, ht⟩ := h.thin hy2.1
    exact IllNotes_main r x w hx hr ht h.nsn hy hy2.2
end Go.Proofs.Ytebkhgficochoaa
