/- The texts TM SX SY, joined. -/
import Derived.Test.YtopiidfhjfbmfaaGL
import Derived.Test.YtopiidfhjfbmfaaGM
import Derived.Test.YtopiidfhjfbmfaaGK
/- A law for drawn regions whose last operations make variables and set them, in whatever order these come. -/
namespace Go.Proofs.Ytopiidfhjfbmfaa
open Go.RowKit Go.Lib

/-- Worlds that come of w when memory grows, and variables of these kinds, which were made and not yet set, are set. -/
inductive Mxv (fls : List Fl) (B : Nat) (w : World) : World → Prop
  | here : Mxv fls B w w
  | grow {W W' : World} : Mxv fls B w W → Below W.heap.size W W' → Mxv fls B w W'
  | set {W W' : World} {g : Nat} {fl : Fl} : Mxv fls B w W → fl ∈ fls → B ≤ g → Lies W g fl.t fl.z → Only g W W' → Mxv fls B w W'
namespace Mxv
variable {fls : List Fl} {B : Nat} {w w1 W : World}
theorem trans (h : Mxv fls B w w1) (h' : Mxv fls B w1 W) : Mxv fls B w W := by
  induction h' with
  | here => exact h
  | grow _ hb ih => exact .grow ih hb
  | set _ h1 h2 h3 h4 ih => exact .set ih h1 h2 h3 h4
theorem of (h : Below w.heap.size w W) : Mxv fls B w W := .grow .here h
theorem size (h : Mxv fls B w W) : w.heap.size ≤ W.heap.size := by
  induction h with
  | here => exact Nat.le_refl _
  | grow _ hb ih => exact Nat.le_trans ih hb.size
  | set _ _ _ _ h4 ih => rw [h4.size]; exact ih
theorem under (h : Mxv fls B w W) (hB : B ≤ w.heap.size) : Below B w W := by
  induction h with
  | here => exact Below.refl _ _
  | grow hm hb ih => exact ih.trans (hb.mono (Nat.le_trans hB hm.size))
  | set _ _ h2 _ h4 ih => exact h4.below ih h2
/-- A cell that no such variable has when it is made stays as it is. -/
theorem cell (h : Mxv fls B w W) {p : Addr} {v : Value} (hv : w.cell? p = some v) (hz : ∀ fl, fl ∈ fls → v ∉ fl.z) : W.cell? p = some v := by
  induction h with
  | here => exact hv
  | grow hm hb ih =>
    have hlt := World.block_lt_of_cell? _ _ ih
    exact (hb.cell hlt).trans ih
  | @set W W' g fl _ h1 _ h3 h4 ih =>
    have hne : p.block ≠ g := fun e => by
      subst e
      unfold World.cell? at ih
      rw [show W.heap[p.block]? = some (.cells fl.z fl.t (0, 0)) from h3] at ih
      simp only at ih
      split at ih
      · cases ih
      · exact hz fl h1 (Array.mem_of_getElem? ih)
    unfold World.cell? at ih ⊢
    rw [h4.block _ hne]; exact ih
theorem range (h : Mxv fls B w W) {g o : Nat} {vs : List Value} (hv : w.rangeAt g o vs) (hz : ∀ fl, fl ∈ fls → ∀ v, v ∈ vs → v ∉ fl.z) : W.rangeAt g o vs := fun j v hj =>
  h.cell (hv j v hj) fun fl hfl => hz fl hfl v (List.mem_of_getElem? hj)
theorem lies (h : Mxv fls B w W) (hB : B ≤ w.heap.size) {k : Nat} {t : TypeId} {cs : Array Value} (hl : Lies w k t cs) (hk : k < B) : Lies W k t cs := hl.to_ ((h.under hB).block k hk)
end Mxv
theorem cls_eq (Q : World → Prop) : (fun W => ∃ c : Cls Q, W = c.val) = Q := funext fun W => propext ⟨fun ⟨c, h⟩ => h ▸ c.h, fun h => ⟨⟨W, h⟩, rfl⟩⟩
/-- A variable that is made, and set to what stands in slot x. -/
structure Fs where
  fl : Fl
  si : Nat
  x : Nat
section
variable {P : Program} {ops : Array Oper} {md : Region.Mode} {Q : Exit → Act → World → Prop} {T : Act → World → Prop}
/-- What is owed, step by step; ahead of each forced step the slots fs may turn, and memory may grow. -/
def wpMx (P : Program) (ops : Array Oper) (fls : List Fl) (B : Nat) (T : Act → World → Prop) : List Stp → Act → World → Prop
  | [], a, w => T a w
  | .take i :: t, a, w => match ops[i]? with | some o => wpQuiet P ops (fun W => ∃ c : Cls (Mxv fls B w), W = c.val) (fun a' => wpMx P ops fls B T t a' w) [o] a | none => False
  | .force i :: t, a, w => match ops[i]? with | some o => ∀ val w1, Below w.heap.size w w1 → wpList P ops (Ends fun a' w' => Below w1.heap.size w1 w' ∧ wpMx P ops fls B T t a' w') [o] (putF a (fls.map (·.f)) val) w1 | none => False
theorem wpMx_take (fls : List Fl) (B i : Nat) (t : List Stp) (a : Act) (w : World) : wpMx P ops fls B T (.take i :: t) a w = (match ops[i]? with | some o => wpQuiet P ops (fun W => ∃ c : Cls (Mxv fls B w), W = c.val) (fun a' => wpMx P ops fls B T t a' w) [o] a | none => False) := rfl
theorem wpMx_force (fls : List Fl) (B i : Nat) (t : List Stp) (a : Act) (w : World) : wpMx P ops fls B T (.force i :: t) a w = (match ops[i]? with | some o => ∀ val w1, Below w.heap.size w w1 → wpList P ops (Ends fun a' w' => Below w1.heap.size w1 w' ∧ wpMx P ops fls B T t a' w') [o] (putF a (fls.map (·.f)) val) w1 | none => False) := rfl
theorem wpMx_nil (fls : List Fl) (B : Nat) (a : Act) (w : World) : wpMx P ops fls B T [] a w = T a w := rfl
/-- What is asked at the end: what is set, and what holds when the variables lie in blocks of their own with it. -/
def AtMix (fss : List Fs) (B : Nat) (T : Act → World → Prop) (a : Act) (w : World) : Prop :=
  ∃ v : Nat → Array Value, (∀ s, s ∈ fss → a.tmps.getD s.x undef = .agg (v s.fl.f) ∧ (v s.fl.f).size = s.fl.z.size ∧ (v s.fl.f).all (·.oneCell') = true) ∧
    ∀ (G : Nat → Nat) (w'' : World), Mxv (fss.map (·.fl)) B w w'' → (∀ s, s ∈ fss → B ≤ G s.fl.f ∧ Lies w'' (G s.fl.f) s.fl.t (v s.fl.f)) → (∀ s s', s ∈ fss → s' ∈ fss → s.fl.f ≠ s'.fl.f → G s.fl.f ≠ G s'.fl.f) →
      T (putF a ((fss.map (·.fl)).map (·.f)) fun f => .pointer (some ⟨G f, 0, none⟩)) w''
def mixB (md : Region.Mode) (ops : Array Oper) : Nat → Array Bool → List Fs → List Fs → Bool
  | 0, L, pend, made => pend.isEmpty && made.isEmpty && (Region.ready md ops L).isEmpty
  | n + 1, L, pend, made => !(Region.ready md ops L).isEmpty && (Region.ready md ops L).all (fun j => (pend.any fun s => s.fl.fi == j) || made.any fun s => s.si == j) &&
      (pend.all fun s => mixB md ops n (L.setIfInBounds s.fl.fi true) (pend.filter fun q => q.fl.f != s.fl.f) (s :: made)) && made.all fun s => mixB md ops n (L.setIfInBounds s.si true) pend (made.filter fun q => q.fl.f != s.fl.f)
def stpsMB (md : Region.Mode) (ops : Array Oper) : Nat → Array Bool → List Stp → List Fs → List Fs → Bool
  | n, L, [], pend, made => mixB md ops n L pend made
  | 0, _, _ :: _, _, _ => false
  | n + 1, L, .take i :: t, pend, made => (Region.ready md ops L).contains i && Region.free md ops L i && (match ops[i]? with | some o => value3B o.op | none => false) && stpsMB md ops n (L.setIfInBounds i true) t pend made
  | n + 1, L, .force i :: t, pend, made => !(Region.ready md ops L).isEmpty && (Region.ready md ops L).all (fun j => i == j || pend.any fun s => s.fl.fi == j) && stpsMB md ops n (L.setIfInBounds i true) t pend made &&
      pend.all fun s => stpsMB md ops n (L.setIfInBounds s.fl.fi true) (.force i :: t) (pend.filter fun q => q.fl.f != s.fl.f) (s :: made)
theorem mx_less {fls : List Fl} {B : Nat} {w w' : World} (h : Mxv fls B w w') {n : Nat} {L : Array Bool} {a : Act} (hk : wpAnyH P md ops (Ends T) (Mxv fls B w') n L a w') : wpAnyH P md ops (Ends T) (Mxv fls B w) n L a w' :=
  wpAnyH_less (fun _ h' => h.trans h') _ _ _ _ hk
theorem putF_done {fls : List Fl} {a : Act} {G : Nat → Nat} (h : ∀ fl, fl ∈ fls → a.tmps.getD fl.f undef = .pointer (some ⟨G fl.f, 0, none⟩)) : putF a (fls.map (·.f)) (fun f => .pointer (some ⟨G f, 0, none⟩)) = a := by
  induction fls with
  | nil => rfl
  | cons fl l ih =>
    rw [List.map_cons, putF_cons, ← h fl (by simp), put_self]
    exact ih fun q hq => h q (List.mem_cons_of_mem _ hq)
/-- The operations are those that make, and set, the variables. -/
structure FsOk (P : Program) (ops : Array Oper) (fss : List Fs) : Prop where
  al : ∀ s, s ∈ fss → ∃ og, ops[s.fl.fi]? = some og ∧ og.dst = some s.fl.f ∧ og.guard = none ∧ og.op = .alloc s.fl.t
  st : ∀ s, s ∈ fss → ∃ og, ops[s.si]? = some og ∧ og.dst = none ∧ og.guard = none ∧ og.op = .store s.fl.t (.tmp s.fl.f) (.tmp s.x)
  run : ∀ s, s ∈ fss → ∀ w, (Instr.alloc s.fl.t true (.tuple #[])).run P w = .ok (.pointer (some ⟨w.heap.size, 0, none⟩)) (w.alloc (.cells s.fl.z s.fl.t))
  info : ∀ s, s ∈ fss → (P.info? s.fl.t).map (·.size) = some s.fl.z.size
  nd : ∀ s s', s ∈ fss → s' ∈ fss → s.fl.f = s'.fl.f → s = s'
  x : ∀ s s', s ∈ fss → s' ∈ fss → s.x ≠ s'.fl.f
theorem getD_put_ne {a : Act} {f k : Nat} {u : Value} (h : f ≠ k) : (a.put (some f) u).tmps.getD k undef = a.tmps.getD k undef := by simp [Act.put, h]
theorem getD_put_eq {a : Act} {f : Nat} {u : Value} (h : f < a.tmps.size) : (a.put (some f) u).tmps.getD f undef = u := by simp [Act.put, h]
theorem wpAnyH_mix {fss : List Fs} {B : Nat} (hok : FsOk P ops fss) {v : Nat → Array Value} (hv : ∀ s, s ∈ fss → (v s.fl.f).size = s.fl.z.size ∧ (v s.fl.f).all (·.oneCell') = true) :
    ∀ (n : Nat) (pend made : List Fs) (L : Array Bool) (a : Act) (w : World) (G : Nat → Nat) (C : Nat → Array Value), mixB md ops n L pend made = true → B ≤ w.heap.size →
      (∀ s, s ∈ fss → s.fl.f < a.tmps.size) → (∀ s, s ∈ pend → s ∈ fss) → (∀ s, s ∈ made → s ∈ fss ∧ s ∉ pend ∧ C s.fl.f = s.fl.z) →
      (∀ s, s ∈ fss → s ∉ pend → a.tmps.getD s.fl.f undef = .pointer (some ⟨G s.fl.f, 0, none⟩) ∧ B ≤ G s.fl.f ∧ Lies w (G s.fl.f) s.fl.t (C s.fl.f) ∧ (s ∈ made ∨ C s.fl.f = v s.fl.f)) →
      (∀ s s', s ∈ fss → s' ∈ fss → s ∉ pend → s' ∉ pend → s.fl.f ≠ s'.fl.f → G s.fl.f ≠ G s'.fl.f) →
      (∀ s, s ∈ fss → a.tmps.getD s.x undef = .agg (v s.fl.f)) →
      (∀ (G' : Nat → Nat) (w'' : World), Mxv (fss.map (·.fl)) B w w'' → (∀ s, s ∈ fss → B ≤ G' s.fl.f ∧ Lies w'' (G' s.fl.f) s.fl.t (v s.fl.f)) → (∀ s s', s ∈ fss → s' ∈ fss → s.fl.f ≠ s'.fl.f → G' s.fl.f ≠ G' s'.fl.f) →
        T (putF a ((fss.map (·.fl)).map (·.f)) fun f => .pointer (some ⟨G' f, 0, none⟩)) w'') →
      wpAnyH P md ops (Ends T) (Mxv (fss.map (·.fl)) B w) n L a w := by
  intro n
  induction n with
  | zero =>
    intro pend made L a w G C hb hB hsz hp hmd hdn hdis hx h
    simp only [mixB, Bool.and_eq_true, List.isEmpty_iff] at hb
    obtain ⟨⟨h1, h2⟩, h3⟩ := hb
    subst h1 h2
    refine ⟨h3, ?_⟩
    have h5 := h G w .here (fun s hs => by
      obtain ⟨_, e2, e3, e4⟩ := hdn s hs (by simp)
      rcases e4 with e4 | e4
      · cases e4
      · rw [e4] at e3; exact ⟨e2, e3⟩) (fun s s' hs hs' => hdis s s' hs hs' (by simp) (by simp))
    rw [putF_done (fun fl hfl => by
      obtain ⟨s, hs, rfl⟩ := List.mem_map.1 hfl
      exact (hdn s hs (by simp)).1)] at h5
    exact h5
  | succ n ih =>
    intro pend made L a w G C hb hB hsz hp hmd hdn hdis hx h
    simp only [mixB, Bool.and_eq_true] at hb
    obtain ⟨⟨⟨h0, h1⟩, h2⟩, h3⟩ := hb
    refine ⟨fun e => (by rw [e] at h0; cases h0), fun j hj => ?_⟩
    have hj2 := List.all_eq_true.1 h1 j hj
    simp only [Bool.or_eq_true] at hj2
    rcases hj2 with hj2 | hj2
    · obtain ⟨s, hs, hsj⟩ := List.any_eq_true.1 hj2
      obtain rfl : s.fl.fi = j := by simpa using hsj
      have hsm := hp s hs
      obtain ⟨og, g1, g2, g3, g4⟩ := hok.al s hsm
      have hbw : Below w.heap.size w (w.alloc (.cells s.fl.z s.fl.t)) := (Below.refl _ _).alloc (Nat.le_refl _) _
      have h2' := List.all_eq_true.1 h2 s hs
      unfold wpOp
      simp only [g1]
      rw [if_pos (by simp [Region.wanted, g3])]
      refine .inl ?_
      unfold Oper.wp execOp
      simp only [g4, Sem.run_bind, hok.run s hsm w, Result.andThen, Sem.run_pure, Oper.upon, g2]
      have hsf := hsz s hsm
      have hnotin : ∀ q, q ∈ fss → q ∉ (pend.filter fun q => q.fl.f != s.fl.f) → q = s ∨ (q ∉ pend ∧ q.fl.f ≠ s.fl.f) := fun q hq hn => by
        by_cases e : q.fl.f = s.fl.f
        · exact .inl (hok.nd q s hq hsm e)
        · exact .inr ⟨fun h => hn (List.mem_filter.2 ⟨h, by simpa using e⟩), e⟩
      have hlt : ∀ q, q ∈ fss → q ∉ pend → G q.fl.f < w.heap.size := fun q hq hn => (hdn q hq hn).2.2.1.in_
      refine ⟨.of hbw, mx_less (.of hbw) (ih _ (s :: made) _ _ _ (fun f => if f = s.fl.f then w.heap.size else G f) (fun f => if f = s.fl.f then s.fl.z else C f) h2' (Nat.le_trans hB hbw.size) (fun q hq => by simpa [Act.put] using hsz q hq) (fun q hq => hp q (List.mem_filter.1 hq).1) (fun q hq => ?_) (fun q hq hn => ?_) (fun q q' hq hq' hn hn' hne => ?_) (fun q hq => ?_) (fun G' w'' m1 m2 m3 => ?_))⟩
      · rcases List.mem_cons.1 hq with rfl | hq
        · exact ⟨hsm, fun h => by simpa using (List.mem_filter.1 h).2, by simp⟩
        · obtain ⟨e1, e2, e3⟩ := hmd q hq
          have hne : q.fl.f ≠ s.fl.f := fun e => e2 (hok.nd q s e1 hsm e ▸ hs)
          exact ⟨e1, fun h => e2 (List.mem_filter.1 h).1, by simp only [if_neg hne]; exact e3⟩
      · rcases hnotin q hq hn with rfl | ⟨hn, hne⟩
        · exact ⟨by rw [getD_put_eq hsf]; simp, by simp; exact hB, by simp; exact Lies.fresh w _ _, .inl (by simp)⟩
        · obtain ⟨e1, e2, e3, e4⟩ := hdn q hq hn
          refine ⟨by rw [getD_put_ne (fun e => hne e.symm), e1]; simp only [if_neg hne], by simp only [if_neg hne]; exact e2, by simp only [if_neg hne]; exact e3.call hbw, ?_⟩
          rcases e4 with e4 | e4
          · exact .inl (List.mem_cons_of_mem _ e4)
          · exact .inr (by simp only [if_neg hne]; exact e4)
      · rcases hnotin q hq hn with e1 | ⟨hm1, hne1⟩
        · rcases hnotin q' hq' hn' with e2 | ⟨hm2, hne2⟩
          · exact absurd (by rw [e1, e2]) hne
          · have := hlt q' hq' hm2
            rw [e1]; simp only [if_neg hne2, if_true]; omega
        · rcases hnotin q' hq' hn' with e2 | ⟨hm2, hne2⟩
          · have := hlt q hq hm1
            rw [e2]; simp only [if_neg hne1, if_true]; omega
          · simp only [if_neg hne1, if_neg hne2]; exact hdis q q' hq hq' hm1 hm2 hne
      · rw [getD_put_ne (fun e => hok.x q s hq hsm e.symm)]; exact hx q hq
      · rw [putF_put _ _ a (List.mem_map.2 ⟨s.fl, List.mem_map.2 ⟨s, hsm, rfl⟩, rfl⟩)]
        exact h G' w'' (Mxv.trans (.of hbw) m1) m2 m3
    · obtain ⟨s, hs, hsj⟩ := List.any_eq_true.1 hj2
      obtain rfl : s.si = j := by simpa using hsj
      obtain ⟨hsm, hsn, hcz⟩ := hmd s hs
      obtain ⟨og, g1, g2, g3, g4⟩ := hok.st s hsm
      obtain ⟨e1, e2, e3, _⟩ := hdn s hsm hsn
      rw [hcz] at e3
      have h3' := List.all_eq_true.1 h3 s hs
      have hon : Only (G s.fl.f) w (w.setRow (G s.fl.f) (v s.fl.f)) := ⟨rfl, rfl, rfl, by simp, fun k hk => setRow_other w _ k _ hk⟩
      have hli : Lies (w.setRow (G s.fl.f) (v s.fl.f)) (G s.fl.f) s.fl.t (v s.fl.f) := setRow_heap w _ _ _ _ _ e3
      have hmx : Mxv (fss.map (·.fl)) B w (w.setRow (G s.fl.f) (v s.fl.f)) := .set .here (List.mem_map.2 ⟨s, hsm, rfl⟩) e2 e3 hon
      unfold wpOp
      simp only [g1]
      rw [if_pos (by simp [Region.wanted, g3])]
      refine .inl (wp_store_row s.fl.t _ _ g4 (G s.fl.f) (v s.fl.f) e1 (hx s hsm) s.fl.t s.fl.z e3 (by rw [hok.info s hsm, (hv s hsm).1]) (hv s hsm).1.symm (hv s hsm).2 ?_)
      rw [g2, show a.put none undef = a from rfl]
      refine ⟨hmx, mx_less hmx (ih pend _ _ _ _ G (fun f => if f = s.fl.f then v s.fl.f else C f) h3' (by rw [hon.size]; exact hB) hsz hp (fun q hq => ?_) (fun q hq hn => ?_) hdis hx (fun G' w'' m1 m2 m3 => h G' w'' (hmx.trans m1) m2 m3))⟩
      · obtain ⟨f1, f2, f3⟩ := hmd q (List.mem_filter.1 hq).1
        have hne : q.fl.f ≠ s.fl.f := by simpa using (List.mem_filter.1 hq).2
        exact ⟨f1, f2, by simp only [if_neg hne]; exact f3⟩
      · obtain ⟨f1, f2, f3, f4⟩ := hdn q hq hn
        by_cases e : q.fl.f = s.fl.f
        · obtain rfl := hok.nd q s hq hsm e
          exact ⟨f1, f2, by simp; exact hli, .inr (by simp)⟩
        · refine ⟨f1, f2, by simp only [if_neg e]; exact hon.lies f3 (hdis q s hq hsm hn hsn e), ?_⟩
          rcases f4 with f4 | f4
          · exact .inl (List.mem_filter.2 ⟨f4, by simpa using e⟩)
          · exact .inr (by simp only [if_neg e]; exact f4)
theorem atMix_float {fss : List Fs} {B : Nat} (hok : FsOk P ops fss) {s : Fs} (hs : s ∈ fss) {u : Value} {a : Act} {w w' : World} (hb : Below w.heap.size w w') (h : AtMix fss B T a w) : AtMix fss B T (a.put (some s.fl.f) u) w' := by
  obtain ⟨v, h1, h2⟩ := h
  refine ⟨v, fun q hq => ⟨by rw [getD_put_ne (fun e => hok.x q s hq hs e.symm)]; exact (h1 q hq).1, (h1 q hq).2⟩, fun G w'' m1 m2 m3 => ?_⟩
  rw [putF_put _ _ a (List.mem_map.2 ⟨s.fl, List.mem_map.2 ⟨s, hs, rfl⟩, rfl⟩)]
  exact h2 G w'' (Mxv.trans (.of hb) m1) m2 m3
theorem mx_float {fss : List Fs} {B : Nat} {s : Fs} (hs : s ∈ fss) {u : Value} {a : Act} {w w' : World} (hb : Below w.heap.size w w') {i : Nat} {t : List Stp}
    (h : wpMx P ops (fss.map (·.fl)) B (AtMix fss B T) (.force i :: t) a w) : wpMx P ops (fss.map (·.fl)) B (AtMix fss B T) (.force i :: t) (a.put (some s.fl.f) u) w' := by
  rw [wpMx_force] at h ⊢
  cases ho : ops[i]? with
  | none => rw [ho] at h; exact h
  | some o =>
    rw [ho] at h
    intro val w1 h1
    rw [putF_put _ _ a (List.mem_map.2 ⟨s.fl, List.mem_map.2 ⟨s, hs, rfl⟩, rfl⟩)]
    exact h val w1 (hb.trans (h1.mono hb.size))
/-- What a variable has when it is made. -/
noncomputable def zC (fss : List Fs) : Nat → Array Value := fun f => match fss.find? (fun s => s.fl.f == f) with | some s => s.fl.z | none => #[]
theorem zC_at {fss : List Fs} (hok : FsOk P ops fss) {s : Fs} (hs : s ∈ fss) : zC fss s.fl.f = s.fl.z := by
  unfold zC
  cases hf : fss.find? (fun q => q.fl.f == s.fl.f) with
  | none => have := List.find?_eq_none.1 hf s hs; simp at this
  | some q =>
    have e : q.fl.f = s.fl.f := by simpa using List.find?_some hf
    rw [hok.nd q s (List.mem_of_find?_eq_some hf) hs e]
theorem wpAnyH_stpsM {fss : List Fs} {B : Nat} (hns : Region.noSelect ops = true) (hok : FsOk P ops fss) :
    ∀ (n : Nat) (st : List Stp) (pend made : List Fs) (L : Array Bool) (a : Act) (w : World) (G : Nat → Nat), stpsMB md ops n L st pend made = true → B ≤ w.heap.size → (∀ s o q, s ∈ st → ops[s.op]? = some o → q ∈ fss → o.dst ≠ some q.fl.f) → (∀ s, s ∈ fss → s.fl.f < a.tmps.size) →
      (∀ s, s ∈ pend → s ∈ fss) → (∀ s, s ∈ made → s ∈ fss ∧ s ∉ pend) → (∀ s, s ∈ fss → s ∉ pend → s ∈ made ∧ MadeF a w B G s.fl) → (∀ s s', s ∈ fss → s' ∈ fss → s ∉ pend → s' ∉ pend → s.fl.f ≠ s'.fl.f → G s.fl.f ≠ G s'.fl.f) →
      wpMx P ops (fss.map (·.fl)) B (AtMix fss B T) st a w → wpAnyH P md ops (Ends T) (Mxv (fss.map (·.fl)) B w) n L a w := by
  have final : ∀ (n : Nat) (pend made : List Fs) (L : Array Bool) (a : Act) (w : World) (G : Nat → Nat), mixB md ops n L pend made = true → B ≤ w.heap.size → (∀ s, s ∈ fss → s.fl.f < a.tmps.size) →
      (∀ s, s ∈ pend → s ∈ fss) → (∀ s, s ∈ made → s ∈ fss ∧ s ∉ pend) → (∀ s, s ∈ fss → s ∉ pend → s ∈ made ∧ MadeF a w B G s.fl) → (∀ s s', s ∈ fss → s' ∈ fss → s ∉ pend → s' ∉ pend → s.fl.f ≠ s'.fl.f → G s.fl.f ≠ G s'.fl.f) →
      AtMix fss B T a w → wpAnyH P md ops (Ends T) (Mxv (fss.map (·.fl)) B w) n L a w := by
    intro n pend made L a w G hb hB hsz hp hmd hdn hdis ⟨v, h1, h2⟩
    exact wpAnyH_mix hok (fun s hs => (h1 s hs).2) n pend made L a w G (zC fss) hb hB hsz hp (fun s hs => ⟨(hmd s hs).1, (hmd s hs).2, zC_at hok (hmd s hs).1⟩)
      (fun s hs hn => by
        obtain ⟨e1, e2, e3, e4⟩ := hdn s hs hn
        exact ⟨e2, e3, by rw [zC_at hok hs]; exact e4, .inl e1⟩) hdis (fun s hs => (h1 s hs).1) h2
  intro n
  induction n with
  | zero =>
    intro st pend made L a w G hb hB hd hsz hp hmd hdn hdis h
    match st, hb, h with
    | [], hb, h => exact final 0 pend made L a w G (by simpa [stpsMB] using hb) hB hsz hp hmd hdn hdis h
  | succ n ih =>
    intro st pend made L a w G hb hB hd hsz hp hmd hdn hdis h
    have hget : ∀ (s : Stp) (o : Oper) (a' : Act) (u : Value), s ∈ st → ops[s.op]? = some o → a'.tmps = (a.put o.dst u).tmps → ∀ q, q ∈ fss → a'.tmps.getD q.fl.f undef = a.tmps.getD q.fl.f undef ∧ q.fl.f < a'.tmps.size := fun s o a' u hs ho he q hq => by
      rw [he]
      have hsf := hsz q hq
      cases hd2 : o.dst with
      | none => exact ⟨rfl, hsf⟩
      | some d =>
        have : d ≠ q.fl.f := fun e => hd s o q hs ho hq (by rw [hd2, e])
        exact ⟨by simp [Act.put, this], by simpa [Act.put] using hsf⟩
    match st, hb, hd, h, hget with
    | [], hb, hd, h, hget => exact final (n + 1) pend made L a w G (by simpa [stpsMB] using hb) hB hsz hp hmd hdn hdis h
    | .take i :: t, hb, hd, h, hget =>
      simp only [stpsMB, Bool.and_eq_true] at hb
      obtain ⟨⟨⟨h1, h2⟩, h3⟩, h4⟩ := hb
      have hi : i ∈ Region.ready md ops L := by simpa using h1
      obtain ⟨_, o, ho, _⟩ := mem_ready.1 hi
      rw [wpMx_take, ho] at h
      rw [ho] at h3
      have hstep : ∃ u, YieldsIf P ops (Mxv (fss.map (·.fl)) B w) o u a ∧ wpMx P ops (fss.map (·.fl)) B (AtMix fss B T) t (a.put o.dst u) w := by
        rw [cls_eq] at h
        simp only [wpQuiet] at h
        by_cases hw : Region.wanted o (yielded ops a.tmps) = true
        · rw [if_pos hw] at h
          obtain ⟨u, hu, hk⟩ := h
          exact ⟨u, yieldsIf_of_quiet3 h3 hw hu, hk⟩
        · rw [if_neg hw] at h
          exact ⟨undef, .inr ⟨by simpa using hw, rfl⟩, h⟩
      obtain ⟨u, hy, hk⟩ := hstep
      have hg := hget (.take i) o (a.put o.dst u) u (by simp) ho rfl
      refine wpAnyH_take (i := i) ho hns h2 (by simpa using h1) (fun _ _ _ h => h) hy .here ?_
      exact ih t pend made _ _ w G h4 hB (fun s o q hs => hd s o q (List.mem_cons_of_mem _ hs)) (fun q hq => (hg q hq).2) hp hmd (fun q hq hn => by
        obtain ⟨e0, e1, e2⟩ := hdn q hq hn
        exact ⟨e0, by rw [(hg q hq).1]; exact e1, e2⟩) hdis hk
    | .force i :: t, hb, hd, h, hget =>
      simp only [stpsMB, Bool.and_eq_true] at hb
      obtain ⟨⟨⟨h0, h1⟩, h2⟩, h3⟩ := hb
      refine ⟨fun e => (by rw [e] at h0; cases h0), fun j hj => ?_⟩
      have hj2 := List.all_eq_true.1 h1 j hj
      simp only [Bool.or_eq_true, beq_iff_eq] at hj2
      rcases hj2 with hj2 | hj2
      · subst hj2
        obtain ⟨_, o, ho, _⟩ := mem_ready.1 hj
        rw [wpMx_force, ho] at h
        have h' := h (fun f => a.tmps.getD f undef) w (Below.refl _ _)
        rw [putF_self] at h'
        have h4 := wpList_one h'
        have step : ∀ (a' : Act) (w' : World) (u : Value), a'.tmps = (a.put o.dst u).tmps → (Below w.heap.size w w' ∧ wpMx P ops (fss.map (·.fl)) B (AtMix fss B T) t a' w') →
            Mxv (fss.map (·.fl)) B w w' ∧ wpAnyH P md ops (Ends T) (Mxv (fss.map (·.fl)) B w) n (L.setIfInBounds i true) a' w' := by
          intro a' w' u he ⟨hbw, hk⟩
          have hg := hget (.force i) o a' u (by simp) ho he
          refine ⟨.of hbw, mx_less (.of hbw) (ih t pend made _ a' w' G h2 (Nat.le_trans hB hbw.size) (fun s o q hs => hd s o q (List.mem_cons_of_mem _ hs)) (fun q hq => (hg q hq).2) hp hmd (fun q hq hn => ?_) hdis hk)⟩
          obtain ⟨e0, e1, e2, e3⟩ := hdn q hq hn
          exact ⟨e0, by rw [(hg q hq).1]; exact e1, e2, e3.call hbw⟩
        unfold wpOp
        simp only [ho]
        split
        · rename_i hw
          rw [if_pos hw] at h4
          exact .inl (Oper.wp_ends (fun a' w' h' => step a' w' _ h'.2.choose_spec h'.1) (Oper.wp_put h4))
        · rename_i hw
          rw [if_neg hw] at h4
          exact step _ _ undef rfl h4
      · obtain ⟨s, hs, hsj⟩ := List.any_eq_true.1 hj2
        obtain rfl : s.fl.fi = j := by simpa using hsj
        have hsm := hp s hs
        obtain ⟨og, g1, g2, g3, g4⟩ := hok.al s hsm
        have hbw : Below w.heap.size w (w.alloc (.cells s.fl.z s.fl.t)) := (Below.refl _ _).alloc (Nat.le_refl _) _
        have h3' := List.all_eq_true.1 h3 s hs
        unfold wpOp
        simp only [g1]
        rw [if_pos (by simp [Region.wanted, g3])]
        refine .inl ?_
        unfold Oper.wp execOp
        simp only [g4, Sem.run_bind, hok.run s hsm w, Result.andThen, Sem.run_pure, Oper.upon, g2]
        have hsf := hsz s hsm
        have hnotin : ∀ q, q ∈ fss → q ∉ (pend.filter fun q => q.fl.f != s.fl.f) → q = s ∨ (q ∉ pend ∧ q.fl.f ≠ s.fl.f) := fun q hq hn => by
          by_cases e : q.fl.f = s.fl.f
          · exact .inl (hok.nd q s hq hsm e)
          · exact .inr ⟨fun h => hn (List.mem_filter.2 ⟨h, by simpa using e⟩), e⟩
        have hlt : ∀ q, q ∈ fss → q ∉ pend → G q.fl.f < w.heap.size := fun q hq hn => (hdn q hq hn).2.2.2.in_
        refine ⟨.of hbw, mx_less (.of hbw) (ih (.force i :: t) _ (s :: made) _ _ _ (fun f => if f = s.fl.f then w.heap.size else G f) h3' (Nat.le_trans hB hbw.size) hd (fun q hq => by simpa [Act.put] using hsz q hq) (fun q hq => hp q (List.mem_filter.1 hq).1) (fun q hq => ?_) (fun q hq hn => ?_) (fun q q' hq hq' hn hn' hne => ?_) (mx_float hsm hbw h))⟩
        · rcases List.mem_cons.1 hq with rfl | hq
          · exact ⟨hsm, fun h => by simpa using (List.mem_filter.1 h).2⟩
          · obtain ⟨e1, e2⟩ := hmd q hq
            exact ⟨e1, fun h => e2 (List.mem_filter.1 h).1⟩
        · rcases hnotin q hq hn with rfl | ⟨hn, hne⟩
          · exact ⟨by simp, by rw [getD_put_eq hsf]; simp, by simp; exact hB, by simp; exact Lies.fresh w _ _⟩
          · obtain ⟨e0, e1, e2, e3⟩ := hdn q hq hn
            exact ⟨List.mem_cons_of_mem _ e0, by rw [getD_put_ne (fun e => hne e.symm), e1]; simp only [if_neg hne], by simp only [if_neg hne]; exact e2, by simp only [if_neg hne]; exact e3.call hbw⟩
        · rcases hnotin q hq hn with e1 | ⟨hm1, hne1⟩
          · rcases hnotin q' hq' hn' with e2 | ⟨hm2, hne2⟩
            · exact absurd (by rw [e1, e2]) hne
            · have := hlt q' hq' hm2
              rw [e1]; simp only [if_neg hne2, if_true]; omega
          · rcases hnotin q' hq' hn' with e2 | ⟨hm2, hne2⟩
            · have := hlt q hq hm1
              rw [e2]; simp only [if_neg hne1, if_true]; omega
            · simp only [if_neg hne1, if_neg hne2]; exact hdis q q' hq hq' hm1 hm2 hne
def mixRB (l : List Oper) (st : List Stp) (fss : List Fs) : Bool :=
  Region.noSelect l.toArray && stpsMB .any l.toArray l.toArray.size (Array.replicate l.toArray.size false) st fss [] &&
    st.all (fun s => match l[s.op]? with | some o => fss.all fun q => o.dst != some q.fl.f | none => true) &&
    (fss.all fun s => match l[s.fl.fi]? with | some o => decide (o.dst = some s.fl.f) && o.guard.isNone && (match o.op with | .alloc t' => t' == s.fl.t | _ => false) | none => false) &&
    (fss.all fun s => match l[s.si]? with | some o => o.dst.isNone && o.guard.isNone && (match o.op with | .store t' (.tmp f) (.tmp x) => t' == s.fl.t && f == s.fl.f && x == s.x | _ => false) | none => false) &&
    fss.all (fun s => fss.all fun q => s.x != q.fl.f)
/-- THE LAW. -/
theorem wp_region_mix {id : Nat} {l : List Oper} {a : Act} {w : World} (st : List Stp) (fss : List Fs) (hm : P.follows .mixedOrders = true) (hB : mixRB l st fss = true)
    (hal : ∀ s, s ∈ fss → ∀ w, (Instr.alloc s.fl.t true (.tuple #[])).run P w = .ok (.pointer (some ⟨w.heap.size, 0, none⟩)) (w.alloc (.cells s.fl.z s.fl.t))) (hinfo : ∀ s, s ∈ fss → (P.info? s.fl.t).map (·.size) = some s.fl.z.size)
    (hnd : ∀ s s', s ∈ fss → s' ∈ fss → s.fl.f = s'.fl.f → s = s') (hsz : ∀ s, s ∈ fss → s.fl.f < a.tmps.size)
    (h : wpMx P l.toArray (fss.map (·.fl)) w.heap.size (AtMix fss w.heap.size fun a w => Q .normal a w) st a w.drew) :
    (Code.region id l.toArray true).wp P Q a w := by
  simp only [mixRB, Bool.and_eq_true] at hB
  obtain ⟨⟨⟨⟨⟨b1, b2⟩, b3⟩, b4⟩, b5⟩, b6⟩ := hB
  have hok : FsOk P l.toArray fss := by
    refine ⟨fun s hs => ?_, fun s hs => ?_, hal, hinfo, hnd, fun s q hs hq => ?_⟩
    · have h1 := List.all_eq_true.1 b4 s hs
      cases ho : l[s.fl.fi]? with
      | none => rw [ho] at h1; cases h1
      | some og =>
        rw [ho] at h1
        simp only [Bool.and_eq_true, decide_eq_true_eq] at h1
        refine ⟨og, by simpa using ho, h1.1.1, by simpa using h1.1.2, ?_⟩
        have h3 := h1.2
        split at h3
        · rename_i t' hq; rw [hq]; congr 1; simpa using h3
        · cases h3
    · have h1 := List.all_eq_true.1 b5 s hs
      cases ho : l[s.si]? with
      | none => rw [ho] at h1; cases h1
      | some og =>
        rw [ho] at h1
        simp only [Bool.and_eq_true] at h1
        refine ⟨og, by simpa using ho, by simpa using h1.1.1, by simpa using h1.1.2, ?_⟩
        have h3 := h1.2
        split at h3
        · rename_i t' f x hq
          simp only [Bool.and_eq_true, beq_iff_eq] at h3
          obtain ⟨⟨rfl, rfl⟩, rfl⟩ := h3
          exact hq
        · cases h3
    · have := List.all_eq_true.1 (List.all_eq_true.1 b6 s hs) q hq
      simpa using this
  refine wp_region_any hm (wpAny_of_ends (fun _ _ h => h) _ _ _ _ ?_)
  refine wpAny_of_held (S := Mxv (fss.map (·.fl)) w.heap.size w.drew) _ _ _ _ ?_
  exact wpAnyH_stpsM (B := w.heap.size) (fss := fss) b1 hok _ st fss [] _ a w.drew (fun _ => 0) b2 (Nat.le_refl _) (fun s o q hs ho hq => by
      have h1 := List.all_eq_true.1 b3 s hs
      rw [show l[s.op]? = some o by simpa using ho] at h1
      simpa using List.all_eq_true.1 h1 q hq) hsz (fun _ h => h) (fun s h => by cases h) (fun s hs hn => absurd hs hn) (fun s s' hs _ hn => absurd hs hn) h
end
end Go.Proofs.Ytopiidfhjfbmfaa

/- StockCounts: ends; thick plans; faults. -/
namespace Go.Proofs.Ytopiidfhjfbmfaa
open Go.RowKit Go.Lib
attribute [local go_sem] Oper.semAt_some

set_option maxRecDepth 100000 in
set_option maxHeartbeats 2000000 in
theorem ends_law (A1 A2 A3 : Option Addr) (n c1 c2 c3 : Nat) (l : List (Int × Int)) (lo hi : List Int) (w : World) (h1 : Sl w w.heap.size 2 encR A1 l) (h2 : Sl w w.heap.size 1 encI A2 lo) (h3 : Sl w w.heap.size 1 encI A3 hi) (hn : n ≤ 5) (hl : l.length = n)
    (he : ∀ (i : Nat) (r : Int × Int), l[i]? = some r → lo[i]? = some r.1 ∧ hi[i]? = some r.2) :
    Calls Try.prog 30 #[.slice A1 n c1, .slice A2 n c2, .slice A3 n c3] w fun e w' => e = .returned (.bool true) ∧ Below w.heap.size w w' := by
  have H1 := Lib.hid h1
  have H2 := Lib.hid h2
  have H3 := Lib.hid h3
  have HE := Lib.hid he
  have HL := Lib.hid hl
  have hnz : (n : Int) ≤ 5 := by omega
  clear h1 h2 h3 he hl
  go_enter Try.func30, Try.ntmps30
  go_wp2
  go_loopw [7] (fun i wr => ∃ k : Nat, k ≤ n ∧ i = .int .i64 k ∧ Aside (Below w.heap.size w wr)) (fun i _ => n - (intOf i).toNat)
  case atStart => exact ⟨0, by omega, rfl, Below.refl _ _⟩
  case round =>
    obtain ⟨k, hk, rfl, hb⟩ := hrel
    by_cases hlt : k < n
    · have hltz : (k : Int) < (n : Int) := by omega
      have hk0 : (0 : Int) ≤ (k : Int) := by omega
      obtain ⟨r, hr⟩ : ∃ r, l[k]? = some r := ⟨l[k]'(by rw [HL.out]; exact hlt), by simp⟩
      obtain ⟨e1, e2⟩ := HE.out k r hr
      obtain ⟨b1, o1, rfl, hb1, p1, p2⟩ := H1.out.cellR hr
      obtain ⟨b2, o2, rfl, hb2, p3⟩ := H2.out.cell1 e1
      obtain ⟨b3, o3, rfl, hb3, p4⟩ := H3.out.cell1 e2
      have r1 := cell_regrown ((hb.out.cell (p := ⟨b1, o1 + k * 2, none⟩) hb1).trans p1)
      have r2 := cell_regrown ((hb.out.cell (p := ⟨b1, o1 + k * 2 + 1, none⟩) hb1).trans p2)
      have r3 := cell_regrown ((hb.out.cell (p := ⟨b2, o2 + k, none⟩) hb2).trans p3)
      have r4 := cell_regrown ((hb.out.cell (p := ⟨b3, o3 + k, none⟩) hb3).trans p4)
      have HB := Lib.hid hb.out
      clear p1 p2 p3 p4 e1 e2 hr hb
      go_wp2
      refine wp_region_quiet_below (by kernel_rfl) (by kernel_rfl) ?_; (repeat (first | go_big_quiet_step ((fail)) | quiet_step ((fail)))); refine wpQuiet_nil ?_; intro wq hwq; have hbq : Below _ _ wq := (by obtain ⟨p, rfl⟩ := hwq; exact below_regrown _ _ _); clear hwq
      clear r1 r2 r3 r4
      go_wp2
      go_roundw
      case rel => exact ⟨k + 1, by omega, by go_num, HB.out.trans (hbq.mono HB.out.size)⟩
      case measure => simp [intOf]; omega
    · obtain rfl : k = n := by omega
      go_wp2
      go_ret
      exact ⟨rfl, hb.out⟩
set_option maxRecDepth 100000 in
set_option maxHeartbeats 1000000 in
theorem Counts_thick (p : PlM) (w : World) (hp : p.Lay w w.heap.size) (ht : thinB p = false) : Calls Try.prog 4 #[.agg p.cells.toArray] w fun e w' => e = .returned (.bool true) ∧ Below w.heap.size w w' := by
  have l0 : Lies (w.alloc (.cells p.cells.toArray 28)) w.heap.size 28 p.cells.toArray := Lies.fresh _ _ _
  have b0 : Below w.heap.size w (w.alloc (.cells p.cells.toArray 28)) := (Below.refl _ _).alloc (Nat.le_refl _) _
  have hT := Thin_any p _ (hp.below b0 b0.size)
  rw [ht] at hT
  have L0 := Lib.hid l0
  have B0 := Lib.hid b0
  have HT := Lib.hid hT
  clear l0 b0 hT hp ht
  unfold PlM.cells at HT ⊢
  go_enter Try.func4, Try.ntmps4
  go_wp2_with (first
    | (refine wpList_load_row (o := ⟨some 11, _, _, _, _, _⟩) ?_ 28 (.tmp 1) ?_ w.heap.size ?_ 28 p.cells.toArray (0, 0) _ L0.out Try.underlying28 rfl size28 ?_; rfl; rfl; rfl)
    | (go_at_call 17; refine HT.out.mono ?_; rintro e w1 ⟨rfl, hb1⟩)
    | (go_at_call 19; refine (awake_any _).mono ?_; rintro e w2 ⟨rfl, hb2⟩))
  go_ret
  have hx := B0.out.trans (hb1.mono B0.out.size)
  exact ⟨rfl, hx.trans (hb2.mono hx.size)⟩
set_option maxRecDepth 100000 in
set_option maxHeartbeats 2000000 in
theorem Counts_bad (p : PlM) (w : World) (hp : p.Lay w w.heap.size) (ht : thinB p = true) (hq : p.fault ≠ 0) : Calls Try.prog 4 #[.agg p.cells.toArray] w fun e w' => e = .returned (.bool true) ∧ Below w.heap.size w w' := by
  have hat := hp.at ht
  have l0 : Lies (w.alloc (.cells p.cells.toArray 28)) w.heap.size 28 p.cells.toArray := Lies.fresh _ _ _
  have b0 : Below w.heap.size w (w.alloc (.cells p.cells.toArray 28)) := (Below.refl _ _).alloc (Nat.le_refl _) _
  have hT := Thin_any p _ (hp.below b0 b0.size)
  rw [ht] at hT
  have hP : ∀ W, Below w.heap.size w W → Calls Try.prog 21 #[.agg p.cells.toArray] W (RetP p W) := fun W hb => Plan_any p W (hat.below hb hb.size) hp.nr hp.ne hp.nk
  have hR : ∀ (q : PlM) (W : World), q.d = p.d → q.At W W.heap.size → Calls Try.prog 28 #[.agg q.cells.toArray] W fun e w' => e = .returned (.tuple #[.slice none 0 0, .int .i64 p.fault]) ∧ Below W.heap.size W w' := fun q W hd hq' => by
    have := Count_no q W hq' (by rw [fault_congr hd]; exact hq)
    rwa [fault_congr hd] at this
  have hA : ∀ (W : World), Below w.heap.size w W → Calls Try.prog 24 #[.agg p.cells.toArray] W fun e w' => e = .returned (.int .i64 p.fault) ∧ Below W.heap.size W w' := fun W hb => Fault_any p W (hat.below hb hb.size)
  have L0 := Lib.hid l0
  have B0 := Lib.hid b0
  have HT := Lib.hid hT
  have HP := Lib.hid hP
  have HR := Lib.hid hR
  have HA := Lib.hid hA
  clear l0 b0 hT hp ht hP hR hA hat
  generalize p.fault = q at *
  have hne : (q != 0) = true := by simpa using hq
  clear hq
  unfold PlM.cells at HT HA ⊢
  go_enter Try.func4, Try.ntmps4
  go_wp2_with (first
    | (refine wpList_load_row (o := ⟨some 11, _, _, _, _, _⟩) ?_ 28 (.tmp 1) ?_ w.heap.size ?_ 28 p.cells.toArray (0, 0) _ L0.out Try.underlying28 rfl size28 ?_; rfl; rfl; rfl)
    | (go_at_call 17; refine HT.out.mono ?_; rintro e w1 ⟨rfl, hb1⟩; have L1 := Lib.hid (L0.out.call hb1); have B1 := Lib.hid (B0.out.trans (hb1.mono B0.out.size)); clear hb1)
    | (refine wpList_load_row (o := ⟨some 16, _, _, _, _, _⟩) ?_ 28 (.tmp 1) ?_ w.heap.size ?_ 28 p.cells.toArray (0, 0) _ L1.out Try.underlying28 rfl size28 ?_; rfl; rfl; rfl)
    | (go_at_call 21; refine (HP.out _ B1.out).mono ?_; rintro e w2 ⟨x, rfl, hd, hx, hb2⟩; have L2 := Lib.hid (L1.out.call hb2); have B2 := Lib.hid (B1.out.trans (hb2.mono B1.out.size)); clear hb2)
    | (go_at_call 28; refine (HR.out x _ hd hx).mono ?_; rintro e w3 ⟨rfl, hb3⟩; have L3 := Lib.hid (L2.out.call hb3); have B3 := Lib.hid (B2.out.trans (hb3.mono B2.out.size)); clear hb3)
    | (refine wpList_load_row (o := ⟨some 21, _, _, _, _, _⟩) ?_ 28 (.tmp 1) ?_ w.heap.size ?_ 28 p.cells.toArray (0, 0) _ L3.out Try.underlying28 rfl size28 ?_; rfl; rfl; rfl)
    | (go_at_call 24; refine (HA.out _ B3.out).mono ?_; rintro e w4 ⟨rfl, hb4⟩)
    | (go_at_call 19; refine (awake_any _).mono ?_; rintro e w5 ⟨rfl, hb5⟩))
  go_ret
  have hy := B3.out.trans (hb4.mono B3.out.size)
  exact ⟨rfl, hy.trans (hb5.mono hy.size)⟩
end Go.Proofs.Ytopiidfhjfbmfaa

/- StockCounts: what is valid; the walk. -/
namespace Go.Proofs.Ytopiidfhjfbmfaa
open Go.RowKit Go.Lib
attribute [local go_sem] Oper.semAt_some

/-- A year among others, cell by cell, and its lists. -/
theorem year_more {A : Option Addr} {ys : List Y4} {Y n k : Nat} {f : Nat → List Int × List Int × List Int × List Int} {W0 : World} (hs : Sl W0 W0.heap.size 4 encY4 A ys) (hm : ys.map Y4.lists = (List.range Y).map f) (hi : ∀ y, y ∈ ys → y.In W0 W0.heap.size)
    (hl : (f k).1.length = n ∧ (f k).2.1.length = n ∧ (f k).2.2.1.length = n ∧ (f k).2.2.2.length = n) (hk : k < Y) :
    ∃ (b o : Nat) (y : Y4), A = some ⟨b, o, none⟩ ∧ y.lists = f k ∧ (W0.cell? ⟨b, o + k * 4, none⟩ = some (.slice y.a.A n y.a.c) ∧ W0.cell? ⟨b, o + k * 4 + 1, none⟩ = some (.slice y.b.A n y.b.c) ∧ W0.cell? ⟨b, o + k * 4 + 2, none⟩ = some (.slice y.c.A n y.c.c) ∧ W0.cell? ⟨b, o + k * 4 + 3, none⟩ = some (.slice y.d.A n y.d.c)) ∧ b < W0.heap.size ∧ y.In W0 W0.heap.size := by
  obtain ⟨y, hy⟩ : ∃ y, ys[k]? = some y := ⟨ys[k]'(by have := congrArg List.length hm; simp at this; omega), by simp⟩
  have ey : y.lists = f k := by
    have h := congrArg (·[k]?) hm
    simp only [List.getElem?_map, hy, Option.map_some, List.getElem?_range hk] at h
    exact Option.some.inj h
  rw [← ey] at hl
  obtain ⟨la, lb, lc, ld⟩ : y.a.l.length = n ∧ y.b.l.length = n ∧ y.c.l.length = n ∧ y.d.l.length = n := hl
  obtain ⟨b, o, e, hbb, q⟩ := hs.at_ hy
  refine ⟨b, o, y, e, ey, ⟨?_, ?_, ?_, ?_⟩, hbb, hi y (List.mem_of_getElem? hy)⟩
  · rw [← la]; exact q 0 _ rfl
  · rw [← lb]; exact q 1 _ rfl
  · rw [← lc]; exact q 2 _ rfl
  · rw [← ld]; exact q 3 _ rfl
theorem bnd_more {A : Option Addr} {bs : List BdM} {Y n k : Nat} {f : Nat → List (Int × Int) × List (Int × Int) × List (Int × Int) × List (Int × Int)} {W0 : World} (hs : Sl W0 W0.heap.size 4 encB A bs) (hm : bs.map BdM.lists = (List.range Y).map f) (hi : ∀ y, y ∈ bs → y.At W0 W0.heap.size)
    (hl : (f k).1.length = n ∧ (f k).2.1.length = n ∧ (f k).2.2.1.length = n ∧ (f k).2.2.2.length = n) (hk : k < Y) :
    ∃ (b o : Nat) (y : BdM), A = some ⟨b, o, none⟩ ∧ y.lists = f k ∧ (W0.cell? ⟨b, o + k * 4, none⟩ = some (.slice y.a.A n y.a.c) ∧ W0.cell? ⟨b, o + k * 4 + 1, none⟩ = some (.slice y.b.A n y.b.c) ∧ W0.cell? ⟨b, o + k * 4 + 2, none⟩ = some (.slice y.c.A n y.c.c) ∧ W0.cell? ⟨b, o + k * 4 + 3, none⟩ = some (.slice y.d.A n y.d.c)) ∧ b < W0.heap.size ∧ y.At W0 W0.heap.size := by
  obtain ⟨y, hy⟩ : ∃ y, bs[k]? = some y := ⟨bs[k]'(by have := congrArg List.length hm; simp at this; omega), by simp⟩
  have ey : y.lists = f k := by
    have h := congrArg (·[k]?) hm
    simp only [List.getElem?_map, hy, Option.map_some, List.getElem?_range hk] at h
    exact Option.some.inj h
  rw [← ey] at hl
  obtain ⟨la, lb, lc, ld⟩ : y.a.l.length = n ∧ y.b.l.length = n ∧ y.c.l.length = n ∧ y.d.l.length = n := hl
  obtain ⟨b, o, e, hbb, q⟩ := hs.at_ hy
  refine ⟨b, o, y, e, ey, ⟨?_, ?_, ?_, ?_⟩, hbb, hi y (List.mem_of_getElem? hy)⟩
  · rw [← la]; exact q 0 _ rfl
  · rw [← lb]; exact q 1 _ rfl
  · rw [← lc]; exact q 2 _ rfl
  · rw [← ld]; exact q 3 _ rfl
theorem Mxv.sl {fls : List Fl} {B : Nat} {w W : World} (h : Mxv fls B w W) {A : Option Addr} {l : List Int} (hs : Sl w w.heap.size 1 encI A l) (hz : ∀ fl, fl ∈ fls → ∀ x : Int, Value.int .i64 x ∉ fl.z) : Sl W W.heap.size 1 encI A l := fun hl => by
  obtain ⟨b, o, e, hb, hc⟩ := hs hl
  refine ⟨b, o, e, Nat.lt_of_lt_of_le hb h.size, fun i x hx j u hu => h.cell (hc i x hx j u hu) fun fl hfl => ?_⟩
  have : u = .int .i64 x := by
    rw [show encI x = [Value.int .i64 x] from rfl] at hu
    cases j with
    | zero => simpa using hu.symm
    | succ j => simp at hu
  rw [this]; exact hz fl hfl x
theorem range4 {w : World} {b o : Nat} {v0 v1 v2 v3 : Value} (h : w.cell? ⟨b, o, none⟩ = some v0 ∧ w.cell? ⟨b, o + 1, none⟩ = some v1 ∧ w.cell? ⟨b, o + 2, none⟩ = some v2 ∧ w.cell? ⟨b, o + 3, none⟩ = some v3) : w.rangeAt b o [v0, v1, v2, v3] := fun j v hj => by
  obtain ⟨h0, h1, h2, h3⟩ := h
  match j, hj with
  | 0, hj => cases hj; exact h0
  | 1, hj => cases hj; exact h1
  | 2, hj => cases hj; exact h2
  | 3, hj => cases hj; exact h3
abbrev flsC : List Fl := [⟨16, 9, 55, zyear.toArray⟩, ⟨17, 10, 55, zyear.toArray⟩]
theorem flsC_int : ∀ fl, fl ∈ flsC → ∀ x : Int, Value.int .i64 x ∉ fl.z := by
  intro fl h x
  simp only [flsC, List.mem_cons, List.not_mem_nil, or_false] at h
  rcases h with rfl | rfl <;> simp [zyear]
theorem flsC_slice : ∀ fl, fl ∈ flsC → ∀ (A : Option Addr) (n c : Nat), n ≠ 0 → Value.slice A n c ∉ fl.z := by
  intro fl h A n c hn
  simp only [flsC, List.mem_cons, List.not_mem_nil, or_false] at h
  rcases h with rfl | rfl <;> simp [zyear, hn]
/-- ends, for lists that lie from a world on. -/
theorem ends_all {A1 A2 A3 : Option Addr} {n c1 c2 c3 : Nat} {l : List (Int × Int)} {lo hi : List Int} {w : World} (h1 : Sl w w.heap.size 2 encR A1 l) (h2 : Sl w w.heap.size 1 encI A2 lo) (h3 : Sl w w.heap.size 1 encI A3 hi) (hn : n ≤ 5) (hl : l.length = n)
    (he : ∀ (i : Nat) (r : Int × Int), l[i]? = some r → lo[i]? = some r.1 ∧ hi[i]? = some r.2) :
    ∀ W, Below w.heap.size w W → Calls Try.prog 30 #[.slice A1 n c1, .slice A2 n c2, .slice A3 n c3] W fun e w' => e = .returned (.bool true) ∧ Below W.heap.size W w' := fun W hb =>
  ends_law A1 A2 A3 n c1 c2 c3 l lo hi W ((h1.below hb).more hb.size) ((h2.below hb).more hb.size) ((h3.below hb).more hb.size) hn hl he
theorem bnd_lens3 {x : BdM} {d : PD} {k : Nat} (h : x.lists = bndD d k) : x.a.l.length = d.s.length ∧ x.b.l.length = d.s.length ∧ x.c.l.length = d.s.length ∧ x.d.l.length = d.s.length := by
  have hl := bnd_lens2 d k
  rw [← h] at hl; exact hl
/-- What the lists of a year tell of its bounds. -/
theorem counts_he {p : PlM} {Y k : Nat} (hv : p.Valid) (hk : k < Y) {x1 : BdM} {y2 y3 ya yb : Y4} (e1 : x1.lists = bndD p.d k) (e2 : y2.lists = toldL p.d.s.length (yrT p.d (endsD p.d Y false (Y : Int)) k)) (e3 : y3.lists = toldL p.d.s.length (yrT p.d (endsD p.d Y true (Y : Int)) k))
    (e4 : ya.lists = toldL p.d.s.length (yrT p.d (endsD p.d Y false (k : Int)) k)) (e5 : yb.lists = toldL p.d.s.length (yrT p.d (endsD p.d Y true (k : Int)) k)) :
    (∀ (i : Nat) (r : Int × Int), x1.a.l[i]? = some r → y2.a.l[i]? = some r.1 ∧ y3.a.l[i]? = some r.2) ∧ (∀ (i : Nat) (r : Int × Int), x1.b.l[i]? = some r → y2.b.l[i]? = some r.1 ∧ y3.b.l[i]? = some r.2) ∧
    (∀ (i : Nat) (r : Int × Int), x1.c.l[i]? = some r → ya.c.l[i]? = some r.1 ∧ yb.c.l[i]? = some r.2) ∧ (∀ (i : Nat) (r : Int × Int), x1.d.l[i]? = some r → y2.d.l[i]? = some r.1 ∧ y3.d.l[i]? = some r.2) := by
  obtain ⟨n1, n2, n3, n4⟩ := bnd_lens3 e1
  have a1 : x1.a.l = (bndD p.d k).1 := congrArg (·.1) e1
  have a2 : x1.b.l = (bndD p.d k).2.1 := congrArg (·.2.1) e1
  have a3 : x1.c.l = (bndD p.d k).2.2.1 := congrArg (·.2.2.1) e1
  have a4 : x1.d.l = (bndD p.d k).2.2.2 := congrArg (·.2.2.2) e1
  have f1 : y2.a.l = _ := congrArg (·.1) e2
  have f2 : y2.b.l = _ := congrArg (·.2.1) e2
  have f4 : y2.d.l = _ := congrArg (·.2.2.2) e2
  have g1 : y3.a.l = _ := congrArg (·.1) e3
  have g2 : y3.b.l = _ := congrArg (·.2.1) e3
  have g4 : y3.d.l = _ := congrArg (·.2.2.2) e3
  have f3 : ya.c.l = _ := congrArg (·.2.2.1) e4
  have g3 : yb.c.l = _ := congrArg (·.2.2.1) e5
  have key : ∀ {l : List (Int × Int)} {i : Nat} {r : Int × Int}, l.length = p.d.s.length → l[i]? = some r → i < p.s.l.length := fun {l i r} h1 h2 => by
    have := (List.getElem?_eq_some_iff.1 h2).1
    rw [h1] at this; exact this
  refine ⟨fun i r hr => ?_, fun i r hr => ?_, fun i r hr => ?_, fun i r hr => ?_⟩
  · obtain ⟨ra, rb, rc, re, ⟨t1, t2, t3, t4⟩, ⟨u1, u2, u4⟩, ⟨w1, w2, w4⟩, u3, w3⟩ := truth_ends hv (Y := Y) hk (key n1 hr)
    rw [a1, t1] at hr; cases hr
    rw [f1, g1]; exact ⟨u1, w1⟩
  · obtain ⟨ra, rb, rc, re, ⟨t1, t2, t3, t4⟩, ⟨u1, u2, u4⟩, ⟨w1, w2, w4⟩, u3, w3⟩ := truth_ends hv (Y := Y) hk (key n2 hr)
    rw [a2, t2] at hr; cases hr
    rw [f2, g2]; exact ⟨u2, w2⟩
  · obtain ⟨ra, rb, rc, re, ⟨t1, t2, t3, t4⟩, ⟨u1, u2, u4⟩, ⟨w1, w2, w4⟩, u3, w3⟩ := truth_ends hv (Y := Y) hk (key n3 hr)
    rw [a3, t3] at hr; cases hr
    rw [f3, g3]; exact ⟨u3, w3⟩
  · obtain ⟨ra, rb, rc, re, ⟨t1, t2, t3, t4⟩, ⟨u1, u2, u4⟩, ⟨w1, w2, w4⟩, u3, w3⟩ := truth_ends hv (Y := Y) hk (key n4 hr)
    rw [a4, t4] at hr; cases hr
    rw [f4, g4]; exact ⟨u4, w4⟩
set_option maxRecDepth 100000 in
set_option maxHeartbeats 8000000 in
theorem Counts_good (p : PlM) (w : World) (hp : p.Lay w w.heap.size) (ht : thinB p = true) (hf : p.fault = 0) : Calls Try.prog 4 #[.agg p.cells.toArray] w fun e w' => e = .returned (.bool true) ∧ Below w.heap.size w w' := by
  have hat := hp.at ht
  have hv := fault_zero hf
  obtain ⟨Y, hY⟩ : ∃ Y : Nat, p.years = (Y : Int) := ⟨p.years.toNat, years_nat hv⟩
  have hY6 : Y ≤ 6 := by have := hv.y; omega
  have hn5 := hv.ok.n
  have l0 : Lies (w.alloc (.cells p.cells.toArray 28)) w.heap.size 28 p.cells.toArray := Lies.fresh _ _ _
  have b0 : Below w.heap.size w (w.alloc (.cells p.cells.toArray 28)) := (Below.refl _ _).alloc (Nat.le_refl _) _
  have hT := Thin_any p _ (hp.below b0 b0.size)
  rw [ht] at hT
  have hR : ∀ (q : PlM) (W : World), q.d = p.d → q.At W W.heap.size → Calls Try.prog 28 #[.agg q.cells.toArray] W (RetC p.d Y W) := fun q W hd hq' =>
    Count_law q p.d Y W hd hq' (by rw [fault_congr hd]; exact hf) (by rw [← hY]; show q.d.years = _; rw [hd]; rfl)
  have hA : ∀ (W : World), Below w.heap.size w W → Calls Try.prog 24 #[.agg p.cells.toArray] W fun e w' => e = .returned (.int .i64 0) ∧ Below W.heap.size W w' := fun W hb => by
    have h := Fault_any p W (hat.below hb hb.size); rwa [hf] at h
  have HEC := Lib.hid (ec_of hp hat hf hY)
  have L0 := Lib.hid l0
  have B0 := Lib.hid b0
  have HT := Lib.hid hT
  have HR := Lib.hid hR
  have HA := Lib.hid hA
  have HV := Lib.hid hv
  have HY := Lib.hid hY
  have hYz : (Y : Int) ≤ 6 := by omega
  have hY0 : (0 : Int) ≤ (Y : Int) := by omega
  clear l0 b0 hT hp ht hR hA hat hv hf hY
  unfold PlM.cells at HT HA ⊢
  go_enter Try.func4, Try.ntmps4
  go_upto_region 9 with (first
    | (refine wpList_load_row (o := ⟨some 11, _, _, _, _, _⟩) ?_ 28 (.tmp 1) ?_ w.heap.size ?_ 28 p.cells.toArray (0, 0) _ L0.out Try.underlying28 rfl size28 ?_; rfl; rfl; rfl)
    | (go_at_call 17; refine HT.out.mono ?_; rintro e w1 ⟨rfl, hb1⟩; have L1 := Lib.hid (L0.out.call hb1); have B1 := Lib.hid (B0.out.trans (hb1.mono B0.out.size)); clear hb1)
    | (refine wpList_load_row (o := ⟨some 16, _, _, _, _, _⟩) ?_ 28 (.tmp 1) ?_ w.heap.size ?_ 28 p.cells.toArray (0, 0) _ L1.out Try.underlying28 rfl size28 ?_; rfl; rfl; rfl)
    | (go_at_call 21; refine (HEC.out.plan _ B1.out).mono ?_; rintro e w2 ⟨x, rfl, hd, hx, hb2⟩; have L2 := Lib.hid (L1.out.call hb2); have B2 := Lib.hid (B1.out.trans (hb2.mono B1.out.size)); clear hb2)
    | (go_at_call 28; refine (HR.out x _ hd hx).mono ?_; rintro e w3 ⟨AB, cB, bs, rfl, hbs, hbm, hba, hb3⟩; have L3 := Lib.hid (L2.out.call hb3); have B3 := Lib.hid (B2.out.trans (hb3.mono B2.out.size)); have HBS := Lib.hid hbs; have HBM := Lib.hid hbm; have HBA := Lib.hid hba; clear hb3 hbs hbm hba)
    | (refine wpList_load_row (o := ⟨some 21, _, _, _, _, _⟩) ?_ 28 (.tmp 1) ?_ w.heap.size ?_ 28 p.cells.toArray (0, 0) _ L3.out Try.underlying28 rfl size28 ?_; rfl; rfl; rfl)
    | (go_at_call 24; refine (HA.out _ B3.out).mono ?_; rintro e w4 ⟨rfl, hb4⟩; have L4 := Lib.hid (L3.out.call hb4); have B4 := Lib.hid (B3.out.trans (hb4.mono B3.out.size)); have D4 := Lib.hid hb4; clear hb4; have d7 : w4.cell? ⟨w.heap.size, 7, none⟩ = some (.int .i64 (Y : Int)) := (by rw [← HY.out]; exact L4.out.at_ 7)))
  clear d7 hd hx L0 L1 L2 L3 B0 B1 B2 B3 HT HR HA
  have hrg : ∀ W, (∃ c : Cls (fun W => Below w4.heap.size w4 W), W = c.val) → W.rangeAt w.heap.size 0 p.cells := by
    rintro W ⟨c, rfl⟩
    exact Lies.range (cs := p.cells) (L4.out.call c.h) (fun j v hj => by simpa using hj)
  have r7 : ∀ c : Cls (fun W => Below w4.heap.size w4 W), c.val.cell? ⟨w.heap.size, 7, none⟩ = some (.int .i64 (Y : Int)) := fun c => by rw [← HY.out]; exact (L4.out.call c.h).at_ 7
  have HRG := Lib.hid hrg
  haveI hne4 : Nonempty (Cls (fun W => Below w4.heap.size w4 W)) := ⟨⟨w4, Below.refl _ _⟩⟩
  clear hrg
  refine wp_region_whole [([0, 1, 2, 3, 6, 7, 8, 9], [4, 5, 10, 11]), ([12, 13], [])] (fun W => ∃ c : Cls (fun W => Below w4.heap.size w4 W), W = c.val) (Cls.here (Below.refl _ _).drew) (by kernel_rfl) (by kernel_rfl) ?_
  simp only [wpPhases, List.filterMap_cons, List.filterMap_nil, List.getElem?_toArray, List.getElem?_cons_zero, List.getElem?_cons_succ]
  repeat (first
    | (refine wpQuiet_load_whole (o := ⟨some 45, _, _, _, _, _⟩) ?_ 28 (.tmp 1) ?_ w.heap.size 0 ?_ p.cells _ HRG.out Try.underlying28 rfl size28 ?_; rfl; rfl; rfl; simp only [Act.put, List.setIfInBounds_toArray, List.set_cons_zero, List.set_cons_succ])
    | (refine wpQuiet_load_whole (o := ⟨some 46, _, _, _, _, _⟩) ?_ 28 (.tmp 1) ?_ w.heap.size 0 ?_ p.cells _ HRG.out Try.underlying28 rfl size28 ?_; rfl; rfl; rfl; simp only [Act.put, List.setIfInBounds_toArray, List.set_cons_zero, List.set_cons_succ])
    | (refine wpQuiet_load_whole (o := ⟨some 51, _, _, _, _, _⟩) ?_ 28 (.tmp 1) ?_ w.heap.size 0 ?_ p.cells _ HRG.out Try.underlying28 rfl size28 ?_; rfl; rfl; rfl; simp only [Act.put, List.setIfInBounds_toArray, List.set_cons_zero, List.set_cons_succ])
    | (refine wpQuiet_load_whole (o := ⟨some 52, _, _, _, _, _⟩) ?_ 28 (.tmp 1) ?_ w.heap.size 0 ?_ p.cells _ HRG.out Try.underlying28 rfl size28 ?_; rfl; rfl; rfl; simp only [Act.put, List.setIfInBounds_toArray, List.set_cons_zero, List.set_cons_succ])
    | go_big_quiet_step (rfl) | quiet_step (rfl))
  refine wpQuiet_nil ?_
  (try simp only [wpForce])
  have hd1 : Below w4.heap.size w4 w4.drew := (Below.refl _ _).drew
  generalize w4.drew = v1 at *
  go_wp2_with (go_at_call 29; refine (HEC.out.ends false (Y : Int) _ (B4.out.trans (hd1.mono B4.out.size))).mono ?_; rintro e v2 ⟨u1, rfl, hud, hua, _, hb⟩)
  have hd2 := hd1.trans (hb.mono hd1.size)
  refine Ends.intro ⟨Cls.here hd2, ?_⟩
  clear hb
  go_wp2_with (go_at_call 26; refine (HEC.out.run false (Y : Int) u1 _ (B4.out.trans (hd2.mono B4.out.size)) hud hua).mono ?_; rintro e v3 ⟨Al, cl, yl, rfl, hsl, hml, hil, hb⟩)
  have hd3 := hd2.trans (hb.mono hd2.size)
  refine Ends.intro ⟨Cls.here hd3, ?_⟩
  clear hb hud hua
  go_wp2_with (go_at_call 29; refine (HEC.out.ends true (Y : Int) _ (B4.out.trans (hd3.mono B4.out.size))).mono ?_; rintro e v4 ⟨u2, rfl, hud, hua, _, hb⟩)
  have hb34 := hb
  have hd4 := hd3.trans (hb.mono hd3.size)
  refine Ends.intro ⟨Cls.here hd4, ?_⟩
  clear hb
  go_wp2_with (go_at_call 26; refine (HEC.out.run true (Y : Int) u2 _ (B4.out.trans (hd4.mono B4.out.size)) hud hua).mono ?_; rintro e v5 ⟨Ah, ch, yh, rfl, hsh, hmh, hih, hb⟩)
  have hd5 := hd4.trans (hb.mono hd4.size)
  have h35 := hb34.trans (hb.mono hb34.size)
  refine Ends.intro ⟨Cls.here hd5, ?_⟩
  clear hb hud hua hb34 r7 HRG
  repeat (first | go_big_quiet_step (rfl) | quiet_step (rfl))
  refine wpQuiet_nil ?_
  have L5 := Lib.hid (L4.out.call hd5)
  have B5 := Lib.hid (B4.out.trans (hd5.mono B4.out.size))
  have D35 := Lib.hid (D4.out.trans (hd5.mono D4.out.size))
  have DL := Lib.hid h35
  have HSL := Lib.hid hsl
  have HML := Lib.hid hml
  have HIL := Lib.hid hil
  have HSH := Lib.hid hsh
  have HMH := Lib.hid hmh
  have HIH := Lib.hid hih
  have d7 : v5.cell? ⟨w.heap.size, 7, none⟩ = some (.int .i64 (Y : Int)) := by rw [← HY.out]; exact L5.out.at_ 7
  clear hd1 hd2 hd3 hd4 hd5 h35 hsl hml hil hsh hmh hih L4 B4 D4
  go_wp2
  clear d7
  go_loopw [8, 9, 10] (fun i _ _ wr => ∃ k : Nat, k ≤ Y ∧ i = .int .i64 k ∧ Aside (Below v5.heap.size v5 wr)) (fun i _ _ _ => Y - (intOf i).toNat)
  case atStart => exact ⟨0, by omega, rfl, Below.refl _ _⟩
  case round =>
    obtain ⟨k, hk, rfl, hb⟩ := hrel
    have d7 : wr.cell? ⟨w.heap.size, 7, none⟩ = some (.int .i64 (Y : Int)) := by rw [← HY.out]; exact (L5.out.call hb.out).at_ 7
    by_cases hlt : k < Y
    · have hltz : (k : Int) < (Y : Int) := by omega
      have hk0 : (0 : Int) ≤ (k : Int) := by omega
      have LK := Lib.hid (L5.out.call hb.out)
      have BK := Lib.hid (B5.out.trans (hb.out.mono B5.out.size))
      have HB := Lib.hid hb.out
      clear hb
      have hlens := fun hg year => told_lens (d := p.d) (t := endsD p.d Y hg year) (k := k) hn5
      obtain ⟨b1, o1, x1, rfl, e1, ⟨c10, c11, c12, c13⟩, hb1, i1⟩ := bnd_more (n := p.s.l.length) HBS.out HBM.out HBA.out (bnd_lens2 p.d k) hlt
      obtain ⟨b2, o2, y2, rfl, e2, ⟨c20, c21, c22, c23⟩, hb2, i2⟩ := year_more (n := p.s.l.length) HSL.out.sl HML.out HIL.out (hlens _ _) hlt
      obtain ⟨b3, o3, y3, rfl, e3, ⟨c30, c31, c32, c33⟩, hb3, i3⟩ := year_more (n := p.s.l.length) HSH.out.sl HMH.out HIH.out (hlens _ _) hlt
      have HLN := Lib.hid hlens
      have F1 := Lib.hid (And.intro e1 (And.intro (And.intro c10 (And.intro c11 (And.intro c12 c13))) (And.intro hb1 i1)))
      have F2 := Lib.hid (And.intro e2 (And.intro (And.intro c20 (And.intro c21 (And.intro c22 c23))) (And.intro hb2 i2)))
      have F3 := Lib.hid (And.intro e3 (And.intro (And.intro c30 (And.intro c31 (And.intro c32 c33))) (And.intro hb3 i3)))
      clear e1 c10 c11 c12 c13 hb1 i1 e2 c20 c21 c22 c23 hb2 i2 e3 c30 c31 c32 c33 hb3 i3 hlens
      go_upto_region 13 with (fail)
      clear d7
      refine wp_region_mix [.take 0, .take 1, .take 2, .take 5, .take 8, .take 9, .take 10, .take 13, .force 3, .force 4, .take 6, .take 7, .force 11, .force 12, .take 14, .take 15] [⟨⟨16, 9, 55, zyear.toArray⟩, 18, 70⟩, ⟨⟨17, 10, 55, zyear.toArray⟩, 19, 78⟩] (by kernel_rfl) (by kernel_rfl) (fun s h => ?_) (fun s h => ?_) (fun s s' h h' => ?_) (fun s h => ?_) ?_
      · simp only [List.mem_cons, List.not_mem_nil, or_false] at h
        rcases h with rfl | rfl <;> exact alloc_ryear
      · simp only [List.mem_cons, List.not_mem_nil, or_false] at h
        rcases h with rfl | rfl <;> exact sizeYear
      · simp only [List.mem_cons, List.not_mem_nil, or_false] at h h'
        rcases h with rfl | rfl <;> rcases h' with rfl | rfl <;> simp
      · simp only [List.mem_cons, List.not_mem_nil, or_false] at h
        rcases h with rfl | rfl <;> simp
      have hd1 : Below wr.heap.size wr wr.drew := (Below.refl _ _).drew
      have hltB : w.heap.size < wr.heap.size := LK.out.in_
      have HFI := Lib.hid (show ∀ fl, fl ∈ ([⟨16, 9, 55, zyear.toArray⟩, ⟨17, 10, 55, zyear.toArray⟩] : List Fl) → ∀ x : Int, Value.int .i64 x ∉ fl.z from flsC_int)
      have HFS := Lib.hid (show ∀ fl, fl ∈ ([⟨16, 9, 55, zyear.toArray⟩, ⟨17, 10, 55, zyear.toArray⟩] : List Fl) → ∀ (A : Option Addr) (n c : Nat), n ≠ 0 → Value.slice A n c ∉ fl.z from flsC_slice)
      simp only [wpMx_take, wpMx_force, List.map_cons, List.map_nil, List.getElem?_toArray, List.getElem?_cons_zero, List.getElem?_cons_succ]
      generalize hFl : ([⟨16, 9, 55, zyear.toArray⟩, ⟨17, 10, 55, zyear.toArray⟩] : List Fl) = Fl at *
      have HFL := Lib.hid hFl
      clear hFl
      generalize wr.drew = v1 at *
      have hrg : ∀ W, (∃ c : Cls (Mxv Fl wr.heap.size v1), W = c.val) → W.rangeAt w.heap.size 0 p.cells := by
        rintro W ⟨c, rfl⟩
        exact Lies.range (cs := p.cells) (c.h.lies hd1.size (LK.out.call hd1) hltB) (fun j v hj => by simpa using hj)
      have HRG := Lib.hid hrg
      clear hrg
      haveI hne1 : Nonempty (Cls (Mxv Fl wr.heap.size v1)) := ⟨⟨v1, .here⟩⟩
      (refine wpQuiet_load_whole (o := ⟨some 63, _, _, _, _, _⟩) ?_ 28 (.tmp 1) ?_ w.heap.size 0 ?_ p.cells _ HRG.out Try.underlying28 rfl size28 ?_; rfl; rfl; rfl; simp only [Act.put, List.setIfInBounds_toArray, List.set_cons_zero, List.set_cons_succ])
      refine wpQuiet_nil ?_
      (refine wpQuiet_load_whole (o := ⟨some 64, _, _, _, _, _⟩) ?_ 28 (.tmp 1) ?_ w.heap.size 0 ?_ p.cells _ HRG.out Try.underlying28 rfl size28 ?_; rfl; rfl; rfl; simp only [Act.put, List.setIfInBounds_toArray, List.set_cons_zero, List.set_cons_succ])
      refine wpQuiet_nil ?_
      (first | go_big_quiet_step (rfl) | quiet_step (rfl))
      refine wpQuiet_nil ?_
      (first | go_big_quiet_step (rfl) | quiet_step (rfl))
      refine wpQuiet_nil ?_
      (refine wpQuiet_load_whole (o := ⟨some 71, _, _, _, _, _⟩) ?_ 28 (.tmp 1) ?_ w.heap.size 0 ?_ p.cells _ HRG.out Try.underlying28 rfl size28 ?_; rfl; rfl; rfl; simp only [Act.put, List.setIfInBounds_toArray, List.set_cons_zero, List.set_cons_succ])
      refine wpQuiet_nil ?_
      (refine wpQuiet_load_whole (o := ⟨some 72, _, _, _, _, _⟩) ?_ 28 (.tmp 1) ?_ w.heap.size 0 ?_ p.cells _ HRG.out Try.underlying28 rfl size28 ?_; rfl; rfl; rfl; simp only [Act.put, List.setIfInBounds_toArray, List.set_cons_zero, List.set_cons_succ])
      refine wpQuiet_nil ?_
      (first | go_big_quiet_step (rfl) | quiet_step (rfl))
      refine wpQuiet_nil ?_
      (first | go_big_quiet_step (rfl) | quiet_step (rfl))
      refine wpQuiet_nil ?_
      clear HRG hne1
      have hny : p.s.l.length ≠ 0 := by have := HV.out.ok.one; omega
      intro val w5 hw5
      (try simp only [putF, List.foldl_cons, List.foldl_nil])
      have hd5 := hd1.trans (hw5.mono hd1.size)
      go_wp2_with (go_at_call 29; refine (HEC.out.ends false (k : Int) _ (BK.out.trans (hd5.mono BK.out.size))).mono ?_; rintro e w6 ⟨u1, rfl, hud, hua, _, hb6⟩)
      refine Ends.intro ⟨hb6, ?_⟩
      have hd6 := hd5.trans (hb6.mono hd5.size)
      intro val7 w7 hw7
      (try simp only [putF, List.foldl_cons, List.foldl_nil])
      have hd7 := hd6.trans (hw7.mono hd6.size)
      have hua7 := hua.below hw7 hw7.size
      go_wp2_with (go_at_call 26; refine (HEC.out.run false (k : Int) u1 _ (BK.out.trans (hd7.mono BK.out.size)) hud hua7).mono ?_; rintro e w8 ⟨A8, c8, y8, rfl, hs8, hm8, hi8, hb8⟩)
      refine Ends.intro ⟨hb8, ?_⟩
      have hd8 := hd7.trans (hb8.mono hd7.size)
      obtain ⟨b4, o4, ya, rfl, e4, c4, hb4, i4⟩ := year_more (n := p.s.l.length) hs8.sl hm8 hi8 (HLN.out _ _) hlt
      have hr4 : ∀ W, (∃ c : Cls (Mxv Fl wr.heap.size w8), W = c.val) → W.rangeAt b4 (o4 + k * 4) [.slice ya.a.A p.s.l.length ya.a.c, .slice ya.b.A p.s.l.length ya.b.c, .slice ya.c.A p.s.l.length ya.c.c, .slice ya.d.A p.s.l.length ya.d.c] := by
        rintro W ⟨c, rfl⟩
        refine c.h.range (range4 c4) fun fl hfl v hv => ?_
        simp only [List.mem_cons, List.not_mem_nil, or_false] at hv
        rcases hv with rfl | rfl | rfl | rfl <;> exact HFS.out fl hfl _ _ _ hny
      have HR4 := Lib.hid hr4
      have F4 := Lib.hid (And.intro e4 i4)
      have D8 := Lib.hid hd8
      clear hr4 e4 c4 hb4 i4 hd1 hd5 hd6 hd7 hd8 hw5 hb6 hw7 hb8 hua hua7 hud hs8 hm8 hi8
      haveI hne8 : Nonempty (Cls (Mxv Fl wr.heap.size w8)) := ⟨⟨w8, .here⟩⟩
      (first | go_big_quiet_step (rfl) | quiet_step (rfl))
      refine wpQuiet_nil ?_
      (refine wpQuiet_load_whole (o := ⟨some 70, _, _, _, _, _⟩) ?_ 55 (.tmp 69) ?_ b4 (o4 + k * 4) ?_ [.slice ya.a.A p.s.l.length ya.a.c, .slice ya.b.A p.s.l.length ya.b.c, .slice ya.c.A p.s.l.length ya.c.c, .slice ya.d.A p.s.l.length ya.d.c] _ HR4.out Try.underlying55 rfl sizeYear ?_; rfl; rfl; rfl; simp only [Act.put, List.setIfInBounds_toArray, List.set_cons_zero, List.set_cons_succ])
      refine wpQuiet_nil ?_
      clear HR4 hne8
      intro val9 w9 hw9
      (try simp only [])
      have hd9 := D8.out.trans (hw9.mono D8.out.size)
      go_wp2_with (go_at_call 29; refine (HEC.out.ends true (k : Int) _ (BK.out.trans (hd9.mono BK.out.size))).mono ?_; rintro e w10 ⟨u2, rfl, hud, hua, _, hb10⟩)
      refine Ends.intro ⟨hb10, ?_⟩
      have hd10 := hd9.trans (hb10.mono hd9.size)
      intro val11 w11 hw11
      (try simp only [])
      have hd11 := hd10.trans (hw11.mono hd10.size)
      have hua11 := hua.below hw11 hw11.size
      go_wp2_with (go_at_call 26; refine (HEC.out.run true (k : Int) u2 _ (BK.out.trans (hd11.mono BK.out.size)) hud hua11).mono ?_; rintro e w12 ⟨A12, c12, y12, rfl, hs12, hm12, hi12, hb12⟩)
      refine Ends.intro ⟨hb12, ?_⟩
      have h812 : Below w8.heap.size w8 w12 := by
        have h1 := hw9.trans (hb10.mono hw9.size)
        have h2 := h1.trans (hw11.mono h1.size)
        exact h2.trans (hb12.mono h2.size)
      have hd12 := D8.out.trans (h812.mono D8.out.size)
      obtain ⟨b5, o5, yb, rfl, e5, c5, hb5, i5⟩ := year_more (n := p.s.l.length) hs12.sl hm12 hi12 (HLN.out _ _) hlt
      have hr5 : ∀ W, (∃ c : Cls (Mxv Fl wr.heap.size w12), W = c.val) → W.rangeAt b5 (o5 + k * 4) [.slice yb.a.A p.s.l.length yb.a.c, .slice yb.b.A p.s.l.length yb.b.c, .slice yb.c.A p.s.l.length yb.c.c, .slice yb.d.A p.s.l.length yb.d.c] := by
        rintro W ⟨c, rfl⟩
        refine c.h.range (range4 c5) fun fl hfl v hv => ?_
        simp only [List.mem_cons, List.not_mem_nil, or_false] at hv
        rcases hv with rfl | rfl | rfl | rfl <;> exact HFS.out fl hfl _ _ _ hny
      have HR5 := Lib.hid hr5
      have F5 := Lib.hid (And.intro e5 i5)
      have D12 := Lib.hid hd12
      have D812 := Lib.hid h812
      clear hr5 e5 c5 hb5 i5 hd9 hd10 hd11 hd12 h812 hw9 hb10 hw11 hb12 hua hua11 hud hs12 hm12 hi12 D8
      haveI hne12 : Nonempty (Cls (Mxv Fl wr.heap.size w12)) := ⟨⟨w12, .here⟩⟩
      (first | go_big_quiet_step (rfl) | quiet_step (rfl))
      refine wpQuiet_nil ?_
      (refine wpQuiet_load_whole (o := ⟨some 78, _, _, _, _, _⟩) ?_ 55 (.tmp 77) ?_ b5 (o5 + k * 4) ?_ [.slice yb.a.A p.s.l.length yb.a.c, .slice yb.b.A p.s.l.length yb.b.c, .slice yb.c.A p.s.l.length yb.c.c, .slice yb.d.A p.s.l.length yb.d.c] _ HR5.out Try.underlying55 rfl sizeYear ?_; rfl; rfl; rfl; simp only [Act.put, List.setIfInBounds_toArray, List.set_cons_zero, List.set_cons_succ])
      refine wpQuiet_nil ?_
      clear HR5 hne12
      rw [wpMx_nil]
      refine ⟨fun f => if f = 9 then #[.slice ya.a.A p.s.l.length ya.a.c, .slice ya.b.A p.s.l.length ya.b.c, .slice ya.c.A p.s.l.length ya.c.c, .slice ya.d.A p.s.l.length ya.d.c] else #[.slice yb.a.A p.s.l.length yb.a.c, .slice yb.b.A p.s.l.length yb.b.c, .slice yb.c.A p.s.l.length yb.c.c, .slice yb.d.A p.s.l.length yb.d.c], fun s hs => ?_, fun Gf wz hmz hGf _ => ?_⟩
      · simp only [List.mem_cons, List.not_mem_nil, or_false] at hs
        rcases hs with rfl | rfl
        · exact ⟨rfl, rfl, by simp [Value.oneCell']⟩
        · exact ⟨rfl, rfl, by simp [Value.oneCell']⟩
      have l9 : Lies wz (Gf 9) 55 #[.slice ya.a.A p.s.l.length ya.a.c, .slice ya.b.A p.s.l.length ya.b.c, .slice ya.c.A p.s.l.length ya.c.c, .slice ya.d.A p.s.l.length ya.d.c] := (hGf ⟨⟨16, 9, 55, zyear.toArray⟩, 18, 70⟩ (by simp)).2
      have l10 : Lies wz (Gf 10) 55 #[.slice yb.a.A p.s.l.length yb.a.c, .slice yb.b.A p.s.l.length yb.b.c, .slice yb.c.A p.s.l.length yb.c.c, .slice yb.d.A p.s.l.length yb.d.c] := (hGf ⟨⟨17, 10, 55, zyear.toArray⟩, 19, 78⟩ (by simp)).2
      have hmz2 : Mxv Fl wr.heap.size w12 wz := by rw [← HFL.out]; exact hmz
      simp only [List.map_cons, List.map_nil, putF, List.foldl_cons, List.foldl_nil, Act.put, List.setIfInBounds_toArray, List.set_cons_zero, List.set_cons_succ]
      clear hGf hmz HFL
      generalize Gf 9 = g9 at *
      generalize Gf 10 = g10 at *
      have hwz : Below wr.heap.size wr wz := D12.out.trans (hmz2.under D12.out.size)
      have h5z : Below v5.heap.size v5 wz := HB.out.trans (hwz.mono HB.out.size)
      have h3z : Below w3.heap.size w3 wz := D35.out.trans (h5z.mono D35.out.size)
      have hlz : Below v3.heap.size v3 wz := DL.out.trans (h5z.mono DL.out.size)
      obtain ⟨e1, ⟨c10, c11, c12, c13⟩, hb1, i1⟩ := F1.out
      obtain ⟨e2, ⟨c20, c21, c22, c23⟩, hb2, i2⟩ := F2.out
      obtain ⟨e3, ⟨c30, c31, c32, c33⟩, hb3, i3⟩ := F3.out
      obtain ⟨e4, i4⟩ := F4.out
      obtain ⟨e5, i5⟩ := F5.out
      have hs4 : Sl wz wz.heap.size 1 encI ya.c.A ya.c.l := (Mxv.trans (.of D812.out) hmz2).sl i4.c.sl HFI.out
      have hs5 : Sl wz wz.heap.size 1 encI yb.c.A yb.c.l := hmz2.sl i5.c.sl HFI.out
      obtain ⟨k1, k2, k3, k4⟩ := counts_he HV.out hlt e1 e2 e3 e4 e5
      obtain ⟨n1, n2, n3, n4⟩ : x1.a.l.length = p.s.l.length ∧ x1.b.l.length = p.s.l.length ∧ x1.c.l.length = p.s.l.length ∧ x1.d.l.length = p.s.l.length := bnd_lens3 e1
      have HE1 := Lib.hid (ends_all (c1 := x1.a.c) (c2 := y2.a.c) (c3 := y3.a.c) ((i1.a.below h3z).more h3z.size) ((i2.a.sl.below hlz).more hlz.size) ((i3.a.sl.below h5z).more h5z.size) hn5 n1 k1)
      have HE2 := Lib.hid (ends_all (c1 := x1.b.c) (c2 := y2.b.c) (c3 := y3.b.c) ((i1.b.below h3z).more h3z.size) ((i2.b.sl.below hlz).more hlz.size) ((i3.b.sl.below h5z).more h5z.size) hn5 n2 k2)
      have HE4 := Lib.hid (ends_all (c1 := x1.d.c) (c2 := y2.d.c) (c3 := y3.d.c) ((i1.d.below h3z).more h3z.size) ((i2.d.sl.below hlz).more hlz.size) ((i3.d.sl.below h5z).more h5z.size) hn5 n4 k4)
      have HE3 := Lib.hid (ends_all (c1 := x1.c.c) (c2 := ya.c.c) (c3 := yb.c.c) ((i1.c.below h3z).more h3z.size) hs4 hs5 hn5 n3 k3)
      have q10 := cell_regrown ((h3z.cell (p := ⟨b1, o1 + k * 4, none⟩) hb1).trans c10)
      have q11 := cell_regrown ((h3z.cell (p := ⟨b1, o1 + k * 4 + 1, none⟩) hb1).trans c11)
      have q12 := cell_regrown ((h3z.cell (p := ⟨b1, o1 + k * 4 + 2, none⟩) hb1).trans c12)
      have q13 := cell_regrown ((h3z.cell (p := ⟨b1, o1 + k * 4 + 3, none⟩) hb1).trans c13)
      have q20 := cell_regrown ((hlz.cell (p := ⟨b2, o2 + k * 4, none⟩) hb2).trans c20)
      have q21 := cell_regrown ((hlz.cell (p := ⟨b2, o2 + k * 4 + 1, none⟩) hb2).trans c21)
      have q23 := cell_regrown ((hlz.cell (p := ⟨b2, o2 + k * 4 + 3, none⟩) hb2).trans c23)
      have q30 := cell_regrown ((h5z.cell (p := ⟨b3, o3 + k * 4, none⟩) hb3).trans c30)
      have q31 := cell_regrown ((h5z.cell (p := ⟨b3, o3 + k * 4 + 1, none⟩) hb3).trans c31)
      have q33 := cell_regrown ((h5z.cell (p := ⟨b3, o3 + k * 4 + 3, none⟩) hb3).trans c33)
      have q42 := cell_regrown (show wz.cell? ⟨g9, 2, none⟩ = some (.slice ya.c.A p.s.l.length ya.c.c) from l9.at_ 2)
      have q52 := cell_regrown (show wz.cell? ⟨g10, 2, none⟩ = some (.slice yb.c.A p.s.l.length yb.c.c) from l10.at_ 2)
      have H5Z := Lib.hid h5z
      clear e1 c10 c11 c12 c13 hb1 i1 e2 c20 c21 c22 c23 hb2 i2 e3 c30 c31 c32 c33 hb3 i3 e4 i4 e5 i5 hs4 hs5 k1 k2 k3 k4 n1 n2 n3 n4 l9 l10 hmz2 hwz h5z h3z hlz F1 F2 F3 F4 F5 D12 D812 HFI HFS HLN hny hltB
      go_wp2
      refine wp_region_quiet_below (by kernel_rfl) (by kernel_rfl) ?_; (repeat (first | go_big_quiet_step (((go_at_call 30; (first | (with_reducible exact Calls.regrown_of (HE1.out _ (below_regrown _ _ _))) | (with_reducible exact Calls.regrown_of (HE2.out _ (below_regrown _ _ _))) | (with_reducible exact Calls.regrown_of (HE4.out _ (below_regrown _ _ _))) | (with_reducible exact Calls.regrown_of (HE3.out _ (below_regrown _ _ _))))))) | quiet_step (((go_at_call 30; (first | (with_reducible exact Calls.regrown_of (HE1.out _ (below_regrown _ _ _))) | (with_reducible exact Calls.regrown_of (HE2.out _ (below_regrown _ _ _))) | (with_reducible exact Calls.regrown_of (HE4.out _ (below_regrown _ _ _))) | (with_reducible exact Calls.regrown_of (HE3.out _ (below_regrown _ _ _))))))))); refine wpQuiet_nil ?_; intro wq hwq; have hbq : Below _ _ wq := (by obtain ⟨p, rfl⟩ := hwq; exact below_regrown _ _ _); clear hwq
      clear q10 q11 q12 q13 q20 q21 q23 q30 q31 q33 q42 q52 HE1 HE2 HE3 HE4
      go_wp2
      go_roundw
      case rel => exact ⟨k + 1, by omega, by go_num, H5Z.out.trans (hbq.mono H5Z.out.size)⟩
      case measure => simp [intOf]; omega
    · obtain rfl : k = Y := by omega
      go_wp2_with (go_at_call 19; refine (awake_any _).mono ?_; rintro e w9 ⟨rfl, hb9⟩)
      go_ret
      have hx := B5.out.trans (hb.out.mono B5.out.size)
      exact ⟨rfl, hx.trans (hb9.mono hx.size)⟩
theorem StockCounts_walk (p : PlM) (w : World) (hp : p.Lay w w.heap.size) :
    Calls Try.prog 4 #[.agg p.cells.toArray] w fun e w' => e = .returned (.bool true) ∧ Below w.heap.size w w' := by
  cases ht : thinB p with
  | false => exact Counts_thick p w hp ht
  | true =>
    by_cases hq : p.fault = 0
    · exact Counts_good p w hp ht hq
    · exact Counts_bad p w hp ht hq
end Go.Proofs.Ytopiidfhjfbmfaa
