/- Arguments opened as they lie; what a law owes behind its walk. -/
import Derived.Test.YteognijlgalahaaA
import Derived.ProofKit
import Derived.OpenShut
import Derived.Deep.Slices
import Derived.Carry
namespace Go.Proofs.Yteognijlgalahaa
open Go.ChangeShapes Go.WideShapes Go.ChangeAt Go.RowKit

section
variable {H : Type} {enc : TypeId × Value → H} {P : Program} {w : World}
/-- A slice that came in, whatever its elements are. -/
theorem open_sl {α : Type} {en : α → List Value} {Q : α → Prop} {k : Nat} {t e : TypeId} (hk0 : 0 < k) (ht : P.underlying t = some (.slice e)) (hk : P.cellsOf e = k)
    (hop : ∀ (fuel : Nat) (cs : List Value) (x : DataW H × List MemPlace), DataW.trod enc P w 0 (fun _ => true) true fuel e cs = some x → ∃ y : α, cs = en y ∧ Q y)
    {fuel : Nat} {cs : List Value} {x : DataW H × List MemPlace} (h : DataW.trod enc P w 0 (fun _ => true) true fuel t cs = some x) :
    ∃ (A : Option Addr) (l : List α) (c : Nat), cs = [.slice A l.length c] ∧ (A = none → l.length = 0 ∧ c = 0) ∧ Sl w w.heap.size k en A l ∧ (∀ y, y ∈ l → Q y) ∧ l.length ≤ maxLen := by
  rcases Deep.open_slice ht h with ⟨rfl, _⟩ | ⟨a, len, cap, m, n, D, Pl, rfl, _, hl, hm, hmm, _, hx⟩
  · exact ⟨none, [], 0, rfl, fun _ => ⟨rfl, rfl⟩, Sl.nil, fun y hy => (by cases hy), Nat.zero_le _⟩
  simp only [if_true] at hmm
  have hmm' := hmm.symm
  subst hmm'
  have each : ∀ i, i < len → ∃ y : α, Q y ∧ w.cells? 0 (a.add (i * k)) k = some (en y) := fun i hi => by
    obtain ⟨cs', h1, h2⟩ := hx i (by omega)
    obtain ⟨y, rfl, hq⟩ := hop _ _ _ h2
    rw [hk] at h1
    exact ⟨y, hq, h1⟩
  have lists : ∀ n, n ≤ len → ∃ l : List α, l.length = n ∧ ∀ i y, l[i]? = some y → Q y ∧ w.cells? 0 (a.add (i * k)) k = some (en y) := by
    intro n
    induction n with
    | zero => intro _; exact ⟨[], rfl, fun i y hy => by simp at hy⟩
    | succ n ih =>
      intro hn
      obtain ⟨l, hl, hr⟩ := ih (by omega)
      obtain ⟨y, hq, hc⟩ := each n (by omega)
      refine ⟨l ++ [y], by simp [hl], fun i z hz => ?_⟩
      rw [List.getElem?_append] at hz
      split at hz
      · exact hr i z hz
      · rename_i hi
        have hi' : i = n := by
          have := (List.getElem?_eq_some_iff.1 hz).1
          simp at this; omega
        subst hi'
        rw [hl, Nat.sub_self] at hz
        simp at hz; subst hz
        exact ⟨hq, hc⟩
  obtain ⟨l, hll, hr⟩ := lists len (Nat.le_refl _)
  subst hll
  refine ⟨some a, l, cap, rfl, (fun e => by cases e), fun hne => ?_, fun y hy => ?_, by omega⟩
  · obtain ⟨b, off, spot⟩ := a
    have hcell : ∀ i y, l[i]? = some y → ∀ j u, (en y)[j]? = some u → w.cell? (((⟨b, off, spot⟩ : Addr).add (i * k)).add j) = some u := fun i y hy j u hu => by
      obtain ⟨_, hlen, hc⟩ := World.cells?_some (hr i y hy).2
      have hj := (List.getElem?_eq_some_iff.1 hu).1
      rw [hc j (by omega)]; exact hu
    obtain ⟨y, hy⟩ : ∃ y, l[0]? = some y := by
      cases l with
      | nil => exact absurd rfl hne
      | cons y l => exact ⟨y, rfl⟩
    have hlen := (World.cells?_some (hr 0 y hy).2).2.1
    obtain ⟨u, hu⟩ : ∃ u, (en y)[0]? = some u := ⟨(en y)[0], by simp [hlen, hk0]⟩
    have h0 := hcell 0 y hy 0 u hu
    have hspot : spot = none := by simpa [Addr.add] using World.cell?_spot h0
    subst hspot
    have hb := World.block_lt_of_cell? w _ h0
    rw [add_lit, add_lit] at hb
    refine ⟨b, off, rfl, hb, fun i z hz j v hv => ?_⟩
    have := hcell i z hz j v hv
    rwa [add_lit, add_lit] at this
  · obtain ⟨i, hi, e⟩ := List.getElem_of_mem hy
    exact (hr i y (by rw [List.getElem?_eq_getElem hi, e])).1
theorem open_num {t : TypeId} {k : IntKind} (ht : P.underlying t = some (.int k)) {fuel : Nat} {cs : List Value} {x : DataW H × List MemPlace} (h : DataW.trod enc P w 0 (fun _ => true) true fuel t cs = some x) : ∃ y : Int, cs = [.int k y] ∧ (Lit.int k y).wf = true := by
  obtain ⟨n, h1, _, h3⟩ := DataW.trod_int ht h
  exact ⟨n, h1, h3⟩
/-- All arguments read behind the call as they did. -/
theorem Below.trodAll (hl : laidOutB P = true) {W W' : World} (hb : Below W.heap.size W W') : ∀ {ts : List TypeId} {vs : List Value} {ds : List (DataW H)} {ps : List MemPlace}, (∀ t, t ∈ ts → P.readableRec t = true ∧ t < P.types.size) →
    DataW.TrodAll enc P W 0 (fun _ => true) true ts vs ds ps → (∀ x ∈ ps, x.block < W.heap.size) → DataW.TrodAll enc P W' 0 (fun b => decide (b < W.heap.size)) true ts vs ds ps
  | [], [], [], _, _, h, _ => h
  | t :: ts, v :: vs, d :: ds, _, hr, ⟨p, q, h1, h2, e⟩, hlt => by
    subst e
    exact ⟨p, q, RowKit.Below.trod hl (hr t (by simp)).1 (hr t (by simp)).2 h1 hb (fun x hx => hlt x (by simp [hx])), Below.trodAll hl hb (fun u hu => hr u (by simp [hu])) h2 (fun x hx => hlt x (by simp [hx])), rfl⟩
  | [], [], _ :: _, _, _, h, _ => h.elim
  | [], _ :: _, _, _, _, h, _ => h.elim
  | _ :: _, [], _, _, _, h, _ => h.elim
  | _ :: _, _ :: _, [], _, _, h, _ => h.elim
/-- What a law owes behind its walk. -/
theorem law_post {f : Func} {s : ChangeSpec} {W W' : World} {args : Array Value} {ds gs : List (DataW H)} {before : List MemPlace} {tb : TypeId} (hl : laidOutB P = true) (hW : DataW.Whole enc P f.params.toList s.vars false W args.toList ds gs before) (hv : s.vars = [])
    (hrt : f.resultTypes = #[tb]) (htb : P.underlying tb = some .bool) (hrd : ∀ t, t ∈ f.params.toList → P.readableRec t = true ∧ t < P.types.size)
    (hfn : (s.fn H ds).results = [.lit (.bool true)] ∧ (s.fn H ds).args = ds ∧ (s.fn H ds).vars = []) (hb : Below W.heap.size W W') : s.post enc P f false true false false W args (.bool true) W' := by
  have hlt : ∀ p ∈ before, p.block < W.heap.size := fun p hp => by simpa using hW.lt p hp
  have hW' := hW
  obtain ⟨p, q, h1, h2, rfl, hz, hn⟩ := hW
  rw [hv] at h2
  obtain ⟨rfl, rfl⟩ := trodVars_none h2
  simp only [List.append_nil] at hlt hW'
  refine ⟨ds, [], p, [], p, [], hW', ?_, ?_, ?_, hb.frame _, fun h => by cases h⟩
  · rw [List.append_nil, hfn.1, hrt]
    exact trodAll_mk1 (shut_bool htb true)
  · rw [List.append_nil, hfn.2.1]
    exact Below.trodAll hl hb hrd h1 hlt
  · rw [List.append_nil, hfn.2.2, hv]
    exact rfl
end
theorem laidOutP : laidOutB Try.prog = true := by kernel_rfl
theorem ownP : ownKnob Try.prog.godebug = none := by kernel_rfl
end Go.Proofs.Yteognijlgalahaa
