/- Two rows of one's own; play. -/
import Derived.Test.YteognijlgalahaaPO
import Derived.Deep.AppendLies
namespace Go.Proofs.Yteognijlgalahaa
open Go.RowKit Go.Lib
attribute [local go_sem] Oper.semAt_some

theorem flat_ints (l : List Int) : l.flatMap encI = l.map (Value.int .i64) := by
  induction l with
  | nil => rfl
  | cons x l ih => rw [List.flatMap_cons, ih]; rfl
/-- append of one number to a row of one's own: where the row lies then. -/
theorem wpList_app_one {ops : Array Oper} {rest : List Oper} {o : Oper} {a : Act} {w : World} {Q : Exit → Act → World → Prop} (hgd : o.guard = none) (s x : Operand) (ho : o.op = .call { callee := .builtin .append, args := #[s, x], argTypes := #[42, 42] })
    (base : Nat) (v : Value) (xs : List Int) (hs : a.eval s = v) (hown : w.ownsRow base 3 1 v xs.length (xs.flatMap encI)) (gx c : Nat) (y : Int) (hx : a.eval x = .slice (some ⟨gx, 0, none⟩) 1 c) (hy : w.cell? ⟨gx, 0, none⟩ = some (.int .i64 y)) (hl : xs.length + 1 ≤ 1000) (hb : base ≤ w.heap.size)
    (h : ∀ g cap w', w'.ownsRow base 3 1 (.slice (some ⟨g, 0, none⟩) (xs ++ [y]).length cap) (xs ++ [y]).length ((xs ++ [y]).flatMap encI) → w.grownBy w' v.ownBlock → (v.ownBlock = some g ∨ g = w.heap.size) → wpList Try.prog ops Q rest (a.put o.dst (.slice (some ⟨g, 0, none⟩) (xs ++ [y]).length cap)) w') : wpList Try.prog ops Q (o :: rest) a w := by
  obtain ⟨i0, hi, hz0, hz1, hz2⟩ := info_parts info_int
  refine wpList_append_lies w hgd s x 42 ho base 3 i0 _ 1 8 Try.underlying42 hi hz0 hz1 hz2 rfl (by decide) v xs.length _ hs hown ⟨gx, 0, none⟩ 1 c [.int .i64 y] hx rfl (fun j u hu => ?_) (by intro u hu; simp at hu; subst hu; rfl) Nat.one_pos (by unfold maxLen; omega) (by omega) hb _ rfl ?_
  · match j, hu with
    | 0, hu => cases hu; exact hy
  · intro g cap w' h2 h3 h4 _
    have e : (xs ++ [y]).length = xs.length + 1 := by simp
    have e2 : (xs ++ [y]).flatMap encI = xs.flatMap encI ++ [.int .i64 y] := by rw [List.flatMap_append]; rfl
    have := h g cap w' (by rw [e, e2]; exact h2) h3 h4
    rw [e] at this
    exact this
theorem Sl.memo {α : Type} {enc : α → List Value} {B k mb : Nat} {A : Option Addr} {l : List α} {W W' : World} {R : Int → Int → Int → Prop} (h : Sl W B k enc A l) (hB : B ≤ W.heap.size) (hm : MemoM W mb R) (hg : W.grownBy W' (some mb)) : Sl W' B k enc A l := fun hne => by
  obtain ⟨b, off, e, hb, hc⟩ := h hne
  refine ⟨b, off, e, hb, fun i x hx k u hu => ?_⟩
  have h1 := hc i x hx k u hu
  have hbm : b ≠ mb := by
    rintro rfl
    obtain ⟨es, clock, he, _⟩ := hm
    simp only [World.cell?, he] at h1
    cases h1
  simp only [World.cell?, hg.block b (Nat.lt_of_lt_of_le hb hB) (fun e => hbm (by cases e; rfl))] at h1 ⊢
  exact h1
theorem KeM.below {p : PoM} {T : Nat → Int → Int} {j D mb B : Nat} {W W' : World} (h : KeM p T j D mb W) (hb : Below B W W') (hD : D < B) (hm : mb < B) (hA : ∀ a, p.ds.A = some a → p.ds.l ≠ [] → a.block < B) : KeM p T j D mb W' :=
  ⟨⟨fun hne => by
      obtain ⟨b, off, e, hbs, hc⟩ := h.q.s hne
      have hbg : b < B := hA _ e hne
      refine ⟨b, off, e, Nat.lt_of_lt_of_le hbs hb.size, fun i x hx k u hu => ?_⟩
      have := hc i x hx k u hu
      simp only [World.cell?, hb.block b hbg] at this ⊢
      exact this, h.q.l⟩, h.c.to_ (hb.block _ hD), h.m.to_ (hb.block _ hm)⟩
theorem own_memo {base mb size n : Nat} {e : TypeId} {v : Value} {xs : List Value} {W W' : World} {R : Int → Int → Int → Prop} (h : W.ownsRow base e size v n xs) (hm : MemoM W mb R) (hg : W.grownBy W' (some mb)) : W'.ownsRow base e size v n xs :=
  own_keep h fun g hv => by
    obtain ⟨_, hlt, cs, hl⟩ := own_at h hv
    exact hg.block g hlt (fun e => hm.ne hl (by cases e; rfl))
/-- The variables of play. -/
structure PyM (p : PoM) (D mb : Nat) (A : Option Addr) (rs : List Int) (w : World) (vL vA : Value) (ls us : List Int) (V : World) : Prop where
  k : Lies V w.heap.size 89 (keC p D mb).toArray
  e : KeM p p.T 0 D mb V
  r : Sl V w.heap.size 1 encI A rs
  l : V.ownsRow (w.heap.size + 1) 3 1 vL ls.length (ls.flatMap encI)
  a : V.ownsRow (w.heap.size + 1) 3 1 vA us.length (us.flatMap encI)
  n : ∀ g, vL.ownBlock = some g → vA.ownBlock ≠ some g
  w : StepB mb w V
section
variable {p : PoM} {D mb : Nat} {A : Option Addr} {rs : List Int} {w : World} {vL vA : Value} {ls us : List Int} {V V' : World}
theorem PyM.size (h : PyM p D mb A rs w vL vA ls us V) : w.heap.size + 1 ≤ V.heap.size := h.k.in_
theorem PyM.call (h : PyM p D mb A rs w vL vA ls us V) (hb : Below V.heap.size V V') : PyM p D mb A rs w vL vA ls us V' :=
  ⟨h.k.call hb, h.e.call hb, h.r.below (hb.mono (by have := h.size; omega)), own_keep h.l fun g hv => hb.block g (own_at h.l hv).2.1, own_keep h.a fun g hv => hb.block g (own_at h.a hv).2.1, h.n, h.w.trans (.of_below hb)⟩
theorem PyM.step (h : PyM p D mb A rs w vL vA ls us V) (he : KeM p p.T 0 D mb V') (hg : V.grownBy V' (some mb)) : PyM p D mb A rs w vL vA ls us V' :=
  ⟨h.k.grown hg (by intro e; exact h.e.noM h.k (by cases e; rfl)), he, h.r.memo (by have := h.size; omega) h.e.m hg, own_memo h.l h.e.m hg, own_memo h.a h.e.m hg, h.n, h.w.trans hg⟩
theorem below_of_grown {B : Nat} {blk : Option Nat} {W W' : World} (hg : W.grownBy W' blk) (hb : ∀ k, blk = some k → B ≤ k) (hB : B ≤ W.heap.size) : Below B W W' := (Below.refl B W).grown hg hB hb
theorem StepB.far {b B : Nat} {w V V' : World} (h : StepB b w V) (hb : Below B V V') (hB : w.heap.size ≤ B) : StepB b w V' :=
  ⟨hb.os.trans h.os, hb.tape.trans h.tape, hb.output.trans h.output, Nat.le_trans h.size hb.size, fun k hk hne => (hb.block k (by omega)).trans (h.block k hk hne)⟩
theorem PyM.appL (h : PyM p D mb A rs w vL vA ls us V) (hD : D < w.heap.size) (hm : mb < w.heap.size) (hA : ∀ a, p.ds.A = some a → p.ds.l ≠ [] → a.block < w.heap.size) {g c : Nat} {x : Int}
    (ho : V'.ownsRow (w.heap.size + 1) 3 1 (.slice (some ⟨g, 0, none⟩) (ls ++ [x]).length c) (ls ++ [x]).length ((ls ++ [x]).flatMap encI)) (hg : V.grownBy V' vL.ownBlock) (hat : vL.ownBlock = some g ∨ g = V.heap.size) :
    PyM p D mb A rs w (.slice (some ⟨g, 0, none⟩) (ls ++ [x]).length c) vA (ls ++ [x]) us V' := by
  have hb : Below (w.heap.size + 1) V V' := below_of_grown hg (fun k hk => (own_at h.l hk).1) h.size
  refine ⟨h.k.to_ (hb.block _ (by omega)), h.e.below hb (by omega) (by omega) (fun a e hne => by have := hA a e hne; omega), h.r.below (hb.mono (by omega)), ho, own_keep h.a fun k hk => hg.block k (own_at h.a hk).2.1 fun e => h.n k e.symm hk, fun k hk hk2 => ?_, h.w.far hb (by omega)⟩
  obtain rfl : g = k := by simpa [Value.ownBlock] using hk
  rcases hat with hat | rfl
  · exact h.n _ hat hk2
  · exact Nat.lt_irrefl _ (own_at h.a hk2).2.1
theorem PyM.appA (h : PyM p D mb A rs w vL vA ls us V) (hD : D < w.heap.size) (hm : mb < w.heap.size) (hA : ∀ a, p.ds.A = some a → p.ds.l ≠ [] → a.block < w.heap.size) {g c : Nat} {x : Int}
    (ho : V'.ownsRow (w.heap.size + 1) 3 1 (.slice (some ⟨g, 0, none⟩) (us ++ [x]).length c) (us ++ [x]).length ((us ++ [x]).flatMap encI)) (hg : V.grownBy V' vA.ownBlock) (hat : vA.ownBlock = some g ∨ g = V.heap.size) :
    PyM p D mb A rs w vL (.slice (some ⟨g, 0, none⟩) (us ++ [x]).length c) ls (us ++ [x]) V' := by
  have hb : Below (w.heap.size + 1) V V' := below_of_grown hg (fun k hk => (own_at h.a hk).1) h.size
  refine ⟨h.k.to_ (hb.block _ (by omega)), h.e.below hb (by omega) (by omega) (fun a e hne => by have := hA a e hne; omega), h.r.below (hb.mono (by omega)), own_keep h.l fun k hk => hg.block k (own_at h.l hk).2.1 fun e => h.n k hk e.symm, ho, fun k hk hk2 => ?_, h.w.far hb (by omega)⟩
  obtain rfl : g = k := by simpa [Value.ownBlock] using hk2
  rcases hat with hat | rfl
  · exact h.n _ hk hat
  · exact Nat.lt_irrefl _ (own_at h.l hk).2.1
end
/-- The next level, by the best rule. -/
theorem PoD.next {p : PoD} (hok : p.Ok) {k : Nat} {d : Dy} {r lv : Int} (hd : p.ds[k]? = some d) (h1 : d.lo ≤ r) (h2 : r ≤ d.hi) (hv : p.vals (p.ds.drop k) lv ≠ -1) :
    -p.inl ≤ (p.bestD (p.vals (p.ds.drop (k + 1))) d lv).1 ∧ (p.bestD (p.vals (p.ds.drop (k + 1))) d lv).1 ≤ p.pump ∧ p.kept (lv + (r - d.sp - (p.bestD (p.vals (p.ds.drop (k + 1))) d lv).1)) ∧ p.vals (p.ds.drop (k + 1)) (lv + (r - d.sp - (p.bestD (p.vals (p.ds.drop (k + 1))) d lv).1)) ≠ -1 := by
  have hlt := (List.getElem?_eq_some_iff.1 hd).1
  have e : p.ds.drop k = d :: p.ds.drop (k + 1) := by rw [List.drop_eq_getElem_cons hlt, (List.getElem?_eq_some_iff.1 hd).2]
  rw [e] at hv
  have hge := hok.cstDrop (k + 1)
  obtain ⟨a1, a2, a3, -, -⟩ := PoD.best_at hok.p0 hok.i0 hge (hok.d d (List.mem_of_getElem? hd)) hv
  obtain ⟨hk, hn⟩ := (PoD.can_iff hge).1 a3 r h1 h2
  have e2 : lv - (p.bestD (p.vals (p.ds.drop (k + 1))) d lv).1 + r - d.sp = lv + (r - d.sp - (p.bestD (p.vals (p.ds.drop (k + 1))) d lv).1) := by omega
  rw [e2] at hk hn
  exact ⟨a1, a2, hk, hn⟩
theorem PoD.play_drop {p : PoD} {k : Nat} {d : Dy} {r lv : Int} {rs : List Int} (hd : p.ds[k]? = some d) (hr : rs[k]? = some r) :
    p.play (p.ds.drop k) lv (rs.drop k) = ((lv + (r - d.sp - (p.bestD (p.vals (p.ds.drop (k + 1))) d lv).1)) :: (p.play (p.ds.drop (k + 1)) (lv + (r - d.sp - (p.bestD (p.vals (p.ds.drop (k + 1))) d lv).1)) (rs.drop (k + 1))).1,
      (p.bestD (p.vals (p.ds.drop (k + 1))) d lv).1 :: (p.play (p.ds.drop (k + 1)) (lv + (r - d.sp - (p.bestD (p.vals (p.ds.drop (k + 1))) d lv).1)) (rs.drop (k + 1))).2.1,
      d.price (p.bestD (p.vals (p.ds.drop (k + 1))) d lv).1 + (p.play (p.ds.drop (k + 1)) (lv + (r - d.sp - (p.bestD (p.vals (p.ds.drop (k + 1))) d lv).1)) (rs.drop (k + 1))).2.2) := by
  rw [List.drop_eq_getElem_cons (List.getElem?_eq_some_iff.1 hd).1, (List.getElem?_eq_some_iff.1 hd).2, List.drop_eq_getElem_cons (List.getElem?_eq_some_iff.1 hr).1, (List.getElem?_eq_some_iff.1 hr).2]
  rfl
end Go.Proofs.Yteognijlgalahaa
