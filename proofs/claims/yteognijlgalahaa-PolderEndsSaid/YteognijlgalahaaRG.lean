/- held: the ranges of the levels that can be held. -/
import Derived.Test.YteognijlgalahaaPP
import Derived.Test.YteognijlgalahaaRE
import Derived.Test.YteognijlgalahaaRF
namespace Go.Proofs.Yteognijlgalahaa
open Go.RowKit Go.Lib
attribute [local go_sem] Oper.semAt_some

abbrev encRg (r : Int × Int) : List Value := [.int .i64 r.1, .int .i64 r.2]
theorem encRg_one (z : Int × Int) : ∀ u ∈ encRg z, u.oneCell' = true := by
  intro u hu
  simp only [encRg, List.mem_cons, List.not_mem_nil, or_false] at hu
  rcases hu with rfl | rfl <;> rfl
theorem info_rz : (Try.prog.info? 31).map (fun i => (i.zero, i.size, i.bytes)) = some (some (.agg #[.int .i64 0, .int .i64 0]), 2, 16) := by kernel_rfl
theorem zero_rg : ∃ i z, Try.prog.info? 31 = some i ∧ i.zero = some z ∧ i.size = 2 ∧ i.bytes = 16 ∧ z.cells.size = 2 := by
  obtain ⟨i, hi, hp⟩ := Option.map_eq_some_iff.1 info_rz
  exact ⟨i, _, hi, congrArg (·.1) hp, congrArg (·.2.1) hp, congrArg (·.2.2) hp, rfl⟩
/-- append of one range to a row of one's own. -/
theorem wpList_app_rg {ops : Array Oper} {rest : List Oper} {o : Oper} {a : Act} {w : World} {Q : Exit → Act → World → Prop} (hgd : o.guard = none) (s x : Operand) (ho : o.op = .call { callee := .builtin .append, args := #[s, x], argTypes := #[36, 36] })
    (base : Nat) (v : Value) (xs : List (Int × Int)) (hs : a.eval s = v) (hown : w.ownsRow base 31 2 v xs.length (xs.flatMap encRg)) (gx c : Nat) (y : Int × Int) (hx : a.eval x = .slice (some ⟨gx, 0, none⟩) 1 c) (hy : w.rangeAt gx 0 (encRg y)) (hl : xs.length + 1 ≤ 1000) (hb : base ≤ w.heap.size)
    (h : ∀ g cap w', w'.ownsRow base 31 2 (.slice (some ⟨g, 0, none⟩) (xs ++ [y]).length cap) (xs ++ [y]).length ((xs ++ [y]).flatMap encRg) → w.grownBy w' v.ownBlock → (v.ownBlock = some g ∨ g = w.heap.size) → wpList Try.prog ops Q rest (a.put o.dst (.slice (some ⟨g, 0, none⟩) (xs ++ [y]).length cap)) w') : wpList Try.prog ops Q (o :: rest) a w := by
  obtain ⟨i0, z0, hi, hz0, hz1, hz2, hz3⟩ := zero_rg
  refine wpList_append_lies w hgd s x 36 ho base 31 i0 _ 2 16 Try.underlying36 hi hz0 hz1 hz2 hz3 (by decide) v xs.length _ hs hown ⟨gx, 0, none⟩ 1 c (encRg y) hx rfl (fun j u hu => by
      have h0 := hy j u hu
      rw [Nat.zero_add] at h0
      by_cases hj : j = 0
      · subst hj; simpa [Addr.add] using h0
      · simpa [Addr.add, hj] using h0) (encRg_one y) Nat.one_pos (by unfold maxLen; omega) (by omega) hb _ rfl ?_
  intro g cap w' h2 h3 h4 _
  have e : (xs ++ [y]).length = xs.length + 1 := by simp
  have e2 : (xs ++ [y]).flatMap encRg = xs.flatMap encRg ++ encRg y := by rw [List.flatMap_append]; simp
  have := h g cap w' (by rw [e, e2]; exact h2) h3 h4
  rw [e] at this
  exact this
/-- The variables of held. -/
structure HeM (p : PoM) (D mb : Nat) (w : World) (v : Value) (xs : List (Int × Int)) (Ds : List Nat) (V : World) : Prop where
  k : Lies V w.heap.size 89 (keC p D mb).toArray
  e : KeM p p.T 0 D mb V
  o : V.ownsRow (w.heap.size + 1) 31 2 v xs.length (xs.flatMap encRg)
  b : Below w.heap.size w V
  n : Ds.Nodup
  d : ∀ x, x ∈ Ds → w.heap.size + 1 ≤ x ∧ V.heap[x]? = some (.deferred (some []))
section
variable {p : PoM} {D mb : Nat} {w : World} {v : Value} {xs : List (Int × Int)} {Ds : List Nat} {V V' : World}
theorem HeM.size (h : HeM p D mb w v xs Ds V) : w.heap.size + 1 ≤ V.heap.size := h.k.in_
theorem HeM.call (h : HeM p D mb w v xs Ds V) (hb : Below V.heap.size V V') : HeM p D mb w v xs Ds V' :=
  ⟨h.k.call hb, h.e.call hb, own_keep h.o fun g hv => hb.block g (own_at h.o hv).2.1, h.b.trans (hb.mono (by have := h.size; omega)), h.n, fun x hx => ⟨(h.d x hx).1, (hb.block x (Array.getElem?_eq_some_iff.1 (h.d x hx).2).1).trans (h.d x hx).2⟩⟩
theorem HeM.only {g : Nat} {t : TypeId} {cs : Array Value} (h : HeM p D mb w v xs Ds V) (ho : Only g V V') (hg : w.heap.size < g) (hl : Lies V g t cs) (hD : D < w.heap.size) (hA : ∀ a, p.ds.A = some a → p.ds.l ≠ [] → a.block < w.heap.size) (hv : v.ownBlock ≠ some g) : HeM p D mb w v xs Ds V' :=
  ⟨ho.lies h.k (by omega), h.e.only ho (by omega) hl (fun a e hne => by have := hA a e hne; omega), own_keep h.o fun k hk => ho.block k fun e => hv (by rw [hk, e]), ho.below h.b (by omega), h.n, fun x hx => ⟨(h.d x hx).1, (ho.block x (fun e => by subst e; have := (h.d x hx).2; rw [hl] at this; cases this)).trans (h.d x hx).2⟩⟩
theorem HeM.recs {B : Nat} (h : HeM p D mb w v xs Ds V) (hr : Recs B V V') (hm : mb < B) (hB : w.heap.size ≤ B) (hlt : ∀ x, x ∈ Ds → x < B) : HeM p D mb w v xs Ds V' :=
  ⟨hr.lies h.k, h.e.recs hr hm, own_recs h.o hr, hr.below h.b hB h.b.size, h.n, fun x hx => ⟨(h.d x hx).1, hr.old (hlt x hx) (h.d x hx).2⟩⟩
theorem HeM.app (h : HeM p D mb w v xs Ds V) {g c : Nat} {r : Int × Int} (hD : D < w.heap.size) (hm : mb < w.heap.size) (hA : ∀ a, p.ds.A = some a → p.ds.l ≠ [] → a.block < w.heap.size) (ho : V'.ownsRow (w.heap.size + 1) 31 2 (.slice (some ⟨g, 0, none⟩) (xs ++ [r]).length c) (xs ++ [r]).length ((xs ++ [r]).flatMap encRg)) (hg : V.grownBy V' v.ownBlock) : HeM p D mb w (.slice (some ⟨g, 0, none⟩) (xs ++ [r]).length c) (xs ++ [r]) Ds V' := by
  have hb : Below (w.heap.size + 1) V V' := below_of_grown hg (fun k hk => (own_at h.o hk).1) h.size
  refine ⟨h.k.to_ (hb.block _ (by omega)), h.e.below hb (by omega) (by omega) (fun a e hne => by have := hA a e hne; omega), ho, h.b.trans (hb.mono (by omega)), h.n, fun x hx => ⟨(h.d x hx).1, (hg.block x (Array.getElem?_eq_some_iff.1 (h.d x hx).2).1 fun e => ?_).trans (h.d x hx).2⟩⟩
  obtain ⟨_, _, cs, hl⟩ := own_at h.o e.symm
  have h2 := (h.d x hx).2
  rw [hl] at h2
  cases h2
end
theorem HeM.mark {p : PoM} {D mb : Nat} {w : World} {v : Value} {xs : List (Int × Int)} {Ds : List Nat} {V : World} (h : HeM p D mb w v xs Ds V) {D1 : Nat} (hd : V.heap[D1]? = some (.deferred (some []))) (h1 : w.heap.size + 1 ≤ D1) (hn : ∀ x, x ∈ Ds → x ≠ D1) : HeM p D mb w v xs (D1 :: Ds) V :=
  ⟨h.k, h.e, h.o, h.b, List.nodup_cons.2 ⟨fun hx => hn _ hx rfl, h.n⟩, fun x hx => by
    rcases List.mem_cons.1 hx with rfl | hx
    · exact ⟨h1, hd⟩
    · exact h.d x hx⟩
/-- In a round. -/
structure HiM (p : PoM) (D mb : Nat) (w : World) (v : Value) (xs : List (Int × Int)) (Ds : List Nat) (gd gr gb day : Nat) (r : Int × Int) (V : World) : Prop where
  h : HeM p D mb w v xs Ds V
  d : Lies V gd 3 #[.int .i64 day]
  r : Lies V gr 31 (encRg r).toArray
  b : Lies V gb 31 #[.int .i64 p.low, .int .i64 p.high]
section
variable {p : PoM} {D mb : Nat} {w : World} {v : Value} {xs : List (Int × Int)} {Ds : List Nat} {gd gr gb day : Nat} {r : Int × Int} {V V' : World}
theorem HiM.call (h : HiM p D mb w v xs Ds gd gr gb day r V) (hb : Below V.heap.size V V') : HiM p D mb w v xs Ds gd gr gb day r V' := ⟨h.h.call hb, h.d.call hb, h.r.call hb, h.b.call hb⟩
theorem HiM.recs {B : Nat} (h : HiM p D mb w v xs Ds gd gr gb day r V) (hr : Recs B V V') (hm : mb < B) (hB : w.heap.size ≤ B) (hlt : ∀ x, x ∈ Ds → x < B) : HiM p D mb w v xs Ds gd gr gb day r V' := ⟨h.h.recs hr hm hB hlt, hr.lies h.d, hr.lies h.r, hr.lies h.b⟩
theorem HiM.set (h : HiM p D mb w v xs Ds gd gr gb day r V) (hg : w.heap.size < gr) (h1 : gd ≠ gr) (h2 : gb ≠ gr) (hD : D < w.heap.size) (hA : ∀ a, p.ds.A = some a → p.ds.l ≠ [] → a.block < w.heap.size) (hv : v.ownBlock ≠ some gr) {r' : Int × Int} (ho : Only gr V V') (hl : Lies V' gr 31 (encRg r').toArray) : HiM p D mb w v xs Ds gd gr gb day r' V' :=
  ⟨h.h.only ho hg h.r hD hA hv, ho.lies h.d h1, hl, ho.lies h.b h2⟩
end
/-- What held hands back. -/
def HeldE (l : List (Int × Int)) (b : Bool) (w : World) (e : Ending) (w' : World) : Prop := ∃ A c, e = .returned (.tuple #[.slice A l.length c, .bool b]) ∧ Sl w' w'.heap.size 2 encRg A l ∧ Below w.heap.size w w'
/-- Between the rounds of held. -/
def HeldR (p : PoM) (D mb : Nat) (w : World) (N n : Nat) (a : Act) (V : World) : Prop := ∃ (k : Nat) (xs : List (Int × Int)) (A1 : Option Addr) (c1 : Nat) (Ds : List Nat) (u4 u5 u6 u12 u13 u14 u15 u16 u17 u18 u19 u20 u21 u22 u23 u24 u25 u26 u27 u28 u29 u30 u31 u32 u33 u34 u35 u36 u37 u38 u39 u40 u41 u42 u43 u44 u45 u46 u47 u48 u49 u50 u51 u52 u53 u54 : Value), n + k = N ∧ xs = p.d.holdL.take k ∧ (∀ i, i < k → (p.d.rangeAt i).1 ≤ (p.d.rangeAt i).2) ∧ HeM p D mb w (.slice A1 xs.length c1) xs Ds V ∧ a = { tmps := #[.agg (keC p D mb).toArray, .pointer (some ⟨w.heap.size, 0, none⟩), .slice A1 xs.length c1, .bool false, u4, u5, u6, .pointer (some ⟨w.heap.size, 0, none⟩), .pointer (some ⟨w.heap.size, 6, none⟩), .slice p.ds.A N p.ds.c, .int .i64 N, .int .i64 k, u12, u13, u14, u15, u16, u17, u18, u19, u20, u21, u22, u23, u24, u25, u26, u27, u28, u29, u30, u31, u32, u33, u34, u35, u36, u37, u38, u39, u40, u41, u42, u43, u44, u45, u46, u47, u48, u49, u50, u51, u52, u53, u54, undef], defers := Ds.map markOf }
set_option maxRecDepth 100000 in
set_option maxHeartbeats 8000000 in
theorem held_any (p : PoM) (D mb : Nat) (w : World) (hk : KeM p p.T 0 D mb w) (hok : p.d.Ok) :
    Calls Try.prog 49 #[.agg (keC p D mb).toArray] w (HeldE (if p.d.canHold then p.d.holdL else []) p.d.canHold w) := by
  have hln : p.ds.l.length ≤ 12 := hok.n2
  have hl0 : 0 ≤ p.low := hok.l0
  have hl1 : p.low ≤ p.high := hok.l1
  have hl2 : p.high ≤ 60 := hok.l2
  have hDw : D < w.heap.size := hk.c.in_
  have hmb : mb < w.heap.size := hk.size
  have hAw : ∀ a, p.ds.A = some a → p.ds.l ≠ [] → a.block < w.heap.size := fun a e hne => by
    obtain ⟨b, off, e2, hb, -⟩ := hk.q.s hne
    rw [e] at e2; cases e2; exact hb
  have b0 : Below w.heap.size w (w.alloc (.cells (keC p D mb).toArray 89)) := (by repeat (first | (with_reducible assumption) | (with_reducible exact Below.refl _ _) | (with_reducible refine Below.drew ?_) | (with_reducible refine below_drewN ?_ _) | ((with_reducible refine Below.setCell ?_ ?_ _); rotate_left; focus (first | (simp; done) | (simp; omega) | omega)) | ((with_reducible refine Below.alloc ?_ ?_ _); rotate_left; focus (first | (simp; done) | (simp; omega) | omega))))
  have hM : HeM p D mb w (.slice none 0 0) [] [] (w.alloc (.cells (keC p D mb).toArray 89)) :=
    ⟨Lies.fresh _ _ _, hk.call b0, World.ownsRow_nil _ _ _ _, b0, List.nodup_nil, fun x hx => by simp at hx⟩
  obtain ⟨N, hN⟩ : ∃ N, N = p.ds.l.length := ⟨_, rfl⟩
  obtain ⟨L, hL⟩ : ∃ L, L = if p.d.canHold then p.d.holdL else [] := ⟨_, rfl⟩
  obtain ⟨cb, hcb⟩ : ∃ cb, cb = p.d.canHold := ⟨_, rfl⟩
  have HLL := Lib.hid hL
  have HCB := Lib.hid hcb
  rw [← hL, ← hcb]
  clear hL hcb
  have HAW := Lib.hid hAw
  have HOK := Lib.hid hok
  have HM := Lib.hid hM
  have HN := Lib.hid hN
  have hNz : (N : Int) ≤ 12 := by omega
  clear hk hok hAw b0 hM hN
  refine calls_of_wp_marks 6 Try.func49 rfl ?_
  simp only [Try.ntmps49, List.size_toArray, List.length_cons, List.length_nil, Nat.reduceAdd, Nat.reduceSub, Array.replicate_succ, Array.replicate_zero, List.push_toArray, List.append_toArray, List.nil_append, List.cons_append]
  go_upto_region 1 with (fail)
  change Code.wp _ _ _ _ (w.alloc (.cells (keC p D mb).toArray 89))
  generalize w.alloc (.cells (keC p D mb).toArray 89) = w1 at *
  have c9 : w1.cell? ⟨w.heap.size, 6, none⟩ = some (.slice p.ds.A N p.ds.c) := by rw [HN.out]; exact HM.out.k.at_ 6
  go_wp2
  clear c9
  have hR0 : p.d.holdL.take 0 = [] := List.take_zero
  refine wp_loop_ghost (HeldR p D mb w N)
    (N := N) ⟨0, [], none, 0, [], undef, undef, undef, undef, undef, undef, undef, undef, undef, undef, undef, undef, undef, undef, undef, undef, undef, undef, undef, undef, undef, undef, undef, undef, undef, undef, undef, undef, undef, undef, undef, undef, undef, undef, undef, undef, undef, undef, undef, undef, undef, undef, undef, undef, undef, undef, rfl, rfl, fun i hi => by omega, HM.out, rfl⟩ ?_
  clear hR0 HM
  rintro n a V ⟨k, xs, A1, c1, Ds, u4, u5, u6, u12, u13, u14, u15, u16, u17, u18, u19, u20, u21, u22, u23, u24, u25, u26, u27, u28, u29, u30, u31, u32, u33, u34, u35, u36, u37, u38, u39, u40, u41, u42, u43, u44, u45, u46, u47, u48, u49, u50, u51, u52, u53, u54, hnk, hxs, hbe, hm, rfl⟩
  have HX := Lib.hid hxs
  have HBE := Lib.hid hbe
  have HM := Lib.hid hm
  have hk0 : (0 : Int) ≤ (k : Int) := by omega
  clear hxs hbe hm
  by_cases hlt : k < N
  · have hltz : (k : Int) < (N : Int) := by omega
    have hz0 : V.heap.size < (V.alloc (.cells #[.int .i64 k] 3)).heap.size := by simp
    have hb1 : Below V.heap.size V (V.alloc (.cells #[.int .i64 k] 3)) := (Below.refl _ _).alloc (Nat.le_refl _) _
    go_upto_region 4 with (fail)
    change Code.wp _ _ _ _ (V.alloc (.cells #[.int .i64 k] 3))
    have M1 := Lib.hid (HM.out.call hb1)
    have D1 := Lib.hid (Lies.fresh V 3 #[.int .i64 k])
    have HZV := Lib.hid HM.out.size
    have HOB := Lib.hid (show ∀ g, (Value.slice A1 xs.length c1).ownBlock = some g → g < V.heap.size from fun g hg => (own_at HM.out.o hg).2.1)
    have HDV := Lib.hid (show ∀ x, x ∈ Ds → x < V.heap.size from fun x hx => (Array.getElem?_eq_some_iff.1 (HM.out.d x hx).2).1)
    have HZ1 := Lib.hid (show (V.alloc (.cells #[.int .i64 k] 3)).heap.size = V.heap.size + 1 by simp)
    clear hb1 HM hz0
    generalize V.alloc (.cells #[.int .i64 k] 3) = v1 at *
    generalize V.heap.size = gd at *
    have c16 : v1.cell? ⟨w.heap.size, 1, none⟩ = some (.int .i64 p.high) := M1.out.k.at_ 1
    have c20 : v1.cell? ⟨w.heap.size, 0, none⟩ = some (.int .i64 p.low) := M1.out.k.at_ 0
    have hw1 : IntKind.i64.wrap (p.high + 1) = p.high + 1 := IntWalk.i64_in _ (by omega)
    have hw2 : IntKind.i64.wrap (p.low - 1) = p.low - 1 := IntWalk.i64_in _ (by omega)
    go_upto_region 5 with (fail)
    change Code.wp _ _ _ _ (v1.alloc (.cells #[.int .i64 (p.high + 1), .int .i64 (p.low - 1)] 31))
    have hb2 : Below v1.heap.size v1 (v1.alloc (.cells #[.int .i64 (p.high + 1), .int .i64 (p.low - 1)] 31)) := (Below.refl _ _).alloc (Nat.le_refl _) _
    have M2 := Lib.hid (M1.out.call hb2)
    have D2 := Lib.hid (D1.out.call hb2)
    have R2 := Lib.hid (show Lies (v1.alloc (.cells #[.int .i64 (p.high + 1), .int .i64 (p.low - 1)] 31)) (gd + 1) 31 (encRg (p.high + 1, p.low - 1)).toArray from Lies.fresh' HZ1.out)
    have HZ2 := Lib.hid (show (v1.alloc (.cells #[.int .i64 (p.high + 1), .int .i64 (p.low - 1)] 31)).heap.size = gd + 2 by simp [HZ1.out])
    rw [HZ1.out]
    clear c16 c20 hw1 hw2 hb2 M1 D1 HZ1
    generalize v1.alloc (.cells #[.int .i64 (p.high + 1), .int .i64 (p.low - 1)] 31) = w2 at *
    have hrp : w2.rangeAt w.heap.size 0 p.cells := Lies.range (cs := keC p D mb) M2.out.k (fun i v hv => by
      rw [Nat.zero_add]
      unfold keC
      rw [List.getElem?_append_left (List.getElem?_eq_some_iff.1 hv).1]; exact hv)
    have HRP := Lib.hid hrp
    clear hrp
    go_wp2_with (first
      | (refine wpList_load_mid (op := ⟨some 24, _, _, _, _, _⟩) ?_ 34 (.tmp 23) ?_ w.heap.size 0 ?_ p.cells _ HRP.out Try.underlying34 rfl size_po ?_; rfl; rfl; rfl)
      | (go_at_call 63; refine (levels_any p _).mono ?_; rintro e w3 ⟨rfl, hb3⟩)
      | (go_at_call 72; refine (all_any p.low p.high _).mono ?_; rintro e w' ⟨rfl, rfl⟩))
    have hb4 : Below w2.heap.size w2 (w3.alloc (.cells #[.int .i64 p.low, .int .i64 p.high] 31)) := hb3.alloc hb3.size _
    have hW : HiM p D mb w (.slice A1 xs.length c1) xs Ds gd (gd + 1) w3.heap.size k (p.high + 1, p.low - 1) (w3.alloc (.cells #[.int .i64 p.low, .int .i64 p.high] 31)) :=
      ⟨M2.out.call hb4, D2.out.call hb4, R2.out.call hb4, Lies.fresh _ _ _⟩
    have hgb : gd + 1 < w3.heap.size := by have := HZ2.out; have := hb3.size; omega
    have hz5 : w3.heap.size < (w3.alloc (.cells #[.int .i64 p.low, .int .i64 p.high] 31)).heap.size := by simp
    clear M2 D2 R2 HRP hb3 hb4 HZ2
    generalize w3.heap.size = gb at *
    generalize w3.alloc (.cells #[.int .i64 p.low, .int .i64 p.high] 31) = w5 at *
    have HW := Lib.hid hW
    clear hW
    have hgd : w.heap.size + 1 ≤ gd := HZV.out
    refine range_givesK (n := 6) (gf := 86) rfl enters_all1 (all1_gives 5 (by omega) gb p.low p.high w5 (by omega) (by omega) (fun V => Lies V gb 31 #[.int .i64 p.low, .int .i64 p.high]) (fun V h => h)) (Below.refl _ _) (fun _ => rfl)
      (fun i V => HiM p D mb w (.slice A1 xs.length c1) xs Ds gd (gd + 1) gb k (p.d.heldTo (p.d.vals (p.d.ds.drop k)) i) V)
      (fun _ _ _ => False) ?hI ?hIx HW.out ?hSt
      (fun x a' _ => a' = { tmps := #[.agg (keC p D mb).toArray, .pointer (some ⟨w.heap.size, 0, none⟩), .slice A1 xs.length c1, .bool false, .pointer (some ⟨gd, 0, none⟩), .pointer (some ⟨gd + 1, 0, none⟩), .int .i64 x, .pointer (some ⟨w.heap.size, 0, none⟩), .pointer (some ⟨w.heap.size, 6, none⟩), .slice p.ds.A N p.ds.c, .int .i64 N, .int .i64 k, .bool true, .int .i64 k, .pointer (some ⟨w.heap.size, 0, none⟩), .pointer (some ⟨w.heap.size, 1, none⟩), .int .i64 p.high, .int .i64 (p.high + 1), .pointer (some ⟨w.heap.size, 0, none⟩), .pointer (some ⟨w.heap.size, 0, none⟩), .int .i64 p.low, .int .i64 (p.low - 1), .agg #[.int .i64 (p.high + 1), .int .i64 (p.low - 1)], .pointer (some ⟨w.heap.size, 0, none⟩), .agg p.cells.toArray, .agg #[.int .i64 p.low, .int .i64 p.high], .func (.func 86) #[] #[.pointer (some ⟨gb, 0, none⟩)], .int .i64 x, u28, u29, u30, u31, u32, u33, u34, u35, u36, u37, u38, u39, u40, u41, u42, u43, u44, u45, u46, u47, u48, u49, u50, u51, u52, u53, u54, undef], defers := [] }) ?hAx ?assign ?body ?done ?stop
    case hI =>
      intro i V V' h ht
      exact h.recs ht (by omega) (by omega) (fun x hx => by have := HDV.out x hx; omega)
    case hIx =>
      intro c i V V' h ht
      exact h
    case hSt =>
      intro i V h
      exact h.b
    case hAx =>
      rintro x a' V V' rfl ht
      rfl
    case stop =>
      intro D1 c i V hD1 hk' hi hd
      exact hi.elim
    case assign =>
      intro l2 i x V K hx hi hK
      have HIN := Lib.hid hi
      clear hx hi
      simp only [encY]
      gi_wp2_with (fail)
      exact hK _ _ (Keep.refl _ _) HIN.out rfl
    case body =>
      rintro l2 i x a' V hl2 hx hi rfl
      obtain ⟨hin, rfl⟩ := rngL_some hx
      obtain ⟨m, hm⟩ : ∃ m : Nat, p.low + (i : Int) = (m : Int) := ⟨(p.low + (i : Int)).toNat, by omega⟩
      have hm60 : m ≤ 60 := by omega
      have hmz : (m : Int) ≤ 60 := by omega
      have hm0 : (0 : Int) ≤ (m : Int) := by omega
      obtain ⟨y, hy⟩ : ∃ y, y = p.d.vals (p.d.ds.drop k) (m : Int) := ⟨_, rfl⟩
      have hkl : k ≤ p.ds.l.length := by have := HN.out; omega
      have hyc : V.cell? ⟨D, k * 61 + m, none⟩ = some (.int .i64 y) := by rw [hy]; exact hi.h.e.c.at_ (by omega) hkl (by omega) (by omega)
      have hstep : p.d.heldTo (p.d.vals (p.d.ds.drop k)) (i + 1) = if y = -1 then p.d.heldTo (p.d.vals (p.d.ds.drop k)) i else (min (p.d.heldTo (p.d.vals (p.d.ds.drop k)) i).1 (m : Int), max (p.d.heldTo (p.d.vals (p.d.ds.drop k)) i).2 (m : Int)) := by
        rw [hy, ← hm]; rfl
      obtain ⟨⟨lo, hi'⟩, hr⟩ : ∃ r, r = p.d.heldTo (p.d.vals (p.d.ds.drop k)) i := ⟨_, rfl⟩
      rw [← hr] at hstep hi
      dsimp only at hstep
      have HIN := Lib.hid hi
      have HST := Lib.hid hstep
      rw [hm]
      have c29 : V.cell? ⟨w.heap.size, 7, none⟩ = some (.slice (some ⟨D, 0, none⟩) (p.ds.l.length + 1) (p.ds.l.length + 1)) := hi.h.k.at_ 7
      have c30 : V.cell? ⟨gd, 0, none⟩ = some (.int .i64 k) := hi.d.at_ 0
      have c37 : V.cell? ⟨gd + 1, 0, none⟩ = some (.int .i64 lo) := hi.r.at_ 0
      have c41 : V.cell? ⟨gd + 1, 1, none⟩ = some (.int .i64 hi') := hi.r.at_ 1
      have f37 : V.frozen? ⟨gd + 1, 0, none⟩ = false := hi.r.free 0
      have f41 : V.frozen? ⟨gd + 1, 1, none⟩ = false := hi.r.free 1
      have hln1 : (k : Int) < (p.ds.l.length : Int) + 1 := by omega
      have hlnz : (p.ds.l.length : Int) ≤ 12 := by omega
      clear hx hi hstep hr hy hm
      by_cases hno : y = -1
      · have hne : ((y : Int) == -1) = true := by simp [hno]
        have HS2 := Lib.hid (show p.d.heldTo (p.d.vals (p.d.ds.drop k)) (i + 1) = (lo, hi') by rw [HST.out, if_pos hno])
        subst hno
        gi_wp2_with (fail)
        refine ⟨Keep.refl _ _, ?_⟩
        show HiM p D mb w (.slice A1 xs.length c1) xs Ds gd (gd + 1) gb k (p.d.heldTo (p.d.vals (p.d.ds.drop k)) (i + 1)) _
        rw [HS2.out]
        exact HIN.out
      · have hne : ((y : Int) == -1) = false := by simpa using hno
        have HS2 := Lib.hid (show p.d.heldTo (p.d.vals (p.d.ds.drop k)) (i + 1) = (min lo (m : Int), max hi' (m : Int)) by rw [HST.out, if_neg hno])
        gi_wp2_with (fail)
        have hvg : (Value.slice A1 xs.length c1).ownBlock ≠ some (gd + 1) := fun e => by have := HOB.out _ e; omega
        refine ⟨(Keep.of_only (Only.set _ _ _ _) (by omega)).trans (Keep.of_only (Only.set _ _ _ _) (by omega)), ?_⟩
        show HiM p D mb w (.slice A1 xs.length c1) xs Ds gd (gd + 1) gb k (p.d.heldTo (p.d.vals (p.d.ds.drop k)) (i + 1)) _
        rw [HS2.out]
        have h1 := HIN.out.set (r' := (min lo (m : Int), hi')) (by omega) (by omega) (by omega) hDw HAW.out hvg (Only.set (gd + 1) 0 V (.int .i64 (min lo (m : Int)))) (HIN.out.r.set 0 _)
        exact h1.set (r' := (min lo (m : Int), max hi' (m : Int))) (by omega) (by omega) (by omega) hDw HAW.out hvg (Only.set (gd + 1) 1 _ (.int .i64 (max hi' (m : Int)))) (h1.r.set 1 _)
    case done =>
      intro D1 V hD1 hi hd
      rw [rngL_length] at hi
      have hrr : p.d.heldTo (p.d.vals (p.d.ds.drop k)) (p.high + 1 - p.low).toNat = p.d.rangeAt k := rfl
      rw [hrr] at hi
      obtain ⟨⟨lo, hi'⟩, hr⟩ : ∃ r, r = p.d.rangeAt k := ⟨_, rfl⟩
      rw [← hr] at hi
      have hbb := PoD.rangeAt_b (p := p.d) hl1 k
      rw [← hr] at hbb
      obtain ⟨b0, b1, b2, b3⟩ := hbb
      have HRR := Lib.hid hr
      have c46 : V.cell? ⟨gd + 1, 0, none⟩ = some (.int .i64 lo) := hi.r.at_ 0
      have c48 : V.cell? ⟨gd + 1, 1, none⟩ = some (.int .i64 hi') := hi.r.at_ 1
      have M1 := Lib.hid (hi.h.mark hd (by omega) (fun x hx e => by have := HDV.out x hx; omega))
      have hkl : k < p.ds.l.length := by have := HN.out; omega
      have HKL := Lib.hid hkl
      clear hi hd hr hrr hkl
      by_cases hgt : hi' < lo
      · have HNO := Lib.hid (show p.d.canHold = false by
          unfold PoD.canHold
          rw [Bool.eq_false_iff]
          intro h
          rw [List.all_eq_true] at h
          have := h k (List.mem_range.2 HKL.out)
          rw [decide_eq_true_eq, ← HRR.out] at this
          dsimp only at this
          omega)
        go_wp2
        refine leave_marks (B := w.heap.size + 1) (fun A => Below w.heap.size w A) (fun A A' h hr => hr.below h (by omega) h.size) (fun A h => ⟨_, results_tmp2 rfl _ _ _, ?_⟩) (D1 :: Ds) V M1.out.b M1.out.n M1.out.d
        refine ⟨none, 0, ?_, ?_, h⟩
        · rw [HLL.out, HCB.out, HNO.out]; rfl
        · rw [HLL.out, HNO.out]; exact fun h => absurd rfl h
      · have hle : lo ≤ hi' := by omega
        have K53 := Lib.hid True.intro
        have HA1 : Below V.heap.size V (V.alloc (.cells #[.int .i64 lo, .int .i64 hi'] 31)) := (Below.refl _ _).alloc (Nat.le_refl _) _
        have M3 := Lib.hid (M1.out.call HA1)
        have R3 := Lib.hid (show (V.alloc (.cells #[.int .i64 lo, .int .i64 hi'] 31)).rangeAt V.heap.size 0 (encRg (lo, hi')) from Lies.range (cs := encRg (lo, hi')) (Lies.fresh _ _ _) (fun j v hj => by simpa using hj))
        have hxl : xs.length ≤ 12 := by rw [HX.out, List.length_take]; omega
        have HXL := Lib.hid hxl
        have hsz := M3.out.size
        have HSZ := Lib.hid hsz
        clear HA1 hxl hsz
        go_wp2_with (have h := K53; clear h; refine wpList_app_rg (o := ⟨some 53, _, _, _, _, _⟩) ?_ (.tmp 50) (.tmp 52) ?_ (w.heap.size + 1) _ xs ?_ M3.out.o V.heap.size 1 (lo, hi') ?_ R3.out (by have := HXL.out; omega) HSZ.out ?_; rfl; rfl; rfl; rfl; intro g3 cap3 u3 ho3 hg3 hat3; have M4 := Lib.hid (M3.out.app hDw hmb HAW.out ho3 hg3); clear ho3 hg3 hat3; clear K53)
        have hx1 : xs ++ [(lo, hi')] = p.d.holdL.take (k + 1) := by rw [HX.out, List.take_add_one, PoD.holdL_at p.d HKL.out, HRR.out]; rfl
        have hb1 : ∀ i, i < k + 1 → (p.d.rangeAt i).1 ≤ (p.d.rangeAt i).2 := by
          intro i hi
          by_cases e : i = k
          · subst e; rw [← HRR.out]; exact hle
          · exact HBE.out i (by omega)
        rw [show xs.length + 1 = (xs ++ [(lo, hi')]).length by simp, show (k : Int) + 1 = ((k + 1 : Nat) : Int) by omega]
        exact ⟨n - 1, by omega, k + 1, xs ++ [(lo, hi')], some ⟨g3, 0, none⟩, cap3, D1 :: Ds, _, _, _, _, _, _, _, _, _, _, _, _, _, _, _, _, _, _, _, _, _, _, _, _, _, _, _, _, _, _, _, _, _, _, _, _, _, _, _, _, _, _, _, _, _, _, by omega, hx1, hb1, M4.out, rfl⟩
  · obtain rfl : k = N := by omega
    have HYES := Lib.hid (show p.d.canHold = true by
      unfold PoD.canHold
      rw [List.all_eq_true]
      intro i hi
      rw [decide_eq_true_eq]
      exact HBE.out i (by have h1 : i < p.ds.l.length := List.mem_range.1 hi; have := HN.out; omega))
    have HXX := Lib.hid (show xs = p.d.holdL by rw [HX.out]; exact List.take_of_length_le (by rw [PoD.holdL_length]; show p.ds.l.length ≤ k; have := HN.out; omega))
    go_wp2
    refine leave_marks (B := w.heap.size + 1) (fun A => A.ownsRow (w.heap.size + 1) 31 2 (.slice A1 xs.length c1) xs.length (xs.flatMap encRg) ∧ Below w.heap.size w A) (fun A A' h hr => ⟨own_recs h.1 hr, hr.below h.2 (by omega) h.2.size⟩) (fun A h => ⟨_, results_tmp2 rfl _ _ _, ?_⟩) Ds V ⟨HM.out.o, HM.out.b⟩ HM.out.n HM.out.d
    refine ⟨A1, c1, ?_, ?_, h.2⟩
    · rw [HLL.out, HCB.out, HYES.out, if_pos rfl, ← HXX.out]; rfl
    · rw [HLL.out, HYES.out, if_pos rfl, ← HXX.out]
      obtain ⟨A', c', e', _, hs⟩ := Sl.of_own (enc := encRg) (l := xs) (fun _ => rfl) h.1 rfl
      cases e'
      exact hs
end Go.Proofs.Yteognijlgalahaa
