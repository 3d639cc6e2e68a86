/- The texts QH QI QJ RA RB RC RD RE RF RG RH RI RJ, joined. -/
import Derived.Test.YtkjhofbjjogmlaaXD
import Derived.Deep.RegionHeld3
/- bestSample's closure. -/
namespace Go.Proofs.Ytkjhofbjjogmlaa
open Go.RowKit Go.Lib

/-- The first sample, in the order of the lists, of so many more plants. -/
def findC (f : List Int → Bool) : Nat → List Int → List Int → Option (List Int)
  | 0, _, pre => if f pre then some pre else none
  | _ + 1, [], _ => none
  | m + 1, x :: rest, pre => if rest.length < m then none else match findC f m rest (pre ++ [x]) with | some s => some s | none => findC f (m + 1) rest pre
theorem findC_short (f : List Int → Bool) (m : Nat) (l pre : List Int) (h : l.length < m + 1) : findC f (m + 1) l pre = none := by
  cases l with
  | nil => rfl
  | cons x rest => rw [findC, if_pos (by simp at h; omega)]
theorem findC_hit (f : List Int → Bool) (m : Nat) (x : Int) (rest pre s : List Int) (h : m ≤ rest.length) (hs : findC f m rest (pre ++ [x]) = some s) : findC f (m + 1) (x :: rest) pre = some s := by
  rw [findC, if_neg (by omega), hs]
theorem findC_miss (f : List Int → Bool) (m : Nat) (x : Int) (rest pre : List Int) (h : m ≤ rest.length) (hs : findC f m rest (pre ++ [x]) = none) : findC f (m + 1) (x :: rest) pre = findC f (m + 1) rest pre := by
  rw [findC, if_neg (by omega), hs]
theorem own_trunc {w : World} {base : Nat} {e : TypeId} {A : Option Addr} {n c : Nat} {xs : List Value} {y : Value} (h : w.ownsRow base e 1 (.slice A (n + 1) c) (n + 1) (xs ++ [y])) (hx : xs.length = n) : w.ownsRow base e 1 (.slice A n c) n xs := by
  refine ⟨by rw [hx]; omega, ?_⟩
  rcases h.2 with ⟨hv, h0⟩ | ⟨g, cap, cur, hv, hbg, hgg, hnc, hcm, hcs, htake⟩
  · exact absurd h0 (by omega)
  · cases hv
    refine .inr ⟨g, _, cur, rfl, hbg, hgg, by omega, hcm, hcs, ?_⟩
    have : xs = (xs ++ [y]).take n := by rw [← hx, List.take_left]
    rw [this, ← htake]
    simp only [Nat.mul_one, List.take_take]
    congr 1
    omega
theorem own_cap {w : World} {base : Nat} {e : TypeId} {A : Option Addr} {n c : Nat} {xs : List Value} (h : w.ownsRow base e 1 (.slice A (n + 1) c) (n + 1) xs) : n + 1 ≤ c := by
  rcases h.2 with ⟨hv, h0⟩ | ⟨g, cap, cur, hv, hbg, hgg, hnc, hcm, hcs, htake⟩
  · exact absurd h0 (by omega)
  · cases hv; exact hnc
/-- The memory of bestSample. -/
structure BsM (c : CoM) (number : Int) (tl : List Int) (AT : Option Addr) (ct gc gs gn gt gf B : Nat) (w0 : World) (pre : List Int) (W : World) : Prop where
  lc : Lies W gc 84 c.cells.toArray
  ln : Lies W gn 3 #[.int .i64 number]
  lt : Lies W gt 23 #[.slice AT tl.length ct]
  st : Sl W gt 1 encI AT tl
  lf : Lies W gf 127 #[.func (.func 85) #[] #[.pointer (some ⟨gc, 0, none⟩), .pointer (some ⟨gs, 0, none⟩), .pointer (some ⟨gn, 0, none⟩), .pointer (some ⟨gt, 0, none⟩), .pointer (some ⟨gf, 0, none⟩)]]
  ls : ∃ v, Lies W gs 23 #[v] ∧ W.ownsRow B 3 1 v pre.length (pre.flatMap encI)
  b : Below w0.heap.size w0 W
  z : B ≤ W.heap.size
/-- Where the blocks lie. -/
structure BsG (gc gs gn gt gf B : Nat) (w0 : World) : Prop where
  c : gc < B
  s : gs < B
  n : gn < B
  t : gt < B
  f : gf < B
  cs : gc ≠ gs
  ns : gn ≠ gs
  ts : gt ≠ gs
  fs : gf ≠ gs
  z : w0.heap.size ≤ gs
  tg : gt ≤ gs
section
variable {c : CoM} {number : Int} {tl : List Int} {AT : Option Addr} {ct gc gs gn gt gf B : Nat} {w0 : World} {pre : List Int} {W W' : World}
theorem BsM.call (h : BsM c number tl AT ct gc gs gn gt gf B w0 pre W) (hb : Below W.heap.size W W') : BsM c number tl AT ct gc gs gn gt gf B w0 pre W' := by
  obtain ⟨v, h1, h2⟩ := h.ls
  exact ⟨h.lc.call hb, h.ln.call hb, h.lt.call hb, h.st.below (hb.mono (Nat.le_of_lt h.lt.in_)), h.lf.call hb, ⟨v, h1.call hb, ownsRow_call h2 hb⟩, h.b.trans (hb.mono h.b.size), Nat.le_trans h.z hb.size⟩
/-- A new sample, in place of the old one. -/
theorem BsM.putB {v' : Value} {pre' : List Int} (h : BsM c number tl AT ct gc gs gn gt gf B w0 pre W) (hg : BsG gc gs gn gt gf B w0) (hb : Below B W W')
    (hn : W'.ownsRow B 3 1 v' pre'.length (pre'.flatMap encI)) : BsM c number tl AT ct gc gs gn gt gf B w0 pre' (W'.setCell ⟨gs, 0, none⟩ v') := by
  obtain ⟨v0, h1, _⟩ := h.ls
  have hw : w0.heap.size ≤ B := Nat.le_trans hg.z (Nat.le_of_lt hg.s)
  exact ⟨(h.lc.below hb hg.c).other (by simpa using hg.cs) _, (h.ln.below hb hg.n).other (by simpa using hg.ns) _, (h.lt.below hb hg.t).other (by simpa using hg.ts) _, (h.st.below (hb.mono (Nat.le_of_lt hg.t))).setCell (by simpa using hg.tg) _, (h.lf.below hb hg.f).other (by simpa using hg.fs) _,
    ⟨v', (h1.below hb hg.s).set 0 _, own_keep hn fun k hk => heap_setCell_other _ _ _ _ (by have := (own_at hn hk).1; have := hg.s; simp; omega)⟩, (h.b.trans (hb.mono hw)).setCell (by simpa using hg.z) _, by simpa using Nat.le_trans h.z hb.size⟩
theorem BsM.put {v' : Value} {pre' : List Int} (h : BsM c number tl AT ct gc gs gn gt gf B w0 pre W) (hg : BsG gc gs gn gt gf B w0) {v : Value} (ho : W.ownsRow B 3 1 v pre.length (pre.flatMap encI)) (hgr : W.grownBy W' v.ownBlock)
    (hn : W'.ownsRow B 3 1 v' pre'.length (pre'.flatMap encI)) : BsM c number tl AT ct gc gs gn gt gf B w0 pre' (W'.setCell ⟨gs, 0, none⟩ v') :=
  h.putB hg ((Below.refl B W).grown hgr h.z (fun _k e => (own_at ho e).1)) hn
end
/-- What a round's drawn operations read. -/
structure BsS (gs gt b o : Nat) (v tv : Value) (x : Int) (W : World) : Prop where
  s : W.cell? ⟨gs, 0, none⟩ = some v
  t : W.cell? ⟨gt, 0, none⟩ = some tv
  e : W.cell? ⟨b, o, none⟩ = some (.int .i64 x)
theorem BsS.call {gs gt b o B : Nat} {v tv : Value} {x : Int} {W W' : World} (h : BsS gs gt b o v tv x W) (hb : Below B W W') (hs : gs < B) (ht : gt < B) (hbb : b < B) : BsS gs gt b o v tv x W' :=
  ⟨(hb.cell (p := ⟨gs, 0, none⟩) hs).trans h.s, (hb.cell (p := ⟨gt, 0, none⟩) ht).trans h.t, (hb.cell (p := ⟨b, o, none⟩) hbb).trans h.e⟩
/-- What the closure answers and leaves. -/
def BsR (c : CoM) (number : Int) (tl : List Int) (AT : Option Addr) (ct gc gs gn gt gf B : Nat) (w0 : World) (pre : List Int) (o : Option (List Int)) : Ending → World → Prop := fun e w' =>
  e = .returned (.bool o.isSome) ∧ BsM c number tl AT ct gc gs gn gt gf B w0 (o.getD pre) w'
def BsT (c : CoM) (number : Int) (tl : List Int) (AT : Option Addr) (ct gc gs gn gt gf B : Nat) (w0 : World) (m : Nat) : Prop :=
  ∀ (frm : Nat) (a b : Int) (pre : List Int) (W : World), a = frm → b = m → frm ≤ tl.length → pre.length + m ≤ 10 → (∀ p, p ∈ pre → 0 ≤ p ∧ p < 10) → BsM c number tl AT ct gc gs gn gt gf B w0 pre W →
    Calls Try.prog 85 #[.int .i64 a, .int .i64 b, .pointer (some ⟨gc, 0, none⟩), .pointer (some ⟨gs, 0, none⟩), .pointer (some ⟨gn, 0, none⟩), .pointer (some ⟨gt, 0, none⟩), .pointer (some ⟨gf, 0, none⟩)] W
      (BsR c number tl AT ct gc gs gn gt gf B w0 pre (findC (fun ps => c.r.d.enoughD c.ws ps number) m (tl.drop frm) pre))
set_option maxRecDepth 100000 in
set_option maxHeartbeats 4000000 in
theorem best1_zero (c : CoM) (number : Int) (tl : List Int) (AT : Option Addr) (ct gc gs gn gt gf B : Nat) (w0 : World) (hws : c.ws.length = 10) (hr : c.r.At w0 w0.heap.size) (hok : c.r.d.Ok) : BsT c number tl AT ct gc gs gn gt gf B w0 0 := by
  intro frm a b pre W ha hb hfl hpl hpre hM
  subst ha
  obtain rfl : b = 0 := hb
  obtain ⟨v, h1, h2⟩ := hM.ls
  obtain ⟨A, cap, rfl, hA, hS⟩ := Sl.of_own (enc := encI) (fun _ => rfl) h2 rfl
  have hE := fun W' (hb : Below W.heap.size W W') => isEnough_any c A cap pre number W' hws (hr.below (hM.b.trans (hb.mono hM.b.size)) (by have := hM.b.size; have := hb.size; omega)) hok ((hS.below hb).more hb.size) (by omega) hpre
  have hsz : (Try.prog.info? 84).map (·.size) = some c.cells.toArray.size := by rw [List.size_toArray, c.len hws]; exact size_co
  have c0 : W.cell? ⟨gs, 0, none⟩ = some (.slice A pre.length cap) := h1.at_ 0
  have c1 : W.cell? ⟨gn, 0, none⟩ = some (.int .i64 number) := hM.ln.at_ 0
  have HM := Lib.hid hM
  have HE := Lib.hid hE
  have HSZ := Lib.hid hsz
  have L0 := Lib.hid hM.lc
  clear hM hE hsz hr hok hws h1 h2 hA hS
  rw [show findC (fun ps => c.r.d.enoughD c.ws ps number) 0 (tl.drop frm) pre = if c.r.d.enoughD c.ws pre number then some pre else none from by rw [findC]]
  generalize c.r.d.enoughD c.ws pre number = res at *
  obtain ⟨o, ho⟩ : ∃ o, o = if res then some pre else none := ⟨_, rfl⟩
  have HO1 := Lib.hid (show o.isSome = res by rw [ho]; cases res <;> rfl)
  have HO2 := Lib.hid (show o.getD pre = pre by rw [ho]; cases res <;> rfl)
  rw [← ho]
  clear ho
  go_enter Try.func85, Try.ntmps85
  go_wp2_with (first
    | (refine wpList_load_row (o := ⟨some 13, _, _, _, _, _⟩) ?_ 84 (.tmp 2) ?_ gc ?_ 84 c.cells.toArray (0, 0) _ L0.out Try.underlying84 rfl HSZ.out ?_; rfl; rfl; rfl)
    | (go_at_call 61; refine (HE.out _ (Below.refl _ _)).mono ?_; rintro e w5 ⟨rfl, hb5⟩))
  go_ret
  exact ⟨ret_bool HO1.out.symm, by rw [HO2.out]; exact HM.out.call hb5⟩
set_option maxRecDepth 100000 in
set_option maxHeartbeats 8000000 in
theorem best1_succ (c : CoM) (number : Int) (tl : List Int) (AT : Option Addr) (ct gc gs gn gt gf B : Nat) (w0 : World) (hg : BsG gc gs gn gt gf B w0) (htl : tl.length ≤ 10) (hti : ∀ p, p ∈ tl → 0 ≤ p ∧ p < 10) (m : Nat)
    (ih : BsT c number tl AT ct gc gs gn gt gf B w0 m) : BsT c number tl AT ct gc gs gn gt gf B w0 (m + 1) := by
  intro frm a b pre W ha hb hfl hpl hpre hM
  subst ha
  obtain rfl : b = (m : Int) + 1 := by rw [hb]; omega
  clear hb
  unfold BsT at ih
  generalize hff : (fun ps => c.r.d.enoughD c.ws ps number) = f at *
  have HG := Lib.hid hg
  have HI := Lib.hid ih
  have HM := Lib.hid hM
  have HTI := Lib.hid hti
  have HPP := Lib.hid hpre
  have hmz : (m : Int) + 1 ≤ 10 := by omega
  have hm0 : (0 : Int) ≤ (m : Int) := by omega
  have hfz : (frm : Int) ≤ 10 := by omega
  have hf0 : (0 : Int) ≤ (frm : Int) := by omega
  have hne0 : ((m : Int) + 1 == 0) = false := by simp; omega
  clear hg ih hM hff hti hpre
  generalize hres : findC f (m + 1) (tl.drop frm) pre = res at *
  have HRES := Lib.hid hres
  clear hres
  go_enter Try.func85, Try.ntmps85
  go_wp2
  go_loopw [10] (fun s10 wr => ∃ k : Nat, k ≤ tl.length ∧ s10 = .int .i64 k ∧ Aside (BsM c number tl AT ct gc gs gn gt gf B w0 pre wr) ∧ Aside (findC f (m + 1) (tl.drop k) pre = res)) (fun i _ => tl.length - (intOf i).toNat)
  case atStart => exact ⟨frm, hfl, rfl, HM.out, HRES.out⟩
  case round =>
    obtain ⟨k, hk, rfl, HB, HR⟩ := hrel
    have hkz : (k : Int) ≤ 10 := by omega
    have hk0 : (0 : Int) ≤ (k : Int) := by omega
    have htz : (tl.length : Int) ≤ 10 := by omega
    obtain ⟨v, h1, h2⟩ := HB.out.ls
    obtain ⟨A, cap, hv, hA, hS⟩ := Sl.of_own (enc := encI) (fun _ => rfl) h2 rfl
    have c1 : wr.cell? ⟨gt, 0, none⟩ = some (.slice AT tl.length ct) := HB.out.lt.at_ 0
    by_cases hlt : k + (m + 1) ≤ tl.length
    · have hltz : (k : Int) + ((m : Int) + 1) ≤ (tl.length : Int) := by omega
      have hkt : k < tl.length := by omega
      have hktz : (k : Int) < (tl.length : Int) := by omega
      obtain ⟨x, hx⟩ : ∃ x, tl[k]? = some x := ⟨tl[k], by simp [hkt]⟩
      obtain ⟨tb, off, hAT, htb, c2⟩ := HB.out.st.cell1 hx
      subst hv hAT
      have c0 : wr.cell? ⟨gs, 0, none⟩ = some (.slice A pre.length cap) := h1.at_ 0
      have hxp := HTI.out x (List.mem_of_getElem? hx)
      have hdr : tl.drop k = x :: tl.drop (k + 1) := by
        rw [List.drop_eq_getElem_cons hkt]; congr 1; simpa [List.getElem?_eq_getElem hkt] using hx
      have HOW := Lib.hid h2
      have HDR := Lib.hid hdr
      have htbB : tb < gt := htb
      clear hdr h1 h2 hA hS hx
      go_upto_region 6 with (fail)
      have hGS := HG.out.s
      have hGT := HG.out.t
      have hBw := HB.out.z
      have hS0 : BsS gs gt tb (off + k) (.slice A pre.length cap) (.slice (some ⟨tb, off, none⟩) tl.length ct) x wr := ⟨c0, c1, c2⟩
      haveI hne : Nonempty (Cls (fun W => BsS gs gt tb (off + k) (.slice A pre.length cap) (.slice (some ⟨tb, off, none⟩) tl.length ct) x W)) := ⟨⟨wr, hS0⟩⟩
      clear c0 c1 c2
      have c0 : ∀ c : Cls (fun W => BsS gs gt tb (off + k) (.slice A pre.length cap) (.slice (some ⟨tb, off, none⟩) tl.length ct) x W), c.val.cell? ⟨gs, 0, none⟩ = some (.slice A pre.length cap) := fun c => c.h.s
      have c1 : ∀ c : Cls (fun W => BsS gs gt tb (off + k) (.slice A pre.length cap) (.slice (some ⟨tb, off, none⟩) tl.length ct) x W), c.val.cell? ⟨gt, 0, none⟩ = some (.slice (some ⟨tb, off, none⟩) tl.length ct) := fun c => c.h.t
      have c2 : ∀ c : Cls (fun W => BsS gs gt tb (off + k) (.slice A pre.length cap) (.slice (some ⟨tb, off, none⟩) tl.length ct) x W), c.val.cell? ⟨tb, off + k, none⟩ = some (.int .i64 x) := fun c => c.h.e
      refine wp_region_ways3 7 [0, 1, 2, 3, 4] (.way 5 (.way 6 .fin .fin) .fin) (fun W => ∃ cc : Cls (fun W => BsS gs gt tb (off + k) (.slice A pre.length cap) (.slice (some ⟨tb, off, none⟩) tl.length ct) x W), W = cc.val) (by kernel_rfl) (by kernel_rfl) (Cls.here (hS0.call (Below.refl _ _).drew (by omega) (by omega) (by omega))) ?_
      simp only [List.filterMap_cons, List.filterMap_nil, List.take_succ_cons, List.take_zero, List.getElem?_toArray, List.getElem?_cons_zero, List.getElem?_cons_succ, List.drop_succ_cons, List.drop_zero]
      repeat (first | go_big_quiet_step (rfl) | quiet_step (rfl))
      refine wpQuiet_nil ?_
      clear c0 c1 c2 hne
      have B0 := Lib.hid (HB.out.call (Below.refl _ _).drew)
      have S0 := Lib.hid (hS0.call (Below.refl _ _).drew (by omega) (by omega) (by omega))
      have W0 := Lib.hid (show wr.drew.ownsRow B 3 1 (.slice A pre.length cap) pre.length (pre.flatMap encI) from ownsRow_call HOW.out (Below.refl _ _).drew)
      clear hS0 HOW HB hBw
      generalize wr.drew = d0 at *
      rw [wpWy_way]
      refine ⟨?_, by exact trivial⟩
      simp only [List.getElem?_toArray, List.getElem?_cons_succ, List.getElem?_cons_zero]
      go_wp2_with (fail)
      have E1 := Lib.hid (show Lies (d0.alloc (.cells #[.int .i64 x] 3)) d0.heap.size 3 #[.int .i64 x] from Lies.fresh' rfl)
      have hb1 := (Below.refl d0.heap.size d0).alloc (Nat.le_refl _) (.cells #[.int .i64 x] 3)
      have B1 := Lib.hid (B0.out.call hb1)
      have W1 := Lib.hid (ownsRow_call W0.out hb1)
      have S1 := Lib.hid (S0.out.call (hb1.mono B0.out.z) (by omega) (by omega) (by omega))
      clear hb1 B0 W0 S0
      generalize d0.alloc (.cells #[.int .i64 x] 3) = d1 at *
      generalize d0.heap.size = g at *
      refine Ends.intro ⟨Cls.here S1.out, ?_⟩
      rw [wpWy_way]
      refine ⟨?_, by exact trivial⟩
      simp only [List.getElem?_toArray, List.getElem?_cons_succ, List.getElem?_cons_zero]
      go_wp2_with (refine wpList_app_ints (o := ⟨some 32, _, _, _, _, _⟩) ?_ (.tmp 26) (.tmp 31) ?_ B (.slice A pre.length cap) pre ?_ W1.out (some ⟨g, 0, none⟩) 1 [x] ?_ (by simp) (lies_q (q := [x]) E1.out) (by simp; omega) B1.out.z ?_; rfl; rfl; rfl; rfl; intro v4 w4 hown4 hb4 hg4)
      have S4 := Lib.hid (S1.out.call hb4 (by omega) (by omega) (by omega))
      refine Ends.intro ⟨Cls.here S4.out, ?_⟩
      rw [wpWy_fin]
      obtain ⟨v0, h10, _⟩ := B1.out.ls
      have c8 : w4.cell? ⟨gs, 0, none⟩ = some (.slice A pre.length cap) := S4.out.s
      have f8 : w4.frozen? ⟨gs, 0, none⟩ = false := (h10.below hb4 (by omega)).free 0
      have M5 := Lib.hid (B1.out.put HG.out W1.out hg4 hown4)
      obtain ⟨A4, cp4, hv4, -, -⟩ := Sl.of_own (enc := encI) (fun _ => rfl) hown4 rfl
      subst hv4
      clear h10 hown4 hb4 hg4 S4 S1 W1 B1 E1
      go_upto_region 7 with (fail)
      clear c8 f8
      rw [List.length_append, List.length_singleton] at M5
      generalize w4.setCell ⟨gs, 0, none⟩ (.slice A4 (pre.length + 1) cp4) = w5 at *
      have c9 : w5.cell? ⟨gf, 0, none⟩ = some (.func (.func 85) #[] #[.pointer (some ⟨gc, 0, none⟩), .pointer (some ⟨gs, 0, none⟩), .pointer (some ⟨gn, 0, none⟩), .pointer (some ⟨gt, 0, none⟩), .pointer (some ⟨gf, 0, none⟩)]) := M5.out.lf.at_ 0
      have hC := fun a b ha hb => HI.out (k + 1) a b (pre ++ [x]) w5 ha hb hkt (by rw [List.length_append, List.length_singleton]; omega) (fun p hp => by
        rcases List.mem_append.1 hp with h | h
        · exact HPP.out p h
        · rw [List.mem_singleton.1 h]; exact hxp) M5.out
      have HH := Lib.hid (findC_hit f m x (tl.drop (k + 1)) pre)
      have HMI := Lib.hid (findC_miss f m x (tl.drop (k + 1)) pre)
      have hdl : m ≤ (tl.drop (k + 1)).length := by rw [List.length_drop]; omega
      generalize hfc : findC f m (tl.drop (k + 1)) (pre ++ [x]) = fc at *
      cases fc with
      | some s =>
        have h5 := HR.out
        rw [HDR.out, HH.out s hdl rfl] at h5
        subst h5
        have HC := Lib.hid hC
        clear hC hfc HI
        go_wp2_with (go_at_call 85; refine (HC.out _ _ (by push_cast; omega) (by omega)).mono ?_; rintro e w6 ⟨rfl, h6⟩)
        go_ret
        exact ⟨rfl, h6⟩
      | none =>
        have HC := Lib.hid hC
        have hR5 := HMI.out hdl rfl
        rw [← HDR.out, HR.out] at hR5
        have HR5 := Lib.hid hR5
        clear hC hfc HI hR5
        go_wp2_with (go_at_call 85; refine (HC.out _ _ (by push_cast; omega) (by omega)).mono ?_; rintro e w6 ⟨rfl, h6⟩; dsimp only [Option.getD_none] at h6; obtain ⟨v6, h61, h62⟩ := h6.ls; obtain ⟨A6, cp6, hv6, -, -⟩ := Sl.of_own (enc := encI) (fun _ => rfl) h62 rfl; subst hv6; rw [List.length_append, List.length_singleton] at h61 h62; rw [List.flatMap_append] at h62; have c10 : w6.cell? ⟨gs, 0, none⟩ = some (.slice A6 (pre.length + 1) cp6) := h61.at_ 0; have f10 : w6.frozen? ⟨gs, 0, none⟩ = false := h61.free 0; have hcap := own_cap h62; have H6 := Lib.hid h6; have O6 := Lib.hid (own_trunc h62 (flat_len (enc := encI) (fun _ => rfl) pre |>.trans (Nat.mul_one _))); clear h6 h61 h62)
        go_roundw
        case rel =>
          exact ⟨k + 1, by omega, by go_num, H6.out.putB HG.out (Below.refl _ _) O6.out, HR5.out.symm⟩
        case measure => simp [intOf]; omega
    · have hltz : ¬ ((k : Int) + ((m : Int) + 1) ≤ (tl.length : Int)) := by omega
      have HFS := Lib.hid (findC_short f m (tl.drop k) pre (by rw [List.length_drop]; omega))
      clear hv hA hS h1 h2
      go_wp2
      go_ret
      have h5 := HR.out
      rw [HFS.out] at h5
      subst h5
      exact ⟨rfl, HB.out⟩
theorem best1_any (c : CoM) (number : Int) (tl : List Int) (AT : Option Addr) (ct gc gs gn gt gf B : Nat) (w0 : World) (hws : c.ws.length = 10) (hr : c.r.At w0 w0.heap.size) (hok : c.r.d.Ok) (hg : BsG gc gs gn gt gf B w0) (htl : tl.length ≤ 10) (hti : ∀ p, p ∈ tl → 0 ≤ p ∧ p < 10) :
    ∀ m, BsT c number tl AT ct gc gs gn gt gf B w0 m
  | 0 => best1_zero c number tl AT ct gc gs gn gt gf B w0 hws hr hok
  | m + 1 => best1_succ c number tl AT ct gc gs gn gt gf B w0 hg htl hti m (best1_any c number tl AT ct gc gs gn gt gf B w0 hws hr hok hg htl hti m)
end Go.Proofs.Ytkjhofbjjogmlaa

/- bestSample. -/
namespace Go.Proofs.Ytkjhofbjjogmlaa
open Go.RowKit Go.Lib

/-- The first that is found, from a size on. -/
def bestN (g : Nat → Option (List Int)) : Nat → Nat → Option (List Int)
  | 0, _ => none
  | n + 1, k => match g k with | some s => some s | none => bestN g n (k + 1)
theorem bestN_hit {g : Nat → Option (List Int)} {n k : Nat} {s : List Int} (h : g k = some s) : bestN g (n + 1) k = some s := by rw [bestN, h]
theorem bestN_miss {g : Nat → Option (List Int)} {n k : Nat} (h : g k = none) : bestN g (n + 1) k = bestN g n (k + 1) := by rw [bestN, h]
/-- The plants that tell. -/
def RwD.tells (r : RwD) (ws : List (Int × Int)) : List Int := (thoseD (r.tellB ws) r.dug.length).map fun q : Nat => (q : Int)
/-- The best sample. -/
def RwD.bestD (r : RwD) (ws : List (Int × Int)) (number : Int) : List Int :=
  (bestN (fun k => findC (fun ps => r.enoughD ws ps number) k (r.tells ws) []) (r.tells ws).length 0).getD (r.tells ws)
theorem BsM.start {c : CoM} {number : Int} {tl : List Int} {A : Option Addr} {cap gc gn : Nat} {w1 w5 : World} (hc : Lies w5 gc 84 c.cells.toArray) (hn : Lies w5 gn 3 #[.int .i64 number]) (hS : Sl w5 w5.heap.size 1 encI A tl) (hb : Below w1.heap.size w1 w5) :
    BsM c number tl A cap gc (w5.heap.size + 1) gn w5.heap.size (w5.heap.size + 1 + 1) (w5.heap.size + 3) w1 [] (((w5.alloc (.cells #[.slice A tl.length cap] 23)).alloc (.cells #[.slice none 0 0] 23)).alloc (.cells #[.func (.func 85) #[] #[.pointer (some ⟨gc, 0, none⟩), .pointer (some ⟨w5.heap.size + 1, 0, none⟩), .pointer (some ⟨gn, 0, none⟩), .pointer (some ⟨w5.heap.size, 0, none⟩), .pointer (some ⟨w5.heap.size + 1 + 1, 0, none⟩)]] 127)) :=
  ⟨((hc.alloc _).alloc _).alloc _, ((hn.alloc _).alloc _).alloc _, ((Lies.fresh _ _ _).alloc _).alloc _, hS.below ((((Below.refl _ _).alloc (Nat.le_refl _) _).alloc (by simp) _).alloc (by simp; omega) _), Lies.fresh' (by simp), ⟨_, (Lies.fresh' (by simp)).alloc _, World.ownsRow_nil _ _ _ _⟩, ((hb.alloc hb.size _).alloc (by have := hb.size; simp; omega) _).alloc (by have := hb.size; simp; omega) _, by simp⟩
set_option maxRecDepth 100000 in
set_option maxHeartbeats 8000000 in
theorem bestSample_any (c : CoM) (number : Int) (w : World) (hws : c.ws.length = 10) (hr : c.r.At w w.heap.size) (hok : c.r.d.Ok) :
    Calls Try.prog 59 #[.agg c.cells.toArray, .int .i64 number] w (RetIs (c.r.d.bestD c.ws number) w) := by
  have hsz : (Try.prog.info? 84).map (·.size) = some c.cells.toArray.size := by rw [List.size_toArray, c.len hws]; exact size_co
  have l0 : Lies ((w.alloc (.cells c.cells.toArray 84)).alloc (.cells #[.int .i64 number] 3)) w.heap.size 84 c.cells.toArray := (Lies.fresh _ _ _).alloc _
  have l1 : Lies ((w.alloc (.cells c.cells.toArray 84)).alloc (.cells #[.int .i64 number] 3)) (w.heap.size + 1) 3 #[.int .i64 number] := Lies.fresh' (by simp)
  have b0 : Below w.heap.size w ((w.alloc (.cells c.cells.toArray 84)).alloc (.cells #[.int .i64 number] 3)) := (by repeat (first | (with_reducible assumption) | (with_reducible exact Below.refl _ _) | (with_reducible refine Below.drew ?_) | (with_reducible refine below_drewN ?_ _) | ((with_reducible refine Below.setCell ?_ ?_ _); rotate_left; focus (first | (simp; done) | (simp; omega) | omega)) | ((with_reducible refine Below.alloc ?_ ?_ _); rotate_left; focus (first | (simp; done) | (simp; omega) | omega))))
  have hz0 : ((w.alloc (.cells c.cells.toArray 84)).alloc (.cells #[.int .i64 number] 3)).heap.size = w.heap.size + 2 := by simp
  have hN10 : c.r.d.dug.length ≤ 10 := by have := hok.dug; have := hok.n1; omega
  have htl : (c.r.d.tells c.ws).length ≤ 10 := by
    unfold RwD.tells thoseD
    rw [List.length_map]
    exact Nat.le_trans (Nat.le_trans (List.length_filter_le _ _) (by simp)) hN10
  have hti : ∀ p, p ∈ c.r.d.tells c.ws → 0 ≤ p ∧ p < 10 := by
    intro p hp
    unfold RwD.tells thoseD at hp
    obtain ⟨q, hq, rfl⟩ := List.mem_map.1 hp
    have := List.mem_range.1 (List.mem_filter.1 hq).1
    omega
  have hcol := fun gc gh W (hb : Below w.heap.size w W) h1 h2 => Collect_any c gc gh W hws (hr.below hb hb.size) hok h1 h2
  have hbest := fun w0 (hb : Below w.heap.size w w0) AT ct gc gs gn gt gf B hg m => best1_any c number (c.r.d.tells c.ws) AT ct gc gs gn gt gf B w0 hws (hr.below hb hb.size) hok hg htl hti m
  change ∀ gc gh W, Below w.heap.size w W → _ → _ → Calls Try.prog _ _ W (RetIs (c.r.d.tells c.ws) W) at hcol
  have hres : c.r.d.bestD c.ws number = (bestN (fun k => findC (fun ps => c.r.d.enoughD c.ws ps number) k (c.r.d.tells c.ws) []) (c.r.d.tells c.ws).length 0).getD (c.r.d.tells c.ws) := rfl
  generalize c.r.d.bestD c.ws number = res at *
  generalize c.r.d.tells c.ws = tl at *
  have L0 := Lib.hid l0
  have L1 := Lib.hid l1
  have B0 := Lib.hid b0
  have HZ0 := Lib.hid hz0
  have HCO := Lib.hid hcol
  have HBE := Lib.hid hbest
  have HRE := Lib.hid hres
  have HSZ := Lib.hid hsz
  have HTI := Lib.hid hti
  clear l0 l1 b0 hz0 hcol hbest hres hsz hti hr hok hN10 hws
  go_enter Try.func59, Try.ntmps59
  go_upto_region 1 with (fail)
  change Code.wp _ _ _ _ ((w.alloc (.cells c.cells.toArray 84)).alloc (.cells #[.int .i64 number] 3))
  generalize (w.alloc (.cells c.cells.toArray 84)).alloc (.cells #[.int .i64 number] 3) = w1 at *
  go_upto_region 5 with (first
    | (refine wpList_load_row (o := ⟨some 9, _, _, _, _, _⟩) ?_ 84 (.tmp 2) ?_ w.heap.size ?_ 84 c.cells.toArray (0, 0) _ L0.out Try.underlying84 rfl HSZ.out ?_; rfl; rfl; rfl)
    | (go_at_call 83; refine (those_any c _ _ rfl ⟨_, _, _, rfl⟩).mono ?_; rintro e w' ⟨rfl, rfl⟩; have hb2 := ((Below.refl w1.heap.size w1).alloc (Nat.le_refl _) (.cells c.cells.toArray 84)).alloc (by simp) (.cells #[.func (.func 84) #[] #[]] 126))
    | (go_at_call 82; refine (HCO.out w1.heap.size (w1.heap.size + 1) _ (B0.out.trans (hb2.mono B0.out.size)) ((Lies.fresh _ _ _).alloc _) (Lies.fresh' (by simp))).mono ?_; rintro e w5 ⟨A, cap, rfl, hA, hS, hb5⟩))
  have hb15 : Below w1.heap.size w1 w5 := hb2.trans (hb5.mono hb2.size)
  have hzz : w1.heap.size ≤ w5.heap.size := hb15.size
  have M0 := Lib.hid (BsM.start (cap := cap) (L0.out.call hb15) (L1.out.call hb15) hS hb15)
  have hg : BsG w.heap.size (w5.heap.size + 1) (w.heap.size + 1) w5.heap.size (w5.heap.size + 1 + 1) (w5.heap.size + 3) w1 := by
    have := HZ0.out
    constructor <;> omega
  have HB := Lib.hid (HBE.out w1 B0.out A cap _ _ _ _ _ _ hg)
  have HA := Lib.hid hA
  clear hb15 hb2 hb5 hS hA hg HBE HCO L0 L1
  generalize (((w5.alloc (.cells #[.slice A tl.length cap] 23)).alloc (.cells #[.slice none 0 0] 23)).alloc (.cells #[.func (.func 85) #[] #[.pointer (some ⟨w.heap.size, 0, none⟩), .pointer (some ⟨w5.heap.size + 1, 0, none⟩), .pointer (some ⟨w.heap.size + 1, 0, none⟩), .pointer (some ⟨w5.heap.size, 0, none⟩), .pointer (some ⟨w5.heap.size + 1 + 1, 0, none⟩)]] 127)) = w6 at *
  generalize w5.heap.size = z at *
  have c0 : w6.cell? ⟨z, 0, none⟩ = some (.slice A tl.length cap) := M0.out.lt.at_ 0
  go_wp2
  clear c0
  go_loopw [8, 15] (fun _ s15 wr => ∃ k : Nat, k ≤ tl.length ∧ s15 = .int .i64 k ∧ Aside (BsM c number tl A cap w.heap.size (z + 1) (w.heap.size + 1) z (z + 1 + 1) (z + 3) w1 [] wr) ∧ Aside (res = (bestN (fun k => findC (fun ps => c.r.d.enoughD c.ws ps number) k tl []) (tl.length - k) k).getD tl)) (fun _ i _ => tl.length - (intOf i).toNat)
  case atStart => exact ⟨0, by omega, rfl, M0.out, HRE.out⟩
  case round =>
    obtain ⟨k, hk, rfl, HM, HR⟩ := hrel
    have htz : (tl.length : Int) ≤ 10 := by omega
    by_cases hlt : k < tl.length
    · have hltz : (k : Int) < (tl.length : Int) := by omega
      have hk0 : (0 : Int) ≤ (k : Int) := by omega
      obtain ⟨q, hq⟩ : ∃ q, tl.length - k = q + 1 := ⟨tl.length - k - 1, by omega⟩
      have hC := HB.out k 0 0 k [] wr rfl rfl (by omega) (by simp; omega) (fun p hp => by simp at hp) HM.out
      rw [List.drop_zero] at hC
      have hR := HR.out
      rw [hq] at hR
      have HH := Lib.hid (fun s => bestN_hit (g := fun k => findC (fun ps => c.r.d.enoughD c.ws ps number) k tl []) (n := q) (k := k) (s := s))
      have HMI := Lib.hid (bestN_miss (g := fun k => findC (fun ps => c.r.d.enoughD c.ws ps number) k tl []) (n := q) (k := k))
      have c9 : wr.cell? ⟨z + 1 + 1, 0, none⟩ = some (.func (.func 85) #[] #[.pointer (some ⟨w.heap.size, 0, none⟩), .pointer (some ⟨z + 1, 0, none⟩), .pointer (some ⟨w.heap.size + 1, 0, none⟩), .pointer (some ⟨z, 0, none⟩), .pointer (some ⟨z + 1 + 1, 0, none⟩)]) := HM.out.lf.at_ 0
      clear HB
      cases hfc : findC (fun ps => c.r.d.enoughD c.ws ps number) k tl [] with
      | some s =>
        rw [hfc] at hC
        rw [HH.out s hfc] at hR
        dsimp only [Option.getD_some] at hR
        subst hR
        have HC := Lib.hid hC
        clear hC hfc HR HRE HH HMI
        go_wp2_with (go_at_call 85; refine HC.out.mono ?_; rintro e w6 ⟨rfl, h6⟩; dsimp only [Option.getD_some] at h6; obtain ⟨v6, h61, h62⟩ := h6.ls; obtain ⟨A6, cp6, hv6, hA6, hS6⟩ := Sl.of_own (enc := encI) (fun _ => rfl) h62 rfl; subst hv6; have c10 : w6.cell? ⟨z + 1, 0, none⟩ = some (.slice A6 res.length cp6) := h61.at_ 0; have H6 := Lib.hid h6; have HA6 := Lib.hid hA6; have HS6 := Lib.hid hS6; clear h6 h61 h62 hA6 hS6)
        go_ret
        exact ⟨A6, cp6, rfl, HA6.out, HS6.out, B0.out.trans (H6.out.b.mono B0.out.size)⟩
      | none =>
        rw [hfc] at hC
        rw [HMI.out hfc] at hR
        have HC := Lib.hid hC
        have HR5 := Lib.hid hR
        clear hC hfc HR HRE HH HMI hR
        go_wp2_with (go_at_call 85; refine HC.out.mono ?_; rintro e w6 ⟨rfl, h6⟩; dsimp only [Option.getD_none] at h6; have H6 := Lib.hid h6; clear h6)
        go_roundw
        case rel => exact ⟨k + 1, by omega, by go_num, H6.out, by rw [show tl.length - (k + 1) = q by omega]; exact HR5.out⟩
        case measure => simp [intOf]; omega
    · obtain rfl : k = tl.length := by omega
      have hR := HR.out
      rw [Nat.sub_self, bestN, Option.getD_none] at hR
      subst hR
      have c0 : wr.cell? ⟨z, 0, none⟩ = some (.slice A res.length cap) := HM.out.lt.at_ 0
      have hst := (HM.out.st).more (show z ≤ wr.heap.size by have := HM.out.z; omega)
      have HST := Lib.hid hst
      clear hst HR HRE HB
      go_wp2
      go_ret
      exact ⟨A, cap, rfl, HA.out, HST.out, B0.out.trans (HM.out.b.mono B0.out.size)⟩
end Go.Proofs.Ytkjhofbjjogmlaa

/- canBeSampled, Sample. -/
namespace Go.Proofs.Ytkjhofbjjogmlaa
open Go.RowKit Go.Lib

/-- Can a sample for the number be asked of the row? -/
def RwD.askD (r : RwD) (number : Int) : Bool := inB number 0 10 && decide ((0 : Int) < r.ws.length)
set_option maxRecDepth 100000 in
theorem canBeSampled_any (r : RwM) (number : Int) (w : World) (hl : r.ws.l.length ≤ 30) :
    Calls Try.prog 58 #[.agg r.cells.toArray, .int .i64 number] w fun e w' => e = .returned (.bool (r.d.askD number)) ∧ Below w.heap.size w w' := by
  have l0 : Lies (w.alloc (.cells r.cells.toArray 34)) w.heap.size 34 r.cells.toArray := Lies.fresh _ _ _
  have b0 : Below w.heap.size w (w.alloc (.cells r.cells.toArray 34)) := (by repeat (first | (with_reducible assumption) | (with_reducible exact Below.refl _ _) | (with_reducible refine Below.drew ?_) | (with_reducible refine below_drewN ?_ _) | ((with_reducible refine Below.setCell ?_ ?_ _); rotate_left; focus (first | (simp; done) | (simp; omega) | omega)) | ((with_reducible refine Below.alloc ?_ ?_ _); rotate_left; focus (first | (simp; done) | (simp; omega) | omega))))
  have hres : r.d.askD number = (inB number 0 10 && decide ((0 : Int) < (r.ws.l.length : Int))) := rfl
  have q0 : ∀ W, Calls Try.prog 65 #[.int .i64 number, .int .i64 0, .int .i64 10] W fun e w' => e = .returned (.bool (inB number 0 10)) ∧ W = w' := fun W => within_any _ _ _ W
  have hlz : (r.ws.l.length : Int) ≤ 30 := by omega
  generalize r.d.askD number = res at *
  generalize inB number 0 10 = y at *
  have L0 := Lib.hid l0
  have B0 := Lib.hid b0
  have Q0 := Lib.hid q0
  have HR := Lib.hid hres
  clear l0 b0 q0 hres
  go_enter Try.func58, Try.ntmps58
  go_upto_region 1 with (fail)
  change Code.wp _ _ _ _ (w.alloc (.cells r.cells.toArray 34))
  generalize w.alloc (.cells r.cells.toArray 34) = w0 at *
  have a1 : w0.cell? ⟨w.heap.size, 1, none⟩ = some (.slice r.ws.A r.ws.l.length r.ws.c) := L0.out.at_ 1
  cases y with
  | false =>
    go_wp2_with (go_at_call 65; refine (Q0.out _).mono ?_; rintro e w' ⟨rfl, rfl⟩)
    go_ret
    exact ⟨ret_bool (by rw [HR.out]; rfl), B0.out⟩
  | true =>
    go_wp2_with (go_at_call 65; refine (Q0.out _).mono ?_; rintro e w' ⟨rfl, rfl⟩)
    go_ret
    exact ⟨ret_bool (by rw [HR.out]; simp), B0.out⟩
set_option maxRecDepth 100000 in
set_option maxHeartbeats 8000000 in
theorem Sample_bad (r : RwM) (number : Int) (w : World) (hr : r.At w w.heap.size) (hf : r.d.fault ≠ 0) : Calls Try.prog 31 #[.agg r.cells.toArray, .int .i64 number] w (NoE r.d.fault w) := by
  have l0 : Lies (w.alloc (.cells r.cells.toArray 34)) w.heap.size 34 r.cells.toArray := Lies.fresh _ _ _
  have b0 : Below w.heap.size w (w.alloc (.cells r.cells.toArray 34)) := (by repeat (first | (with_reducible assumption) | (with_reducible exact Below.refl _ _) | (with_reducible refine Below.drew ?_) | (with_reducible refine below_drewN ?_ _) | ((with_reducible refine Below.setCell ?_ ?_ _); rotate_left; focus (first | (simp; done) | (simp; omega) | omega)) | ((with_reducible refine Below.alloc ?_ ?_ _); rotate_left; focus (first | (simp; done) | (simp; omega) | omega))))
  have hC := CheckRow_any r _ (hr.below b0 b0.size)
  generalize r.d.fault = ft at *
  have hfb : (ft != 0) = true := by simpa using hf
  have HC := Lib.hid hC
  have L0 := Lib.hid l0
  have B0 := Lib.hid b0
  clear l0 b0 hC hr hf
  go_enter Try.func31, Try.ntmps31
  go_upto_region 1 with (fail)
  change Code.wp _ _ _ _ (w.alloc (.cells r.cells.toArray 34))
  generalize w.alloc (.cells r.cells.toArray 34) = w0 at *
  go_wp2_with (first
    | (refine wpList_load_row (o := ⟨some 10, _, _, _, _, _⟩) ?_ 34 (.tmp 2) ?_ w.heap.size ?_ 34 r.cells.toArray (0, 0) _ L0.out Try.underlying34 rfl size_row ?_; rfl; rfl; rfl)
    | (go_at_call 17; refine HC.out.mono ?_; rintro e w5 ⟨rfl, hb5⟩))
  go_ret2
  exact ⟨rfl, B0.out.trans (hb5.mono B0.out.size)⟩
set_option maxRecDepth 100000 in
set_option maxHeartbeats 8000000 in
theorem Sample_out (r : RwM) (number : Int) (w : World) (hr : r.At w w.heap.size) (hf : r.d.fault = 0) (ha : r.d.askD number = false) : Calls Try.prog 31 #[.agg r.cells.toArray, .int .i64 number] w (NoE 2 w) := by
  have l0 : Lies (w.alloc (.cells r.cells.toArray 34)) w.heap.size 34 r.cells.toArray := Lies.fresh _ _ _
  have b0 : Below w.heap.size w (w.alloc (.cells r.cells.toArray 34)) := (by repeat (first | (with_reducible assumption) | (with_reducible exact Below.refl _ _) | (with_reducible refine Below.drew ?_) | (with_reducible refine below_drewN ?_ _) | ((with_reducible refine Below.setCell ?_ ?_ _); rotate_left; focus (first | (simp; done) | (simp; omega) | omega)) | ((with_reducible refine Below.alloc ?_ ?_ _); rotate_left; focus (first | (simp; done) | (simp; omega) | omega))))
  have hC := CheckRow_any r _ (hr.below b0 b0.size)
  rw [hf] at hC
  obtain ⟨hok, hn, hd, hlw, hln⟩ := fault_ok hf
  have hS := fun W => canBeSampled_any r number W hlw
  rw [ha] at hS
  have HC := Lib.hid hC
  have HS := Lib.hid hS
  have L0 := Lib.hid l0
  have B0 := Lib.hid b0
  clear l0 b0 hC hr hf hok hn hd hln ha hS
  go_enter Try.func31, Try.ntmps31
  go_upto_region 1 with (fail)
  change Code.wp _ _ _ _ (w.alloc (.cells r.cells.toArray 34))
  generalize w.alloc (.cells r.cells.toArray 34) = w0 at *
  go_wp2_with (first
    | (refine wpList_load_row (o := ⟨some 10, _, _, _, _, _⟩) ?_ 34 (.tmp 2) ?_ w.heap.size ?_ 34 r.cells.toArray (0, 0) _ L0.out Try.underlying34 rfl size_row ?_; rfl; rfl; rfl)
    | (go_at_call 17; refine HC.out.mono ?_; rintro e w5 ⟨rfl, hb5⟩)
    | (refine wpList_load_row (o := ⟨some 15, _, _, _, _, _⟩) ?_ 34 (.tmp 2) ?_ w.heap.size ?_ 34 r.cells.toArray (0, 0) _ (L0.out.call hb5) Try.underlying34 rfl size_row ?_; rfl; rfl; rfl)
    | (go_at_call 58; refine (HS.out _).mono ?_; rintro e w6 ⟨rfl, hb6⟩))
  go_ret2
  exact ⟨rfl, B0.out.trans ((hb5.trans (hb6.mono hb5.size)).mono B0.out.size)⟩
set_option maxRecDepth 100000 in
set_option maxHeartbeats 8000000 in
theorem Sample_sick (r : RwM) (number : Int) (w : World) (hr : r.At w w.heap.size) (hf : r.d.fault = 0) (ha : r.d.askD number = true) (hp : r.d.can = false) : Calls Try.prog 31 #[.agg r.cells.toArray, .int .i64 number] w (NoE 10 w) := by
  have l0 : Lies (w.alloc (.cells r.cells.toArray 34)) w.heap.size 34 r.cells.toArray := Lies.fresh _ _ _
  have b0 : Below w.heap.size w (w.alloc (.cells r.cells.toArray 34)) := (by repeat (first | (with_reducible assumption) | (with_reducible exact Below.refl _ _) | (with_reducible refine Below.drew ?_) | (with_reducible refine below_drewN ?_ _) | ((with_reducible refine Below.setCell ?_ ?_ _); rotate_left; focus (first | (simp; done) | (simp; omega) | omega)) | ((with_reducible refine Below.alloc ?_ ?_ _); rotate_left; focus (first | (simp; done) | (simp; omega) | omega))))
  have hC := CheckRow_any r _ (hr.below b0 b0.size)
  have hQ := fun W (hb : Below w.heap.size w W) => lookAt_sick r W (hr.below hb hb.size) hf hp
  rw [hf] at hC
  obtain ⟨hok, hn, hd, hlw, hln⟩ := fault_ok hf
  have hS := fun W => canBeSampled_any r number W hlw
  rw [ha] at hS
  have HC := Lib.hid hC
  have HS := Lib.hid hS
  have HQ := Lib.hid hQ
  have L0 := Lib.hid l0
  have B0 := Lib.hid b0
  clear l0 b0 hC hr hf hok hn hd hln ha hS hQ hp
  go_enter Try.func31, Try.ntmps31
  go_upto_region 1 with (fail)
  change Code.wp _ _ _ _ (w.alloc (.cells r.cells.toArray 34))
  generalize w.alloc (.cells r.cells.toArray 34) = w0 at *
  go_wp2_with (first
    | (refine wpList_load_row (o := ⟨some 10, _, _, _, _, _⟩) ?_ 34 (.tmp 2) ?_ w.heap.size ?_ 34 r.cells.toArray (0, 0) _ L0.out Try.underlying34 rfl size_row ?_; rfl; rfl; rfl)
    | (go_at_call 17; refine HC.out.mono ?_; rintro e w5 ⟨rfl, hb5⟩; have B5 := Lib.hid (B0.out.trans (hb5.mono B0.out.size)); have L5 := Lib.hid (L0.out.call hb5))
    | (refine wpList_load_row (o := ⟨some 15, _, _, _, _, _⟩) ?_ 34 (.tmp 2) ?_ w.heap.size ?_ 34 r.cells.toArray (0, 0) _ L5.out Try.underlying34 rfl size_row ?_; rfl; rfl; rfl)
    | (go_at_call 58; refine (HS.out _).mono ?_; rintro e w6 ⟨rfl, hb6⟩; have B6 := Lib.hid (B5.out.trans (hb6.mono B5.out.size)); have L6 := Lib.hid (L5.out.call hb6))
    | (refine wpList_load_row (o := ⟨some 20, _, _, _, _, _⟩) ?_ 34 (.tmp 2) ?_ w.heap.size ?_ 34 r.cells.toArray (0, 0) _ L6.out Try.underlying34 rfl size_row ?_; rfl; rfl; rfl)
    | (go_at_call 47; refine (HQ.out _ B6.out).mono ?_; rintro e w7 ⟨rfl, hb7⟩; have B7 := Lib.hid (B6.out.trans (hb7.mono B6.out.size)))
    | (refine wpList_store_cells (o := ⟨none, .store 84 (.tmp 7) _, _, _, _, _⟩) ?_ 84 (.tmp 7) (.tmp 22) ?_ w7.heap.size 0 ?_ 84 zco zco ?_ ((Lies.fresh w7 84 zco.toArray).alloc _) (by simp) size_zco zco_one ?_; rfl; rfl; rfl; rfl; intro w8 HS8 HO8)
    | (refine wpList_store_ints (o := ⟨none, .store 86 (.tmp 8) _, _, _, _, _⟩) ?_ 86 (.tmp 8) (.tmp 23) ?_ (w7.heap.size + 1) 0 ?_ 86 (List.replicate 10 0) (List.replicate 10 0) ?_ (HO8.out.lies (Lies.fresh' (by simp)) (by omega)) (by simp) size_ztr ?_; rfl; rfl; rfl; rfl; intro w9 HS9 HO9))
  go_ret2
  exact ⟨rfl, HO9.out.below (HO8.out.below ((B7.out.alloc B7.out.size _).alloc (by have := B7.out.size; simp; omega) _) B7.out.size) (by have := B7.out.size; omega)⟩
set_option maxRecDepth 100000 in
set_option maxHeartbeats 8000000 in
theorem Sample_yes (r : RwM) (number : Int) (w : World) (hr : r.At w w.heap.size) (hf : r.d.fault = 0) (ha : r.d.askD number = true) (hp : r.d.can = true) : Calls Try.prog 31 #[.agg r.cells.toArray, .int .i64 number] w (RetE (r.d.bestD r.d.wins number) w) := by
  have l0 : Lies (w.alloc (.cells r.cells.toArray 34)) w.heap.size 34 r.cells.toArray := Lies.fresh _ _ _
  have b0 : Below w.heap.size w (w.alloc (.cells r.cells.toArray 34)) := (by repeat (first | (with_reducible assumption) | (with_reducible exact Below.refl _ _) | (with_reducible refine Below.drew ?_) | (with_reducible refine below_drewN ?_ _) | ((with_reducible refine Below.setCell ?_ ?_ _); rotate_left; focus (first | (simp; done) | (simp; omega) | omega)) | ((with_reducible refine Below.alloc ?_ ?_ _); rotate_left; focus (first | (simp; done) | (simp; omega) | omega))))
  have hC := CheckRow_any r _ (hr.below b0 b0.size)
  have hQ := fun W (hb : Below w.heap.size w W) => lookAt_yes r W (hr.below hb hb.size) hf hp
  rw [hf] at hC
  obtain ⟨hok, hn, hd, hlw, hln⟩ := fault_ok hf
  have hS := fun W => canBeSampled_any r number W hlw
  rw [ha] at hS
  have hBS := fun W (hb : Below w.heap.size w W) => bestSample_any r.co number W r.d.wins_length (hr.below hb hb.size) hok
  change ∀ W, Below w.heap.size w W → Calls Try.prog 59 #[.agg r.co.cells.toArray, .int .i64 number] W (RetIs (r.d.bestD r.d.wins number) W) at hBS
  have hlen : r.d.earliest.length = 10 := earliest_ok.len
  have hszc : (Try.prog.info? 84).map (·.size) = some r.co.cells.length := by rw [CoM.len _ r.d.wins_length]; exact size_co
  have hszcA : (Try.prog.info? 84).map (·.size) = some r.co.cells.toArray.size := by simpa using hszc
  have hszt : (Try.prog.info? 86).map (·.size) = some r.d.earliest.length := by rw [hlen]; exact size_tr
  have hwc : r.co.cells.length = zco.length := by rw [CoM.len _ r.d.wins_length]; rfl
  have hwt : r.d.earliest.length = (List.replicate 10 (0 : Int)).length := by rw [hlen]; rfl
  have HSC := Lib.hid hszc
  have HSCA := Lib.hid hszcA
  have HST := Lib.hid hszt
  have HWC := Lib.hid hwc
  have HFC := Lib.hid (show 0 + r.co.cells.length ≤ zco.length by rw [hwc]; simp)
  have HFT := Lib.hid (show 0 + r.d.earliest.length ≤ (List.replicate 10 (0 : Int)).length by rw [hwt]; simp)
  have HONE := Lib.hid (show ∀ v ∈ r.co.cells, v.oneCell' = true from co_one r r.d.wins)
  have HC := Lib.hid hC
  have HS := Lib.hid hS
  have HQ := Lib.hid hQ
  have HBS := Lib.hid hBS
  have L0 := Lib.hid l0
  have B0 := Lib.hid b0
  clear l0 b0 hC hr hf hok hn hd hln ha hS hQ hp hBS hszc hszcA hszt hwc hwt hlen
  go_enter Try.func31, Try.ntmps31
  go_upto_region 1 with (fail)
  change Code.wp _ _ _ _ (w.alloc (.cells r.cells.toArray 34))
  generalize w.alloc (.cells r.cells.toArray 34) = w0 at *
  go_upto_region 7 with (first
    | (refine wpList_load_row (o := ⟨some 10, _, _, _, _, _⟩) ?_ 34 (.tmp 2) ?_ w.heap.size ?_ 34 r.cells.toArray (0, 0) _ L0.out Try.underlying34 rfl size_row ?_; rfl; rfl; rfl)
    | (go_at_call 17; refine HC.out.mono ?_; rintro e w5 ⟨rfl, hb5⟩; have B5 := Lib.hid (B0.out.trans (hb5.mono B0.out.size)); have L5 := Lib.hid (L0.out.call hb5))
    | (refine wpList_load_row (o := ⟨some 15, _, _, _, _, _⟩) ?_ 34 (.tmp 2) ?_ w.heap.size ?_ 34 r.cells.toArray (0, 0) _ L5.out Try.underlying34 rfl size_row ?_; rfl; rfl; rfl)
    | (go_at_call 58; refine (HS.out _).mono ?_; rintro e w6 ⟨rfl, hb6⟩; have B6 := Lib.hid (B5.out.trans (hb6.mono B5.out.size)); have L6 := Lib.hid (L5.out.call hb6))
    | (refine wpList_load_row (o := ⟨some 20, _, _, _, _, _⟩) ?_ 34 (.tmp 2) ?_ w.heap.size ?_ 34 r.cells.toArray (0, 0) _ L6.out Try.underlying34 rfl size_row ?_; rfl; rfl; rfl)
    | (go_at_call 47; refine (HQ.out _ B6.out).mono ?_; rintro e w7 ⟨rfl, hb7⟩; have B7 := Lib.hid (B6.out.trans (hb7.mono B6.out.size)))
    | (refine wpList_store_cells (o := ⟨none, .store 84 (.tmp 7) _, _, _, _, _⟩) ?_ 84 (.tmp 7) (.tmp 22) ?_ w7.heap.size 0 ?_ 84 zco r.co.cells ?_ ((Lies.fresh w7 84 zco.toArray).alloc _) HFC.out HSC.out HONE.out ?_; rfl; rfl; rfl; rfl; intro w8 HS8 HO8)
    | (refine wpList_store_ints (o := ⟨none, .store 86 (.tmp 8) _, _, _, _, _⟩) ?_ 86 (.tmp 8) (.tmp 23) ?_ (w7.heap.size + 1) 0 ?_ 86 (List.replicate 10 0) r.d.earliest ?_ (HO8.out.lies (Lies.fresh' (by simp)) (by omega)) HFT.out HST.out ?_; rfl; rfl; rfl; rfl; intro w9 HS9 HO9; (try simp only [Act.put])))
  have hb9 : Below w.heap.size w w9 := HO9.out.below (HO8.out.below ((B7.out.alloc B7.out.size _).alloc (by have := B7.out.size; simp; omega) _) B7.out.size) (by have := B7.out.size; omega)
  have hs8 := HS8.out
  rw [splice_whole HWC.out] at hs8
  have S9 := Lib.hid (HO9.out.lies hs8 (by omega))
  have B9 := Lib.hid hb9
  generalize w7.heap.size = g7 at *
  clear hs8 hb9 HS9 HO9 HS8 HO8 hb5 hb6 hb7 HC HS HQ L0 B0 L5 B5 L6 B6 B7
  go_wp2_with (first
    | (refine wpList_load_row (o := ⟨some 28, _, _, _, _, _⟩) ?_ 84 (.tmp 7) ?_ g7 ?_ 84 r.co.cells.toArray (0, 0) _ S9.out Try.underlying84 rfl HSCA.out ?_; rfl; rfl; rfl)
    | (go_at_call 59; refine (HBS.out _ B9.out).mono ?_; rintro e w10 ⟨A, c, rfl, hA, hS, hb10⟩))
  go_ret2
  exact ⟨A, c, rfl, hA, hS, B9.out.trans (hb10.mono B9.out.size)⟩
end Go.Proofs.Ytkjhofbjjogmlaa

/- The earliest truth is the least of all, and possible, if one is. -/
namespace Go.Proofs.Ytkjhofbjjogmlaa
open Go.RowKit Go.Lib

theorem mem_srcD {r : RwD} (hok : r.Ok) {p : Nat} {week : Int} {q : Nat} (h : q ∈ r.srcD p week) : q < r.dug.length ∧ r.srcOk p week q = true := by
  unfold RwD.srcD RwD.srcFrom at h
  obtain ⟨h1, h2⟩ := List.mem_filter.1 h
  have h3 := List.mem_range'_1.1 h1
  have := hok.dug
  have := hok.n0
  unfold RwD.farD RwD.nearD at h3
  exact ⟨by omega, h2⟩
theorem srcAny_mono {r : RwD} (hok : r.Ok) {s t : List Int} {p : Nat} {k : Int} (h : ∀ q, q < r.dug.length → t.getD q 0 < k → s.getD q 0 ≤ t.getD q 0) (hf : r.srcAny t p k = true) : r.srcAny s p k = true := by
  unfold RwD.srcAny at *
  rw [List.any_eq_true] at *
  obtain ⟨q, hq, hd⟩ := hf
  refine ⟨q, hq, ?_⟩
  rw [decide_eq_true_eq] at *
  have hl := hok.lag.1
  have := h q (mem_srcD hok hq).1 (by omega)
  omega
/-- What is ill no later, falls no later. -/
theorem fall_mono {r : RwD} (hok : r.Ok) {s t : List Int} {p : Nat} {k : Int} (h : ∀ q, q < r.dug.length → t.getD q 0 < k → s.getD q 0 ≤ t.getD q 0) (hf : r.fallB t p k = true) : r.fallB s p k = true := by
  unfold RwD.fallB at *
  split
  · rename_i h0; rw [if_pos h0] at hf; exact hf
  · rename_i h0
    rw [if_neg h0] at hf
    split
    · rename_i h1; rw [if_pos h1] at hf; exact hf
    · rename_i h1
      rw [if_neg h1] at hf
      rw [Bool.or_eq_true] at *
      exact hf.imp (srcAny_mono hok h) id
/-- A truth on its way: what is ill in it might become so. -/
structure OnWay (r : RwD) (ws : List (Int × Int)) (k : Nat) (t : List Int) : Prop where
  len : t.length = 10
  b : ∀ i, i < 10 → t.getD i 0 = 31 ∨ (0 ≤ t.getD i 0 ∧ t.getD i 0 ≤ k)
  f : ∀ i, i < 10 → t.getD i 0 = 31 ∨ (winD ws i (t.getD i 0) = true ∧ r.fallB t i (t.getD i 0) = true)
theorem OnWay.more {r : RwD} {ws : List (Int × Int)} {k m : Nat} {t : List Int} (h : OnWay r ws k t) (hk : k ≤ m) : OnWay r ws m t :=
  ⟨h.len, fun i hi => (h.b i hi).imp id (fun h => ⟨h.1, by omega⟩), h.f⟩
theorem step_le {r : RwD} {ws : List (Int × Int)} {k p : Nat} {t : List Int} (hk : k ≤ 31) (i : Nat) : (r.stepE ws k t p).getD i 0 ≤ t.getD i 0 := by
  unfold RwD.stepE
  split
  · rename_i h
    simp only [Bool.and_eq_true, decide_eq_true_eq] at h
    rw [getD_set]
    split
    · rename_i h2; rw [h2.1, h.1.1]; omega
    · exact Int.le_refl _
  · exact Int.le_refl _
theorem OnWay.step {r : RwD} (hok : r.Ok) {ws : List (Int × Int)} {k p : Nat} {t : List Int} (h : OnWay r ws k t) (hk : k ≤ 30) (hp : p < 10) : OnWay r ws k (r.stepE ws k t p) := by
  have hle : ∀ i, (r.stepE ws k t p).getD i 0 ≤ t.getD i 0 := fun i => step_le (by omega) i
  have hm : ∀ i (x : Int), r.fallB t i x = true → r.fallB (r.stepE ws k t p) i x = true := fun i x hx => fall_mono hok (fun q _ _ => hle q) hx
  by_cases hc : (decide (t.getD p 0 = 31) && winD ws p k && r.fallB t p k) = true
  · have he : r.stepE ws k t p = t.set p k := by unfold RwD.stepE; rw [if_pos hc]
    simp only [Bool.and_eq_true, decide_eq_true_eq] at hc
    have hg : ∀ i, (r.stepE ws k t p).getD i 0 = if i = p then (k : Int) else t.getD i 0 := by
      intro i
      rw [he, getD_set]
      by_cases e : i = p
      · rw [if_pos ⟨e, by rw [h.len]; exact hp⟩, if_pos e]
      · rw [if_neg (fun h => e h.1), if_neg e]
    refine ⟨by rw [he, List.length_set]; exact h.len, fun i hi => ?_, fun i hi => ?_⟩
    · rw [hg]; split
      · exact .inr ⟨by omega, by omega⟩
      · exact h.b i hi
    · rw [hg]; split
      · rename_i e; subst e; exact .inr ⟨hc.1.2, hm _ _ hc.2⟩
      · exact (h.f i hi).imp id fun h => ⟨h.1, hm _ _ h.2⟩
  · have he : r.stepE ws k t p = t := by unfold RwD.stepE; rw [if_neg hc]
    rw [he]; exact h
theorem OnWay.fold {r : RwD} (hok : r.Ok) {ws : List (Int × Int)} {k : Nat} (hk : k ≤ 30) : ∀ (l : List Nat) (t : List Int), (∀ p, p ∈ l → p < 10) → OnWay r ws k t → OnWay r ws k (l.foldl (r.stepE ws k) t)
  | [], _, _, h => h
  | p :: l, _, hl, h => OnWay.fold hok hk l _ (fun q hq => hl q (by simp [hq])) (h.step hok hk (hl p (by simp)))
theorem fold_le {r : RwD} {ws : List (Int × Int)} {k : Nat} (hk : k ≤ 31) (i : Nat) : ∀ (l : List Nat) (t : List Int), (l.foldl (r.stepE ws k) t).getD i 0 ≤ t.getD i 0
  | [], _ => Int.le_refl _
  | p :: l, t => Int.le_trans (fold_le hk i l (r.stepE ws k t p)) (step_le hk i)
/-- No later than a truth, up to a week. -/
def NoLater (r : RwD) (k : Nat) (s t : List Int) : Prop := ∀ q, q < r.dug.length → t.getD q 0 < k → s.getD q 0 ≤ t.getD q 0
theorem fold_week {r : RwD} (hok : r.Ok) {ws : List (Int × Int)} {k : Nat} (hk : k ≤ 30) {t : List Int} (ht : r.possB ws t = true) : ∀ (l : List Nat) (s : List Int), (∀ p, p ∈ l → p < r.dug.length) → OnWay r ws k s → NoLater r k s t →
    ∀ p, p ∈ l → t.getD p 0 = k → (l.foldl (r.stepE ws k) s).getD p 0 ≤ k
  | [], _, _, _, _, _, hp, _ => by simp at hp
  | q :: l, s, hl, hs, hn, p, hp, he => by
    have hd10 : r.dug.length ≤ 10 := by have := hok.dug; have := hok.n1; omega
    have hq10 : q < 10 := Nat.lt_of_lt_of_le (hl q (by simp)) hd10
    rw [List.foldl_cons]
    by_cases e : p = q
    · subst e
      refine Int.le_trans (fold_le (by omega) p l _) ?_
      have hpa := all_range.1 ht p (hl p (by simp))
      unfold RwD.possAt at hpa
      rw [he] at hpa
      simp only [Bool.and_eq_true, Bool.or_eq_true, decide_eq_true_eq] at hpa
      have hf : r.fallB t p k = true := hpa.2.resolve_left (by omega)
      have hf2 : r.fallB s p k = true := fall_mono hok hn hf
      by_cases h31 : s.getD p 0 = 31
      · unfold RwD.stepE
        rw [if_pos (by simp [hpa.1, hf2]; simpa [List.getD] using h31), getD_set, if_pos ⟨rfl, by rw [hs.len]; exact hq10⟩]
        exact Int.le_refl _
      · have := (hs.b p hq10).resolve_left h31
        exact Int.le_trans (step_le (by omega) p) this.2
    · have hp' : p ∈ l := by simpa [e] using hp
      exact fold_week hok hk ht l _ (fun j hj => hl j (by simp [hj])) (hs.step hok hk hq10) (fun j hj hlt => Int.le_trans (step_le (by omega) j) (hn j hj hlt)) p hp' he
theorem OnWay.start (r : RwD) (ws : List (Int × Int)) : OnWay r ws 0 (List.replicate 10 31) := by
  have h : ∀ i, i < 10 → (List.replicate 10 (31 : Int)).getD i 0 = 31 := fun i hi => by rw [List.getD, List.getElem?_replicate, if_pos hi]; rfl
  exact ⟨rfl, fun i hi => .inl (h i hi), fun i hi => .inl (h i hi)⟩
theorem weeks_onWay {r : RwD} (hok : r.Ok) (ws : List (Int × Int)) : ∀ k, k ≤ 31 → OnWay r ws (k - 1) (r.weeksE ws k)
  | 0, _ => by unfold RwD.weeksE; exact OnWay.start r ws
  | k + 1, hk => by
    have hd10 : r.dug.length ≤ 10 := by have := hok.dug; have := hok.n1; omega
    rw [weeksE_succ]
    exact OnWay.fold hok (by omega) _ _ (fun p hp => by have := List.mem_range.1 hp; omega) ((weeks_onWay hok ws k (by omega)).more (by omega))
theorem weeks_least {r : RwD} (hok : r.Ok) {ws : List (Int × Int)} {t : List Int} (h0 : ∀ q, 0 ≤ t.getD q 0) (ht : r.possB ws t = true) : ∀ k, k ≤ 31 → NoLater r k (r.weeksE ws k) t
  | 0, _ => fun q hq hlt => by have := h0 q; omega
  | k + 1, hk => fun q hq hlt => by
    have ih := weeks_least hok h0 ht k (by omega)
    rw [weeksE_succ]
    by_cases h : t.getD q 0 < k
    · exact Int.le_trans (fold_le (by omega) q _ _) (ih q hq h)
    · have he : t.getD q 0 = k := by omega
      rw [he]
      exact fold_week hok (by omega) ht _ _ (fun p hp => List.mem_range.1 hp) ((weeks_onWay hok ws k (by omega)).more (by omega)) ih q (List.mem_range.2 hq) he
/-- No truth is earlier than the earliest. -/
theorem early_least {r : RwD} (hok : r.Ok) {ws : List (Int × Int)} {t : List Int} (hT : TrW r.ws.length t) (ht : r.possB ws t = true) (p : Nat) (hp : p < r.dug.length) : (r.earlyD ws).getD p 0 ≤ t.getD p 0 := by
  have hnw := hok.nw
  rcases hT.b p with h | ⟨h1, h2⟩
  · rw [h]
    have hd10 : r.dug.length ≤ 10 := by have := hok.dug; have := hok.n1; omega
    have := (weeks_onWay hok ws (r.ws.length + 1) (by omega)).b p (by omega)
    unfold RwD.earlyD
    omega
  · exact weeks_least hok (fun q => by have := hT.b q; omega) ht (r.ws.length + 1) (by omega) p hp (by omega)
/-- The earliest truth is possible, if any one is. -/
theorem early_can {r : RwD} (hok : r.Ok) {ws : List (Int × Int)} {t : List Int} (hT : TrW r.ws.length t) (ht : r.possB ws t = true) : r.possB ws (r.earlyD ws) = true := by
  have hnw := hok.nw
  have hd10 : r.dug.length ≤ 10 := by have := hok.dug; have := hok.n1; omega
  refine all_range.2 fun p hp => ?_
  have hw := weeks_onWay hok ws (r.ws.length + 1) (by omega)
  have hb := hw.b p (by omega)
  unfold RwD.possAt
  rcases hw.f p (by omega) with h | h
  · have hl := early_least hok hT ht p hp
    have hpa := all_range.1 ht p hp
    unfold RwD.possAt at hpa
    have h31 : t.getD p 0 = 31 := by
      have := hT.b p
      unfold RwD.earlyD at hl
      omega
    rw [h31] at hpa
    simp only [Bool.and_eq_true] at hpa
    have h' : (r.earlyD ws).getD p 0 = 31 := h
    rw [h']
    simp [hpa.1]
  · have h1 : winD ws p ((r.earlyD ws).getD p 0) = true := h.1
    have h2 : r.fallB (r.earlyD ws) p ((r.earlyD ws).getD p 0) = true := h.2
    rw [h1, h2]; simp
theorem early_ok (r : RwD) (ws : List (Int × Int)) : TrW r.ws.length (r.earlyD ws) := weeksE_ok r ws (Nat.le_refl _)
/-- Can the row be? -/
theorem can_iff {r : RwD} (hok : r.Ok) (ws : List (Int × Int)) : r.possB ws (r.earlyD ws) = true ↔ ∃ t, TrW r.ws.length t ∧ r.possB ws t = true :=
  ⟨fun h => ⟨_, early_ok r ws, h⟩, fun ⟨_, h1, h2⟩ => early_can hok h1 h2⟩
/-- What is possible in one row, is so in another. -/
theorem less_of {r x : RwD} (hr : r.Ok) (_hx : x.Ok) (hw : x.ws.length = r.ws.length) (_hn : x.dug.length = r.dug.length) {ws wx : List (Int × Int)} (h : ∀ t, TrW r.ws.length t → x.possB wx t = true → r.possB ws t = true) (hc : x.possB wx (x.earlyD wx) = true) :
    r.possB ws (r.earlyD ws) = true ∧ ∀ p, p < r.dug.length → (r.earlyD ws).getD p 0 ≤ (x.earlyD wx).getD p 0 := by
  have hT : TrW r.ws.length (x.earlyD wx) := hw ▸ early_ok x wx
  have hp := h _ hT hc
  exact ⟨early_can hr hT hp, fun p hp' => early_least hr hT hp p hp'⟩
end Go.Proofs.Ytkjhofbjjogmlaa

/- A plant dug earlier. -/
namespace Go.Proofs.Ytkjhofbjjogmlaa
open Go.RowKit Go.Lib

/-- A row with one plant dug at the end of a week. -/
def RwD.dugAt (r : RwD) (p : Nat) (w : Int) : RwD := { r with dug := r.dug.set p w }
theorem dugAt_st {r : RwD} {p : Nat} {w : Int} (hw : 1 ≤ w) (hs : stB (r.dg p) w = true) (q : Nat) (k : Int) (h : stB ((r.dugAt p w).dg q) k = true) : stB (r.dg q) k = true := by
  unfold RwD.dg RwD.dugAt stB at *
  dsimp only at h
  simp only [Int.toNat_natCast, Bool.or_eq_true, decide_eq_true_eq] at *
  rw [getD_set] at h
  split at h
  · rename_i e
    rw [e.1]
    omega
  · exact h
theorem dugAt_fall {r : RwD} {p : Nat} {w : Int} (hw : 1 ≤ w) (hs : stB (r.dg p) w = true) (t : List Int) (q : Nat) (k : Int) (h : (r.dugAt p w).fallB t q k = true) : r.fallB t q k = true := by
  unfold RwD.fallB at *
  split
  · rename_i h0; rw [if_pos h0] at h; exact h
  · rename_i h0
    rw [if_neg h0] at h
    split at h
    · cases h
    · rename_i h1
      have h2 := dugAt_st hw hs q k (by simpa using h1)
      rw [if_neg (by rw [h2]; simp)]
      rw [Bool.or_eq_true] at *
      refine h.imp (fun h => ?_) id
      unfold RwD.srcAny RwD.srcD RwD.srcFrom at *
      rw [List.any_eq_true] at *
      obtain ⟨s, hs1, hs2⟩ := h
      obtain ⟨ha, hb⟩ := List.mem_filter.1 hs1
      refine ⟨s, List.mem_filter.2 ⟨ha, ?_⟩, hs2⟩
      unfold RwD.srcOk at *
      rw [Bool.and_eq_true] at *
      exact ⟨hb.1, dugAt_st hw hs s k hb.2⟩
theorem dugAt_poss {r : RwD} {p : Nat} {w : Int} (hw : 1 ≤ w) (hs : stB (r.dg p) w = true) (ws : List (Int × Int)) (t : List Int) (h : (r.dugAt p w).possB ws t = true) : r.possB ws t = true := by
  have hl : (r.dugAt p w).dug.length = r.dug.length := List.length_set
  refine all_range.2 fun q hq => ?_
  have hp := all_range.1 h q (by rw [hl]; exact hq)
  unfold RwD.possAt at *
  rw [Bool.and_eq_true, Bool.or_eq_true] at *
  exact ⟨hp.1, hp.2.imp id (dugAt_fall hw hs t q _)⟩
/-- Does a list of onsets say no more than another? -/
def lessL : List Int → List Int → Bool
  | [], _ => true
  | _, [] => true
  | a :: l, b :: m => (decide (b < 0) || (decide (0 ≤ a) && decide (a ≤ b))) && lessL l m
theorem dugAt_less {r : RwD} {p : Nat} {w : Int} (hw : 1 ≤ w) (hs : stB (r.dg p) w = true) (hr : r.fault = 0) (hx : (r.dugAt p w).fault = 0) (hc : (r.dugAt p w).can = true) :
    r.can = true ∧ ∀ q, q < r.dug.length → r.earliest.getD q 0 ≤ (r.dugAt p w).earliest.getD q 0 :=
  less_of (fault_ok hr).1 (fault_ok hx).1 rfl List.length_set (fun t _ h => dugAt_poss hw hs _ t h) hc
/-- By the onsets that First returns. -/
theorem firstD_at (r : RwD) (q : Nat) (hq : q < r.dug.length) (h10 : r.dug.length ≤ 10) : r.firstD.getD q 0 = out31 (r.earliest.getD q 0) := by
  unfold RwD.firstD
  have hl : r.earliest.length = 10 := earliest_ok.len
  simp only [List.getD, List.getElem?_map, List.getElem?_take, if_pos hq]
  rw [List.getElem?_eq_getElem (by omega)]
  rfl
theorem out31_le {a b : Int} (ha : a = 31 ∨ (0 ≤ a ∧ a ≤ 30)) (hb : b = 31 ∨ (0 ≤ b ∧ b ≤ 30)) (h : a ≤ b) : out31 b < 0 ∨ (0 ≤ out31 a ∧ out31 a ≤ out31 b) := by
  unfold out31
  split <;> split <;> omega
end Go.Proofs.Ytkjhofbjjogmlaa

/- The law's and the reference's small functions: In, Stands, Thin, list, ints, known. -/
namespace Go.Proofs.Ytkjhofbjjogmlaa
open Go.RowKit Go.Lib

theorem refIn_any (n lo hi : Int) (w : World) : Calls Try.prog 33 #[.int .i64 n, .int .i64 lo, .int .i64 hi] w fun e w' => e = .returned (.bool (inB n lo hi)) ∧ w = w' := by
  go_enter Try.func33, Try.ntmps33
  go_wp2
  all_goals (go_ret; exact ⟨ret_bool (by first | (simp_all [inB]; done) | (simp_all [inB]; omega)), rfl⟩)
theorem refStands_any (r : RwM) (p : Nat) (d week : Int) (w : World) (hs : Sl w w.heap.size 1 encI r.dug.A r.dug.l) (hd : r.dug.l[p]? = some d) (_hl : r.dug.l.length ≤ 1000000) :
    Calls Try.prog 42 #[.agg r.cells.toArray, .int .i64 p, .int .i64 week] w fun e w' => e = .returned (.bool (stB d week)) ∧ Below w.heap.size w w' := by
  obtain ⟨b, off, hA, hb, hc⟩ := hs.cell1 hd
  have hlt := (List.getElem?_eq_some_iff.1 hd).1
  have hltz : (p : Int) < (r.dug.l.length : Int) := by omega
  have hp0 : (0 : Int) ≤ (p : Int) := by omega
  have hc' : (w.alloc (.cells r.cells.toArray 26)).cell? ⟨b, off + p, none⟩ = some (.int .i64 d) := by rw [World.cell?_alloc_lt w _ ⟨b, off + p, none⟩ hb]; exact hc
  have hne : b ≠ w.heap.size := by omega
  unfold RwM.cells at hc' ⊢
  rw [hA] at hc' ⊢
  clear hA hs hd hc hlt
  unfold stB
  by_cases h0 : d = 0
  · subst h0
    go_enter Try.func42, Try.ntmps42
    go_wp2
    all_goals (go_ret; exact ⟨ret_bool (by simp), (by repeat (first | (with_reducible assumption) | (with_reducible exact Below.refl _ _) | (with_reducible refine Below.drew ?_) | (with_reducible refine below_drewN ?_ _) | ((with_reducible refine Below.setCell ?_ ?_ _); rotate_left; focus (first | (simp; done) | (simp; omega) | omega)) | ((with_reducible refine Below.alloc ?_ ?_ _); rotate_left; focus (first | (simp; done) | (simp; omega) | omega))))⟩)
  · have h1 : ((d : Int) == 0) = false := by simpa using h0
    go_enter Try.func42, Try.ntmps42
    go_wp2
    all_goals (go_ret; exact ⟨ret_bool (by simp [h0]), (by repeat (first | (with_reducible assumption) | (with_reducible exact Below.refl _ _) | (with_reducible refine Below.drew ?_) | (with_reducible refine below_drewN ?_ _) | ((with_reducible refine Below.setCell ?_ ?_ _); rotate_left; focus (first | (simp; done) | (simp; omega) | omega)) | ((with_reducible refine Below.alloc ?_ ?_ _); rotate_left; focus (first | (simp; done) | (simp; omega) | omega))))⟩)
/-- Has a row few weeks, notes and numbers of weeks? -/
def RwD.thin (r : RwD) : Bool := decide (r.ws.length ≤ 35) && decide (r.ns.length ≤ 45) && decide (r.dug.length ≤ 15)
theorem Thin_any (r : RwM) (w : World) (hw : r.ws.l.length ≤ maxLen) (hn : r.ns.l.length ≤ maxLen) (_hd : r.dug.l.length ≤ maxLen) :
    Calls Try.prog 44 #[.agg r.cells.toArray] w fun e w' => e = .returned (.bool r.d.thin) ∧ Below w.heap.size w w' := by
  have hres : r.d.thin = (decide ((r.ws.l.length : Int) ≤ 35) && decide ((r.ns.l.length : Int) ≤ 45) && decide ((r.dug.l.length : Int) ≤ 15)) := by
    show (decide (r.ws.l.length ≤ 35) && decide (r.ns.l.length ≤ 45) && decide (r.dug.l.length ≤ 15)) = _
    congr 1; congr 1
    all_goals (apply decide_eq_decide.2; omega)
  rw [hres]
  clear hres
  unfold maxLen at hw hn _hd
  unfold RwM.cells
  by_cases h1 : (r.ws.l.length : Int) ≤ 35
  · by_cases h2 : (r.ns.l.length : Int) ≤ 45
    · go_enter Try.func44, Try.ntmps44
      go_wp2
      all_goals (go_ret; exact ⟨ret_bool (by first | (simp [h1, h2]; done) | (simp [h1, h2]; omega)), (by repeat (first | (with_reducible assumption) | (with_reducible exact Below.refl _ _) | (with_reducible refine Below.drew ?_) | (with_reducible refine below_drewN ?_ _) | ((with_reducible refine Below.setCell ?_ ?_ _); rotate_left; focus (first | (simp; done) | (simp; omega) | omega)) | ((with_reducible refine Below.alloc ?_ ?_ _); rotate_left; focus (first | (simp; done) | (simp; omega) | omega))))⟩)
    · go_enter Try.func44, Try.ntmps44
      go_wp2
      all_goals (go_ret; exact ⟨ret_bool (by first | (simp; done) | (simp; omega)), (by repeat (first | (with_reducible assumption) | (with_reducible exact Below.refl _ _) | (with_reducible refine Below.drew ?_) | (with_reducible refine below_drewN ?_ _) | ((with_reducible refine Below.setCell ?_ ?_ _); rotate_left; focus (first | (simp; done) | (simp; omega) | omega)) | ((with_reducible refine Below.alloc ?_ ?_ _); rotate_left; focus (first | (simp; done) | (simp; omega) | omega))))⟩)
  · go_enter Try.func44, Try.ntmps44
    go_wp2
    all_goals (go_ret; exact ⟨ret_bool (by first | (simp; done) | (simp; omega)), (by repeat (first | (with_reducible assumption) | (with_reducible exact Below.refl _ _) | (with_reducible refine Below.drew ?_) | (with_reducible refine below_drewN ?_ _) | ((with_reducible refine Below.setCell ?_ ?_ _); rotate_left; focus (first | (simp; done) | (simp; omega) | omega)) | ((with_reducible refine Below.alloc ?_ ?_ _); rotate_left; focus (first | (simp; done) | (simp; omega) | omega))))⟩)
set_option maxHeartbeats 1000000 in
theorem lawList_own (A : Option Addr) (c : Nat) (l : List Int) (w : World) (hA : Sl w w.heap.size 1 encI A l) (hl : l.length ≤ 1000) (hn : A = none → l.length = 0 ∧ c = 0) :
    Calls Try.prog 21 #[.slice A l.length c] w fun e w' => ∃ A' c', e = .returned (.slice A' l.length c') ∧ w'.ownsRow w.heap.size 3 1 (.slice A' l.length c') l.length (l.flatMap encI) ∧ Below w.heap.size w w' := by
  have HN := Lib.hid hn
  have HA := Lib.hid hA
  clear hA hn
  go_enter Try.func21, Try.ntmps21
  go_wp2_with (refine wpList_app_ints (o := ⟨some 4, _, _, _, _, _⟩) ?_ (.const (.slice none 0 0)) (.tmp 3) ?_ w.heap.size (.slice none 0 0) [] ?_ (by simpa using World.ownsRow_nil _ _ _ _) A c l ?_ HN.out HA.out (by simp; omega) (Nat.le_refl _) ?_; rfl; rfl; rfl; rfl; intro v' w1 hown1 hb1 hg1)
  rw [List.nil_append] at hown1
  obtain ⟨A', c', e1, e2, e3⟩ := Sl.of_own (enc := encI) (l := l) (fun _ => rfl) hown1 rfl
  subst e1
  go_ret
  exact ⟨A', c', rfl, hown1, hb1⟩
set_option maxRecDepth 100000 in
set_option maxHeartbeats 1000000 in
theorem ints_yes (A1 A2 : Option Addr) (c1 c2 : Nat) (l : List Int) (w : World) (h1 : Sl w w.heap.size 1 encI A1 l) (h2 : Sl w w.heap.size 1 encI A2 l) (hl : l.length ≤ 1000000) :
    Calls Try.prog 25 #[.slice A1 l.length c1, .slice A2 l.length c2] w fun e w' => e = .returned (.bool true) ∧ Below w.heap.size w w' := by
  have H1 := Lib.hid h1
  have H2 := Lib.hid h2
  have hlz : (l.length : Int) ≤ 1000000 := by omega
  clear h1 h2
  go_enter Try.func25, Try.ntmps25
  go_wp2
  go_loopw [5] (fun i wr => ∃ k : Nat, k ≤ l.length ∧ i = .int .i64 k ∧ Aside (Below w.heap.size w wr)) (fun i _ => l.length - (intOf i).toNat)
  case atStart => exact ⟨0, by omega, rfl, Below.refl _ _⟩
  case round =>
    obtain ⟨k, hk, rfl, hb⟩ := hrel
    by_cases hlt : k < l.length
    · have hltz : (k : Int) < (l.length : Int) := by omega
      have hk0 : (0 : Int) ≤ (k : Int) := by omega
      obtain ⟨x, hx⟩ : ∃ x, l[k]? = some x := ⟨l[k], by simp [hlt]⟩
      obtain ⟨b1, o1, rfl, hb1, p1⟩ := H1.out.cell1 hx
      obtain ⟨b2, o2, rfl, hb2, p2⟩ := H2.out.cell1 hx
      have r1 := cell_regrown ((hb.out.cell (p := ⟨b1, o1 + k, none⟩) hb1).trans p1)
      have r2 := cell_regrown ((hb.out.cell (p := ⟨b2, o2 + k, none⟩) hb2).trans p2)
      have HB := Lib.hid hb.out
      clear p1 p2 hx hb
      go_wp2
      refine wp_region_quiet_below (by kernel_rfl) (by kernel_rfl) ?_; (repeat (first | go_big_quiet_step ((fail)) | quiet_step ((fail)))); refine wpQuiet_nil ?_; intro wq hwq; have hbq : Below _ _ wq := (by obtain ⟨p, rfl⟩ := hwq; exact below_regrown _ _ _); clear hwq
      clear r1 r2
      go_wp2
      go_roundw
      case rel => exact ⟨k + 1, by omega, by go_num, HB.out.trans (hbq.mono HB.out.size)⟩
      case measure => simp [intOf]; omega
    · obtain rfl : k = l.length := by omega
      go_wp2
      go_ret
      exact ⟨rfl, hb.out⟩
theorem Sl.cell8 {w : World} {B : Nat} {A : Option Addr} {l : List Int} (h : Sl w B 1 enc8 A l) {i : Nat} {x : Int} (hx : l[i]? = some x) : ∃ b off, A = some ⟨b, off, none⟩ ∧ b < B ∧ w.cell? ⟨b, off + i, none⟩ = some (.int .u8 x) := by
  obtain ⟨b, off, e, hb, hc⟩ := h.at_ hx
  exact ⟨b, off, e, hb, by have := hc 0 _ rfl; simpa using this⟩
set_option maxRecDepth 100000 in
set_option maxHeartbeats 1000000 in
theorem known_yes (A1 A2 : Option Addr) (c1 c2 : Nat) (l : List Int) (w : World) (h1 : Sl w w.heap.size 1 enc8 A1 l) (h2 : Sl w w.heap.size 1 enc8 A2 l) (hl : l.length ≤ 1000000) :
    Calls Try.prog 45 #[.slice A1 l.length c1, .slice A2 l.length c2] w fun e w' => e = .returned (.bool true) ∧ Below w.heap.size w w' := by
  have H1 := Lib.hid h1
  have H2 := Lib.hid h2
  have hlz : (l.length : Int) ≤ 1000000 := by omega
  clear h1 h2
  go_enter Try.func45, Try.ntmps45
  go_wp2
  go_loopw [5] (fun i wr => ∃ k : Nat, k ≤ l.length ∧ i = .int .i64 k ∧ Aside (Below w.heap.size w wr)) (fun i _ => l.length - (intOf i).toNat)
  case atStart => exact ⟨0, by omega, rfl, Below.refl _ _⟩
  case round =>
    obtain ⟨k, hk, rfl, hb⟩ := hrel
    by_cases hlt : k < l.length
    · have hltz : (k : Int) < (l.length : Int) := by omega
      have hk0 : (0 : Int) ≤ (k : Int) := by omega
      obtain ⟨x, hx⟩ : ∃ x, l[k]? = some x := ⟨l[k], by simp [hlt]⟩
      obtain ⟨b1, o1, rfl, hb1, p1⟩ := H1.out.cell8 hx
      obtain ⟨b2, o2, rfl, hb2, p2⟩ := H2.out.cell8 hx
      have r1 := cell_regrown ((hb.out.cell (p := ⟨b1, o1 + k, none⟩) hb1).trans p1)
      have r2 := cell_regrown ((hb.out.cell (p := ⟨b2, o2 + k, none⟩) hb2).trans p2)
      have HB := Lib.hid hb.out
      clear p1 p2 hx hb
      go_wp2
      refine wp_region_quiet_below (by kernel_rfl) (by kernel_rfl) ?_; (repeat (first | go_big_quiet_step ((fail)) | quiet_step ((fail)))); refine wpQuiet_nil ?_; intro wq hwq; have hbq : Below _ _ wq := (by obtain ⟨p, rfl⟩ := hwq; exact below_regrown _ _ _); clear hwq
      clear r1 r2
      go_wp2
      go_roundw
      case rel => exact ⟨k + 1, by omega, by go_num, HB.out.trans (hbq.mono HB.out.size)⟩
      case measure => simp [intOf]; omega
    · obtain rfl : k = l.length := by omega
      go_wp2
      go_ret
      exact ⟨rfl, hb.out⟩
theorem lawList_any (A : Option Addr) (c : Nat) (l : List Int) (w : World) (hA : Sl w w.heap.size 1 encI A l) (hl : l.length ≤ 1000) (hn : A = none → l.length = 0 ∧ c = 0) : Calls Try.prog 21 #[.slice A l.length c] w (RetIs l w) := by
  refine (lawList_own A c l w hA hl hn).mono ?_
  rintro e w' ⟨A', c', rfl, ho, hb⟩
  obtain ⟨A2, c2, e1, e2, e3⟩ := Sl.of_own (enc := encI) (l := l) (fun _ => rfl) ho rfl
  cases e1
  exact ⟨A', c', rfl, e2, e3, hb⟩
end Go.Proofs.Ytkjhofbjjogmlaa

/- The law's Row: a row for the program, in new memory. -/
namespace Go.Proofs.Ytkjhofbjjogmlaa
open Go.RowKit Go.Lib

def zrow : List Value := [.int .i64 0, .slice none 0 0, .int .i64 0, .int .i64 0, .int .i64 0, .bool false, .slice none 0 0, .slice none 0 0]
/-- The row on its way: these slices. -/
def RwM.part (r : RwM) (v1 vd v2 : Value) : List Value := [.int .i64 r.n, v1, .int .i64 r.lag, .int .i64 r.sh, .int .i64 r.old, .bool r.cl, vd, v2]
theorem part_one (r : RwM) (v1 vd v2 : Value) (h1 : v1.oneCell' = true) (h2 : vd.oneCell' = true) (h3 : v2.oneCell' = true) : ∀ v ∈ r.part v1 vd v2, v.oneCell' = true := by
  intro v hv
  simp only [RwM.part, List.mem_cons, List.not_mem_nil, or_false] at hv
  rcases hv with rfl | rfl | rfl | rfl | rfl | rfl | rfl | rfl
  all_goals first | rfl | assumption
theorem built_row (a b c d : Int) (f : Bool) (A : Option Addr) (n m : Nat) : Try.prog.built 34 [(0, .int .i64 a), (2, .int .i64 b), (3, .int .i64 c), (4, .int .i64 d), (5, .bool f), (6, .slice A n m)] =
    some #[.int .i64 a, .slice none 0 0, .int .i64 b, .int .i64 c, .int .i64 d, .bool f, .slice A n m, .slice none 0 0] := by kernel_rfl
/-- The memory of Row ahead of its loops. -/
structure RowI (r : RwM) (w : World) (g : Nat) (A2 : Option Addr) (c2 : Nat) (W : World) : Prop where
  o : Lies W g 34 (r.part (.slice none 0 0) (.slice A2 r.dug.l.length c2) (.slice none 0 0)).toArray
  n : A2 = none → r.dug.l.length = 0 ∧ c2 = 0
  d : W.ownsRow (w.heap.size + 2) 3 1 (.slice A2 r.dug.l.length c2) r.dug.l.length (r.dug.l.flatMap encI)
  b : Below w.heap.size w W
  r : Lies W w.heap.size 26 r.cells.toArray
  z : Lies W (w.heap.size + 1) 34 zrow.toArray
  g0 : w.heap.size + 2 ≤ g
  a : ∀ a, A2 = some a → a.block ≠ g ∧ w.heap.size + 2 ≤ a.block
theorem Only.slLt {α : Type} {enc : α → List Value} {k : Nat} {A : Option Addr} {l : List α} {g : Nat} {W W' : World} (h : Only g W W') (hs : Sl W g k enc A l) : Sl W' g k enc A l :=
  hs.below (h.below (Below.refl g W) (Nat.le_refl g))
theorem Only.slNe {α : Type} {enc : α → List Value} {k B : Nat} {A : Option Addr} {l : List α} {g : Nat} {W W' : World} (h : Only g W W') (hs : Sl W B k enc A l) (ha : ∀ a, A = some a → a.block ≠ g) : Sl W' B k enc A l := fun hne => by
  obtain ⟨b, off, e, hb, hc⟩ := hs hne
  refine ⟨b, off, e, hb, fun i x hx j u hu => ?_⟩
  rw [← hc i x hx j u hu]
  have := h.block b (ha _ e)
  simp only [World.cell?, this]
theorem Sl.lower {α : Type} {enc : α → List Value} {k B B' : Nat} {A : Option Addr} {l : List α} {W : World} (hs : Sl W B k enc A l) (ha : ∀ a, A = some a → a.block < B') : Sl W B' k enc A l := fun hne => by
  obtain ⟨b, off, e, hb, hc⟩ := hs hne
  exact ⟨b, off, e, ha _ e, hc⟩
/-- What Row hands back: the same row, in new memory; its notes are its own. -/
structure LawR (r : RwM) (w : World) (q : RwM) (W : World) : Prop where
  d : q.d = r.d
  at_ : q.At W W.heap.size
  b : Below w.heap.size w W
  nn : (q.dug.A = none → q.dug.l.length = 0 ∧ q.dug.c = 0)
  dg : W.ownsRow w.heap.size 3 1 (.slice q.dug.A q.dug.l.length q.dug.c) q.dug.l.length (q.dug.l.flatMap encI)
  fw : ∀ a, q.ws.A = some a → w.heap.size ≤ a.block ∧ a.block < W.heap.size
  nw : q.ws.l.length ≤ 35 ∧ q.ns.l.length ≤ 45 ∧ q.dug.l.length ≤ 15
  ap : ∀ a b, q.ws.A = some a → q.dug.A = some b → b.block < a.block
  own : ∃ B2, w.heap.size ≤ B2 ∧ B2 ≤ W.heap.size ∧ Sl W B2 2 encW q.ws.A q.ws.l ∧ Sl W B2 1 encI q.dug.A q.dug.l ∧ W.ownsRow B2 61 4 (.slice q.ns.A q.ns.l.length q.ns.c) q.ns.l.length (q.ns.l.flatMap encN) ∧ ∀ a, q.dug.A = some a → a.block < B2
def RetRow (r : RwM) (w : World) (e : Ending) (W : World) : Prop := ∃ q : RwM, e = .returned (.agg q.cells.toArray) ∧ LawR r w q W
theorem info_week : (Try.prog.info? 79).map (fun i => (i.zero, i.size, i.bytes)) = some (some (.agg #[.int .i64 0, .bool false]), 2, 16) := by kernel_rfl
theorem info_note : (Try.prog.info? 61).map (fun i => (i.zero, i.size, i.bytes)) = some (some (.agg #[.int .i64 0, .int .i64 0, .int .u8 0, .bool false]), 4, 24) := by kernel_rfl
theorem encW_one (x : Wk) : ∀ u ∈ encW x, u.oneCell' = true := by intro u hu; simp [encW] at hu; rcases hu with rfl | rfl <;> rfl
theorem encN_one (x : Nt) : ∀ u ∈ encN x, u.oneCell' = true := by intro u hu; simp [encN] at hu; rcases hu with rfl | rfl | rfl | rfl <;> rfl
theorem wpList_app_weeks {ops : Array Oper} {rest : List Oper} {o : Oper} {a : Act} {w : World} {Q : Exit → Act → World → Prop} (hgd : o.guard = none) (s x : Operand) (ho : o.op = .call { callee := .builtin .append, args := #[s, x], argTypes := #[31, 31] })
    (base : Nat) (v : Value) (xs : List Wk) (hs : a.eval s = v) (hown : w.ownsRow base 79 2 v xs.length (xs.flatMap encW)) (A : Option Addr) (c : Nat) (ys : List Wk) (hx : a.eval x = .slice A ys.length c) (hA : A = none → ys.length = 0 ∧ c = 0) (hy : Sl w w.heap.size 2 encW A ys) (hl : xs.length + ys.length ≤ 1000) (hb : base ≤ w.heap.size)
    (h : ∀ v' w', w'.ownsRow base 79 2 v' (xs ++ ys).length ((xs ++ ys).flatMap encW) → Below base w w' → w.grownBy w' v.ownBlock → wpList Try.prog ops Q rest (a.put o.dst v') w') : wpList Try.prog ops Q (o :: rest) a w := by
  obtain ⟨i0, hi, hp⟩ := Option.map_eq_some_iff.1 info_week
  have hz0 := congrArg (·.1) hp
  have hz1 := congrArg (·.2.1) hp
  have hz2 := congrArg (·.2.2) hp
  dsimp only at hz0 hz1 hz2
  have hln : (ys.flatMap encW).length = ys.length * 2 := flat_len (enc := encW) (fun _ => rfl) _
  have h1c : ∀ u ∈ ys.flatMap encW, u.oneCell' = true := fun u hu => by
    obtain ⟨z, _, hz⟩ := List.mem_flatMap.1 hu
    exact encW_one z u hz
  refine wpList_append_sl hgd s x 31 ho base 79 i0 _ 2 16 Try.underlying31 hi hz0 hz1 hz2 rfl (by decide) v xs.length _ hs hown A ys.length c (ys.flatMap encW) hx hln hA (hy.news (enc := encW) (fun _ => rfl)) h1c (by unfold maxLen; omega) (by omega) hb ?_
  intro v' w' hown' hg _
  refine h v' w' (by rw [List.length_append, List.flatMap_append]; exact hown') ((Below.refl base w).grown hg hb (fun k e => (hown.lt k e).1)) hg
theorem wpList_app_notes {ops : Array Oper} {rest : List Oper} {o : Oper} {a : Act} {w : World} {Q : Exit → Act → World → Prop} (hgd : o.guard = none) (s x : Operand) (ho : o.op = .call { callee := .builtin .append, args := #[s, x], argTypes := #[32, 32] })
    (base : Nat) (v : Value) (xs : List Nt) (hs : a.eval s = v) (hown : w.ownsRow base 61 4 v xs.length (xs.flatMap encN)) (A : Option Addr) (c : Nat) (ys : List Nt) (hx : a.eval x = .slice A ys.length c) (hA : A = none → ys.length = 0 ∧ c = 0) (hy : Sl w w.heap.size 4 encN A ys) (hl : xs.length + ys.length ≤ 1000) (hb : base ≤ w.heap.size)
    (h : ∀ v' w', w'.ownsRow base 61 4 v' (xs ++ ys).length ((xs ++ ys).flatMap encN) → Below base w w' → w.grownBy w' v.ownBlock → wpList Try.prog ops Q rest (a.put o.dst v') w') : wpList Try.prog ops Q (o :: rest) a w := by
  obtain ⟨i0, hi, hp⟩ := Option.map_eq_some_iff.1 info_note
  have hz0 := congrArg (·.1) hp
  have hz1 := congrArg (·.2.1) hp
  have hz2 := congrArg (·.2.2) hp
  dsimp only at hz0 hz1 hz2
  have hln : (ys.flatMap encN).length = ys.length * 4 := flat_len (enc := encN) (fun _ => rfl) _
  have h1c : ∀ u ∈ ys.flatMap encN, u.oneCell' = true := fun u hu => by
    obtain ⟨z, _, hz⟩ := List.mem_flatMap.1 hu
    exact encN_one z u hz
  refine wpList_append_sl hgd s x 32 ho base 61 i0 _ 4 24 Try.underlying32 hi hz0 hz1 hz2 rfl (by decide) v xs.length _ hs hown A ys.length c (ys.flatMap encN) hx hln hA (hy.news (enc := encN) (fun _ => rfl)) h1c (by unfold maxLen; omega) (by omega) hb ?_
  intro v' w' hown' hg _
  refine h v' w' (by rw [List.length_append, List.flatMap_append]; exact hown') ((Below.refl base w).grown hg hb (fun k e => (hown.lt k e).1)) hg
theorem lies_one {α : Type} {enc : α → List Value} {k : Nat} {V : World} {b : Nat} {t : TypeId} {x : α} (_hk : (enc x).length = k) (h : Lies V b t (enc x).toArray) : Sl V V.heap.size k enc (some ⟨b, 0, none⟩) [x] := fun _ =>
  ⟨b, 0, rfl, h.in_, fun i y hy j u hu => by
    cases i with
    | zero =>
      simp at hy; subst hy
      have := h.at_ j
      simp only [List.getElem?_toArray, Nat.zero_mul, Nat.zero_add, Nat.add_zero] at this ⊢
      rw [this]; exact hu
    | succ i => simp at hy⟩
theorem own_blk {A : Option Addr} {n c k : Nat} (h : (Value.slice A n c).ownBlock = some k) : ∃ a, A = some a ∧ a.block = k := by
  cases A with
  | none => cases h
  | some a => exact ⟨a, rfl, by simpa [Value.ownBlock] using h⟩
/-- The memory of Row in its loops. -/
structure RowJ (r : RwM) (w : World) (g : Nat) (A2 : Option Addr) (c2 B : Nat) (v1 v2 : Value) (W : World) : Prop where
  o : Lies W g 34 (r.part v1 (.slice A2 r.dug.l.length c2) v2).toArray
  d : W.ownsRow (w.heap.size + 2) 3 1 (.slice A2 r.dug.l.length c2) r.dug.l.length (r.dug.l.flatMap encI)
  b : Below w.heap.size w W
  r : Lies W w.heap.size 26 r.cells.toArray
  z : Lies W (w.heap.size + 1) 34 zrow.toArray
  s : B ≤ W.heap.size
/-- Where its blocks lie. -/
structure RowG (w : World) (g : Nat) (A2 : Option Addr) (B : Nat) : Prop where
  g0 : w.heap.size + 2 ≤ g
  g1 : g < B
  a : ∀ a, A2 = some a → a.block ≠ g ∧ w.heap.size + 2 ≤ a.block ∧ a.block < B
section
variable {r : RwM} {w : World} {g : Nat} {A2 : Option Addr} {c2 B : Nat} {v1 v2 v' : Value} {W W' : World}
theorem RowJ.below (h : RowJ r w g A2 c2 B v1 v2 W) (hg : RowG w g A2 B) (hb : Below B W W') : RowJ r w g A2 c2 B v1 v2 W' :=
  ⟨h.o.below hb hg.g1, ownsRow_below h.d hb (fun k hk => by obtain ⟨a, ha, rfl⟩ := own_blk hk; exact (hg.a a ha).2.2), h.b.trans (hb.mono (by have := hg.g0; have := hg.g1; omega)), h.r.below hb (by have := hg.g0; have := hg.g1; omega), h.z.below hb (by have := hg.g0; have := hg.g1; omega), Nat.le_trans h.s hb.size⟩
theorem Sl.setNe {α : Type} {enc : α → List Value} {k B : Nat} {A : Option Addr} {l : List α} {W : World} (h : Sl W B k enc A l) (ha : ∀ a, A = some a → a.block ≠ g) (i : Nat) (u : Value) : Sl (W.setCell ⟨g, i, none⟩ u) B k enc A l := fun hne => by
  obtain ⟨b, off, e, hb, hc⟩ := h hne
  refine ⟨b, off, e, hb, fun j x hx m y hy => ?_⟩
  rw [← hc j x hx m y hy]
  have hbg : b ≠ g := ha _ e
  exact World.cell?_setCell_far W _ _ u (by simpa using fun h => hbg h.symm)
theorem RowJ.put1 (h : RowJ r w g A2 c2 B v1 v2 W) (hg : RowG w g A2 B) (u : Value) : RowJ r w g A2 c2 B u v2 (W.setCell ⟨g, 1, none⟩ u) :=
  ⟨h.o.set 1 u, own_keep h.d (fun j hj => heap_setCell_other _ _ _ _ (by obtain ⟨a, ha, rfl⟩ := own_blk hj; exact (hg.a a ha).1)), h.b.setCell (by have := hg.g0; simp; omega) _, h.r.other (by have := hg.g0; simp; omega) _, h.z.other (by have := hg.g0; simp; omega) _, by simpa using h.s⟩
theorem RowJ.put7 (h : RowJ r w g A2 c2 B v1 v2 W) (hg : RowG w g A2 B) (u : Value) : RowJ r w g A2 c2 B v1 u (W.setCell ⟨g, 7, none⟩ u) :=
  ⟨h.o.set 7 u, own_keep h.d (fun j hj => heap_setCell_other _ _ _ _ (by obtain ⟨a, ha, rfl⟩ := own_blk hj; exact (hg.a a ha).1)), h.b.setCell (by have := hg.g0; simp; omega) _, h.r.other (by have := hg.g0; simp; omega) _, h.z.other (by have := hg.g0; simp; omega) _, by simpa using h.s⟩
end
set_option maxRecDepth 100000 in
set_option maxHeartbeats 8000000 in
theorem lawRow_any (r : RwM) (w : World) (hr : r.At w w.heap.size) (hw35 : r.ws.l.length ≤ 35) (hn45 : r.ns.l.length ≤ 45) (hd : r.dug.l.length ≤ 15) (hnd : r.dug.A = none → r.dug.l.length = 0 ∧ r.dug.c = 0) :
    Calls Try.prog 18 #[.agg r.cells.toArray] w (RetRow r w) := by
  have l0 : Lies ((w.alloc (.cells r.cells.toArray 26)).alloc (.cells zrow.toArray 34)) w.heap.size 26 r.cells.toArray := (Lies.fresh _ _ _).alloc _
  have l1 : Lies ((w.alloc (.cells r.cells.toArray 26)).alloc (.cells zrow.toArray 34)) (w.heap.size + 1) 34 zrow.toArray := Lies.fresh' (by simp)
  have b0 : Below w.heap.size w ((w.alloc (.cells r.cells.toArray 26)).alloc (.cells zrow.toArray 34)) := (by repeat (first | (with_reducible assumption) | (with_reducible exact Below.refl _ _) | (with_reducible refine Below.drew ?_) | (with_reducible refine below_drewN ?_ _) | ((with_reducible refine Below.setCell ?_ ?_ _); rotate_left; focus (first | (simp; done) | (simp; omega) | omega)) | ((with_reducible refine Below.alloc ?_ ?_ _); rotate_left; focus (first | (simp; done) | (simp; omega) | omega))))
  have hli := fun W (hb : Below w.heap.size w W) => lawList_own r.dug.A r.dug.c r.dug.l W ((hr.dug.below hb).more hb.size) (by omega) hnd
  have L0 := Lib.hid l0
  have L1 := Lib.hid l1
  have B0 := Lib.hid b0
  have HLI := Lib.hid hli
  have HRR := Lib.hid hr
  clear l0 l1 b0 hli hr hnd
  go_enter Try.func18, Try.ntmps18
  go_upto_region 1 with (fail)
  change Code.wp _ _ _ _ ((w.alloc (.cells r.cells.toArray 26)).alloc (.cells zrow.toArray 34))
  generalize (w.alloc (.cells r.cells.toArray 26)).alloc (.cells zrow.toArray 34) = w1 at *
  go_cut [3] from 7 to 20 (fun s3 wx => ∃ (g : Nat) (A2 : Option Addr) (c2 : Nat), s3 = .pointer (some ⟨g, 0, none⟩) ∧ RowI r w g A2 c2 wx)
  case first =>
    have c0 : ∀ c : Cls (fun W => Below w1.heap.size w1 W), c.val.cell? ⟨w.heap.size, 0, none⟩ = some (.int .i64 r.n) := fun c => (L0.out.call c.h).at_ 0
    have c2 : ∀ c : Cls (fun W => Below w1.heap.size w1 W), c.val.cell? ⟨w.heap.size, 2, none⟩ = some (.int .i64 r.lag) := fun c => (L0.out.call c.h).at_ 2
    have c3 : ∀ c : Cls (fun W => Below w1.heap.size w1 W), c.val.cell? ⟨w.heap.size, 3, none⟩ = some (.int .i64 r.sh) := fun c => (L0.out.call c.h).at_ 3
    have c4 : ∀ c : Cls (fun W => Below w1.heap.size w1 W), c.val.cell? ⟨w.heap.size, 4, none⟩ = some (.int .i64 r.old) := fun c => (L0.out.call c.h).at_ 4
    have c5 : ∀ c : Cls (fun W => Below w1.heap.size w1 W), c.val.cell? ⟨w.heap.size, 5, none⟩ = some (.bool r.cl) := fun c => (L0.out.call c.h).at_ 5
    have c6 : ∀ c : Cls (fun W => Below w1.heap.size w1 W), c.val.cell? ⟨w.heap.size, 6, none⟩ = some (.slice r.dug.A r.dug.l.length r.dug.c) := fun c => (L0.out.call c.h).at_ 6
    haveI hne : Nonempty (Cls (fun W => Below w1.heap.size w1 W)) := ⟨⟨w1, Below.refl _ _⟩⟩
    refine wp_region_ways3 15 [0, 1, 2, 3, 4, 5, 6, 7, 8, 9, 10, 11] (.way 12 (.way 13 (.way 14 .fin .fin) (.way 14 (.way 13 .fin .fin) .fin)) (.way 14 (.way 12 (.way 13 .fin .fin) .fin) .fin)) (fun W => ∃ cc : Cls (fun W => Below w1.heap.size w1 W), W = cc.val) (by kernel_rfl) (by kernel_rfl) (Cls.here (Below.refl _ _).drew) ?_
    simp only [List.filterMap_cons, List.filterMap_nil, List.take_succ_cons, List.take_zero, List.getElem?_toArray, List.getElem?_cons_zero, List.getElem?_cons_succ, List.drop_succ_cons, List.drop_zero]
    repeat (first | go_big_quiet_step (rfl) | quiet_step (rfl))
    refine wpQuiet_nil ?_
    clear c0 c2 c3 c4 c5 c6
    have D0 := Lib.hid (show Below w1.heap.size w1 w1.drew from (Below.refl _ _).drew)
    generalize w1.drew = d0 at *
    rw [wpWy_way]
    refine ⟨?_, ?_⟩
    · simp only [List.getElem?_toArray, List.getElem?_cons_succ, List.getElem?_cons_zero]
      go_wp2_with (go_at_call 21; refine (HLI.out _ (B0.out.trans (D0.out.mono B0.out.size))).mono ?_; rintro e d1 ⟨A2, c2, rfl, ho1, hb1⟩)
      obtain ⟨_, _, e1, hn1, -⟩ := Sl.of_own (enc := encI) (fun _ => rfl) ho1 rfl
      cases e1
      have NJ := Lib.hid (fun j (hj : (Value.slice A2 r.dug.l.length c2).ownBlock = some j) => (⟨(own_at ho1 hj).1, (own_at ho1 hj).2.1⟩ : _ ∧ _))
      have NA := Lib.hid (fun a (e : A2 = some a) => own_at ho1 (show (Value.slice A2 r.dug.l.length c2).ownBlock = some a.block by rw [e]; rfl))
      have DB := Lib.hid D0.out.size
      have D1 := Lib.hid (D0.out.trans (hb1.mono D0.out.size))
      have N12 := Lib.hid hn1
      have O12 := Lib.hid ho1
      clear hn1 ho1
      refine Ends.intro ⟨Cls.here D1.out, ?_⟩
      rw [wpWy_way]
      refine ⟨?_, ?_⟩
      · simp only [List.getElem?_toArray, List.getElem?_cons_succ, List.getElem?_cons_zero]
        go_wp2_with (refine wpList_build (o := ⟨some 20, _, _, _, _, _⟩) ?_ 34 #[(0, .tmp 8), (2, .tmp 10), (3, .tmp 12), (4, .tmp 14), (5, .tmp 16), (6, .tmp 19)] ?_ #[(0, .int .i64 r.n), (2, .int .i64 r.lag), (3, .int .i64 r.sh), (4, .int .i64 r.old), (5, .bool r.cl), (6, .slice A2 r.dug.l.length c2)] ?_ (r.part (.slice none 0 0) (.slice A2 r.dug.l.length c2) (.slice none 0 0)).toArray (built_row r.n r.lag r.sh r.old r.cl A2 r.dug.l.length c2) ?_; rfl; rfl; rfl)
        refine Ends.intro ⟨Cls.here D1.out, ?_⟩
        rw [wpWy_way]
        refine ⟨?_, by exact trivial⟩
        simp only [List.getElem?_toArray, List.getElem?_cons_succ, List.getElem?_cons_zero]
        go_wp2_with (fail)
        have E14 := Lib.hid (show Lies (d1.alloc (.cells #[.int .i64 0, .slice none 0 0, .int .i64 0, .int .i64 0, .int .i64 0, .bool false, .slice none 0 0, .slice none 0 0] 34)) d1.heap.size 34 #[.int .i64 0, .slice none 0 0, .int .i64 0, .int .i64 0, .int .i64 0, .bool false, .slice none 0 0, .slice none 0 0] from Lies.fresh' rfl)
        have D2 := Lib.hid (D1.out.alloc D1.out.size (.cells #[.int .i64 0, .slice none 0 0, .int .i64 0, .int .i64 0, .int .i64 0, .bool false, .slice none 0 0, .slice none 0 0] 34))
        have hbq := (Below.refl d1.heap.size d1).alloc (Nat.le_refl _) (.cells #[.int .i64 0, .slice none 0 0, .int .i64 0, .int .i64 0, .int .i64 0, .bool false, .slice none 0 0, .slice none 0 0] 34)
        have O12 := Lib.hid (ownsRow_call O12.out hbq)
        clear hbq
        generalize d1.alloc (.cells #[.int .i64 0, .slice none 0 0, .int .i64 0, .int .i64 0, .int .i64 0, .bool false, .slice none 0 0, .slice none 0 0] 34) = d2 at *
        generalize hgg14 : d1.heap.size = g14 at *
        have G14 := Lib.hid hgg14
        clear hgg14
        have GE14 := Lib.hid (show w1.heap.size ≤ g14 by have := D1.out.size; have := G14.out; omega)
        refine Ends.intro ⟨Cls.here D2.out, ?_⟩
        rw [wpWy_fin]
        have HP14 := Lib.hid (show w1.heap.size ≤ g14 from GE14.out)
        refine wpList_store_cells (o := ⟨none, .store 34 (.tmp 3) _, _, _, _, _⟩) ?_ 34 (.tmp 3) (.tmp 20) ?_ g14 0 ?_ 34 zrow (r.part (.slice none 0 0) (.slice A2 r.dug.l.length c2) (.slice none 0 0)) ?_ E14.out (by simp [zrow, RwM.part]) size_row (part_one r _ _ _ rfl rfl rfl) ?_
        rfl; rfl; rfl; rfl
        intro w9 HS9 HO9
        refine wpList_nil ?_
        have hs9 := HS9.out
        rw [splice_whole (by rfl)] at hs9
        have hsd := ownsRow_base (own_keep O12.out fun j hj => HO9.out.block j (by have := NJ.out j hj; have := GE14.out; omega)) (show w.heap.size + 2 ≤ _ by have := DB.out; have := L1.out.in_; omega)
        go_wp2
        go_meet
        case rel =>
          exact ⟨g14, A2, c2, rfl, RowI.mk hs9 N12.out hsd (HO9.out.below (B0.out.trans (D2.out.mono B0.out.size)) (by have := GE14.out; have := B0.out.size; omega)) (HO9.out.lies (L0.out.call D2.out) (by have := GE14.out; have := L0.out.in_; omega)) (HO9.out.lies (L1.out.call D2.out) (by have := GE14.out; have := L1.out.in_; omega)) (by have := GE14.out; have := L1.out.in_; omega) (fun a e => by have := NA.out a e; have := GE14.out; have := DB.out; have := L1.out.in_; omega)⟩
      · rw [wpWy_way]
        refine ⟨?_, by exact trivial⟩
        simp only [List.getElem?_toArray, List.getElem?_cons_succ, List.getElem?_cons_zero]
        go_wp2_with (fail)
        have E14 := Lib.hid (show Lies (d1.alloc (.cells #[.int .i64 0, .slice none 0 0, .int .i64 0, .int .i64 0, .int .i64 0, .bool false, .slice none 0 0, .slice none 0 0] 34)) d1.heap.size 34 #[.int .i64 0, .slice none 0 0, .int .i64 0, .int .i64 0, .int .i64 0, .bool false, .slice none 0 0, .slice none 0 0] from Lies.fresh' rfl)
        have D2 := Lib.hid (D1.out.alloc D1.out.size (.cells #[.int .i64 0, .slice none 0 0, .int .i64 0, .int .i64 0, .int .i64 0, .bool false, .slice none 0 0, .slice none 0 0] 34))
        have hbq := (Below.refl d1.heap.size d1).alloc (Nat.le_refl _) (.cells #[.int .i64 0, .slice none 0 0, .int .i64 0, .int .i64 0, .int .i64 0, .bool false, .slice none 0 0, .slice none 0 0] 34)
        have O12 := Lib.hid (ownsRow_call O12.out hbq)
        clear hbq
        generalize d1.alloc (.cells #[.int .i64 0, .slice none 0 0, .int .i64 0, .int .i64 0, .int .i64 0, .bool false, .slice none 0 0, .slice none 0 0] 34) = d2 at *
        generalize hgg14 : d1.heap.size = g14 at *
        have G14 := Lib.hid hgg14
        clear hgg14
        have GE14 := Lib.hid (show w1.heap.size ≤ g14 by have := D1.out.size; have := G14.out; omega)
        refine Ends.intro ⟨Cls.here D2.out, ?_⟩
        rw [wpWy_way]
        refine ⟨?_, by exact trivial⟩
        simp only [List.getElem?_toArray, List.getElem?_cons_succ, List.getElem?_cons_zero]
        go_wp2_with (refine wpList_build (o := ⟨some 20, _, _, _, _, _⟩) ?_ 34 #[(0, .tmp 8), (2, .tmp 10), (3, .tmp 12), (4, .tmp 14), (5, .tmp 16), (6, .tmp 19)] ?_ #[(0, .int .i64 r.n), (2, .int .i64 r.lag), (3, .int .i64 r.sh), (4, .int .i64 r.old), (5, .bool r.cl), (6, .slice A2 r.dug.l.length c2)] ?_ (r.part (.slice none 0 0) (.slice A2 r.dug.l.length c2) (.slice none 0 0)).toArray (built_row r.n r.lag r.sh r.old r.cl A2 r.dug.l.length c2) ?_; rfl; rfl; rfl)
        refine Ends.intro ⟨Cls.here D2.out, ?_⟩
        rw [wpWy_fin]
        have HP14 := Lib.hid (show w1.heap.size ≤ g14 from GE14.out)
        refine wpList_store_cells (o := ⟨none, .store 34 (.tmp 3) _, _, _, _, _⟩) ?_ 34 (.tmp 3) (.tmp 20) ?_ g14 0 ?_ 34 zrow (r.part (.slice none 0 0) (.slice A2 r.dug.l.length c2) (.slice none 0 0)) ?_ E14.out (by simp [zrow, RwM.part]) size_row (part_one r _ _ _ rfl rfl rfl) ?_
        rfl; rfl; rfl; rfl
        intro w9 HS9 HO9
        refine wpList_nil ?_
        have hs9 := HS9.out
        rw [splice_whole (by rfl)] at hs9
        have hsd := ownsRow_base (own_keep O12.out fun j hj => HO9.out.block j (by have := NJ.out j hj; have := GE14.out; omega)) (show w.heap.size + 2 ≤ _ by have := DB.out; have := L1.out.in_; omega)
        go_wp2
        go_meet
        case rel =>
          exact ⟨g14, A2, c2, rfl, RowI.mk hs9 N12.out hsd (HO9.out.below (B0.out.trans (D2.out.mono B0.out.size)) (by have := GE14.out; have := B0.out.size; omega)) (HO9.out.lies (L0.out.call D2.out) (by have := GE14.out; have := L0.out.in_; omega)) (HO9.out.lies (L1.out.call D2.out) (by have := GE14.out; have := L1.out.in_; omega)) (by have := GE14.out; have := L1.out.in_; omega) (fun a e => by have := NA.out a e; have := GE14.out; have := DB.out; have := L1.out.in_; omega)⟩
    · rw [wpWy_way]
      refine ⟨?_, by exact trivial⟩
      simp only [List.getElem?_toArray, List.getElem?_cons_succ, List.getElem?_cons_zero]
      go_wp2_with (fail)
      have E14 := Lib.hid (show Lies (d0.alloc (.cells #[.int .i64 0, .slice none 0 0, .int .i64 0, .int .i64 0, .int .i64 0, .bool false, .slice none 0 0, .slice none 0 0] 34)) d0.heap.size 34 #[.int .i64 0, .slice none 0 0, .int .i64 0, .int .i64 0, .int .i64 0, .bool false, .slice none 0 0, .slice none 0 0] from Lies.fresh' rfl)
      have D1 := Lib.hid (D0.out.alloc D0.out.size (.cells #[.int .i64 0, .slice none 0 0, .int .i64 0, .int .i64 0, .int .i64 0, .bool false, .slice none 0 0, .slice none 0 0] 34))
      generalize d0.alloc (.cells #[.int .i64 0, .slice none 0 0, .int .i64 0, .int .i64 0, .int .i64 0, .bool false, .slice none 0 0, .slice none 0 0] 34) = d1 at *
      generalize hgg14 : d0.heap.size = g14 at *
      have G14 := Lib.hid hgg14
      clear hgg14
      have GE14 := Lib.hid (show w1.heap.size ≤ g14 by have := D0.out.size; have := G14.out; omega)
      refine Ends.intro ⟨Cls.here D1.out, ?_⟩
      rw [wpWy_way]
      refine ⟨?_, by exact trivial⟩
      simp only [List.getElem?_toArray, List.getElem?_cons_succ, List.getElem?_cons_zero]
      go_wp2_with (go_at_call 21; refine (HLI.out _ (B0.out.trans (D1.out.mono B0.out.size))).mono ?_; rintro e d2 ⟨A2, c2, rfl, ho2, hb2⟩)
      obtain ⟨_, _, e1, hn2, -⟩ := Sl.of_own (enc := encI) (fun _ => rfl) ho2 rfl
      cases e1
      have NJ := Lib.hid (fun j (hj : (Value.slice A2 r.dug.l.length c2).ownBlock = some j) => (⟨(own_at ho2 hj).1, (own_at ho2 hj).2.1⟩ : _ ∧ _))
      have NA := Lib.hid (fun a (e : A2 = some a) => own_at ho2 (show (Value.slice A2 r.dug.l.length c2).ownBlock = some a.block by rw [e]; rfl))
      have DB := Lib.hid D1.out.size
      have GB := Lib.hid (show g14 < d1.heap.size from E14.out.in_)
      have E14 := Lib.hid (E14.out.call hb2)
      have D2 := Lib.hid (D1.out.trans (hb2.mono D1.out.size))
      have N12 := Lib.hid hn2
      have O12 := Lib.hid ho2
      clear hn2 ho2
      refine Ends.intro ⟨Cls.here D2.out, ?_⟩
      rw [wpWy_way]
      refine ⟨?_, by exact trivial⟩
      simp only [List.getElem?_toArray, List.getElem?_cons_succ, List.getElem?_cons_zero]
      go_wp2_with (refine wpList_build (o := ⟨some 20, _, _, _, _, _⟩) ?_ 34 #[(0, .tmp 8), (2, .tmp 10), (3, .tmp 12), (4, .tmp 14), (5, .tmp 16), (6, .tmp 19)] ?_ #[(0, .int .i64 r.n), (2, .int .i64 r.lag), (3, .int .i64 r.sh), (4, .int .i64 r.old), (5, .bool r.cl), (6, .slice A2 r.dug.l.length c2)] ?_ (r.part (.slice none 0 0) (.slice A2 r.dug.l.length c2) (.slice none 0 0)).toArray (built_row r.n r.lag r.sh r.old r.cl A2 r.dug.l.length c2) ?_; rfl; rfl; rfl)
      refine Ends.intro ⟨Cls.here D2.out, ?_⟩
      rw [wpWy_fin]
      have HP14 := Lib.hid (show w1.heap.size ≤ g14 from GE14.out)
      refine wpList_store_cells (o := ⟨none, .store 34 (.tmp 3) _, _, _, _, _⟩) ?_ 34 (.tmp 3) (.tmp 20) ?_ g14 0 ?_ 34 zrow (r.part (.slice none 0 0) (.slice A2 r.dug.l.length c2) (.slice none 0 0)) ?_ E14.out (by simp [zrow, RwM.part]) size_row (part_one r _ _ _ rfl rfl rfl) ?_
      rfl; rfl; rfl; rfl
      intro w9 HS9 HO9
      refine wpList_nil ?_
      have hs9 := HS9.out
      rw [splice_whole (by rfl)] at hs9
      have hsd := ownsRow_base (own_keep O12.out fun j hj => HO9.out.block j (by have := NJ.out j hj; have := GE14.out; have := GB.out; omega)) (show w.heap.size + 2 ≤ _ by have := DB.out; have := L1.out.in_; omega)
      go_wp2
      go_meet
      case rel =>
        exact ⟨g14, A2, c2, rfl, RowI.mk hs9 N12.out hsd (HO9.out.below (B0.out.trans (D2.out.mono B0.out.size)) (by have := GE14.out; have := B0.out.size; omega)) (HO9.out.lies (L0.out.call D2.out) (by have := GE14.out; have := L0.out.in_; omega)) (HO9.out.lies (L1.out.call D2.out) (by have := GE14.out; have := L1.out.in_; omega)) (by have := GE14.out; have := L1.out.in_; omega) (fun a e => by have := NA.out a e; have := GB.out; have := DB.out; have := L1.out.in_; omega)⟩
  case rest =>
    obtain ⟨g, A2, c2, rfl, hI⟩ := hcut
    have hgg : RowG w g A2 wc.heap.size := ⟨hI.g0, hI.o.in_, fun a e => ⟨(hI.a a e).1, (hI.a a e).2, (own_at hI.d (by rw [e]; rfl)).2.1⟩⟩
    have hJ0 : RowJ r w g A2 c2 wc.heap.size (.slice none 0 0) (.slice none 0 0) wc := ⟨hI.o, hI.d, hI.b, hI.r, hI.z, Nat.le_refl _⟩
    have HG := Lib.hid hgg
    have HJ0 := Lib.hid hJ0
    have HN2 := Lib.hid hI.n
    clear hgg hJ0 hI
    generalize wc.heap.size = B at *
    go_wp2
    go_loopw [4] (fun s4 wr => ∃ (k : Nat) (v1 : Value), k ≤ r.ws.l.length ∧ s4 = .int .i64 k ∧ Aside (RowJ r w g A2 c2 B v1 (.slice none 0 0) wr) ∧ Aside (wr.ownsRow B 79 2 v1 (r.ws.l.take k).length ((r.ws.l.take k).flatMap encW))) (fun i _ => r.ws.l.length - (intOf i).toNat)
    case atStart => exact ⟨0, _, by omega, rfl, HJ0.out, by show World.ownsRow _ _ _ _ _ _ _; simpa using World.ownsRow_nil _ _ _ _⟩
    case round =>
      obtain ⟨k, v1, hk, rfl, HJ, HO⟩ := hrel
      obtain ⟨A1, cp1, hv1, hA1, hS1⟩ := Sl.of_own (enc := encW) (fun _ => rfl) HO.out rfl
      subst hv1
      have c1 : wr.cell? ⟨w.heap.size, 1, none⟩ = some (.slice r.ws.A r.ws.l.length r.ws.c) := HJ.out.r.at_ 1
      have hwz : (r.ws.l.length : Int) ≤ 35 := by omega
      clear HJ0
      by_cases hlt : k < r.ws.l.length
      · have hltz : (k : Int) < (r.ws.l.length : Int) := by omega
        have hk0 : (0 : Int) ≤ (k : Int) := by omega
        obtain ⟨x, hx⟩ : ∃ x, r.ws.l[k]? = some x := ⟨r.ws.l[k], by simp [hlt]⟩
        obtain ⟨tb, off, hAT, htb, e0, e1⟩ := HRR.out.ws.cellW hx
        rw [hAT] at c1
        have htk := List.take_add_one (l := r.ws.l) (i := k)
        rw [hx] at htk
        have HTK := Lib.hid htk
        have HLN := Lib.hid (show (r.ws.l.take k).length + 1 ≤ 1000 by simp; omega)
        clear hx htk hA1 hS1
        generalize r.ws.l.take k = z at *
        go_upto_region 5 with (fail)
        have hb0 : Below B wr wr := Below.refl _ _
        have c2' : wr.cell? ⟨g, 1, none⟩ = some (.slice A1 z.length cp1) := HJ.out.o.at_ 1
        have hgB := HG.out.g1
        have hg0 := HG.out.g0
        have e0' : wr.cell? ⟨tb, off + k * 2, none⟩ = some (.int .i64 x.f) := (HJ.out.b.cell (p := ⟨tb, off + k * 2, none⟩) htb).trans e0
        have e1' : wr.cell? ⟨tb, off + k * 2 + 1, none⟩ = some (.bool x.o) := (HJ.out.b.cell (p := ⟨tb, off + k * 2 + 1, none⟩) htb).trans e1
        haveI hne : Nonempty (Cls (fun W => Below B wr W)) := ⟨⟨wr, hb0⟩⟩
        have f0 : ∀ c : Cls (fun W => Below B wr W), c.val.cell? ⟨g, 1, none⟩ = some (.slice A1 z.length cp1) := fun c => (c.h.cell (p := ⟨g, 1, none⟩) hgB).trans c2'
        have f1 : ∀ c : Cls (fun W => Below B wr W), c.val.cell? ⟨w.heap.size, 1, none⟩ = some (.slice (some ⟨tb, off, none⟩) r.ws.l.length r.ws.c) := fun c => (c.h.cell (p := ⟨w.heap.size, 1, none⟩) (show w.heap.size < B by omega)).trans c1
        have f2 : ∀ c : Cls (fun W => Below B wr W), c.val.cell? ⟨tb, off + k * 2, none⟩ = some (.int .i64 x.f) := fun c => (c.h.cell (p := ⟨tb, off + k * 2, none⟩) (show tb < B by omega)).trans e0'
        have f3 : ∀ c : Cls (fun W => Below B wr W), c.val.cell? ⟨tb, off + k * 2 + 1, none⟩ = some (.bool x.o) := fun c => (c.h.cell (p := ⟨tb, off + k * 2 + 1, none⟩) (show tb < B by omega)).trans e1'
        clear e0 e1 e0' e1' c1 c2'
        refine wp_region_ways3 17 [0, 1, 2, 3, 4, 5, 6, 7, 8, 9, 10, 11, 12, 13, 14] (.way 15 (.way 16 .fin .fin) .fin) (fun W => ∃ cc : Cls (fun W => Below B wr W), W = cc.val) (by kernel_rfl) (by kernel_rfl) (Cls.here ((Below.refl _ _).drew)) ?_
        simp only [List.filterMap_cons, List.filterMap_nil, List.take_succ_cons, List.take_zero, List.getElem?_toArray, List.getElem?_cons_zero, List.getElem?_cons_succ, List.drop_succ_cons, List.drop_zero]
        repeat (first | go_big_quiet_step (rfl) | quiet_step (rfl))
        refine wpQuiet_nil ?_
        clear f0 f1 f2 f3 hne hb0
        have D0 := Lib.hid (show Below wr.heap.size wr wr.drew from (Below.refl _ _).drew)
        generalize wr.drew = d0 at *
        rw [wpWy_way]
        refine ⟨?_, by exact trivial⟩
        simp only [List.getElem?_toArray, List.getElem?_cons_succ, List.getElem?_cons_zero]
        go_wp2_with (fail)
        have E1 := Lib.hid (show Lies (d0.alloc (.cells #[.int .i64 x.f, .bool x.o] 79)) d0.heap.size 79 (encW x).toArray from Lies.fresh' rfl)
        have D1 := Lib.hid (D0.out.alloc D0.out.size (.cells #[.int .i64 x.f, .bool x.o] 79))
        generalize d0.alloc (.cells #[.int .i64 x.f, .bool x.o] 79) = d1 at *
        generalize d0.heap.size = gx at *
        refine Ends.intro ⟨Cls.here (D1.out.mono HJ.out.s), ?_⟩
        rw [wpWy_way]
        refine ⟨?_, by exact trivial⟩
        simp only [List.getElem?_toArray, List.getElem?_cons_succ, List.getElem?_cons_zero]
        go_wp2_with (refine wpList_app_weeks (o := ⟨some 44, _, _, _, _, _⟩) ?_ (.tmp 29) (.tmp 43) ?_ B (.slice A1 z.length cp1) z ?_ (ownsRow_call HO.out D1.out) (some ⟨gx, 0, none⟩) 1 [x] ?_ (by simp) (lies_one rfl E1.out) HLN.out (Nat.le_trans HJ.out.s D1.out.size) ?_; rfl; rfl; rfl; rfl; intro v4 w4 hown4 hb4 hg4)
        have D4 := Lib.hid ((D1.out.mono HJ.out.s).trans hb4)
        refine Ends.intro ⟨Cls.here D4.out, ?_⟩
        rw [wpWy_fin]
        have J4 := Lib.hid (HJ.out.below HG.out D4.out)
        obtain ⟨A4, cp4, hv4, -, -⟩ := Sl.of_own (enc := encW) (fun _ => rfl) hown4 rfl
        subst hv4
        have c8 : w4.cell? ⟨g, 1, none⟩ = some (.slice A1 z.length cp1) := J4.out.o.at_ 1
        have f8 : w4.frozen? ⟨g, 1, none⟩ = false := J4.out.o.free 1
        have O4 := Lib.hid hown4
        clear hown4 hb4 hg4
        go_wp2
        go_roundw
        case rel =>
          refine ⟨k + 1, _, by omega, by go_num, J4.out.put1 HG.out _, ?_⟩
          show World.ownsRow _ _ _ _ _ _ _
          rw [HTK.out]
          have h5 := own_keep O4.out (fun j hj => (Only.set g 1 w4 (.slice A4 (z ++ [x]).length cp4)).block j (by have := (own_at O4.out hj).1; have := HG.out.g1; omega))
          simpa using h5
        case measure => simp [intOf]; omega
      · obtain rfl : k = r.ws.l.length := by omega
        rw [List.take_of_length_le (Nat.le_refl _)] at HO hA1 HJ
        obtain ⟨B2, hB2⟩ : ∃ B2, B2 = wr.heap.size := ⟨_, rfl⟩
        have hK : ∀ j, (Value.slice A1 r.ws.l.length cp1).ownBlock = some j → B ≤ j ∧ j < B2 := fun j hj => by rw [hB2]; exact ⟨(own_at HO.out hj).1, (own_at HO.out hj).2.1⟩
        have hBB : B ≤ B2 := by rw [hB2]; exact HJ.out.s
        have hSZ : B2 ≤ wr.heap.size := by omega
        have HK := Lib.hid hK
        have HNA := Lib.hid hA1
        have J1 := Lib.hid HJ.out
        have O1 := Lib.hid HO.out
        clear hB2 hK hA1 hS1 HJ HO
        go_wp2
        clear c1
        go_loopw [5, 6] (fun s5 _ wq => ∃ (k : Nat) (v2 : Value), k ≤ r.ns.l.length ∧ s5 = .int .i64 k ∧ B2 ≤ wq.heap.size ∧ Aside (RowJ r w g A2 c2 B (.slice A1 r.ws.l.length cp1) v2 wq) ∧ Aside (wq.ownsRow B 79 2 (.slice A1 r.ws.l.length cp1) r.ws.l.length (r.ws.l.flatMap encW)) ∧ Aside (wq.ownsRow B2 61 4 v2 (r.ns.l.take k).length ((r.ns.l.take k).flatMap encN))) (fun i _ _ => r.ns.l.length - (intOf i).toNat)
        case atStart => exact ⟨0, _, by omega, rfl, hSZ, J1.out, O1.out, by show World.ownsRow _ _ _ _ _ _ _; simpa using World.ownsRow_nil _ _ _ _⟩
        case round =>
          obtain ⟨k, v2, hk, rfl, hSQ, HJ, HW, HO⟩ := hrel
          clear J1 O1 hSZ
          obtain ⟨A3, cp3, hv3, hA3, hS3⟩ := Sl.of_own (enc := encN) (fun _ => rfl) HO.out rfl
          subst hv3
          have c1 : wr.cell? ⟨w.heap.size, 7, none⟩ = some (.slice r.ns.A r.ns.l.length r.ns.c) := HJ.out.r.at_ 7
          have hnz : (r.ns.l.length : Int) ≤ 45 := by omega
          by_cases hlt2 : k < r.ns.l.length
          · have hltz : (k : Int) < (r.ns.l.length : Int) := by omega
            have hk0 : (0 : Int) ≤ (k : Int) := by omega
            obtain ⟨x, hx⟩ : ∃ x, r.ns.l[k]? = some x := ⟨r.ns.l[k], by simp [hlt2]⟩
            obtain ⟨tb, off, hAT, htb, e0, e1, e2, e3⟩ := HRR.out.ns.cellN hx
            rw [hAT] at c1
            have hbw := HJ.out.b
            have l2 : wr.cell? ⟨tb, off + k * 4, none⟩ = some (.int .i64 x.p) := (hbw.cell (p := ⟨tb, off + k * 4, none⟩) htb).trans e0
            have l3 : wr.cell? ⟨tb, off + k * 4 + 1, none⟩ = some (.int .i64 x.w) := (hbw.cell (p := ⟨tb, off + k * 4 + 1, none⟩) htb).trans e1
            have l4 : wr.cell? ⟨tb, off + k * 4 + 2, none⟩ = some (.int .u8 x.k) := (hbw.cell (p := ⟨tb, off + k * 4 + 2, none⟩) htb).trans e2
            have l5 : wr.cell? ⟨tb, off + k * 4 + 3, none⟩ = some (.bool x.y) := (hbw.cell (p := ⟨tb, off + k * 4 + 3, none⟩) htb).trans e3
            have htk := List.take_add_one (l := r.ns.l) (i := k)
            rw [hx] at htk
            have HTK := Lib.hid htk
            have HLN := Lib.hid (show (r.ns.l.take k).length + 1 ≤ 1000 by simp; omega)
            clear hx htk hA3 hS3 e0 e1 e2 e3 hbw
            generalize r.ns.l.take k = z at *
            obtain ⟨xp, xw, xk, xy⟩ := x
            dsimp only at l2 l3 l4 l5
            go_upto_region 10 with (fail)
            clear l2 l3 l4 l5 c1
            have hbq := (Below.refl wr.heap.size wr).alloc (Nat.le_refl _) (.cells (encN ⟨xp, xw, xk, xy⟩).toArray 67)
            have E0 : Lies (wr.alloc (.cells (encN ⟨xp, xw, xk, xy⟩).toArray 67)) wr.heap.size 67 (encN ⟨xp, xw, xk, xy⟩).toArray := Lies.fresh' rfl
            have J0 := Lib.hid (HJ.out.below HG.out (hbq.mono HJ.out.s))
            have W0 := Lib.hid (ownsRow_call HW.out hbq)
            have O0 := Lib.hid (ownsRow_call HO.out hbq)
            have hSQ2 : B2 ≤ (wr.alloc (.cells (encN ⟨xp, xw, xk, xy⟩).toArray 67)).heap.size := Nat.le_trans hSQ hbq.size
            have hgn : B2 ≤ wr.heap.size := hSQ
            change Code.wp _ _ _ _ (wr.alloc (.cells (encN ⟨xp, xw, xk, xy⟩).toArray 67))
            clear HJ HW HO hSQ hbq
            generalize wr.alloc (.cells (encN ⟨xp, xw, xk, xy⟩).toArray 67) = w6 at *
            generalize wr.heap.size = gn at *
            have hgB := HG.out.g1
            have hg0 := HG.out.g0
            have f0 : w6.cell? ⟨g, 7, none⟩ = some (.slice A3 z.length cp3) := J0.out.o.at_ 7
            have f1 : w6.cell? ⟨gn, 0, none⟩ = some (.int .i64 xp) := E0.at_ 0
            have f2 : w6.cell? ⟨gn, 1, none⟩ = some (.int .i64 xw) := E0.at_ 1
            have f3 : w6.cell? ⟨gn, 2, none⟩ = some (.int .u8 xk) := E0.at_ 2
            have f4 : w6.cell? ⟨gn, 3, none⟩ = some (.bool xy) := E0.at_ 3
            have D1 := Lib.hid ((Below.refl w6.heap.size w6).alloc (Nat.le_refl _) (.cells #[.int .i64 xp, .int .i64 xw, .int .u8 xk, .bool xy] 61))
            clear E0
            go_wp2_with (refine wpList_app_notes (o := ⟨some 70, _, _, _, _, _⟩) ?_ (.tmp 59) (.tmp 69) ?_ B2 (.slice A3 z.length cp3) z ?_ (ownsRow_call O0.out D1.out) (some ⟨w6.heap.size, 0, none⟩) 1 [⟨xp, xw, xk, xy⟩] ?_ (by simp) (lies_one rfl (Lies.fresh w6 61 (encN ⟨xp, xw, xk, xy⟩).toArray)) HLN.out (Nat.le_trans hSQ2 D1.out.size) ?_; rfl; rfl; rfl; rfl; intro v4 w4 hown4 hb4 hg4; obtain ⟨A4, cp4, hv4, -, -⟩ := Sl.of_own (enc := encN) (fun _ => rfl) hown4 rfl; subst hv4; have D4 := Lib.hid ((D1.out.mono hSQ2).trans hb4); have J4 := Lib.hid (J0.out.below HG.out (D4.out.mono hBB)); have c8 : w4.cell? ⟨g, 7, none⟩ = some (.slice A3 z.length cp3) := J4.out.o.at_ 7; have f8 : w4.frozen? ⟨g, 7, none⟩ = false := J4.out.o.free 7; have O4 := Lib.hid hown4; clear hown4 hb4 hg4 f0 f1 f2 f3 f4)
            go_roundw
            case rel =>
              refine ⟨k + 1, _, by omega, by go_num, ?_, J4.out.put7 HG.out _, ?_, ?_⟩
              · simpa using Nat.le_trans hSQ2 D4.out.size
              · exact own_keep W0.out fun j hj => by
                  exact ((Only.set g 7 w4 _).block j (by have := (HK.out j hj).1; omega)).trans (D4.out.block j (HK.out j hj).2)
              · show World.ownsRow _ _ _ _ _ _ _
                rw [HTK.out]
                have h5 := own_keep O4.out (fun j hj => (Only.set g 7 w4 (.slice A4 (z.length + 1) cp4)).block j (by have := (own_at O4.out hj).1; omega))
                simpa using h5
            case measure => simp [intOf]; omega
          · obtain rfl : k = r.ns.l.length := by omega
            rw [List.take_of_length_le (Nat.le_refl _)] at HO hA3 HJ
            have HNB := Lib.hid hA3
            clear hA3 hS3
            go_wp2_with (first
              | (refine wpList_load_row (o := ⟨some 72, _, _, _, _, _⟩) ?_ 34 (.tmp 3) ?_ g ?_ 34 (r.part (.slice A1 r.ws.l.length cp1) (.slice A2 r.dug.l.length c2) (.slice A3 r.ns.l.length cp3)).toArray (0, 0) _ HJ.out.o Try.underlying34 rfl size_row ?_; rfl; rfl; rfl)
              | (refine wpList_store_cells (o := ⟨none, .store 34 (.tmp 2) _, _, _, _, _⟩) ?_ 34 (.tmp 2) (.tmp 72) ?_ (w.heap.size + 1) 0 ?_ 34 zrow (r.part (.slice A1 r.ws.l.length cp1) (.slice A2 r.dug.l.length c2) (.slice A3 r.ns.l.length cp3)) ?_ HJ.out.z (by simp [zrow, RwM.part]) size_row (part_one r _ _ _ rfl rfl rfl) ?_; rfl; rfl; rfl; rfl; intro w9 HS9 HO9))
            have hs9 := HS9.out
            rw [splice_whole (by rfl)] at hs9
            refine bodyPost_ret (results_cell_row rfl _ _ (w.heap.size + 1) 34 (r.part (.slice A1 r.ws.l.length cp1) (.slice A2 r.dug.l.length c2) (.slice A3 r.ns.l.length cp3)).toArray (0, 0) _ rfl hs9 Try.underlying34 rfl size_row) rfl ⟨⟨r.n, ⟨A1, r.ws.l, cp1⟩, r.lag, r.sh, r.old, r.cl, ⟨A2, r.dug.l, c2⟩, ⟨A3, r.ns.l, cp3⟩⟩, rfl, ?_⟩
            have hg1 := HG.out.g1
            have hg0 := HG.out.g0
            have hsz := HO9.out.size
            have h1 : w9.ownsRow B 79 2 (.slice A1 r.ws.l.length cp1) r.ws.l.length (r.ws.l.flatMap encW) := own_keep HW.out fun j hj => HO9.out.block j (by have := (HK.out j hj).1; omega)
            have h3 : w9.ownsRow B2 61 4 (.slice A3 r.ns.l.length cp3) r.ns.l.length (r.ns.l.flatMap encN) := own_keep HO.out fun j hj => HO9.out.block j (by have := (own_at HO.out hj).1; omega)
            have h2o : w9.ownsRow (w.heap.size + 2) 3 1 (.slice A2 r.dug.l.length c2) r.dug.l.length (r.dug.l.flatMap encI) := own_keep HJ.out.d fun j hj => HO9.out.block j (by have := (own_at HJ.out.d hj).1; omega)
            obtain ⟨_, _, e4, _, s4⟩ := Sl.of_own (enc := encI) (fun _ => rfl) h2o rfl
            cases e4
            have h2 : Sl w9 B2 1 encI A2 r.dug.l := s4.lower fun a e => by have := (HG.out.a a e).2.2; omega
            obtain ⟨_, _, e1, _, s1⟩ := Sl.of_own (enc := encW) (fun _ => rfl) h1 rfl
            cases e1
            obtain ⟨_, _, e3, _, s3⟩ := Sl.of_own (enc := encN) (fun _ => rfl) h3 rfl
            cases e3
            have s1' : Sl w9 B2 2 encW A1 r.ws.l := s1.lower fun a e => (HK.out a.block (by rw [e]; rfl)).2
            exact ⟨rfl, ⟨s1, h2.more (by omega), s3, HRR.out.lw, HRR.out.ld, HRR.out.ln, HRR.out.kn⟩, HO9.out.below HJ.out.b (by omega), HN2.out, ownsRow_base h2o (by omega), (fun a e => by have := HK.out a.block (by rw [show A1 = some a from e]; rfl); omega), ⟨hw35, hn45, hd⟩, (fun a b e e2 => by have h1 := HK.out a.block (by rw [show A1 = some a from e]; rfl); have h2 := (HG.out.a b e2).2.2; omega), B2, by omega, by omega, s1', h2, h3, (fun a e => by have := (HG.out.a a e).2.2; omega)⟩
end Go.Proofs.Ytkjhofbjjogmlaa

/- The reference's Fault. -/
namespace Go.Proofs.Ytkjhofbjjogmlaa
open Go.RowKit Go.Lib

theorem size_refrow : (Try.prog.info? 26).map (·.size) = some 8 := by kernel_rfl
theorem fault_big {r : RwD} (h : 30 < r.ws.length ∨ 40 < r.ns.length) : r.fault = 3 := by unfold RwD.fault; rw [if_pos h]
theorem fault_no {r : RwD} (h1 : r.ws.length ≤ 30) (h2 : r.ns.length ≤ 40) (h : r.validB = false) : r.fault = 1 := by unfold RwD.fault; rw [if_neg (by omega), h]; rfl
theorem fault_yes {r : RwD} (h1 : r.ws.length ≤ 30) (h2 : r.ns.length ≤ 40) (h : r.validB = true) : r.fault = 0 := by unfold RwD.fault; rw [if_neg (by omega), h]; rfl
theorem refIn_below (n lo hi : Int) (w : World) : Calls Try.prog 33 #[.int .i64 n, .int .i64 lo, .int .i64 hi] w fun e w' => e = .returned (.bool (inB n lo hi)) ∧ Below w.heap.size w w' :=
  (refIn_any n lo hi w).mono fun _ _ ⟨h1, h2⟩ => ⟨h1, h2 ▸ Below.refl _ _⟩
theorem refFault_big (r : RwM) (w : World) (hw : r.ws.l.length ≤ 1000000) (hn : r.ns.l.length ≤ 1000000) (h : 30 < r.d.ws.length ∨ 40 < r.d.ns.length) :
    Calls Try.prog 22 #[.agg r.cells.toArray] w fun e w' => e = .returned (.int .i64 r.d.fault) ∧ Below w.heap.size w w' := by
  rw [fault_big h]
  have hwz : (r.ws.l.length : Int) ≤ 1000000 := by omega
  have hnz : (r.ns.l.length : Int) ≤ 1000000 := by omega
  have h' : 30 < (r.ws.l.length : Int) ∨ 40 < (r.ns.l.length : Int) := h.imp (fun h => by have h2 : 30 < r.ws.l.length := h; omega) (fun h => by have h2 : 40 < r.ns.l.length := h; omega)
  clear h hw hn
  unfold RwM.cells
  by_cases h1 : 30 < (r.ws.l.length : Int)
  · clear h'
    go_enter Try.func22, Try.ntmps22
    go_wp2
    go_ret
    exact ⟨rfl, (by repeat (first | (with_reducible assumption) | (with_reducible exact Below.refl _ _) | (with_reducible refine Below.drew ?_) | (with_reducible refine below_drewN ?_ _) | ((with_reducible refine Below.setCell ?_ ?_ _); rotate_left; focus (first | (simp; done) | (simp; omega) | omega)) | ((with_reducible refine Below.alloc ?_ ?_ _); rotate_left; focus (first | (simp; done) | (simp; omega) | omega))))⟩
  · have h2 := h'.resolve_left h1
    clear h'
    go_enter Try.func22, Try.ntmps22
    go_wp2
    go_ret
    exact ⟨rfl, (by repeat (first | (with_reducible assumption) | (with_reducible exact Below.refl _ _) | (with_reducible refine Below.drew ?_) | (with_reducible refine below_drewN ?_ _) | ((with_reducible refine Below.setCell ?_ ?_ _); rotate_left; focus (first | (simp; done) | (simp; omega) | omega)) | ((with_reducible refine Below.alloc ?_ ?_ _); rotate_left; focus (first | (simp; done) | (simp; omega) | omega))))⟩
set_option maxRecDepth 100000 in
set_option maxHeartbeats 8000000 in
theorem refFault_small (r : RwM) (w : World) (hr : r.At w w.heap.size) (hw : r.ws.l.length ≤ 30) (hn : r.ns.l.length ≤ 40) (hd : r.dug.l.length ≤ 1000000) :
    Calls Try.prog 22 #[.agg r.cells.toArray] w fun e w' => e = .returned (.int .i64 r.d.fault) ∧ Below w.heap.size w w' := by
  have l0 : Lies (w.alloc (.cells r.cells.toArray 26)) w.heap.size 26 r.cells.toArray := Lies.fresh _ _ _
  have b0 : Below w.heap.size w (w.alloc (.cells r.cells.toArray 26)) := (by repeat (first | (with_reducible assumption) | (with_reducible exact Below.refl _ _) | (with_reducible refine Below.drew ?_) | (with_reducible refine below_drewN ?_ _) | ((with_reducible refine Below.setCell ?_ ?_ _); rotate_left; focus (first | (simp; done) | (simp; omega) | omega)) | ((with_reducible refine Below.alloc ?_ ?_ _); rotate_left; focus (first | (simp; done) | (simp; omega) | omega))))
  have q0 : ∀ W, Calls Try.prog 33 #[.int .i64 r.n, .int .i64 1, .int .i64 10] W fun e w' => e = .returned (.bool (inB r.n 1 10)) ∧ W = w' := fun W => refIn_any _ _ _ W
  have q1 : ∀ W, Calls Try.prog 33 #[.int .i64 r.lag, .int .i64 1, .int .i64 30] W fun e w' => e = .returned (.bool (inB r.lag 1 30)) ∧ W = w' := fun W => refIn_any _ _ _ W
  have q2 : ∀ W, Calls Try.prog 33 #[.int .i64 r.sh, .int .i64 0, .int .i64 30] W fun e w' => e = .returned (.bool (inB r.sh 0 30)) ∧ W = w' := fun W => refIn_any _ _ _ W
  have q3 : ∀ W, Calls Try.prog 33 #[.int .i64 r.old, .int .i64 0, .int .i64 30] W fun e w' => e = .returned (.bool (inB r.old 0 30)) ∧ W = w' := fun W => refIn_any _ _ _ W
  have hno := fault_no (r := r.d) hw hn
  have hyes := fault_yes (r := r.d) hw hn
  have hv : r.d.validB = (inB r.n 1 10 && (r.ws.l.all fun x => inB x.f 0 10) && inB r.lag 1 30 && inB r.sh 0 30 && inB r.old 0 30 && decide ((r.dug.l.length : Int) = r.n) && (r.dug.l.all fun n => inB n 0 r.ws.l.length) && r.ns.l.all r.d.haveB) := rfl
  have hwz : (r.ws.l.length : Int) ≤ 30 := by omega
  have hnz : (r.ns.l.length : Int) ≤ 40 := by omega
  have hdz : (r.dug.l.length : Int) ≤ 1000000 := by omega
  have e1 : decide (30 < (r.ws.l.length : Int)) = false := by simp; omega
  have e2 : decide (40 < (r.ns.l.length : Int)) = false := by simp; omega
  have HNB := Lib.hid (fun h => (inB_iff (n := r.n) (lo := 1) (hi := 10)).1 h)
  generalize inB r.n 1 10 = y0 at *
  generalize inB r.lag 1 30 = y1 at *
  generalize inB r.sh 0 30 = y2 at *
  generalize inB r.old 0 30 = y3 at *
  generalize r.d.fault = ft at *
  have Q0 := Lib.hid q0
  have Q1 := Lib.hid q1
  have Q2 := Lib.hid q2
  have Q3 := Lib.hid q3
  have HNO := Lib.hid hno
  have HYE := Lib.hid hyes
  have HV := Lib.hid hv
  have L0 := Lib.hid l0
  have B0 := Lib.hid b0
  have HRR := Lib.hid hr
  clear q0 q1 q2 q3 hno hyes hv l0 b0 hr hw hn hd
  go_enter Try.func22, Try.ntmps22
  go_upto_region 1 with (fail)
  change Code.wp _ _ _ _ (w.alloc (.cells r.cells.toArray 26))
  generalize w.alloc (.cells r.cells.toArray 26) = w0 at *
  have a0 : w0.cell? ⟨w.heap.size, 0, none⟩ = some (.int .i64 r.n) := L0.out.at_ 0
  have a1 : w0.cell? ⟨w.heap.size, 1, none⟩ = some (.slice r.ws.A r.ws.l.length r.ws.c) := L0.out.at_ 1
  have a2 : w0.cell? ⟨w.heap.size, 2, none⟩ = some (.int .i64 r.lag) := L0.out.at_ 2
  have a3 : w0.cell? ⟨w.heap.size, 3, none⟩ = some (.int .i64 r.sh) := L0.out.at_ 3
  have a4 : w0.cell? ⟨w.heap.size, 4, none⟩ = some (.int .i64 r.old) := L0.out.at_ 4
  have a6 : w0.cell? ⟨w.heap.size, 6, none⟩ = some (.slice r.dug.A r.dug.l.length r.dug.c) := L0.out.at_ 6
  have a7 : w0.cell? ⟨w.heap.size, 7, none⟩ = some (.slice r.ns.A r.ns.l.length r.ns.c) := L0.out.at_ 7
  go_upto_region 3 with (fail)
  cases y0 with
  | false =>
    go_wp2_with (first | (go_at_call_of 33 (Value.int .i64 r.n); refine (Q0.out _).mono ?_; rintro e w' ⟨rfl, rfl⟩) | (go_at_call_of 33 (Value.int .i64 r.lag); refine (Q1.out _).mono ?_; rintro e w' ⟨rfl, rfl⟩) | (go_at_call_of 33 (Value.int .i64 r.sh); refine (Q2.out _).mono ?_; rintro e w' ⟨rfl, rfl⟩) | (go_at_call_of 33 (Value.int .i64 r.old); refine (Q3.out _).mono ?_; rintro e w' ⟨rfl, rfl⟩))
    go_ret
    exact ⟨ret_int (HNO.out (by rw [HV.out]; simp)).symm, B0.out⟩
  | true =>
  by_cases hdn : (r.dug.l.length : Int) = r.n
  case neg =>
    have hA : ((r.dug.l.length : Int) != r.n) = true := by simpa using hdn
    have HDN := Lib.hid (show decide ((r.dug.l.length : Int) = r.n) = false by simpa using hdn)
    clear hdn
    go_wp2_with (first | (go_at_call_of 33 (Value.int .i64 r.n); refine (Q0.out _).mono ?_; rintro e w' ⟨rfl, rfl⟩) | (go_at_call_of 33 (Value.int .i64 r.lag); refine (Q1.out _).mono ?_; rintro e w' ⟨rfl, rfl⟩) | (go_at_call_of 33 (Value.int .i64 r.sh); refine (Q2.out _).mono ?_; rintro e w' ⟨rfl, rfl⟩) | (go_at_call_of 33 (Value.int .i64 r.old); refine (Q3.out _).mono ?_; rintro e w' ⟨rfl, rfl⟩))
    go_ret
    exact ⟨ret_int (HNO.out (by rw [HV.out, HDN.out]; simp)).symm, B0.out⟩
  have hA : ((r.dug.l.length : Int) != r.n) = false := by simpa using hdn
  have HDN := Lib.hid hdn
  clear hdn
  cases y1 with
  | false =>
    go_wp2_with (first | (go_at_call_of 33 (Value.int .i64 r.n); refine (Q0.out _).mono ?_; rintro e w' ⟨rfl, rfl⟩) | (go_at_call_of 33 (Value.int .i64 r.lag); refine (Q1.out _).mono ?_; rintro e w' ⟨rfl, rfl⟩) | (go_at_call_of 33 (Value.int .i64 r.sh); refine (Q2.out _).mono ?_; rintro e w' ⟨rfl, rfl⟩) | (go_at_call_of 33 (Value.int .i64 r.old); refine (Q3.out _).mono ?_; rintro e w' ⟨rfl, rfl⟩))
    go_ret
    exact ⟨ret_int (HNO.out (by rw [HV.out]; simp)).symm, B0.out⟩
  | true =>
  cases y2 with
  | false =>
    go_wp2_with (first | (go_at_call_of 33 (Value.int .i64 r.n); refine (Q0.out _).mono ?_; rintro e w' ⟨rfl, rfl⟩) | (go_at_call_of 33 (Value.int .i64 r.lag); refine (Q1.out _).mono ?_; rintro e w' ⟨rfl, rfl⟩) | (go_at_call_of 33 (Value.int .i64 r.sh); refine (Q2.out _).mono ?_; rintro e w' ⟨rfl, rfl⟩) | (go_at_call_of 33 (Value.int .i64 r.old); refine (Q3.out _).mono ?_; rintro e w' ⟨rfl, rfl⟩))
    go_ret
    exact ⟨ret_int (HNO.out (by rw [HV.out]; simp)).symm, B0.out⟩
  | true =>
  cases y3 with
  | false =>
    go_wp2_with (first | (go_at_call_of 33 (Value.int .i64 r.n); refine (Q0.out _).mono ?_; rintro e w' ⟨rfl, rfl⟩) | (go_at_call_of 33 (Value.int .i64 r.lag); refine (Q1.out _).mono ?_; rintro e w' ⟨rfl, rfl⟩) | (go_at_call_of 33 (Value.int .i64 r.sh); refine (Q2.out _).mono ?_; rintro e w' ⟨rfl, rfl⟩) | (go_at_call_of 33 (Value.int .i64 r.old); refine (Q3.out _).mono ?_; rintro e w' ⟨rfl, rfl⟩))
    go_ret
    exact ⟨ret_int (HNO.out (by rw [HV.out]; simp)).symm, B0.out⟩
  | true =>
  go_upto_region 5 with (first | (go_at_call_of 33 (Value.int .i64 r.n); refine (Q0.out _).mono ?_; rintro e w' ⟨rfl, rfl⟩) | (go_at_call_of 33 (Value.int .i64 r.lag); refine (Q1.out _).mono ?_; rintro e w' ⟨rfl, rfl⟩) | (go_at_call_of 33 (Value.int .i64 r.sh); refine (Q2.out _).mono ?_; rintro e w' ⟨rfl, rfl⟩) | (go_at_call_of 33 (Value.int .i64 r.old); refine (Q3.out _).mono ?_; rintro e w' ⟨rfl, rfl⟩))
  clear a0 a1 a2 a3 a4 a6 a7 hA Q0 Q1 Q2 Q3
  obtain ⟨hn1, hn10⟩ := HNB.out trivial
  go_wp2
  go_loopw [3] (fun s3 wr => ∃ k : Nat, k ≤ r.ws.l.length ∧ s3 = .int .i64 k ∧ Aside (Below w.heap.size w wr) ∧ Aside (Lies wr w.heap.size 26 r.cells.toArray) ∧ Aside (∀ j x, j < k → r.ws.l[j]? = some x → inB x.f 0 10 = true)) (fun i _ => r.ws.l.length - (intOf i).toNat)
  case atStart => exact ⟨0, by omega, rfl, B0.out, L0.out, fun j x h => absurd h (by omega)⟩
  case round =>
    obtain ⟨k, hk, rfl, HB, HL, HA⟩ := hrel
    have c1 : wr.cell? ⟨w.heap.size, 1, none⟩ = some (.slice r.ws.A r.ws.l.length r.ws.c) := HL.out.at_ 1
    by_cases hlt : k < r.ws.l.length
    · have hltz : (k : Int) < (r.ws.l.length : Int) := by omega
      have hk0 : (0 : Int) ≤ (k : Int) := by omega
      obtain ⟨x, hx⟩ : ∃ x, r.ws.l[k]? = some x := ⟨r.ws.l[k], by simp [hlt]⟩
      obtain ⟨tb, off, hAT, htb, d0, d1⟩ := HRR.out.ws.cellW hx
      rw [hAT] at c1
      have l0 : wr.cell? ⟨tb, off + k * 2, none⟩ = some (.int .i64 x.f) := (HB.out.cell (p := ⟨tb, off + k * 2, none⟩) htb).trans d0
      have hq : ∀ W, Calls Try.prog 33 #[.int .i64 x.f, .int .i64 0, .int .i64 10] W fun e w' => e = .returned (.bool (inB x.f 0 10)) ∧ W = w' := fun W => refIn_any _ _ _ W
      have HX := Lib.hid hx
      obtain ⟨y, hy⟩ : ∃ y, y = inB x.f 0 10 := ⟨_, rfl⟩
      rw [← hy] at hq
      have HY := Lib.hid hy
      have HQ := Lib.hid hq
      clear hq hy hx d0 d1 L0 B0 hAT
      cases y with
      | false =>
        go_wp2_with (go_at_call 33; refine (HQ.out _).mono ?_; rintro e w' ⟨rfl, rfl⟩)
        go_ret
        refine ⟨ret_int (HNO.out ?_).symm, HB.out⟩
        have : (r.ws.l.all fun x => inB x.f 0 10) = false := by
          rw [Bool.eq_false_iff]; intro h; rw [List.all_eq_true] at h
          have := h x (List.mem_of_getElem? HX.out); rw [← HY.out] at this; cases this
        rw [HV.out, this]; simp
      | true =>
        go_wp2_with (go_at_call 33; refine (HQ.out _).mono ?_; rintro e w' ⟨rfl, rfl⟩)
        go_roundw
        case rel =>
          refine ⟨k + 1, by omega, by go_num, HB.out, HL.out, fun j x' hj hx' => ?_⟩
          by_cases e : j = k
          · subst e; rw [HX.out] at hx'; cases hx'; exact HY.out.symm
          · exact HA.out j x' (by omega) hx'
        case measure => simp [intOf]; omega
    · obtain rfl : k = r.ws.l.length := by omega
      have HWS := Lib.hid (show (r.ws.l.all fun x => inB x.f 0 10) = true by
        rw [List.all_eq_true]; intro x hx
        obtain ⟨j, hj⟩ := List.getElem?_of_mem hx
        exact HA.out j x (List.getElem?_eq_some_iff.1 hj).1 hj)
      have L1 := Lib.hid HL.out
      have B1 := Lib.hid HB.out
      clear HL HB HA L0 B0
      go_wp2
      clear c1
      go_loopw [4] (fun s4 wr => ∃ k : Nat, k ≤ r.dug.l.length ∧ s4 = .int .i64 k ∧ Aside (Below w.heap.size w wr) ∧ Aside (Lies wr w.heap.size 26 r.cells.toArray) ∧ Aside (∀ j x, j < k → r.dug.l[j]? = some x → inB x 0 r.ws.l.length = true)) (fun i _ => r.dug.l.length - (intOf i).toNat)
      case atStart => exact ⟨0, by omega, rfl, B1.out, L1.out, fun j x h => absurd h (by omega)⟩
      case round =>
        obtain ⟨k, hk, rfl, HB, HL, HA⟩ := hrel
        have hdn := HDN.out
        clear L1 B1
        have c0 : wr.cell? ⟨w.heap.size, 0, none⟩ = some (.int .i64 r.n) := HL.out.at_ 0
        by_cases hlt : k < r.dug.l.length
        · have hltz : (k : Int) < r.n := by omega
          have hltd : (k : Int) < (r.dug.l.length : Int) := by omega
          have hk0 : (0 : Int) ≤ (k : Int) := by omega
          obtain ⟨x, hx⟩ : ∃ x, r.dug.l[k]? = some x := ⟨r.dug.l[k], by simp [hlt]⟩
          obtain ⟨tb, off, hAT, htb, d0⟩ := HRR.out.dug.cell1 hx
          have r0 := cell_regrown ((HB.out.cell (p := ⟨tb, off + k, none⟩) htb).trans d0)
          have r1 := cell_regrown (show wr.cell? ⟨w.heap.size, 6, none⟩ = some (.slice (some ⟨tb, off, none⟩) r.dug.l.length r.dug.c) by rw [← hAT]; exact HL.out.at_ 6)
          have r2 := cell_regrown (show wr.cell? ⟨w.heap.size, 1, none⟩ = some (.slice r.ws.A r.ws.l.length r.ws.c) from HL.out.at_ 1)
          have hq : ∀ W, Calls Try.prog 33 #[.int .i64 x, .int .i64 0, .int .i64 r.ws.l.length] W fun e w' => e = .returned (.bool (inB x 0 r.ws.l.length)) ∧ Below W.heap.size W w' := fun W => refIn_below _ _ _ W
          have HX := Lib.hid hx
          obtain ⟨y, hy⟩ : ∃ y, y = inB x 0 r.ws.l.length := ⟨_, rfl⟩
          rw [← hy] at hq
          have HY := Lib.hid hy
          have HQ := Lib.hid hq
          clear hq hy hx d0 hdn hAT
          go_upto_region 13 with (fail)
          clear c0
          refine wp_region_quiet_below (by kernel_rfl) (by kernel_rfl) ?_; (repeat (first | go_big_quiet_step ((go_at_call 33; exact Calls.regrown_of (HQ.out _))) | quiet_step ((go_at_call 33; exact Calls.regrown_of (HQ.out _))))); refine wpQuiet_nil ?_; intro wq hwq; have hbq : Below _ _ wq := (by obtain ⟨p, rfl⟩ := hwq; exact below_regrown _ _ _); clear hwq
          clear r0 r1 r2
          cases y with
          | false =>
            go_wp2
            go_ret
            refine ⟨ret_int (HNO.out ?_).symm, HB.out.trans (hbq.mono HB.out.size)⟩
            have : (r.dug.l.all fun x => inB x 0 r.ws.l.length) = false := by
              rw [Bool.eq_false_iff]; intro h; rw [List.all_eq_true] at h
              have := h x (List.mem_of_getElem? HX.out); rw [← HY.out] at this; cases this
            rw [HV.out, this]; simp
          | true =>
            go_wp2
            go_roundw
            case rel =>
              refine ⟨k + 1, by omega, by go_num, HB.out.trans (hbq.mono HB.out.size), HL.out.call hbq, fun j x' hj hx' => ?_⟩
              by_cases e : j = k
              · subst e; rw [HX.out] at hx'; cases hx'; exact HY.out.symm
              · exact HA.out j x' (by omega) hx'
            case measure => simp [intOf]; omega
        · obtain rfl : k = r.dug.l.length := by omega
          have hge : ¬ ((r.dug.l.length : Int) < r.n) := by omega
          have HDG := Lib.hid (show (r.dug.l.all fun x => inB x 0 r.ws.l.length) = true by
            rw [List.all_eq_true]; intro x hx
            obtain ⟨j, hj⟩ := List.getElem?_of_mem hx
            exact HA.out j x (List.getElem?_eq_some_iff.1 hj).1 hj)
          have L2 := Lib.hid HL.out
          have B2 := Lib.hid HB.out
          clear HL HB HA
          go_wp2
          clear c0 hdn hge
          go_loopw [5, 6] (fun s5 _ wr => ∃ k : Nat, k ≤ r.ns.l.length ∧ s5 = .int .i64 k ∧ Aside (Below w.heap.size w wr) ∧ Aside (Lies wr w.heap.size 26 r.cells.toArray) ∧ Aside (∀ j x, j < k → r.ns.l[j]? = some x → r.d.haveB x = true)) (fun i _ _ => r.ns.l.length - (intOf i).toNat)
          case atStart => exact ⟨0, by omega, rfl, B2.out, L2.out, fun j x h => absurd h (by omega)⟩
          case round =>
            obtain ⟨k, hk, rfl, HB, HL, HA⟩ := hrel
            clear L2 B2
            have c1 : wr.cell? ⟨w.heap.size, 7, none⟩ = some (.slice r.ns.A r.ns.l.length r.ns.c) := HL.out.at_ 7
            by_cases hlt : k < r.ns.l.length
            · have hltz : (k : Int) < (r.ns.l.length : Int) := by omega
              have hk0 : (0 : Int) ≤ (k : Int) := by omega
              obtain ⟨x, hx⟩ : ∃ x, r.ns.l[k]? = some x := ⟨r.ns.l[k], by simp [hlt]⟩
              obtain ⟨tb, off, hAT, htb, d0, d1, d2, d3⟩ := HRR.out.ns.cellN hx
              rw [hAT] at c1
              have l2 : wr.cell? ⟨tb, off + k * 4, none⟩ = some (.int .i64 x.p) := (HB.out.cell (p := ⟨tb, off + k * 4, none⟩) htb).trans d0
              have l3 : wr.cell? ⟨tb, off + k * 4 + 1, none⟩ = some (.int .i64 x.w) := (HB.out.cell (p := ⟨tb, off + k * 4 + 1, none⟩) htb).trans d1
              have l4 : wr.cell? ⟨tb, off + k * 4 + 2, none⟩ = some (.int .u8 x.k) := (HB.out.cell (p := ⟨tb, off + k * 4 + 2, none⟩) htb).trans d2
              have l5 : wr.cell? ⟨tb, off + k * 4 + 3, none⟩ = some (.bool x.y) := (HB.out.cell (p := ⟨tb, off + k * 4 + 3, none⟩) htb).trans d3
              have HX := Lib.hid hx
              obtain ⟨hk0', hk255⟩ := HRR.out.kn x (List.mem_of_getElem? hx)
              have hbad : r.d.haveB x = false → r.d.validB = false := fun h => by
                have : r.ns.l.all r.d.haveB = false := by
                  rw [Bool.eq_false_iff]; intro h2; rw [List.all_eq_true] at h2
                  have := h2 x (List.mem_of_getElem? hx); rw [h] at this; cases this
                rw [HV.out, this]; simp
              have HBAD := Lib.hid hbad
              have hhv : r.d.haveB x = (inB x.p 0 (r.n - 1) && inB x.w 1 r.ws.l.length && stB (r.d.dg x.p) x.w && decide (x.k < 2)) := rfl
              have hq1 : ∀ W, Calls Try.prog 33 #[.int .i64 x.p, .int .i64 0, .int .i64 (r.n - 1)] W fun e w' => e = .returned (.bool (inB x.p 0 (r.n - 1))) ∧ W = w' := fun W => refIn_any _ _ _ W
              have hq2 : ∀ W, Calls Try.prog 33 #[.int .i64 x.w, .int .i64 1, .int .i64 r.ws.l.length] W fun e w' => e = .returned (.bool (inB x.w 1 r.ws.l.length)) ∧ W = w' := fun W => refIn_any _ _ _ W
              have hq3 : inB x.p 0 (r.n - 1) = true → ∀ W, Below w.heap.size w W → Calls Try.prog 42 #[.agg r.cells.toArray, .int .i64 x.p, .int .i64 x.w] W fun e w' => e = .returned (.bool (stB (r.d.dg x.p) x.w)) ∧ Below W.heap.size W w' := fun h W hb => by
                obtain ⟨h1, h2⟩ := inB_iff.1 h
                have hdn := HDN.out
                obtain ⟨p, hp⟩ : ∃ p : Nat, x.p = (p : Int) := ⟨x.p.toNat, by omega⟩
                rw [hp]
                have hpl : p < r.dug.l.length := by omega
                exact refStands_any r p (r.d.dg p) x.w W ((HRR.out.dug.below hb).more hb.size) (by show r.dug.l[p]? = some (r.dug.l.getD p 0); simp [List.getD, hpl]) HRR.out.ld
              obtain ⟨xp, xw, xk, xy⟩ := x
              dsimp only at l2 l3 l4 l5 hk0' hk255 hhv hq1 hq2 hq3
              clear hx d0 d1 d2 d3 hAT hbad
              generalize inB xp 0 (r.n - 1) = y1 at *
              generalize inB xw 1 (r.ws.l.length : Int) = y2 at *
              generalize stB (r.d.dg xp) xw = y4 at *
              have HHV := Lib.hid hhv
              have Q1 := Lib.hid hq1
              have Q2 := Lib.hid hq2
              have Q3 := Lib.hid hq3
              clear hhv hq1 hq2 hq3
              go_upto_region 19 with (fail)
              clear l2 l3 l4 l5 c1
              have hbq := (Below.refl wr.heap.size wr).alloc (Nat.le_refl _) (.cells (encN ⟨xp, xw, xk, xy⟩).toArray 67)
              have E0 : Lies (wr.alloc (.cells (encN ⟨xp, xw, xk, xy⟩).toArray 67)) wr.heap.size 67 (encN ⟨xp, xw, xk, xy⟩).toArray := Lies.fresh' rfl
              have L6 := Lib.hid (HL.out.call hbq)
              have B6 := Lib.hid (HB.out.trans (hbq.mono HB.out.size))
              change Code.wp _ _ _ _ (wr.alloc (.cells (encN ⟨xp, xw, xk, xy⟩).toArray 67))
              clear HL HB hbq
              generalize wr.alloc (.cells (encN ⟨xp, xw, xk, xy⟩).toArray 67) = w6 at *
              generalize wr.heap.size = gn at *
              have a0 : w6.cell? ⟨w.heap.size, 0, none⟩ = some (.int .i64 r.n) := L6.out.at_ 0
              have a1 : w6.cell? ⟨w.heap.size, 1, none⟩ = some (.slice r.ws.A r.ws.l.length r.ws.c) := L6.out.at_ 1
              have f1 : w6.cell? ⟨gn, 0, none⟩ = some (.int .i64 xp) := E0.at_ 0
              have f2 : w6.cell? ⟨gn, 1, none⟩ = some (.int .i64 xw) := E0.at_ 1
              have f3 : w6.cell? ⟨gn, 2, none⟩ = some (.int .u8 xk) := E0.at_ 2
              clear E0
              cases y1 with
              | false =>
                go_wp2_with (first | (go_at_call_of 33 (Value.int .i64 xp); refine (Q1.out _).mono ?_; rintro e w' ⟨rfl, rfl⟩) | (go_at_call_of 33 (Value.int .i64 xw); refine (Q2.out _).mono ?_; rintro e w' ⟨rfl, rfl⟩))
                go_ret
                exact ⟨ret_int (HNO.out (HBAD.out (by rw [HHV.out]; simp))).symm, B6.out⟩
              | true =>
              cases y2 with
              | false =>
                go_wp2_with (first | (go_at_call_of 33 (Value.int .i64 xp); refine (Q1.out _).mono ?_; rintro e w' ⟨rfl, rfl⟩) | (go_at_call_of 33 (Value.int .i64 xw); refine (Q2.out _).mono ?_; rintro e w' ⟨rfl, rfl⟩))
                go_ret
                exact ⟨ret_int (HNO.out (HBAD.out (by rw [HHV.out]; simp))).symm, B6.out⟩
              | true =>
              by_cases hk1 : 1 < xk
              · have hk2 : ¬ xk < 2 := by omega
                go_wp2_with (first | (go_at_call_of 33 (Value.int .i64 xp); refine (Q1.out _).mono ?_; rintro e w' ⟨rfl, rfl⟩) | (go_at_call_of 33 (Value.int .i64 xw); refine (Q2.out _).mono ?_; rintro e w' ⟨rfl, rfl⟩))
                go_ret
                exact ⟨ret_int (HNO.out (HBAD.out (by rw [HHV.out]; simp [hk2]))).symm, B6.out⟩
              · have hk2 : xk < 2 := by omega
                have hk3 : decide (1 < xk) = false := by simp; omega
                have Q4 := Lib.hid (Q3.out rfl w6 B6.out)
                clear Q3
                cases y4 with
                | false =>
                  go_wp2_with (first | (go_at_call_of 33 (Value.int .i64 xp); refine (Q1.out _).mono ?_; rintro e w' ⟨rfl, rfl⟩) | (go_at_call_of 33 (Value.int .i64 xw); refine (Q2.out _).mono ?_; rintro e w' ⟨rfl, rfl⟩) | (refine wpList_load_rowG (o := ⟨some 112, _, _, _, _, _⟩) ?_ 26 (.tmp 1) ?_ w.heap.size ?_ 26 r.cells.toArray (0, 0) _ L6.out Try.underlying26 rfl size_refrow ?_; kernel_rfl; rfl; rfl) | (go_at_call 42; refine Q4.out.mono ?_; rintro e w7 ⟨rfl, hb7⟩))
                  go_ret
                  exact ⟨ret_int (HNO.out (HBAD.out (by rw [HHV.out]; simp))).symm, B6.out.trans (hb7.mono B6.out.size)⟩
                | true =>
                  go_wp2_with (first | (go_at_call_of 33 (Value.int .i64 xp); refine (Q1.out _).mono ?_; rintro e w' ⟨rfl, rfl⟩) | (go_at_call_of 33 (Value.int .i64 xw); refine (Q2.out _).mono ?_; rintro e w' ⟨rfl, rfl⟩) | (refine wpList_load_rowG (o := ⟨some 112, _, _, _, _, _⟩) ?_ 26 (.tmp 1) ?_ w.heap.size ?_ 26 r.cells.toArray (0, 0) _ L6.out Try.underlying26 rfl size_refrow ?_; kernel_rfl; rfl; rfl) | (go_at_call 42; refine Q4.out.mono ?_; rintro e w7 ⟨rfl, hb7⟩))
                  go_roundw
                  case rel =>
                    refine ⟨k + 1, by omega, by go_num, B6.out.trans (hb7.mono B6.out.size), L6.out.call hb7, fun j x' hj hx' => ?_⟩
                    by_cases e : j = k
                    · subst e; rw [HX.out] at hx'; cases hx'; rw [HHV.out]; simp [hk2]
                    · exact HA.out j x' (by omega) hx'
                  case measure => simp [intOf]; omega
            · obtain rfl : k = r.ns.l.length := by omega
              have HNS := Lib.hid (show r.ns.l.all r.d.haveB = true by
                rw [List.all_eq_true]; intro x hx
                obtain ⟨j, hj⟩ := List.getElem?_of_mem hx
                exact HA.out j x (List.getElem?_eq_some_iff.1 hj).1 hj)
              go_wp2
              go_ret
              exact ⟨ret_int (HYE.out (by rw [HV.out, HWS.out, HDG.out, HNS.out]; simp [HDN.out])).symm, HB.out⟩
/-- What the reference says of any row. -/
theorem refFault_any (r : RwM) (w : World) (hr : r.At w w.heap.size) : Calls Try.prog 22 #[.agg r.cells.toArray] w fun e w' => e = .returned (.int .i64 r.d.fault) ∧ Below w.heap.size w w' := by
  by_cases h : 30 < r.d.ws.length ∨ 40 < r.d.ns.length
  · exact refFault_big r w hr.lw hr.ln h
  · have h1 : ¬ 30 < r.ws.l.length := fun h' => h (.inl h')
    have h2 : ¬ 40 < r.ns.l.length := fun h' => h (.inr h')
    exact refFault_small r w hr (by omega) (by omega) hr.ld
end Go.Proofs.Ytkjhofbjjogmlaa

/- The row of the chapter, and what the program says of it. -/
namespace Go.Proofs.Ytkjhofbjjogmlaa
open Go.RowKit Go.Lib

def fieldD : RwD := ⟨5, [⟨1, true⟩, ⟨2, false⟩, ⟨0, false⟩, ⟨1, false⟩], 1, 3, 2, true, [0, 0, 0, 0, 0], [⟨1, 4, 0, false⟩, ⟨3, 4, 1, true⟩, ⟨4, 2, 1, false⟩]⟩
theorem f_fault : fieldD.fault = 0 := by kernel_rfl
theorem f_can : fieldD.can = true := by kernel_rfl
theorem f_err : fieldD.err = 0 := by kernel_rfl
theorem f_first : fieldD.firstD = [1, 2, 2, 2, 1] := by kernel_rfl
theorem f_known : fieldD.knowns = [3, 3, 3, 1, 3] := by kernel_rfl
theorem f_ask : fieldD.askD 1 = true := by kernel_rfl
theorem f_best : fieldD.bestD fieldD.wins 1 = [0, 4] := by kernel_rfl
theorem make_ints5 (w : World) : (Instr.makeSlice 23 (.int .i64 5) (.int .i64 5)).run Try.prog w = .ok (.slice (some ⟨w.heap.size, 0, none⟩) 5 5) (w.alloc (.cells #[.int .i64 0, .int .i64 0, .int .i64 0, .int .i64 0, .int .i64 0] 3)) := by
  kernel_rfl
attribute [local go_sem] make_ints5
/-- The row of the chapter, from block g on. -/
def fieldM (g : Nat) : RwM := ⟨5, ⟨some ⟨g + 1, 0, none⟩, [⟨1, true⟩, ⟨2, false⟩, ⟨0, false⟩, ⟨1, false⟩], 4⟩, 1, 3, 2, true, ⟨some ⟨g + 1 + 1, 0, none⟩, [0, 0, 0, 0, 0], 5⟩, ⟨some ⟨g + 1 + 1 + 1, 0, none⟩, [⟨1, 4, 0, false⟩, ⟨3, 4, 1, true⟩, ⟨4, 2, 1, false⟩], 3⟩⟩
theorem fieldM_d (g : Nat) : (fieldM g).d = fieldD := rfl
structure FdAt (V : World) (g : Nat) : Prop where
  w : Lies V (g + 1) 79 ([⟨1, true⟩, ⟨2, false⟩, ⟨0, false⟩, ⟨1, false⟩].flatMap encW).toArray
  d : Lies V (g + 1 + 1) 3 ([0, 0, 0, 0, 0].flatMap encI).toArray
  n : Lies V (g + 1 + 1 + 1) 61 ([⟨1, 4, 0, false⟩, ⟨3, 4, 1, true⟩, ⟨4, 2, 1, false⟩].flatMap encN).toArray
theorem FdAt.at_ {V : World} {g : Nat} (h : FdAt V g) : (fieldM g).At V V.heap.size :=
  ⟨sl_of_lies (t := 79) (enc := encW) (fun _ => rfl) h.w, sl_of_lies (t := 3) (enc := encI) (fun _ => rfl) h.d, sl_of_lies (t := 61) (enc := encN) (fun _ => rfl) h.n, (show (4 : Nat) ≤ 1000000 by decide), (show (5 : Nat) ≤ 1000000 by decide), (show (3 : Nat) ≤ 1000000 by decide), fun x hx => by
    simp only [fieldM, List.mem_cons, List.not_mem_nil, or_false] at hx
    rcases hx with rfl | rfl | rfl <;> decide⟩
set_option maxRecDepth 100000 in
set_option maxHeartbeats 4000000 in
theorem field_any (w : World) : Calls Try.prog 37 #[] w fun e w' => e = .returned (.agg (fieldM w.heap.size).cells.toArray) ∧ FdAt w' w.heap.size ∧ Below w.heap.size w w' := by
  go_enter Try.func37, Try.ntmps37
  go_wp2
  refine bodyPost_ret (results_cell_row rfl _ _ w.heap.size 34 #[.int .i64 5, .slice (some ⟨w.heap.size + 1, 0, none⟩) 4 4, .int .i64 1, .int .i64 3, .int .i64 2, .bool true, .slice (some ⟨w.heap.size + 1 + 1, 0, none⟩) 5 5, .slice (some ⟨w.heap.size + 1 + 1 + 1, 0, none⟩) 3 3] (0, 0) _ rfl (by repeat (first | (exact Lies.fresh' (by simp)) | (refine Lies.alloc ?_ _))) Try.underlying34 rfl size_row) rfl ?_
  exact ⟨rfl, ⟨by repeat (first | (exact Lies.fresh' (by simp)) | (refine Lies.alloc ?_ _)), by repeat (first | (exact Lies.fresh' (by simp)) | (refine Lies.alloc ?_ _)), by repeat (first | (exact Lies.fresh' (by simp)) | (refine Lies.alloc ?_ _))⟩, (by repeat (first | (with_reducible assumption) | (with_reducible exact Below.refl _ _) | (with_reducible refine Below.drew ?_) | (with_reducible refine below_drewN ?_ _) | ((with_reducible refine Below.setCell ?_ ?_ _); rotate_left; focus (first | (simp; done) | (simp; omega) | omega)) | ((with_reducible refine Below.alloc ?_ ?_ _); rotate_left; focus (first | (simp; done) | (simp; omega) | omega))))⟩
end Go.Proofs.Ytkjhofbjjogmlaa

/- awake: what the chapter shows. -/
namespace Go.Proofs.Ytkjhofbjjogmlaa
open Go.RowKit Go.Lib

theorem field_first (g : Nat) (W : World) (h : FdAt W g) : Calls Try.prog 19 #[.agg (fieldM g).cells.toArray] W fun e w' => ∃ A c, e = .returned (.tuple #[.slice A 5 c, .int .i64 0]) ∧ Sl w' w'.heap.size 1 encI A [1, 2, 2, 2, 1] ∧ Below W.heap.size W w' := by
  refine (First_yes (fieldM g) W h.at_ (by rw [fieldM_d]; exact f_err)).mono ?_
  rintro e w' ⟨A, c, rfl, hA, hS, hb⟩
  rw [fieldM_d, f_first] at *
  exact ⟨A, c, rfl, hS, hb⟩
theorem field_known (g : Nat) (W : World) (h : FdAt W g) : Calls Try.prog 27 #[.agg (fieldM g).cells.toArray] W fun e w' => ∃ A c, e = .returned (.tuple #[.slice A 5 c, .int .i64 0]) ∧ Sl w' w'.heap.size 1 enc8 A [3, 3, 3, 1, 3] ∧ Below W.heap.size W w' := by
  refine (Known_yes (fieldM g) W h.at_ (by rw [fieldM_d]; exact f_err)).mono ?_
  rintro e w' ⟨A, c, rfl, hA, hS, hb⟩
  rw [fieldM_d, f_known] at *
  exact ⟨A, c, rfl, hS, hb⟩
theorem field_sample (g : Nat) (W : World) (h : FdAt W g) : Calls Try.prog 31 #[.agg (fieldM g).cells.toArray, .int .i64 1] W fun e w' => ∃ A c, e = .returned (.tuple #[.slice A 2 c, .int .i64 0]) ∧ Sl w' w'.heap.size 1 encI A [0, 4] ∧ Below W.heap.size W w' := by
  refine (Sample_yes (fieldM g) 1 W h.at_ (by rw [fieldM_d]; exact f_fault) (by rw [fieldM_d]; exact f_ask) (by rw [fieldM_d]; exact f_can)).mono ?_
  rintro e w' ⟨A, c, rfl, hA, hS, hb⟩
  rw [fieldM_d, f_best] at *
  exact ⟨A, c, rfl, hS, hb⟩
set_option maxRecDepth 100000 in
set_option maxHeartbeats 8000000 in
theorem awake_any (w : World) : Calls Try.prog 16 #[] w fun e w' => e = .returned (.bool true) ∧ Below w.heap.size w w' := by
  have hi5 : ∀ A c g W, Sl W W.heap.size 1 encI A [1, 2, 2, 2, 1] → Lies W g 3 #[.int .i64 1, .int .i64 2, .int .i64 2, .int .i64 2, .int .i64 1] → Calls Try.prog 25 #[.slice A 5 c, .slice (some ⟨g, 0, none⟩) 5 5] W fun e w' => e = .returned (.bool true) ∧ Below W.heap.size W w' := fun A c g W h1 h2 =>
    ints_yes A (some ⟨g, 0, none⟩) c 5 [1, 2, 2, 2, 1] W h1 (lies_q (q := [1, 2, 2, 2, 1]) h2) (by decide)
  have hk5 : ∀ A c g W, Sl W W.heap.size 1 enc8 A [3, 3, 3, 1, 3] → Lies W g 5 #[.int .u8 3, .int .u8 3, .int .u8 3, .int .u8 1, .int .u8 3] → Calls Try.prog 45 #[.slice A 5 c, .slice (some ⟨g, 0, none⟩) 5 5] W fun e w' => e = .returned (.bool true) ∧ Below W.heap.size W w' := fun A c g W h1 h2 =>
    known_yes A (some ⟨g, 0, none⟩) c 5 [3, 3, 3, 1, 3] W h1 (sl_of_lies (t := 5) (enc := enc8) (l := [3, 3, 3, 1, 3]) (fun _ => rfl) h2) (by decide)
  have hi2 : ∀ A c g W, Sl W W.heap.size 1 encI A [0, 4] → Lies W g 3 #[.int .i64 0, .int .i64 4] → Calls Try.prog 25 #[.slice A 2 c, .slice (some ⟨g, 0, none⟩) 2 2] W fun e w' => e = .returned (.bool true) ∧ Below W.heap.size W w' := fun A c g W h1 h2 =>
    ints_yes A (some ⟨g, 0, none⟩) c 2 [0, 4] W h1 (lies_q (q := [0, 4]) h2) (by decide)
  have H5 := Lib.hid hi5
  have HK := Lib.hid hk5
  have H2 := Lib.hid hi2
  clear hi5 hk5 hi2
  go_enter Try.func16, Try.ntmps16
  go_upto_region 2 with (first
    | (go_at_call 37; refine (field_any _).mono ?_; rintro e w1 ⟨rfl, hd1, hb1⟩)
    | (go_at_call 19; refine (field_first _ _ hd1).mono ?_; rintro e w2 ⟨A1, c1, rfl, hS1, hb2⟩))
  have S1 := Lib.hid hS1
  have B2 := Lib.hid (hb1.trans (hb2.mono hb1.size))
  clear hS1 hb1 hb2 hd1
  go_upto_region 3 with (first
    | (go_at_call 37; refine (field_any _).mono ?_; rintro e w3 ⟨rfl, hd1, hb1⟩)
    | (go_at_call 27; refine (field_known _ _ hd1).mono ?_; rintro e w4 ⟨A2, c2, rfl, hS2, hb2⟩))
  have hb4 := hb1.trans (hb2.mono hb1.size)
  have S2 := Lib.hid hS2
  have S1 := Lib.hid ((S1.out.below hb4).more hb4.size)
  have B4 := Lib.hid (B2.out.trans (hb4.mono B2.out.size))
  clear hS2 hb1 hb2 hb4 hd1 B2
  go_upto_region 4 with (first
    | (go_at_call 37; refine (field_any _).mono ?_; rintro e w5 ⟨rfl, hd1, hb1⟩)
    | (go_at_call 31; refine (field_sample _ _ hd1).mono ?_; rintro e w6 ⟨A3, c3, rfl, hS3, hb2⟩))
  have hb6 := hb1.trans (hb2.mono hb1.size)
  have S3 := Lib.hid hS3
  have S2 := Lib.hid ((S2.out.below hb6).more hb6.size)
  have S1 := Lib.hid ((S1.out.below hb6).more hb6.size)
  have B6 := Lib.hid (B4.out.trans (hb6.mono B4.out.size))
  clear hS3 hb1 hb2 hb6 hd1 B4
  have D7 := Lib.hid ((Below.refl w6.heap.size w6).alloc (Nat.le_refl _) (.cells #[.int .i64 1, .int .i64 2, .int .i64 2, .int .i64 2, .int .i64 1] 3))
  go_wp2_with (first
    | (go_at_call_of 25 (Value.slice A1 5 c1); refine (H5.out _ _ _ _ ((S1.out.below D7.out).more D7.out.size) (Lies.fresh _ _ _)).mono ?_; rintro e w8 ⟨rfl, hb8⟩; have D8 := Lib.hid (D7.out.trans (hb8.mono D7.out.size)); have D9 := Lib.hid (D8.out.alloc D8.out.size (.cells #[.int .u8 3, .int .u8 3, .int .u8 3, .int .u8 1, .int .u8 3] 5)); clear hb8)
    | (go_at_call 45; refine (HK.out _ _ _ _ ((S2.out.below D9.out).more D9.out.size) (Lies.fresh _ _ _)).mono ?_; rintro e w10 ⟨rfl, hb10⟩; have D10 := Lib.hid (D9.out.trans (hb10.mono D9.out.size)); have D11 := Lib.hid (D10.out.alloc D10.out.size (.cells #[.int .i64 0, .int .i64 4] 3)); clear hb10)
    | (go_at_call_of 25 (Value.slice A3 2 c3); refine (H2.out _ _ _ _ ((S3.out.below D11.out).more D11.out.size) (Lies.fresh _ _ _)).mono ?_; rintro e w12 ⟨rfl, hb12⟩; have D12 := Lib.hid (D11.out.trans (hb12.mono D11.out.size)); clear hb12))
  go_ret
  exact ⟨rfl, B6.out.trans (D12.out.mono B6.out.size)⟩
end Go.Proofs.Ytkjhofbjjogmlaa

/- ready, less. -/
namespace Go.Proofs.Ytkjhofbjjogmlaa
open Go.RowKit Go.Lib

set_option maxRecDepth 100000 in
set_option maxHeartbeats 4000000 in
theorem ready_any (r : RwM) (w : World) (hr : r.At w w.heap.size) : Calls Try.prog 38 #[.agg r.cells.toArray] w fun e w' => e = .returned (.bool (r.d.thin && decide (r.d.fault = 0))) ∧ Below w.heap.size w w' := by
  have l0 : Lies (w.alloc (.cells r.cells.toArray 26)) w.heap.size 26 r.cells.toArray := Lies.fresh _ _ _
  have b0 : Below w.heap.size w (w.alloc (.cells r.cells.toArray 26)) := (by repeat (first | (with_reducible assumption) | (with_reducible exact Below.refl _ _) | (with_reducible refine Below.drew ?_) | (with_reducible refine below_drewN ?_ _) | ((with_reducible refine Below.setCell ?_ ?_ _); rotate_left; focus (first | (simp; done) | (simp; omega) | omega)) | ((with_reducible refine Below.alloc ?_ ?_ _); rotate_left; focus (first | (simp; done) | (simp; omega) | omega))))
  have hT := fun W => Thin_any r W (by have := hr.lw; unfold maxLen; omega) (by have := hr.ln; unfold maxLen; omega) (by have := hr.ld; unfold maxLen; omega)
  have hF := fun W (hb : Below w.heap.size w W) => refFault_any r W (hr.below hb hb.size)
  generalize r.d.thin = y at *
  generalize r.d.fault = ft at *
  have HT := Lib.hid hT
  have HF := Lib.hid hF
  have L0 := Lib.hid l0
  have B0 := Lib.hid b0
  clear hT hF l0 b0 hr
  cases y with
  | false =>
    go_enter Try.func38, Try.ntmps38
    go_upto_region 1 with (fail)
    change Code.wp _ _ _ _ (w.alloc (.cells r.cells.toArray 26))
    generalize w.alloc (.cells r.cells.toArray 26) = w0 at *
    go_wp2_with (first
      | (refine wpList_load_row (o := ⟨some 3, _, _, _, _, _⟩) ?_ 26 (.tmp 1) ?_ w.heap.size ?_ 26 r.cells.toArray (0, 0) _ L0.out Try.underlying26 rfl size_refrow ?_; rfl; rfl; rfl)
      | (go_at_call 44; refine (HT.out _).mono ?_; rintro e w1 ⟨rfl, hb1⟩))
    go_ret
    exact ⟨rfl, B0.out.trans (hb1.mono B0.out.size)⟩
  | true =>
    by_cases h0 : ft = 0
    · have hd : (ft == 0) = true := by simpa using h0
      have HD := Lib.hid (show decide (ft = 0) = true by simpa using h0)
      clear h0
      go_enter Try.func38, Try.ntmps38
      go_upto_region 1 with (fail)
      change Code.wp _ _ _ _ (w.alloc (.cells r.cells.toArray 26))
      generalize w.alloc (.cells r.cells.toArray 26) = w0 at *
      go_wp2_with (first
        | (refine wpList_load_row (o := ⟨some 3, _, _, _, _, _⟩) ?_ 26 (.tmp 1) ?_ w.heap.size ?_ 26 r.cells.toArray (0, 0) _ L0.out Try.underlying26 rfl size_refrow ?_; rfl; rfl; rfl)
        | (go_at_call 44; refine (HT.out _).mono ?_; rintro e w1 ⟨rfl, hb1⟩; have B1 := Lib.hid (B0.out.trans (hb1.mono B0.out.size)); have L1 := Lib.hid (L0.out.call hb1))
        | (refine wpList_load_rowG (o := ⟨some 6, _, _, _, _, _⟩) ?_ 26 (.tmp 1) ?_ w.heap.size ?_ 26 r.cells.toArray (0, 0) _ L1.out Try.underlying26 rfl size_refrow ?_; kernel_rfl; rfl; rfl)
        | (go_at_call 22; refine (HF.out _ B1.out).mono ?_; rintro e w2 ⟨rfl, hb2⟩))
      go_ret
      exact ⟨ret_bool (by rw [HD.out]; rfl), B1.out.trans (hb2.mono B1.out.size)⟩
    · have hd : (ft == 0) = false := by simpa using h0
      have HD := Lib.hid (show decide (ft = 0) = false by simpa using h0)
      clear h0
      go_enter Try.func38, Try.ntmps38
      go_upto_region 1 with (fail)
      change Code.wp _ _ _ _ (w.alloc (.cells r.cells.toArray 26))
      generalize w.alloc (.cells r.cells.toArray 26) = w0 at *
      go_wp2_with (first
        | (refine wpList_load_row (o := ⟨some 3, _, _, _, _, _⟩) ?_ 26 (.tmp 1) ?_ w.heap.size ?_ 26 r.cells.toArray (0, 0) _ L0.out Try.underlying26 rfl size_refrow ?_; rfl; rfl; rfl)
        | (go_at_call 44; refine (HT.out _).mono ?_; rintro e w1 ⟨rfl, hb1⟩; have B1 := Lib.hid (B0.out.trans (hb1.mono B0.out.size)); have L1 := Lib.hid (L0.out.call hb1))
        | (refine wpList_load_rowG (o := ⟨some 6, _, _, _, _, _⟩) ?_ 26 (.tmp 1) ?_ w.heap.size ?_ 26 r.cells.toArray (0, 0) _ L1.out Try.underlying26 rfl size_refrow ?_; kernel_rfl; rfl; rfl)
        | (go_at_call 22; refine (HF.out _ B1.out).mono ?_; rintro e w2 ⟨rfl, hb2⟩))
      go_ret
      exact ⟨ret_bool (by rw [HD.out]; rfl), B1.out.trans (hb2.mono B1.out.size)⟩
/-- A row of few weeks, notes and plants. -/
structure ThinM (r : RwM) : Prop where
  w : r.ws.l.length ≤ 35
  n : r.ns.l.length ≤ 45
  d : r.dug.l.length ≤ 15
  nn : r.dug.A = none → r.dug.l.length = 0 ∧ r.dug.c = 0
theorem lawRow_thin (r : RwM) (w : World) (hr : r.At w w.heap.size) (ht : ThinM r) : Calls Try.prog 18 #[.agg r.cells.toArray] w (RetRow r w) := lawRow_any r w hr ht.w ht.n ht.d ht.nn
/-- First of a row from Row. -/
theorem First_of {r q : RwM} {w W : World} (hq : LawR r w q W) (hb : r.d.err = 0) : Calls Try.prog 19 #[.agg q.cells.toArray] W (RetE r.d.firstD W) := by
  have := First_yes q W hq.at_ (by rw [hq.d]; exact hb)
  rwa [hq.d] at this
theorem First_of_no {r q : RwM} {w W : World} (hq : LawR r w q W) (hb : r.d.err ≠ 0) : Calls Try.prog 19 #[.agg q.cells.toArray] W (NoE r.d.err W) := by
  have := First_no q W hq.at_ (by rw [hq.d]; exact hb)
  rwa [hq.d] at this
theorem firstD_length (r : RwD) (h : r.dug.length ≤ 10) : r.firstD.length = r.dug.length := by
  unfold RwD.firstD
  rw [List.length_map, List.length_take, show r.earliest.length = 10 from earliest_ok.len]
  omega
set_option maxRecDepth 100000 in
set_option maxHeartbeats 8000000 in
theorem less_sick_yes (a b : RwM) (w : World) (ha : a.At w w.heap.size) (hb : b.At w w.heap.size) (hta : ThinM a) (htb : ThinM b) (hea : a.d.err = 0) (heb : b.d.err = 10) : Calls Try.prog 41 #[.agg a.cells.toArray, .agg b.cells.toArray] w fun e w' => e = .returned (.bool true) ∧ Below w.heap.size w w' := by
  have l0 : Lies ((w.alloc (.cells a.cells.toArray 26)).alloc (.cells b.cells.toArray 26)) w.heap.size 26 a.cells.toArray := (Lies.fresh _ _ _).alloc _
  have l1 : Lies ((w.alloc (.cells a.cells.toArray 26)).alloc (.cells b.cells.toArray 26)) (w.heap.size + 1) 26 b.cells.toArray := Lies.fresh' (by simp)
  have b0 : Below w.heap.size w ((w.alloc (.cells a.cells.toArray 26)).alloc (.cells b.cells.toArray 26)) := (by repeat (first | (with_reducible assumption) | (with_reducible exact Below.refl _ _) | (with_reducible refine Below.drew ?_) | (with_reducible refine below_drewN ?_ _) | ((with_reducible refine Below.setCell ?_ ?_ _); rotate_left; focus (first | (simp; done) | (simp; omega) | omega)) | ((with_reducible refine Below.alloc ?_ ?_ _); rotate_left; focus (first | (simp; done) | (simp; omega) | omega))))
  have ra := fun W (h : Below w.heap.size w W) => lawRow_thin a W (ha.below h h.size) hta
  have rb := fun W (h : Below w.heap.size w W) => lawRow_thin b W (hb.below h h.size) htb
  have fb := fun q w0 W (h : LawR b w0 q W) => First_of_no h (by rw [heb]; decide)
  rw [heb] at fb
  have fa := fun q w0 W (h : LawR a w0 q W) => First_of h hea
  generalize a.d.firstD = la at *
  have L0 := Lib.hid l0
  have L1 := Lib.hid l1
  have B0 := Lib.hid b0
  have RA := Lib.hid ra
  have RB := Lib.hid rb
  have FA := Lib.hid fa
  have FB := Lib.hid fb
  clear l0 l1 b0 ra rb fa fb ha hb hta htb hea heb
  go_enter Try.func41, Try.ntmps41
  go_upto_region 1 with (fail)
  change Code.wp _ _ _ _ ((w.alloc (.cells a.cells.toArray 26)).alloc (.cells b.cells.toArray 26))
  generalize (w.alloc (.cells a.cells.toArray 26)).alloc (.cells b.cells.toArray 26) = w0 at *
  go_upto_region 2 with (first
    | (refine wpList_load_row (o := ⟨some 11, _, _, _, _, _⟩) ?_ 26 (.tmp 2) ?_ w.heap.size ?_ 26 a.cells.toArray (0, 0) _ L0.out Try.underlying26 rfl size_refrow ?_; rfl; rfl; rfl)
    | (go_at_call_of 18 (Value.agg a.cells.toArray); refine (RA.out _ B0.out).mono ?_; rintro e w1 ⟨qa, rfl, hqa⟩)
    | (go_at_call_of 19 (Value.agg qa.cells.toArray); refine (FA.out qa _ _ hqa).mono ?_; rintro e w2 ⟨Aa, ca, rfl, hAa, hSa, hba⟩))
  have hba2 := hqa.b.trans (hba.mono hqa.b.size)
  have B2 := Lib.hid (B0.out.trans (hba2.mono B0.out.size))
  have L2 := Lib.hid (L1.out.call hba2)
  clear hba hba2 hqa L0 L1 B0
  go_wp2_with (first
    | (refine wpList_load_row (o := ⟨some 17, _, _, _, _, _⟩) ?_ 26 (.tmp 3) ?_ (w.heap.size + 1) ?_ 26 b.cells.toArray (0, 0) _ L2.out Try.underlying26 rfl size_refrow ?_; rfl; rfl; rfl)
    | (go_at_call_of 18 (Value.agg b.cells.toArray); refine (RB.out _ B2.out).mono ?_; rintro e w3 ⟨qb, rfl, hqb⟩)
    | (go_at_call_of 19 (Value.agg qb.cells.toArray); refine (FB.out qb _ _ hqb).mono ?_; rintro e w4 ⟨rfl, hbb⟩))
  go_ret
  exact ⟨rfl, B2.out.trans ((hqb.b.trans (hbb.mono hqb.b.size)).mono B2.out.size)⟩
set_option maxRecDepth 100000 in
set_option maxHeartbeats 8000000 in
theorem less_sick_no (a b : RwM) (w : World) (ha : a.At w w.heap.size) (hb : b.At w w.heap.size) (hta : ThinM a) (htb : ThinM b) (hea : a.d.err = 10) (heb : b.d.err = 10) : Calls Try.prog 41 #[.agg a.cells.toArray, .agg b.cells.toArray] w fun e w' => e = .returned (.bool true) ∧ Below w.heap.size w w' := by
  have l0 : Lies ((w.alloc (.cells a.cells.toArray 26)).alloc (.cells b.cells.toArray 26)) w.heap.size 26 a.cells.toArray := (Lies.fresh _ _ _).alloc _
  have l1 : Lies ((w.alloc (.cells a.cells.toArray 26)).alloc (.cells b.cells.toArray 26)) (w.heap.size + 1) 26 b.cells.toArray := Lies.fresh' (by simp)
  have b0 : Below w.heap.size w ((w.alloc (.cells a.cells.toArray 26)).alloc (.cells b.cells.toArray 26)) := (by repeat (first | (with_reducible assumption) | (with_reducible exact Below.refl _ _) | (with_reducible refine Below.drew ?_) | (with_reducible refine below_drewN ?_ _) | ((with_reducible refine Below.setCell ?_ ?_ _); rotate_left; focus (first | (simp; done) | (simp; omega) | omega)) | ((with_reducible refine Below.alloc ?_ ?_ _); rotate_left; focus (first | (simp; done) | (simp; omega) | omega))))
  have ra := fun W (h : Below w.heap.size w W) => lawRow_thin a W (ha.below h h.size) hta
  have rb := fun W (h : Below w.heap.size w W) => lawRow_thin b W (hb.below h h.size) htb
  have fb := fun q w0 W (h : LawR b w0 q W) => First_of_no h (by rw [heb]; decide)
  rw [heb] at fb
  have fa := fun q w0 W (h : LawR a w0 q W) => First_of_no h (by rw [hea]; decide)
  rw [hea] at fa
  have L0 := Lib.hid l0
  have L1 := Lib.hid l1
  have B0 := Lib.hid b0
  have RA := Lib.hid ra
  have RB := Lib.hid rb
  have FA := Lib.hid fa
  have FB := Lib.hid fb
  clear l0 l1 b0 ra rb fa fb ha hb hta htb hea heb
  go_enter Try.func41, Try.ntmps41
  go_upto_region 1 with (fail)
  change Code.wp _ _ _ _ ((w.alloc (.cells a.cells.toArray 26)).alloc (.cells b.cells.toArray 26))
  generalize (w.alloc (.cells a.cells.toArray 26)).alloc (.cells b.cells.toArray 26) = w0 at *
  go_upto_region 2 with (first
    | (refine wpList_load_row (o := ⟨some 11, _, _, _, _, _⟩) ?_ 26 (.tmp 2) ?_ w.heap.size ?_ 26 a.cells.toArray (0, 0) _ L0.out Try.underlying26 rfl size_refrow ?_; rfl; rfl; rfl)
    | (go_at_call_of 18 (Value.agg a.cells.toArray); refine (RA.out _ B0.out).mono ?_; rintro e w1 ⟨qa, rfl, hqa⟩)
    | (go_at_call_of 19 (Value.agg qa.cells.toArray); refine (FA.out qa _ _ hqa).mono ?_; rintro e w2 ⟨rfl, hba⟩))
  have hba2 := hqa.b.trans (hba.mono hqa.b.size)
  have B2 := Lib.hid (B0.out.trans (hba2.mono B0.out.size))
  have L2 := Lib.hid (L1.out.call hba2)
  clear hba hba2 hqa L0 L1 B0
  go_wp2_with (first
    | (refine wpList_load_row (o := ⟨some 17, _, _, _, _, _⟩) ?_ 26 (.tmp 3) ?_ (w.heap.size + 1) ?_ 26 b.cells.toArray (0, 0) _ L2.out Try.underlying26 rfl size_refrow ?_; rfl; rfl; rfl)
    | (go_at_call_of 18 (Value.agg b.cells.toArray); refine (RB.out _ B2.out).mono ?_; rintro e w3 ⟨qb, rfl, hqb⟩)
    | (go_at_call_of 19 (Value.agg qb.cells.toArray); refine (FB.out qb _ _ hqb).mono ?_; rintro e w4 ⟨rfl, hbb⟩))
  go_ret
  exact ⟨rfl, B2.out.trans ((hqb.b.trans (hbb.mono hqb.b.size)).mono B2.out.size)⟩
set_option maxRecDepth 100000 in
set_option maxHeartbeats 8000000 in
theorem less_both (a b : RwM) (w : World) (ha : a.At w w.heap.size) (hb : b.At w w.heap.size) (hta : ThinM a) (htb : ThinM b) (hea : a.d.err = 0) (heb : b.d.err = 0) (hna : (a.d.firstD.length : Int) = a.n) (hnb : (b.d.firstD.length : Int) = a.n) (h10 : a.n ≤ 10) (hle : ∀ (k : Nat) (x y : Int), a.d.firstD[k]? = some x → b.d.firstD[k]? = some y → y < 0 ∨ (0 ≤ x ∧ x ≤ y)) : Calls Try.prog 41 #[.agg a.cells.toArray, .agg b.cells.toArray] w fun e w' => e = .returned (.bool true) ∧ Below w.heap.size w w' := by
  have l0 : Lies ((w.alloc (.cells a.cells.toArray 26)).alloc (.cells b.cells.toArray 26)) w.heap.size 26 a.cells.toArray := (Lies.fresh _ _ _).alloc _
  have l1 : Lies ((w.alloc (.cells a.cells.toArray 26)).alloc (.cells b.cells.toArray 26)) (w.heap.size + 1) 26 b.cells.toArray := Lies.fresh' (by simp)
  have b0 : Below w.heap.size w ((w.alloc (.cells a.cells.toArray 26)).alloc (.cells b.cells.toArray 26)) := (by repeat (first | (with_reducible assumption) | (with_reducible exact Below.refl _ _) | (with_reducible refine Below.drew ?_) | (with_reducible refine below_drewN ?_ _) | ((with_reducible refine Below.setCell ?_ ?_ _); rotate_left; focus (first | (simp; done) | (simp; omega) | omega)) | ((with_reducible refine Below.alloc ?_ ?_ _); rotate_left; focus (first | (simp; done) | (simp; omega) | omega))))
  have ra := fun W (h : Below w.heap.size w W) => lawRow_thin a W (ha.below h h.size) hta
  have rb := fun W (h : Below w.heap.size w W) => lawRow_thin b W (hb.below h h.size) htb
  have fa := fun q w0 W (h : LawR a w0 q W) => First_of h hea
  have fb := fun q w0 W (h : LawR b w0 q W) => First_of h heb
  generalize a.d.firstD = la at *
  generalize b.d.firstD = lb at *
  have L0 := Lib.hid l0
  have L1 := Lib.hid l1
  have B0 := Lib.hid b0
  have RA := Lib.hid ra
  have RB := Lib.hid rb
  have FA := Lib.hid fa
  have FB := Lib.hid fb
  have HLE := Lib.hid hle
  have hlaz : (la.length : Int) ≤ 10 := by omega
  have hlbz : (lb.length : Int) ≤ 10 := by omega
  have hla : ((la.length : Int) != a.n) = false := by simpa using hna
  have hlb : ((lb.length : Int) != a.n) = false := by simpa using hnb
  have HNA := Lib.hid hna
  have HNB := Lib.hid hnb
  clear l0 l1 b0 ra rb fa fb ha hb hta htb hea heb hle hna hnb
  go_enter Try.func41, Try.ntmps41
  go_upto_region 1 with (fail)
  change Code.wp _ _ _ _ ((w.alloc (.cells a.cells.toArray 26)).alloc (.cells b.cells.toArray 26))
  generalize (w.alloc (.cells a.cells.toArray 26)).alloc (.cells b.cells.toArray 26) = w0 at *
  go_upto_region 2 with (first
    | (refine wpList_load_row (o := ⟨some 11, _, _, _, _, _⟩) ?_ 26 (.tmp 2) ?_ w.heap.size ?_ 26 a.cells.toArray (0, 0) _ L0.out Try.underlying26 rfl size_refrow ?_; rfl; rfl; rfl)
    | (go_at_call_of 18 (Value.agg a.cells.toArray); refine (RA.out _ B0.out).mono ?_; rintro e w1 ⟨qa, rfl, hqa⟩)
    | (go_at_call_of 19 (Value.agg qa.cells.toArray); refine (FA.out qa _ _ hqa).mono ?_; rintro e w2 ⟨Aa, ca, rfl, hAa, hSa, hba⟩))
  have hba2 := hqa.b.trans (hba.mono hqa.b.size)
  have B2 := Lib.hid (B0.out.trans (hba2.mono B0.out.size))
  have L2 := Lib.hid (L1.out.call hba2)
  have K2 := Lib.hid (L0.out.call hba2)
  have SA := Lib.hid hSa
  clear hba hba2 hqa L0 L1 B0 hSa hAa
  go_upto_region 3 with (first
    | (refine wpList_load_row (o := ⟨some 17, _, _, _, _, _⟩) ?_ 26 (.tmp 3) ?_ (w.heap.size + 1) ?_ 26 b.cells.toArray (0, 0) _ L2.out Try.underlying26 rfl size_refrow ?_; rfl; rfl; rfl)
    | (go_at_call_of 18 (Value.agg b.cells.toArray); refine (RB.out _ B2.out).mono ?_; rintro e w3 ⟨qb, rfl, hqb⟩)
    | (go_at_call_of 19 (Value.agg qb.cells.toArray); refine (FB.out qb _ _ hqb).mono ?_; rintro e w4 ⟨Ab, cb, rfl, hAb, hSb, hbb⟩))
  have hbb2 := hqb.b.trans (hbb.mono hqb.b.size)
  have B4 := Lib.hid (B2.out.trans (hbb2.mono B2.out.size))
  have K4 := Lib.hid (K2.out.call hbb2)
  have SA4 := Lib.hid ((SA.out.below hbb2).more hbb2.size)
  have SB4 := Lib.hid hSb
  clear hbb hbb2 hqb L2 K2 B2 SA hSb hAb RA RB FA FB
  have a0 : w4.cell? ⟨w.heap.size, 0, none⟩ = some (.int .i64 a.n) := K4.out.at_ 0
  go_wp2
  clear a0 hla hlb
  go_loopw [9] (fun s9 wr => ∃ k : Nat, k ≤ la.length ∧ s9 = .int .i64 k ∧ Aside (Below w4.heap.size w4 wr)) (fun i _ => la.length - (intOf i).toNat)
  case atStart => exact ⟨0, by omega, rfl, Below.refl _ _⟩
  case round =>
    obtain ⟨k, hk, rfl, HB⟩ := hrel
    have hna := HNA.out
    have hnb := HNB.out
    have c0 : wr.cell? ⟨w.heap.size, 0, none⟩ = some (.int .i64 a.n) := (K4.out.call HB.out).at_ 0
    by_cases hlt : k < la.length
    · have hltz : (k : Int) < a.n := by omega
      have hlta : (k : Int) < (la.length : Int) := by omega
      have hltb : (k : Int) < (lb.length : Int) := by omega
      have hk0 : (0 : Int) ≤ (k : Int) := by omega
      obtain ⟨x, hx⟩ : ∃ x, la[k]? = some x := ⟨la[k], by simp [hlt]⟩
      obtain ⟨y, hy⟩ : ∃ y, lb[k]? = some y := ⟨lb[k]'(by omega), by simp⟩
      have hxy := HLE.out k x y hx hy
      obtain ⟨b1, o1, e1, hb1, p1⟩ := SA4.out.cell1 hx
      obtain ⟨b2, o2, e2, hb2, p2⟩ := SB4.out.cell1 hy
      have r1 := cell_regrown ((HB.out.cell (p := ⟨b1, o1 + k, none⟩) hb1).trans p1)
      have r2 := cell_regrown ((HB.out.cell (p := ⟨b2, o2 + k, none⟩) hb2).trans p2)
      clear hx hy p1 p2 hna hnb
      go_upto_region 10 with (fail)
      clear c0
      subst e1 e2
      rcases hxy with h1 | ⟨h1, h2⟩
      · have d1 : decide (0 ≤ y) = false := by simp; omega
        refine wp_region_quiet_below (by kernel_rfl) (by kernel_rfl) ?_; (repeat (first | go_big_quiet_step ((fail)) | quiet_step ((fail)))); refine wpQuiet_nil ?_; intro wq hwq; have hbq : Below _ _ wq := (by obtain ⟨p, rfl⟩ := hwq; exact below_regrown _ _ _); clear hwq
        clear r1 r2
        go_wp2
        go_roundw
        case rel => exact ⟨k + 1, by omega, by go_num, HB.out.trans (hbq.mono HB.out.size)⟩
        case measure => simp [intOf]; omega
      · have d2 : decide (x < 0) = false := by simp; omega
        have d3 : decide (y < x) = false := by simp; omega
        by_cases h0 : 0 ≤ y
        · have d1 : decide (0 ≤ y) = true := by simpa using h0
          refine wp_region_quiet_below (by kernel_rfl) (by kernel_rfl) ?_; (repeat (first | go_big_quiet_step ((fail)) | quiet_step ((fail)))); refine wpQuiet_nil ?_; intro wq hwq; have hbq : Below _ _ wq := (by obtain ⟨p, rfl⟩ := hwq; exact below_regrown _ _ _); clear hwq
          clear r1 r2
          go_wp2
          go_roundw
          case rel => exact ⟨k + 1, by omega, by go_num, HB.out.trans (hbq.mono HB.out.size)⟩
          case measure => simp [intOf]; omega
        · omega
    · obtain rfl : k = la.length := by omega
      have hge : ¬ ((la.length : Int) < a.n) := by omega
      go_wp2
      go_ret
      exact ⟨rfl, B4.out.trans (HB.out.mono B4.out.size)⟩
end Go.Proofs.Ytkjhofbjjogmlaa

/- IllDug's walk. -/
namespace Go.Proofs.Ytkjhofbjjogmlaa
open Go.RowKit Go.Lib

/-- A row as it comes in. -/
structure OpenRow (r : RwM) (w : World) : Prop where
  ws : Sl w w.heap.size 2 encW r.ws.A r.ws.l
  dug : Sl w w.heap.size 1 encI r.dug.A r.dug.l
  ns : Sl w w.heap.size 4 encN r.ns.A r.ns.l
  lw : r.ws.l.length ≤ maxLen
  ld : r.dug.l.length ≤ maxLen
  ln : r.ns.l.length ≤ maxLen
  kn : ∀ x, x ∈ r.ns.l → 0 ≤ x.k ∧ x.k ≤ 255
  nn : r.dug.A = none → r.dug.l.length = 0 ∧ r.dug.c = 0
  wn : r.ws.A = none → r.ws.l.length = 0 ∧ r.ws.c = 0
  nsn : r.ns.A = none → r.ns.l.length = 0 ∧ r.ns.c = 0
theorem OpenRow.thin {r : RwM} {w : World} (h : OpenRow r w) (ht : r.d.thin = true) : r.At w w.heap.size ∧ ThinM r := by
  unfold RwD.thin at ht
  simp only [Bool.and_eq_true, decide_eq_true_eq] at ht
  obtain ⟨⟨h1, h2⟩, h3⟩ := ht
  have h1' : r.ws.l.length ≤ 35 := h1
  have h2' : r.ns.l.length ≤ 45 := h2
  have h3' : r.dug.l.length ≤ 15 := h3
  exact ⟨⟨h.ws, h.dug, h.ns, by omega, by omega, by omega, h.kn⟩, ⟨h1', h2', h3', h.nn⟩⟩
set_option maxRecDepth 100000 in
set_option maxHeartbeats 4000000 in
theorem ready_thick (r : RwM) (w : World) (hw : r.ws.l.length ≤ maxLen) (hn : r.ns.l.length ≤ maxLen) (hd : r.dug.l.length ≤ maxLen) (ht : r.d.thin = false) : Calls Try.prog 38 #[.agg r.cells.toArray] w fun e w' => e = .returned (.bool false) ∧ Below w.heap.size w w' := by
  have l0 : Lies (w.alloc (.cells r.cells.toArray 26)) w.heap.size 26 r.cells.toArray := Lies.fresh _ _ _
  have b0 : Below w.heap.size w (w.alloc (.cells r.cells.toArray 26)) := (by repeat (first | (with_reducible assumption) | (with_reducible exact Below.refl _ _) | (with_reducible refine Below.drew ?_) | (with_reducible refine below_drewN ?_ _) | ((with_reducible refine Below.setCell ?_ ?_ _); rotate_left; focus (first | (simp; done) | (simp; omega) | omega)) | ((with_reducible refine Below.alloc ?_ ?_ _); rotate_left; focus (first | (simp; done) | (simp; omega) | omega))))
  have hT := fun W => Thin_any r W hw hn hd
  rw [ht] at hT
  have HT := Lib.hid hT
  have L0 := Lib.hid l0
  have B0 := Lib.hid b0
  clear hT l0 b0 ht hw hn hd
  go_enter Try.func38, Try.ntmps38
  go_upto_region 1 with (fail)
  change Code.wp _ _ _ _ (w.alloc (.cells r.cells.toArray 26))
  generalize w.alloc (.cells r.cells.toArray 26) = w0 at *
  go_wp2_with (first
    | (refine wpList_load_row (o := ⟨some 3, _, _, _, _, _⟩) ?_ 26 (.tmp 1) ?_ w.heap.size ?_ 26 r.cells.toArray (0, 0) _ L0.out Try.underlying26 rfl size_refrow ?_; rfl; rfl; rfl)
    | (go_at_call 44; refine (HT.out _).mono ?_; rintro e w1 ⟨rfl, hb1⟩))
  go_ret
  exact ⟨rfl, B0.out.trans (hb1.mono B0.out.size)⟩
/-- ready, of a row that came in: the answer no. -/
theorem ready_no {r : RwM} {w : World} (h : OpenRow r w) (hy : (r.d.thin && decide (r.d.fault = 0)) = false) {W : World} (hb : Below w.heap.size w W) : Calls Try.prog 38 #[.agg r.cells.toArray] W fun e w' => e = .returned (.bool false) ∧ Below W.heap.size W w' := by
  cases ht : r.d.thin with
  | false => exact ready_thick r W h.lw h.ln h.ld ht
  | true =>
    have := ready_any r W ((h.thin ht).1.below hb hb.size)
    rwa [hy] at this
theorem own_set1 {w : World} {base : Nat} {e : TypeId} {A : Option Addr} {c p : Nat} {l : List Int} (h : w.ownsRow base e 1 (.slice A l.length c) l.length (l.flatMap encI)) (hp : p < l.length) :
    ∃ g, A = some ⟨g, 0, none⟩ ∧ base ≤ g ∧ g < w.heap.size ∧ (∃ y, w.cell? ⟨g, p, none⟩ = some (.int .i64 y)) ∧ w.frozen? ⟨g, p, none⟩ = false ∧ ∀ x, Sl (w.setCell ⟨g, p, none⟩ (.int .i64 x)) w.heap.size 1 encI A (l.set p x) := by
  obtain ⟨A', c', e1, -, hS⟩ := Sl.of_own (enc := encI) (fun _ => rfl) h rfl
  cases e1
  rcases h.2 with ⟨hv, h0⟩ | ⟨g, cap, cur, hv, hbg, hgg, hnc, hcm, hcs, htake⟩
  · omega
  · cases hv
    have hl : Lies w g e cur := hgg
    have hg := hl.in_
    have hcell : ∀ i x, l[i]? = some x → w.cell? ⟨g, i, none⟩ = some (.int .i64 x) := fun i x hx => by
      obtain ⟨b, off, e2, _, hc⟩ := hS.cell1 hx
      cases e2
      simpa using hc
    refine ⟨g, rfl, hbg, hg, ⟨_, hcell p _ (List.getElem?_eq_getElem hp)⟩, hl.free p, fun x => ?_⟩
    intro hne
    refine ⟨g, 0, rfl, hg, fun i y hy j u hu => ?_⟩
    obtain rfl : j = 0 := by
      have := (List.getElem?_eq_some_iff.1 hu).1
      simp [encI] at this; exact this
    have hu' : u = .int .i64 y := by simpa [encI] using hu.symm
    subst hu'
    rw [List.getElem?_set] at hy
    simp only [Nat.zero_add, Nat.mul_one, Nat.add_zero]
    by_cases e2 : p = i
    · subst e2
      rw [if_pos rfl, if_pos hp] at hy
      cases hy
      exact World.cell?_setCell_same _ _ _ (hcell p _ (List.getElem?_eq_getElem hp))
    · rw [if_neg e2] at hy
      rw [World.cell?_setCell_other (h := fun h => e2 (by simpa using congrArg Addr.off h))]
      exact hcell i y hy
/-- The plant and the week that the words name. -/
def dugP (r : RwM) (pl : Nat) : Nat := pl % r.dug.l.length
def dugW (r : RwM) (wk : Nat) : Nat := 1 + wk % r.ws.l.length
set_option maxRecDepth 100000 in
set_option maxHeartbeats 8000000 in
theorem IllDug_unready (r : RwM) (pl wk : Nat) (w : World) (h : OpenRow r w) (hy : (r.d.thin && decide (r.d.fault = 0)) = false) : Calls Try.prog 11 #[.agg r.cells.toArray, .int .u8 pl, .int .u8 wk] w fun e w' => e = .returned (.bool true) ∧ Below w.heap.size w w' := by
  have l0 : Lies (w.alloc (.cells r.cells.toArray 26)) w.heap.size 26 r.cells.toArray := Lies.fresh _ _ _
  have b0 : Below w.heap.size w (w.alloc (.cells r.cells.toArray 26)) := (by repeat (first | (with_reducible assumption) | (with_reducible exact Below.refl _ _) | (with_reducible refine Below.drew ?_) | (with_reducible refine below_drewN ?_ _) | ((with_reducible refine Below.setCell ?_ ?_ _); rotate_left; focus (first | (simp; done) | (simp; omega) | omega)) | ((with_reducible refine Below.alloc ?_ ?_ _); rotate_left; focus (first | (simp; done) | (simp; omega) | omega))))
  have hR := fun W hb => ready_no h hy (W := W) hb
  have HR := Lib.hid hR
  have L0 := Lib.hid l0
  have B0 := Lib.hid b0
  clear hR l0 b0 hy h
  go_enter Try.func11, Try.ntmps11
  go_upto_region 1 with (fail)
  change Code.wp _ _ _ _ (w.alloc (.cells r.cells.toArray 26))
  generalize w.alloc (.cells r.cells.toArray 26) = w0 at *
  go_wp2_with (first
    | (refine wpList_load_row (o := ⟨some 10, _, _, _, _, _⟩) ?_ 26 (.tmp 3) ?_ w.heap.size ?_ 26 r.cells.toArray (0, 0) _ L0.out Try.underlying26 rfl size_refrow ?_; rfl; rfl; rfl)
    | (go_at_call 38; refine (HR.out _ B0.out).mono ?_; rintro e w1 ⟨rfl, hb1⟩)
    | (go_at_call 16; refine (awake_any _).mono ?_; rintro e w2 ⟨rfl, hb2⟩))
  go_ret
  exact ⟨rfl, B0.out.trans ((hb1.trans (hb2.mono hb1.size)).mono B0.out.size)⟩
set_option maxRecDepth 100000 in
set_option maxHeartbeats 8000000 in
theorem IllDug_short (r : RwM) (pl wk : Nat) (w : World) (hr : r.At w w.heap.size) (hy : (r.d.thin && decide (r.d.fault = 0)) = true) (hz : r.ws.l.length = 0) : Calls Try.prog 11 #[.agg r.cells.toArray, .int .u8 pl, .int .u8 wk] w fun e w' => e = .returned (.bool true) ∧ Below w.heap.size w w' := by
  have l0 : Lies (w.alloc (.cells r.cells.toArray 26)) w.heap.size 26 r.cells.toArray := Lies.fresh _ _ _
  have b0 : Below w.heap.size w (w.alloc (.cells r.cells.toArray 26)) := (by repeat (first | (with_reducible assumption) | (with_reducible exact Below.refl _ _) | (with_reducible refine Below.drew ?_) | (with_reducible refine below_drewN ?_ _) | ((with_reducible refine Below.setCell ?_ ?_ _); rotate_left; focus (first | (simp; done) | (simp; omega) | omega)) | ((with_reducible refine Below.alloc ?_ ?_ _); rotate_left; focus (first | (simp; done) | (simp; omega) | omega))))
  have hR := fun W (hb : Below w.heap.size w W) => ready_any r W (hr.below hb hb.size)
  rw [hy] at hR
  have HR := Lib.hid hR
  have L0 := Lib.hid l0
  have B0 := Lib.hid b0
  have hz0 : ((r.ws.l.length : Int) == 0) = true := by simp [hz]
  clear hR l0 b0 hy hr hz
  go_enter Try.func11, Try.ntmps11
  go_upto_region 1 with (fail)
  change Code.wp _ _ _ _ (w.alloc (.cells r.cells.toArray 26))
  generalize w.alloc (.cells r.cells.toArray 26) = w0 at *
  go_wp2_with (first
    | (refine wpList_load_row (o := ⟨some 10, _, _, _, _, _⟩) ?_ 26 (.tmp 3) ?_ w.heap.size ?_ 26 r.cells.toArray (0, 0) _ L0.out Try.underlying26 rfl size_refrow ?_; rfl; rfl; rfl)
    | (go_at_call 38; refine (HR.out _ B0.out).mono ?_; rintro e w1 ⟨rfl, hb1⟩; have a1 : w1.cell? ⟨w.heap.size, 1, none⟩ = some (.slice r.ws.A r.ws.l.length r.ws.c) := (L0.out.call hb1).at_ 1)
    | (go_at_call 16; refine (awake_any _).mono ?_; rintro e w2 ⟨rfl, hb2⟩))
  go_ret
  exact ⟨rfl, B0.out.trans ((hb1.trans (hb2.mono hb1.size)).mono B0.out.size)⟩
end Go.Proofs.Ytkjhofbjjogmlaa

/- IllDug's walk: rows that may be asked. -/
namespace Go.Proofs.Ytkjhofbjjogmlaa
open Go.RowKit Go.Lib

/-- The row with one plant dug earlier, its list in new memory. -/
def RwM.dugM (r : RwM) (A : Option Addr) (c p : Nat) (q : Int) : RwM := { r with dug := ⟨A, r.dug.l.set p q, c⟩ }
theorem dugM_d (r : RwM) (A : Option Addr) (c p : Nat) (q : Int) : (r.dugM A c p q).d = r.d.dugAt p q := rfl
theorem first_at {r : RwD} {k : Nat} {x : Int} (h10 : r.dug.length ≤ 10) (h : r.firstD[k]? = some x) : k < r.dug.length ∧ x = out31 (r.earliest.getD k 0) := by
  have hk : k < r.dug.length := by have := (List.getElem?_eq_some_iff.1 h).1; rwa [firstD_length r h10] at this
  refine ⟨hk, ?_⟩
  have := firstD_at r k hk h10
  rw [← this, List.getD, h]; rfl
theorem less_dug (r : RwM) (A : Option Addr) (c p : Nat) (q : Int) (w : World) (ha : r.At w w.heap.size) (hb : (r.dugM A c p q).At w w.heap.size) (hta : ThinM r) (htb : ThinM (r.dugM A c p q)) (hf : r.d.fault = 0) (hs : stB (r.d.dg p) q = true) (hq : 1 ≤ q) (hfx : (r.dugM A c p q).d.fault = 0) :
    Calls Try.prog 41 #[.agg r.cells.toArray, .agg (r.dugM A c p q).cells.toArray] w fun e w' => e = .returned (.bool true) ∧ Below w.heap.size w w' := by
  obtain ⟨hok, -, -, hlw, -⟩ := fault_ok hf
  obtain ⟨hokx, -, -, -, -⟩ := fault_ok hfx
  have h10 : r.d.dug.length ≤ 10 := by have := hok.dug; have := hok.n1; omega
  have h10x : (r.dugM A c p q).d.dug.length ≤ 10 := by have := hokx.dug; have := hokx.n1; omega
  cases hcx : (r.dugM A c p q).d.can with
  | false =>
    cases hcr : r.d.can with
    | true => exact less_sick_yes r _ w ha hb hta htb (err_ok hf hcr) (err_sick hfx hcx)
    | false => exact less_sick_no r _ w ha hb hta htb (err_sick hf hcr) (err_sick hfx hcx)
  | true =>
    obtain ⟨hcr, hle⟩ := dugAt_less hq hs hf hfx hcx
    refine less_both r _ w ha hb hta htb (err_ok hf hcr) (err_ok hfx hcx) ?_ ?_ hok.n1 fun k x y hx hy => ?_
    · rw [firstD_length _ h10]; exact hok.dug
    · rw [firstD_length _ h10x]; exact hokx.dug
    · obtain ⟨hk, rfl⟩ := first_at h10 hx
      obtain ⟨_, rfl⟩ := first_at h10x hy
      have b1 := (earliest_ok (r := r.d)).b k
      have b2 := (earliest_ok (r := (r.dugM A c p q).d)).b k
      have hw2 : (r.dugM A c p q).d.ws.length ≤ 30 := hlw
      exact out31_le (by omega) (by omega) (hle k hk)
set_option maxRecDepth 100000 in
set_option maxHeartbeats 8000000 in
theorem IllDug_main (r : RwM) (pl wk : Nat) (w : World) (hpl : pl ≤ 255) (hwk : wk ≤ 255) (hr : r.At w w.heap.size) (ht : ThinM r) (hy : (r.d.thin && decide (r.d.fault = 0)) = true) (hf : r.d.fault = 0) (hz : r.ws.l.length ≠ 0) : Calls Try.prog 11 #[.agg r.cells.toArray, .int .u8 pl, .int .u8 wk] w fun e w' => e = .returned (.bool true) ∧ Below w.heap.size w w' := by
  obtain ⟨hok, hns, hdg, hlw, hln⟩ := fault_ok hf
  have l0 : Lies (w.alloc (.cells r.cells.toArray 26)) w.heap.size 26 r.cells.toArray := Lies.fresh _ _ _
  have b0 : Below w.heap.size w (w.alloc (.cells r.cells.toArray 26)) := (by repeat (first | (with_reducible assumption) | (with_reducible exact Below.refl _ _) | (with_reducible refine Below.drew ?_) | (with_reducible refine below_drewN ?_ _) | ((with_reducible refine Below.setCell ?_ ?_ _); rotate_left; focus (first | (simp; done) | (simp; omega) | omega)) | ((with_reducible refine Below.alloc ?_ ?_ _); rotate_left; focus (first | (simp; done) | (simp; omega) | omega))))
  have hR := fun W (hb : Below w.heap.size w W) => ready_any r W (hr.below hb hb.size)
  rw [hy] at hR
  obtain ⟨N, hN⟩ : ∃ N, N = r.dug.l.length := ⟨_, rfl⟩
  obtain ⟨Y, hY⟩ : ∃ Y, Y = r.ws.l.length := ⟨_, rfl⟩
  have hnn : r.n = (N : Int) := by rw [hN]; exact hok.dug.symm
  have hN1 : 1 ≤ N := by have := hok.n0; have h2 : r.d.n = r.n := rfl; omega
  have hN10 : N ≤ 10 := by have := hok.n1; have h2 : r.d.n = r.n := rfl; omega
  have hY1 : 1 ≤ Y := by omega
  have hY30 : Y ≤ 30 := by have : r.ws.l.length ≤ 30 := hlw; omega
  have hpN : pl % N < r.dug.l.length := by rw [← hN]; exact Nat.mod_lt _ (by omega)
  have hS := fun W (hb : Below w.heap.size w W) => refStands_any r (pl % N) (r.d.dg (pl % N : Nat)) ((1 + wk % Y : Nat) : Int) W ((hr.dug.below hb).more hb.size) (by show r.dug.l[pl % N]? = some (r.dug.l.getD (pl % N) 0); simp [List.getD, hpN]) hr.ld
  have hYz : (Y : Int) ≤ 30 := by omega
  have hY0 : ((Y : Int) == 0) = false := by simp; omega
  have hY0' : (Y : Int) ≠ 0 := by omega
  have hN0' : (N : Int) ≠ 0 := by omega
  have hNz : (N : Int) ≤ 10 := by omega
  have hplz : (pl : Int) ≤ 255 := by omega
  have hwkz : (wk : Int) ≤ 255 := by omega
  have hm0 : (0 : Int) ≤ (wk : Int) % (Y : Int) := Int.emod_nonneg _ (by omega)
  have hm1 : (wk : Int) % (Y : Int) ≤ 255 := by have := Int.emod_lt_of_pos (wk : Int) (show (0 : Int) < Y by omega); omega
  have hn0 : (0 : Int) ≤ (pl : Int) % (N : Int) := Int.emod_nonneg _ (by omega)
  have hn1 : (pl : Int) % (N : Int) ≤ 255 := by have := Int.emod_lt_of_pos (pl : Int) (show (0 : Int) < N by omega); omega
  have HR := Lib.hid hR
  have HS := Lib.hid hS
  have L0 := Lib.hid l0
  have B0 := Lib.hid b0
  have HRR := Lib.hid hr
  have HT := Lib.hid ht
  have HF := Lib.hid hf
  have HNN := Lib.hid hnn
  have HNL := Lib.hid hN
  have HYL := Lib.hid hY
  clear hR hS l0 b0 hr ht hy hf hok hns hdg hlw hln hz hnn hpN hN hY
  go_enter Try.func11, Try.ntmps11
  go_upto_region 1 with (fail)
  change Code.wp _ _ _ _ (w.alloc (.cells r.cells.toArray 26))
  generalize w.alloc (.cells r.cells.toArray 26) = w0 at *
  go_upto_region 3 with (first
    | (refine wpList_load_row (o := ⟨some 10, _, _, _, _, _⟩) ?_ 26 (.tmp 3) ?_ w.heap.size ?_ 26 r.cells.toArray (0, 0) _ L0.out Try.underlying26 rfl size_refrow ?_; rfl; rfl; rfl)
    | (go_at_call 38; refine (HR.out _ B0.out).mono ?_; rintro e w1 ⟨rfl, hb1⟩; have L1 := Lib.hid (L0.out.call hb1); have B1 := Lib.hid (B0.out.trans (hb1.mono B0.out.size)); have a1 : w1.cell? ⟨w.heap.size, 1, none⟩ = some (.slice r.ws.A Y r.ws.c) := by rw [HYL.out]; exact L1.out.at_ 1))
  have a0 : w1.cell? ⟨w.heap.size, 0, none⟩ = some (.int .i64 N) := by rw [← HNN.out]; exact L1.out.at_ 0
  have r0 := cell_regrown a0
  have r1 := cell_regrown a1
  clear hb1 L0 B0 a0 a1
  refine wp_region_quiet_below (by kernel_rfl) (by kernel_rfl) ?_; (repeat (first | go_big_quiet_step ((fail)) | quiet_step ((fail)))); refine wpQuiet_nil ?_; intro wq hwq; have hbq : Below _ _ wq := (by obtain ⟨p, rfl⟩ := hwq; exact below_regrown _ _ _); clear hwq
  clear r0 r1
  go_upto_region 4 with (fail)
  obtain ⟨p, hp⟩ : ∃ p, p = pl % N := ⟨_, rfl⟩
  obtain ⟨q, hq⟩ : ∃ q, q = 1 + wk % Y := ⟨_, rfl⟩
  have hpN : p < N := by rw [hp]; exact Nat.mod_lt _ (by omega)
  have hqY : q ≤ Y := by rw [hq]; have := Nat.mod_lt wk (show 0 < Y by omega); omega
  have hq1 : 1 ≤ q := by omega
  rw [show (pl : Int) % (N : Int) = (p : Int) by rw [hp]; simp, show 1 + (wk : Int) % (Y : Int) = (q : Int) by rw [hq]; simp]
  rw [← hp, ← hq] at HS
  clear hm0 hm1 hn0 hn1 hp hq hpl hwk hplz hwkz
  have L2 := Lib.hid (L1.out.call hbq)
  have B2 := Lib.hid (B1.out.trans (hbq.mono B1.out.size))
  clear hbq L1 B1 HR
  generalize hsb : stB (r.d.dg (p : Int)) (q : Int) = sb at *
  have HSB := Lib.hid hsb
  clear hsb
  cases sb with
  | false =>
    go_wp2_with (first
      | (refine wpList_load_row (o := ⟨some 32, _, _, _, _, _⟩) ?_ 26 (.tmp 3) ?_ w.heap.size ?_ 26 r.cells.toArray (0, 0) _ L2.out Try.underlying26 rfl size_refrow ?_; rfl; rfl; rfl)
      | (go_at_call 42; refine (HS.out _ B2.out).mono ?_; rintro e w3 ⟨rfl, hb3⟩)
      | (go_at_call 16; refine (awake_any _).mono ?_; rintro e w4 ⟨rfl, hb4⟩))
    go_ret
    exact ⟨rfl, B2.out.trans ((hb3.trans (hb4.mono hb3.size)).mono B2.out.size)⟩
  | true =>
    go_upto_region 6 with (first
      | (refine wpList_load_row (o := ⟨some 32, _, _, _, _, _⟩) ?_ 26 (.tmp 3) ?_ w.heap.size ?_ 26 r.cells.toArray (0, 0) _ L2.out Try.underlying26 rfl size_refrow ?_; rfl; rfl; rfl)
      | (go_at_call 42; refine (HS.out _ B2.out).mono ?_; rintro e w3 ⟨rfl, hb3⟩))
    have L3 := Lib.hid (L2.out.call hb3)
    have B3 := Lib.hid (B2.out.trans (hb3.mono B2.out.size))
    clear hb3 L2 B2 HS
    have Z3 := Lib.hid (show Lies (w3.alloc (.cells zrow.toArray 26)) w3.heap.size 26 zrow.toArray from Lies.fresh _ _ _)
    go_upto_region 7 with (first
      | (refine wpList_load_row (o := ⟨some 38, _, _, _, _, _⟩) ?_ 26 (.tmp 3) ?_ w.heap.size ?_ 26 r.cells.toArray (0, 0) _ L3.out Try.underlying26 rfl size_refrow ?_; rfl; rfl; rfl)
      | (refine wpList_store_cells (o := ⟨none, .store 26 (.tmp 9) _, _, _, _, _⟩) ?_ 26 (.tmp 9) (.tmp 38) ?_ w3.heap.size 0 ?_ 26 zrow r.cells ?_ Z3.out (by simp [zrow, RwM.cells]) size_refrow (part_one r _ _ _ rfl rfl rfl) ?_; rfl; rfl; rfl; rfl; intro w4 HS4 HO4; (try simp only [Act.put])))
    have hs4 := HS4.out
    rw [splice_whole (by rfl)] at hs4
    have hz3 := (Below.refl w3.heap.size w3).alloc (Nat.le_refl _) (.cells zrow.toArray 26)
    have hb4 : Below w3.heap.size w3 w4 := HO4.out.below hz3 (Nat.le_refl _)
    have L4 := Lib.hid (L3.out.call hb4)
    have B4 := Lib.hid (B3.out.trans (hb4.mono B3.out.size))
    have X4 := Lib.hid hs4
    have hgx : w.heap.size < w3.heap.size := L3.out.in_
    clear hs4 hz3 hb4 HS4 HO4 Z3 L3 B3
    generalize w3.heap.size = gx at *
    have HD4 := Lib.hid ((HRR.out.dug.below B4.out).more B4.out.size)
    have HD15 := Lib.hid (show r.dug.l.length ≤ 1000 by have := HT.out.d; omega)
    have d6 : w4.cell? ⟨w.heap.size, 6, none⟩ = some (.slice r.dug.A r.dug.l.length r.dug.c) := L4.out.at_ 6
    have hpl : p < r.dug.l.length := by have := HNL.out; omega
    have hgx4 : gx < w4.heap.size := X4.out.in_
    go_upto_region 8 with (go_at_call 21; refine (lawList_own r.dug.A r.dug.c r.dug.l _ HD4.out HD15.out HT.out.nn).mono ?_; rintro e w5 ⟨A5, c5, rfl, ho5, hb5⟩; have HO5 := Lib.hid ho5; have X5 := Lib.hid (X4.out.call hb5); have c8 : w5.cell? ⟨gx, 6, none⟩ = some (.slice r.dug.A r.dug.l.length r.dug.c) := X5.out.at_ 6; have f8 : w5.frozen? ⟨gx, 6, none⟩ = false := X5.out.free 6; clear ho5)
    have L5 := Lib.hid (L4.out.call hb5)
    have B5 := Lib.hid (B4.out.trans (hb5.mono B4.out.size))
    have hz5 : gx < w5.heap.size := X5.out.in_
    have X6 := Lib.hid (X5.out.set 6 (.slice A5 r.dug.l.length c5))
    have hO6 := Only.set gx 6 w5 (.slice A5 r.dug.l.length c5)
    have L6 := Lib.hid (hO6.lies L5.out (by omega))
    have B6 := Lib.hid (hO6.below B5.out (by omega))
    have ho6 := own_keep HO5.out fun j hj => hO6.block j (by have := (own_at HO5.out hj).1; omega)
    clear c8 f8 d6 hb5 X5 L5 B5 X4 L4 B4 HD4 HO5 hO6
    generalize w5.setCell ⟨gx, 6, none⟩ (.slice A5 r.dug.l.length c5) = w6 at *
    obtain ⟨g5, hA5, hg4, hg6, ⟨y5, cy⟩, fy, hsl⟩ := own_set1 ho6 hpl
    subst hA5
    have hg5 : gx < g5 := by omega
    have hpz : (p : Int) < (r.dug.l.length : Int) := by omega
    have hp0 : (0 : Int) ≤ (p : Int) := by omega
    have d6 : w6.cell? ⟨gx, 6, none⟩ = some (.slice (some ⟨g5, 0, none⟩) r.dug.l.length c5) := X6.out.at_ 6
    have HSL := Lib.hid (hsl q)
    clear hsl ho6
    go_upto_region 9 with (fail)
    have hO7 := Only.set g5 p w6 (.int .i64 (q : Int))
    have L7 := Lib.hid (hO7.lies L6.out (by omega))
    have B7 := Lib.hid (hO7.below B6.out (by omega))
    have X7 := Lib.hid (show Lies (w6.setCell ⟨g5, p, none⟩ (.int .i64 (q : Int))) gx 26 (r.dugM (some ⟨g5, 0, none⟩) c5 p q).cells.toArray by have h := hO7.lies X6.out (by omega); unfold RwM.dugM RwM.cells at *; simpa using h)
    have S7 := Lib.hid (show Sl (w6.setCell ⟨g5, p, none⟩ (.int .i64 (q : Int))) (w6.setCell ⟨g5, p, none⟩ (.int .i64 (q : Int))).heap.size 1 encI (some ⟨g5, 0, none⟩) (r.dug.l.set p q) from HSL.out.more (by simp))
    clear d6 cy fy HSL X6 L6 B6 hO7
    generalize w6.setCell ⟨g5, p, none⟩ (.int .i64 (q : Int)) = w7 at *
    have hr7 := HRR.out.below B7.out B7.out.size
    have hx7 : (r.dugM (some ⟨g5, 0, none⟩) c5 p q).At w7 w7.heap.size := ⟨hr7.ws, S7.out, hr7.ns, hr7.lw, by show (r.dug.l.set p (q : Int)).length ≤ 1000000; rw [List.length_set]; exact hr7.ld, hr7.ln, hr7.kn⟩
    have htx : ThinM (r.dugM (some ⟨g5, 0, none⟩) c5 p q) := ⟨HT.out.w, HT.out.n, by show (r.dug.l.set p (q : Int)).length ≤ 15; rw [List.length_set]; exact HT.out.d, fun e => by cases e⟩
    have HFX := Lib.hid (refFault_any _ w7 hx7)
    have hless := fun hfx W (hb : Below w7.heap.size w7 W) => less_dug r (some ⟨g5, 0, none⟩) c5 p q W (hr7.below hb hb.size) (hx7.below hb hb.size) HT.out htx HF.out HSB.out (by omega) hfx
    clear hr7 hx7 htx S7
    generalize (r.dugM (some ⟨g5, 0, none⟩) c5 p q).d.fault = fx at *
    by_cases h0 : fx = 0
    · have hd : (fx != 0) = false := by simp [h0]
      have HLE := Lib.hid (hless h0)
      clear hless h0
      go_wp2_with (first
        | (refine wpList_load_row (o := ⟨some 48, _, _, _, _, _⟩) ?_ 26 (.tmp 9) ?_ gx ?_ 26 (r.dugM (some ⟨g5, 0, none⟩) c5 p q).cells.toArray (0, 0) _ X7.out Try.underlying26 rfl size_refrow ?_; rfl; rfl; rfl)
        | (go_at_call 22; refine HFX.out.mono ?_; rintro e w8 ⟨rfl, hb8⟩)
        | (refine wpList_load_row (o := ⟨some 52, _, _, _, _, _⟩) ?_ 26 (.tmp 3) ?_ w.heap.size ?_ 26 r.cells.toArray (0, 0) _ (L7.out.call hb8) Try.underlying26 rfl size_refrow ?_; rfl; rfl; rfl)
        | (refine wpList_load_row (o := ⟨some 53, _, _, _, _, _⟩) ?_ 26 (.tmp 9) ?_ gx ?_ 26 (r.dugM (some ⟨g5, 0, none⟩) c5 p q).cells.toArray (0, 0) _ (X7.out.call hb8) Try.underlying26 rfl size_refrow ?_; rfl; rfl; rfl)
        | (go_at_call 41; refine (HLE.out _ hb8).mono ?_; rintro e w9 ⟨rfl, hb9⟩)
        | (go_at_call 16; refine (awake_any _).mono ?_; rintro e w10 ⟨rfl, hb10⟩))
      go_ret
      exact ⟨rfl, B7.out.trans ((hb8.trans ((hb9.trans (hb10.mono hb9.size)).mono hb8.size)).mono B7.out.size)⟩
    · have hd : (fx != 0) = true := by simpa using h0
      clear hless h0
      go_wp2_with (first
        | (refine wpList_load_row (o := ⟨some 48, _, _, _, _, _⟩) ?_ 26 (.tmp 9) ?_ gx ?_ 26 (r.dugM (some ⟨g5, 0, none⟩) c5 p q).cells.toArray (0, 0) _ X7.out Try.underlying26 rfl size_refrow ?_; rfl; rfl; rfl)
        | (go_at_call 22; refine HFX.out.mono ?_; rintro e w8 ⟨rfl, hb8⟩)
        | (go_at_call 16; refine (awake_any _).mono ?_; rintro e w10 ⟨rfl, hb10⟩))
      go_ret
      exact ⟨rfl, B7.out.trans ((hb8.trans (hb10.mono hb8.size)).mono B7.out.size)⟩
end Go.Proofs.Ytkjhofbjjogmlaa
