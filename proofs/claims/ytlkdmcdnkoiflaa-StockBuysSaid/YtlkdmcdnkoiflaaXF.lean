/- ints: equal lists. -/
import Derived.Test.YtlkdmcdnkoiflaaGH
import Derived.Test.YtlkdmcdnkoiflaaXE
import Derived.Test.YtlkdmcdnkoiflaaXB
import Derived.Test.YtlkdmcdnkoiflaaXA
import Derived.Test.YtlkdmcdnkoiflaaXD
namespace Go.Proofs.Ytlkdmcdnkoiflaa
open Go.RowKit Go.Lib

set_option maxRecDepth 100000 in
set_option maxHeartbeats 1000000 in
theorem ints_yes (A1 A2 : Option Addr) (c1 c2 : Nat) (l : List Int) (w : World) (h1 : Sl w w.heap.size 1 encI A1 l) (h2 : Sl w w.heap.size 1 encI A2 l) (hl : l.length ≤ 1000000) :
    Calls Try.prog 46 #[.slice A1 l.length c1, .slice A2 l.length c2] w fun e w' => e = .returned (.bool true) ∧ Below w.heap.size w w' := by
  have H1 := Lib.hid h1
  have H2 := Lib.hid h2
  have hlz : (l.length : Int) ≤ 1000000 := by omega
  clear h1 h2
  go_enter Try.func46, Try.ntmps46
  go_wp2
  go_loopw [5] (fun i wr => ∃ k : Nat, k ≤ l.length ∧ i = .int .i64 k ∧ Aside (Below w.heap.size w wr)) (fun i _ => l.length - (intOf i).toNat)
  case atStart => exact ⟨0, by omega, rfl, Below.refl _ _⟩
  case round =>
    obtain ⟨k, hk, rfl, hb⟩ := hrel
    by_cases hlt : k < l.length
    · have hltz : (k : Int) < (l.length : Int) := by omega
      have hk0 : (0 : Int) ≤ (k : Int) := by omega
      obtain ⟨x, hx⟩ : ∃ x, l[k]? = some x := ⟨l[k], by simp [hlt]⟩
      obtain ⟨b1, o1, rfl, hb1, p1⟩ := H1.out.cell1 hx
      obtain ⟨b2, o2, rfl, hb2, p2⟩ := H2.out.cell1 hx
      have r1 := cell_regrown ((hb.out.cell (p := ⟨b1, o1 + k, none⟩) hb1).trans p1)
      have r2 := cell_regrown ((hb.out.cell (p := ⟨b2, o2 + k, none⟩) hb2).trans p2)
      have HB := Lib.hid hb.out
      clear p1 p2 hx hb
      go_wp2
      refine wp_region_quiet_below (by kernel_rfl) (by kernel_rfl) ?_; (repeat (first | go_big_quiet_step ((fail)) | quiet_step ((fail)))); refine wpQuiet_nil ?_; intro wq hwq; have hbq : Below _ _ wq := (by obtain ⟨p, rfl⟩ := hwq; exact below_regrown _ _ _); clear hwq
      clear r1 r2
      go_wp2
      go_roundw
      case rel => exact ⟨k + 1, by omega, by go_num, HB.out.trans (hbq.mono HB.out.size)⟩
      case measure => simp [intOf]; omega
    · obtain rfl : k = l.length := by omega
      go_wp2
      go_ret
      exact ⟨rfl, hb.out⟩
end Go.Proofs.Ytlkdmcdnkoiflaa

namespace Go.Proofs.Ytlkdmcdnkoiflaa
open Go.RowKit Go.Lib

/-- What is planted at first, with the first k kinds of a purchase. -/
def addD (s : List (Int × Int)) (l : List Cr) (q : List Int) : Nat → List (Int × Int)
  | 0 => s
  | k + 1 => (addD s l q k).set (l.getD k default).size.toNat (((addD s l q k).getD (l.getD k default).size.toNat (0, 0)).1 + q.getD k 0 * (l.getD k default).bulbs, ((addD s l q k).getD (l.getD k default).size.toNat (0, 0)).2 + q.getD k 0 * (l.getD k default).bulbs)
theorem add_length (s : List (Int × Int)) (l : List Cr) (q : List Int) : ∀ k, (addD s l q k).length = s.length
  | 0 => rfl
  | k + 1 => by rw [addD, List.length_set, add_length s l q k]
theorem add_step {s : List (Int × Int)} {l : List Cr} {q : List Int} {k : Nat} {c : Cr} {m : Int} {r : Int × Int} (hc : l[k]? = some c) (hm : q[k]? = some m) (hr : (addD s l q k)[c.size.toNat]? = some r) :
    addD s l q (k + 1) = (addD s l q k).set c.size.toNat (r.1 + m * c.bulbs, r.2 + m * c.bulbs) := by
  rw [addD, at_getD hc, at_getD hm, at_getD hr]
/-- Low ends are what is planted; each range is as wide as it was. -/
theorem add_buy {p : PlM} {l : List Cr} {q : List Int} (hn5 : p.s.l.length ≤ 5) (hc : ∀ c, c ∈ l → c.okB p.s.l.length = true) (hq : q.length = l.length) : ∀ k, k ≤ l.length → ∀ (i : Nat) (r : Int × Int), p.s.l[i]? = some r → ∃ r' : Int × Int, (addD p.s.l l q k)[i]? = some r' ∧ r'.1 = (buyD (pad5 (p.s.l.map (·.1))) l q k).getD i 0 ∧ r'.2 - r'.1 = r.2 - r.1
  | 0, _, i, r, hr => ⟨r, hr, by
      have hi := (List.getElem?_eq_some_iff.1 hr).1
      rw [buyD, pad5_getD (by simpa using hn5) i (by simpa using hi), at_getD (x := r.1) (by rw [List.getElem?_map, hr]; rfl)], rfl⟩
  | k + 1, hk, i, r, hr => by
    obtain ⟨r', h1, h2, h3⟩ := add_buy hn5 hc hq k (by omega) i r hr
    obtain ⟨c, hck⟩ : ∃ c, l[k]? = some c := ⟨l[k], by simp⟩
    obtain ⟨m, hmk⟩ : ∃ m, q[k]? = some m := ⟨q[k]'(by omega), by simp⟩
    have hok := Cr.ok_iff.1 (hc c (List.mem_of_getElem? hck))
    have hi := (List.getElem?_eq_some_iff.1 hr).1
    have hcs : c.size.toNat < p.s.l.length := by have := hok.1; omega
    obtain ⟨r0, hr0⟩ : ∃ r0, (addD p.s.l l q k)[c.size.toNat]? = some r0 := ⟨(addD p.s.l l q k)[c.size.toNat]'(by rw [add_length]; exact hcs), by simp⟩
    have h5 : (pad5 (p.s.l.map (·.1))).length = 5 := pad5_length (by simpa using hn5)
    rw [add_step hck hmk hr0, buy_step hck hmk, List.getElem?_set, getD_set (by rw [buy_length, h5]; omega)]
    have hcomm : m * c.bulbs = c.bulbs * m := Int.mul_comm _ _
    by_cases e : c.size.toNat = i
    · subst e
      rw [h1] at hr0
      cases hr0
      rw [if_pos rfl, if_pos (by rw [add_length]; exact hcs), if_pos rfl]
      exact ⟨_, rfl, by show r'.1 + m * c.bulbs = _; rw [← h2]; omega, by show r'.2 + m * c.bulbs - (r'.1 + m * c.bulbs) = _; omega⟩
    · rw [if_neg e, if_neg e]
      exact ⟨r', h1, h2, h3⟩
/-- A plan with another start. -/
def PlM.onS (p : PlM) (A : Option Addr) (c : Nat) (xs : List (Int × Int)) : PlM := { p with s := ⟨A, xs, c⟩ }
theorem buy_rest {s0 : List Int} {l : List Cr} {q : List Int} {n : Nat} (hc : ∀ c, c ∈ l → c.okB n = true) : ∀ k, k ≤ l.length → ∀ i, n ≤ i → (buyD s0 l q k).getD i 0 = s0.getD i 0
  | 0, _, i, _ => rfl
  | k + 1, hk, i, hi => by
    obtain ⟨c, hck⟩ : ∃ c, l[k]? = some c := ⟨l[k], by simp⟩
    have hok := Cr.ok_iff.1 (hc c (List.mem_of_getElem? hck))
    rw [buyD, at_getD hck]
    have ih := buy_rest (s0 := s0) (q := q) hc k (by omega) i hi
    simp only [List.getD] at ih ⊢
    rw [List.getElem?_set_ne (by have := hok.1; omega)]
    exact ih
section
variable {p : PlM} {l : List Cr} {q : List Int}
theorem add_room (hf : p.fault = 0) (ho : offB p.s.l.length l = 0) (hq : pairedB l q (fun c m => inB m 0 c.most) = true) (A : Option Addr) (c : Nat) : decide ((p.onS A c (addD p.s.l l q l.length)).fault = 0) = roomB p (buyP p l q) := by
  have hv := fault_zero hf
  have hn5 := hv.ok.n
  have hcs := (offB_zero ho).2
  have hfp := purF_of ho hq
  have hb := add_buy hn5 hcs hfp.len l.length (Nat.le_refl _)
  have hl : (p.onS A c (addD p.s.l l q l.length)).s.l.length = p.s.l.length := add_length _ _ _ _
  have hbd := buy_bd hfp (s0 := pad5 (p.s.l.map (·.1))) (fun i hi => by
    by_cases h : i < p.s.l.length
    · obtain ⟨r, hr⟩ : ∃ r, p.s.l[i]? = some r := ⟨p.s.l[i], by simp [h]⟩
      have := hv.sb r (List.mem_of_getElem? hr)
      rw [pad5_getD (by simpa using hn5) i (by simpa using h), at_getD (x := r.1) (by rw [List.getElem?_map, hr]; rfl)]
      omega
    · have : (pad5 (p.s.l.map (·.1))).getD i 0 = 0 := pad5_rest (by simpa using h)
      rw [this]; omega)
  have h5 : (pad5 (p.s.l.map (·.1))).length = 5 := pad5_length (by simpa using hn5)
  have hB : p.validB = true := by
    unfold PlM.fault at hf
    rw [if_neg (by omega)] at hf
    cases e : p.validB with
    | true => rfl
    | false => rw [e] at hf; cases hf
  have key : (p.onS A c (addD p.s.l l q l.length)).validB = roomB p (buyP p l q) := by
    rw [Bool.eq_iff_iff]
    constructor
    · intro h
      have hv' := valid_of h (by rw [hl]; exact hn5)
      refine room_miss fun i hi => ?_
      obtain ⟨r, hr⟩ : ∃ r, p.s.l[i]? = some r := ⟨p.s.l[i], by simp [hi]⟩
      obtain ⟨m, hm⟩ : ∃ m, p.r.l[i]? = some m := ⟨p.r.l[i]'(by have := hv.ok.r; omega), by simp⟩
      obtain ⟨r', h1, h2, h3⟩ := hb i r hr
      have h4 := of_decide_eq_true ((pairedB_iff.1 hv'.pr).2 i r' m h1 hm)
      unfold roomAt buyP
      rw [at_getD hr, at_getD hm, ← h2]
      exact decide_eq_true (by omega)
    · intro h
      have hra := fun i hi => List.all_eq_true.1 h i (List.mem_range.2 hi)
      have hle : ∀ (i : Nat) (r' : Int × Int) (m : Int), (addD p.s.l l q l.length)[i]? = some r' → p.r.l[i]? = some m → 0 ≤ r'.1 ∧ r'.1 ≤ r'.2 ∧ r'.2 ≤ m ∧ m ≤ 1000000 := fun i r' m h1' hm => by
        have hi : i < p.s.l.length := by rw [← add_length p.s.l l q l.length]; exact (List.getElem?_eq_some_iff.1 h1').1
        obtain ⟨r, hr⟩ : ∃ r, p.s.l[i]? = some r := ⟨p.s.l[i], by simp [hi]⟩
        obtain ⟨r'', h1, h2, h3⟩ := hb i r hr
        rw [h1] at h1'
        cases h1'
        have h4 := hra i hi
        unfold roomAt buyP at h4
        rw [at_getD hr, at_getD hm, ← h2] at h4
        have h5' := of_decide_eq_true h4
        have h6 := hv.sb r (List.mem_of_getElem? hr)
        have h7 := hv.ok.rb m (List.mem_of_getElem? hm)
        have h8 := hbd l.length (Nat.le_refl _) i (by rw [h5]; omega)
        rw [← h2] at h8
        omega
      simp only [PlM.validB, PlM.b, Bool.and_eq_true, decide_eq_true_eq, List.all_eq_true] at hB ⊢
      obtain ⟨⟨⟨⟨⟨⟨⟨⟨b0, b1⟩, b2⟩, b3⟩, b4⟩, b5⟩, b6⟩, b7⟩, b8⟩ := hB
      rw [hl]
      refine ⟨⟨⟨⟨⟨⟨⟨⟨b0, trivial, fun x hx => ?_⟩, b2⟩, ?_⟩, b4⟩, b5⟩, b6⟩, b7⟩, b8⟩
      · obtain ⟨i, hi⟩ := List.getElem?_of_mem (show x ∈ addD p.s.l l q l.length from hx)
        have hil : i < p.s.l.length := by rw [← add_length p.s.l l q l.length]; exact (List.getElem?_eq_some_iff.1 hi).1
        obtain ⟨m, hm⟩ : ∃ m, p.r.l[i]? = some m := ⟨p.r.l[i]'(by have := hv.ok.r; omega), by simp⟩
        have := hle i x m hi hm
        exact spanB_iff.2 ⟨this.1, this.2.1, by omega⟩
      · refine pairedB_iff.2 ⟨by rw [hl]; exact hv.ok.r.symm, fun i x y hx hy => decide_eq_true (hle i x y hx hy).2.2.1⟩
  rw [← key]
  unfold PlM.fault
  rw [hl, if_neg (by omega)]
  cases (p.onS A c (addD p.s.l l q l.length)).validB <;> rfl
theorem add_sold (hf : p.fault = 0) (ho : offB p.s.l.length l = 0) (hq : pairedB l q (fun c m => inB m 0 c.most) = true) (A : Option Addr) (c S Y : Nat) : soldE (p.onS A c (addD p.s.l l q l.length)).d false S Y = giveP p S Y l q := by
  have hv := fault_zero hf
  have hn5 := hv.ok.n
  have hcs := (offB_zero ho).2
  have hfp := purF_of ho hq
  have hb := add_buy hn5 hcs hfp.len l.length (Nat.le_refl _)
  have hl : (addD p.s.l l q l.length).length = p.s.l.length := add_length _ _ _ _
  have h5 : (pad5 (p.s.l.map (·.1))).length = 5 := pad5_length (by simpa using hn5)
  have e : pad5 ((addD p.s.l l q l.length).map (·.1)) = buyP p l q := by
    have e1 : (pad5 ((addD p.s.l l q l.length).map (·.1))).length = 5 := pad5_length (by rw [List.length_map, hl]; exact hn5)
    have e2 : (buyP p l q).length = 5 := by unfold buyP; rw [buy_length, h5]
    refine List.ext_getElem (by rw [e1, e2]) fun i h1 h2 => ?_
    have g1 : (pad5 ((addD p.s.l l q l.length).map (·.1))).getD i 0 = (buyP p l q).getD i 0 := by
      by_cases hi : i < p.s.l.length
      · obtain ⟨r, hr⟩ : ∃ r, p.s.l[i]? = some r := ⟨p.s.l[i], by simp [hi]⟩
        obtain ⟨r', h1, h2, _⟩ := hb i r hr
        rw [pad5_getD (by rw [List.length_map, hl]; exact hn5) i (by rw [List.length_map, hl]; exact hi), at_getD (x := r'.1) (by rw [List.getElem?_map, h1]; rfl), h2]
        rfl
      · have z1 : (pad5 ((addD p.s.l l q l.length).map (·.1))).getD i 0 = 0 := pad5_rest (by rw [List.length_map, hl]; omega)
        have z2 : (pad5 (p.s.l.map (·.1))).getD i 0 = 0 := pad5_rest (by rw [List.length_map]; omega)
        rw [z1]
        unfold buyP
        rw [buy_rest hcs l.length (Nat.le_refl _) i (by omega), z2]
    rw [at_getD (List.getElem?_eq_getElem h1), at_getD (List.getElem?_eq_getElem h2)] at g1
    exact g1
  unfold soldE giveP sellsD
  show soldUpD _ _ _ (pad5 ((addD p.s.l l q l.length).map (·.1))) S Y = _
  rw [e]
  exact soldUpD_congr (d := (p.onS A c (addD p.s.l l q l.length)).d) (d' := p.d) hl rfl rfl rfl Y fun j _ => ⟨rfl, rfl⟩
end
end Go.Proofs.Ytlkdmcdnkoiflaa

namespace Go.Proofs.Ytlkdmcdnkoiflaa
open Go.RowKit Go.Lib

/-- The slice reads as l, and lies in some block that is not G. -/
def SlN {α : Type} (w : World) (G k : Nat) (enc : α → List Value) (A : Option Addr) (l : List α) : Prop :=
  l ≠ [] → ∃ b off, A = some ⟨b, off, none⟩ ∧ b < w.heap.size ∧ b ≠ G ∧ ∀ i x, l[i]? = some x → ∀ j u, (enc x)[j]? = some u → w.cell? ⟨b, off + i * k + j, none⟩ = some u
section
variable {α : Type} {w w' : World} {G k B : Nat} {enc : α → List Value} {A : Option Addr} {l : List α}
theorem SlN.sl (h : SlN w G k enc A l) : Sl w w.heap.size k enc A l := fun hl => by
  obtain ⟨b, off, e, hb, _, hc⟩ := h hl
  exact ⟨b, off, e, hb, hc⟩
theorem SlN.call (h : SlN w G k enc A l) (hb : Below w.heap.size w w') : SlN w' G k enc A l := fun hl => by
  obtain ⟨b, off, e, hbl, hne, hc⟩ := h hl
  exact ⟨b, off, e, Nat.lt_of_lt_of_le hbl hb.size, hne, fun i x hx j u hu => (World.cell?_of_block (a := ⟨b, off + i * k + j, none⟩) (hb.block b hbl)).trans (hc i x hx j u hu)⟩
theorem SlN.only (h : SlN w G k enc A l) (ho : Only G w w') : SlN w' G k enc A l := fun hl => by
  obtain ⟨b, off, e, hbl, hne, hc⟩ := h hl
  exact ⟨b, off, e, by rw [ho.size]; exact hbl, hne, fun i x hx j u hu => (World.cell?_of_block (a := ⟨b, off + i * k + j, none⟩) (ho.block b hne)).trans (hc i x hx j u hu)⟩
theorem SlN.of_sl (h : Sl w B k enc A l) (hB : B ≤ G) (hw : B ≤ w.heap.size) : SlN w G k enc A l := fun hl => by
  obtain ⟨b, off, e, hb, hc⟩ := h hl
  exact ⟨b, off, e, by omega, by omega, hc⟩
theorem SlN.of_slT {T t : TypeId} {cs : Array Value} (h : SlT w w.heap.size k T enc A l) (hG : Lies w G t cs) (hT : T ≠ t) : SlN w G k enc A l := fun hl => by
  obtain ⟨b, off, e, hb, ⟨cs', hcs⟩, hc⟩ := h hl
  exact ⟨b, off, e, hb, lies_ne hcs hG hT, hc⟩
end
/-- Enough between two rounds. -/
structure EnM (p : PlM) (l : List Cr) (q : List Int) (w : World) (G k : Nat) (wr : World) : Prop where
  x : ∃ (A : Option Addr) (c : Nat), Lies wr G 28 (p.onS A c (addD p.s.l l q k)).cells.toArray ∧ SlN wr G 2 encR A (addD p.s.l l q k)
  b : Below w.heap.size w wr
theorem onS_at {p : PlM} {w wr : World} {G : Nat} {A : Option Addr} {c : Nat} {xs : List (Int × Int)} (hp : p.At w w.heap.size) (hb : Below w.heap.size w wr) (hx : SlN wr G 2 encR A xs) (hl : xs.length = p.s.l.length) : (p.onS A c xs).At wr wr.heap.size := by
  have h := hp.below hb hb.size
  exact ⟨hx.sl, h.r, h.g, h.rows, h.e, h.k, by show xs.length ≤ _; rw [hl]; exact hp.ls, h.lr, h.lg, h.lrows, h.le, h.lk⟩
set_option maxRecDepth 100000 in
set_option maxHeartbeats 2000000 in
theorem refEnough_any (p : PlM) (A A' : Option Addr) (c c' S Y : Nat) (l : List Cr) (q : List Int) (number : Int) (w : World) (hp : p.At w w.heap.size) (hA : Sl w w.heap.size 4 encCr A l) (hA' : Sl w w.heap.size 1 encI A' q) (hf : p.fault = 0) (ho : offB p.s.l.length l = 0) (hq : pairedB l q (fun c m => inB m 0 c.most) = true) (hS : S < p.s.l.length) (hY : p.years = (Y : Int)) :
    Calls Try.prog 44 #[.agg p.cells.toArray, .slice A l.length c, .slice A' q.length c', .int .i64 (S : Int), .int .i64 number] w fun e w' => e = .returned (.bool (enoughP p S Y number l q)) ∧ Below w.heap.size w w' := by
  have hv := fault_zero hf
  have hn5 := hv.ok.n
  have hcs := (offB_zero ho).2
  have hl4 := (offB_zero ho).1
  have hfp := purF_of ho hq
  have hab := add_buy hn5 hcs hfp.len
  have hbd := buy_bd hfp (s0 := pad5 (p.s.l.map (·.1))) (fun i hi => by
    by_cases h : i < p.s.l.length
    · obtain ⟨r, hr⟩ : ∃ r, p.s.l[i]? = some r := ⟨p.s.l[i], by simp [h]⟩
      have := hv.sb r (List.mem_of_getElem? hr)
      rw [pad5_getD (by simpa using hn5) i (by simpa using h), at_getD (x := r.1) (by rw [List.getElem?_map, hr]; rfl)]
      omega
    · have : (pad5 (p.s.l.map (·.1))).getD i 0 = 0 := pad5_rest (by simpa using h)
      rw [this]; omega)
  have h5 : (pad5 (p.s.l.map (·.1))).length = 5 := pad5_length (by simpa using hn5)
  -- the ranges' ends
  have hrb : ∀ k, k ≤ l.length → ∀ i, i < p.s.l.length → ∃ r : Int × Int, (addD p.s.l l q k)[i]? = some r ∧ 0 ≤ r.1 ∧ r.1 ≤ 37000000 ∧ 0 ≤ r.2 ∧ r.2 ≤ 38000000 := fun k hk i hi => by
    obtain ⟨r0, hr0⟩ : ∃ r, p.s.l[i]? = some r := ⟨p.s.l[i], by simp [hi]⟩
    obtain ⟨r, h1, h2, h3⟩ := hab k hk i r0 hr0
    have h4 := hbd k hk i (by rw [h5]; omega)
    have h6 := hv.sb r0 (List.mem_of_getElem? hr0)
    rw [← h2] at h4
    exact ⟨r, h1, by omega, by omega, by omega, by omega⟩
  have l0 : Lies (w.alloc (.cells p.cells.toArray 28)) w.heap.size 28 p.cells.toArray := Lies.fresh _ _ _
  have b0 : Below w.heap.size w (w.alloc (.cells p.cells.toArray 28)) := (Below.refl _ _).alloc (Nat.le_refl _) _
  have hroom := add_room hf ho hq
  have hsold := add_sold hf ho hq
  have HP := Lib.hid hp
  have HA := Lib.hid hA
  have HA' := Lib.hid hA'
  have HV := Lib.hid hv
  have HCS := Lib.hid hcs
  have HFP := Lib.hid hfp
  have HRB := Lib.hid hrb
  have L0 := Lib.hid l0
  have B0 := Lib.hid b0
  have HRO := Lib.hid hroom
  have HSO := Lib.hid hsold
  have HY := Lib.hid hY
  have HS := Lib.hid hS
  have hlz : (l.length : Int) ≤ 4 := by omega
  have HQL := Lib.hid hfp.len
  clear hp hA hA' hf ho hq hv hcs hl4 hfp hab hbd h5 hrb l0 b0 hroom hsold hY hS
  unfold PlM.cells
  go_enter Try.func44, Try.ntmps44
  go_upto_region 2 with (first
    | (refine wpList_load_row (o := ⟨some 14, _, _, _, _, _⟩) ?_ 28 (.tmp 5) ?_ w.heap.size ?_ 28 p.cells.toArray (0, 0) _ L0.out Try.underlying28 rfl size28 ?_; rfl; rfl; rfl)
    | (refine wpList_store_cells (o := ⟨none, .store 28 (.tmp 11) _, _, _, _, _⟩) ?_ 28 (.tmp 11) (.tmp 14) ?_ (w.heap.size + 1) 0 ?_ 28 zplan p.cells ?_ (Lies.fresh' (by simp)) (Nat.le_refl 8) size28 (by simp [PlM.cells, Value.oneCell']) ?_; rfl; rfl; rfl; rfl; intro w2 HS2 HO2))
  have x2 : Lies w2 (w.heap.size + 1) 28 p.cells.toArray := by have := HS2.out; rwa [splice_whole (by simp [PlM.cells])] at this
  have b2 : Below w.heap.size w w2 := HO2.out.below (B0.out.alloc B0.out.size _) (by omega)
  have hM : EnM p l q w (w.heap.size + 1) 0 w2 := ⟨⟨p.s.A, p.s.c, x2, .of_sl (HP.out.s.below b2) (by omega) b2.size⟩, b2⟩
  have M0 := Lib.hid hM
  clear x2 b2 hM HS2 HO2
  go_wp2
  go_loopw [12] (fun i wr => ∃ k : Nat, k ≤ l.length ∧ i = .int .i64 k ∧ Aside (EnM p l q w (w.heap.size + 1) k wr)) (fun i _ => l.length - (intOf i).toNat)
  case atStart => exact ⟨0, by omega, rfl, M0.out⟩
  case round =>
    obtain ⟨k, hk, rfl, M⟩ := hrel
    clear M0
    by_cases hlt : k < l.length
    · have hltz : (k : Int) < (l.length : Int) := by omega
      have hk0 : (0 : Int) ≤ (k : Int) := by omega
      have hkq : (k : Int) < (q.length : Int) := by have := HQL.out; omega
      obtain ⟨⟨AS, cS, xk, sk⟩, bk⟩ := M.out
      obtain ⟨x, hx⟩ : ∃ x, l[k]? = some x := ⟨l[k], by simp [hlt]⟩
      obtain ⟨y, hy⟩ : ∃ y, q[k]? = some y := ⟨q[k]'(by have := HQL.out; omega), by simp⟩
      have hok := Cr.ok_iff.1 (HCS.out x (List.mem_of_getElem? hx))
      have hfb := HFP.out.b k x y hx hy
      obtain ⟨sz, bu, pr, mo⟩ := x
      obtain ⟨sn, rfl⟩ : ∃ sn : Nat, sz = (sn : Int) := ⟨sz.toNat, by have := hok.1.1; simp only at this; omega⟩
      simp only at hok hfb
      have hsn : sn < p.s.l.length := by have := hok.1.2; omega
      obtain ⟨r, hr, ra0, ra1, rb0, rb1⟩ := HRB.out k hk sn hsn
      have hstep := add_step (s := p.s.l) hx hy (r := r) (by simpa using hr)
      simp only [Int.toNat_natCast] at hstep
      have hne : addD p.s.l l q k ≠ [] := fun e => by rw [e] at hr; simp at hr
      obtain ⟨b0', o0', rfl, hb0', _, hc0⟩ := sk hne
      obtain ⟨ba, oa, rfl, hba, hc1⟩ := HA.out (by rintro e; rw [e] at hlt; simp at hlt)
      obtain ⟨bq, oq, rfl, hbq, hc2⟩ := HA'.out (by rintro e; rw [e] at hy; simp at hy)
      have hlen : (addD p.s.l l q k).length = p.s.l.length := add_length _ _ _ _
      have e0 : wr.cell? ⟨w.heap.size + 1, 0, none⟩ = some (.slice (some ⟨b0', o0', none⟩) p.s.l.length cS) := by rw [xk.at_ 0, ← hlen]; rfl
      have old : ∀ {p : Addr} {v : Value}, p.block < w.heap.size → w.cell? p = some v → wr.cell? p = some v := fun hb hc => by rw [bk.cell hb]; exact hc
      have e1 : wr.cell? ⟨ba, oa + k * 4, none⟩ = some (.int .i64 (sn : Int)) := old hba (hc1 k _ hx 0 _ rfl)
      have e2 : wr.cell? ⟨ba, oa + k * 4 + 1, none⟩ = some (.int .i64 bu) := old hba (hc1 k _ hx 1 _ rfl)
      have e3 : wr.cell? ⟨bq, oq + k, none⟩ = some (.int .i64 y) := old hbq (by have := hc2 k _ hy 0 _ rfl; rwa [Nat.mul_one, Nat.add_zero] at this)
      have e4 : wr.cell? ⟨b0', o0' + sn * 2, none⟩ = some (.int .i64 r.1) := hc0 sn _ hr 0 _ rfl
      have e5 : wr.cell? ⟨b0', o0' + sn * 2 + 1, none⟩ = some (.int .i64 r.2) := hc0 sn _ hr 1 _ rfl
      have hsnz : (sn : Int) < (p.s.l.length : Int) := by omega
      have hsn0 : (0 : Int) ≤ (sn : Int) := by omega
      have hm := prod_bd (a := bu) (m := 1000000) ⟨by have := hfb.2.1.1; omega, hfb.2.1.2⟩ hfb.2.2
      rw [Int.mul_comm] at hm
      generalize hmd : y * bu = mb at *
      have hm0 := hm.1
      have hm1 : mb ≤ 9000000 := by have := hm.2; omega
      have hmw : IntKind.i64.wrap (y * bu) = mb := by rw [hmd]; exact IntWalk.i64_in (by omega) (by omega)
      have q0 := cell_regrown e0
      have q1 := cell_regrown e1
      have q4 := cell_regrown e4
      have q5 := cell_regrown e5
      have hrg : ∀ W, (∃ q : Regrown, W = Go.Sort.grow (redrawn wr q.d) q.os) → W.rangeAt b0' (o0' + sn * 2) [.int .i64 r.1, .int .i64 r.2] := by
        rintro W ⟨qq, rfl⟩ j v hj
        match j, hj with
        | 0, hj => cases hj; exact q4 _ _
        | 1, hj => cases hj; exact q5 _ _
      have HRG := Lib.hid hrg
      have HST := Lib.hid hstep
      have XK := Lib.hid xk
      have BK := Lib.hid bk
      have SK := Lib.hid sk
      have E1 := Lib.hid e1
      have E2 := Lib.hid e2
      have E3 := Lib.hid e3
      have HSN := Lib.hid hsn
      have HLEN := Lib.hid hlen
      clear e0 e1 e2 e3 e4 e5 q4 q5 hrg hstep xk bk sk M hx hy hok hfb hr hne hc0 hc1 hc2 hm hmd hb0' hba hbq old hsn hlen
      go_upto_region 5 with (fail)
      refine wp_region_many 10 [0, 1, 2, 3, 4, 5, 6, 7, 8] [] [⟨9, 13, 26, #[.int .i64 0, .int .i64 0]⟩] (by kernel_rfl) (by kernel_rfl) (fun fl h => ?_) (fun fl fl' h h' => ?_) ?_
      · simp only [List.mem_cons, List.not_mem_nil, or_false] at h
        subst h
        exact fun w => by kernel_rfl
      · simp only [List.mem_cons, List.not_mem_nil, or_false] at h h'
        subst h h'
        simp
      simp only [List.filterMap_cons, List.filterMap_nil, List.take_succ_cons, List.take_zero, List.getElem?_toArray, List.getElem?_cons_zero, List.getElem?_cons_succ, List.drop_succ_cons, List.drop_zero, List.map_cons, List.map_nil]
      repeat (first
        | (refine wpQuiet_load_whole (o := ⟨some 29, _, _, _, _, _⟩) ?_ 26 (.tmp 28) ?_ b0' (o0' + sn * 2) ?_ [.int .i64 r.1, .int .i64 r.2] _ HRG.out Try.underlying26 rfl sizeR26 ?_; rfl; rfl; rfl; simp only [Act.put, List.setIfInBounds_toArray, List.set_cons_zero, List.set_cons_succ])
        | go_big_quiet_step (rfl) | quiet_step (rfl))
      refine wpQuiet_nil ?_
      refine ⟨by simp, ?_⟩
      clear q0 q1 HRG
      intro vf0 w4 hx4
      simp only [putF, List.foldl_cons, List.foldl_nil, Act.put, List.setIfInBounds_toArray, List.set_cons_zero, List.set_cons_succ]
      simp only [wpFloats]
      intro G w7 hx7 hG hGG
      simp only [List.map_cons, List.map_nil, putF, List.foldl_cons, List.foldl_nil, Act.put, List.setIfInBounds_toArray, List.set_cons_zero, List.set_cons_succ]
      have h47 := hx4.trans (hx7.mono hx4.size)
      obtain ⟨ga, la⟩ := hG ⟨9, 13, 26, #[.int .i64 0, .int .i64 0]⟩ (by simp)
      simp only at ga la
      clear hG hGG
      generalize G 13 = g at *
      refine wpList_store_cells (o := ⟨none, .store 26 (.tmp 13) _, _, _, _, _⟩) ?_ 26 (.tmp 13) (.tmp 29) ?_ g 0 ?_ 26 [.int .i64 0, .int .i64 0] [.int .i64 r.1, .int .i64 r.2] ?_ la (Nat.le_refl 2) sizeR26 (by simp [Value.oneCell']) ?_
      rfl; rfl; rfl; rfl
      intro w8 HS8 HO8
      refine wpList_nil ?_
      have hb8 : Below wr.heap.size wr w8 := HO8.out.below h47 (by omega)
      have lg : Lies w8 g 26 [.int .i64 r.1, .int .i64 r.2].toArray := by have := HS8.out; rwa [splice_whole (by simp)] at this
      have k8 := KC.of_below hb8
      have X8 := Lib.hid (XK.out.call hb8)
      have S8 := Lib.hid (SK.out.call hb8)
      have B8 := Lib.hid (BK.out.trans (hb8.mono BK.out.size))
      have f1 := k8.cell E1.out
      have f2 := k8.cell E2.out
      have f3 := k8.cell E3.out
      have f4 : w8.cell? ⟨g, 0, none⟩ = some (.int .i64 r.1) := lg.at_ 0
      have f5 : w8.cell? ⟨g, 1, none⟩ = some (.int .i64 r.2) := lg.at_ 1
      clear E1 E2 E3 XK SK BK la lg HS8 HO8 hx4 hx7 h47 hb8 k8 ga
      have hrg : ∀ W, (∃ cc : Cls (fun W => Below w8.heap.size w8 W), W = cc.val) → W.rangeAt (w.heap.size + 1) 0 (p.onS (some ⟨b0', o0', none⟩) cS (addD p.s.l l q k)).cells := by
        rintro W ⟨cc, rfl⟩
        exact Lies.range (cs := (p.onS (some ⟨b0', o0', none⟩) cS (addD p.s.l l q k)).cells) (X8.out.call cc.h) (fun j v hj => by simpa using hj)
      have HRG := Lib.hid hrg
      have r1 : ∀ cc : Cls (fun W => Below w8.heap.size w8 W), cc.val.cell? ⟨ba, oa + k * 4, none⟩ = some (.int .i64 (sn : Int)) := fun cc => (KC.of_below cc.h).cell f1
      have r2 : ∀ cc : Cls (fun W => Below w8.heap.size w8 W), cc.val.cell? ⟨ba, oa + k * 4 + 1, none⟩ = some (.int .i64 bu) := fun cc => (KC.of_below cc.h).cell f2
      have r3 : ∀ cc : Cls (fun W => Below w8.heap.size w8 W), cc.val.cell? ⟨bq, oq + k, none⟩ = some (.int .i64 y) := fun cc => (KC.of_below cc.h).cell f3
      have r4 : ∀ cc : Cls (fun W => Below w8.heap.size w8 W), cc.val.cell? ⟨g, 0, none⟩ = some (.int .i64 r.1) := fun cc => (KC.of_below cc.h).cell f4
      have r5 : ∀ cc : Cls (fun W => Below w8.heap.size w8 W), cc.val.cell? ⟨g, 1, none⟩ = some (.int .i64 r.2) := fun cc => (KC.of_below cc.h).cell f5
      haveI hne8 : Nonempty (Cls (fun W => Below w8.heap.size w8 W)) := ⟨⟨w8, Below.refl _ _⟩⟩
      clear hrg f1 f2 f3 f4 f5
      go_upto_region 6 with (fail)
      refine wp_region_ways3 33 [0, 1, 2, 3, 4, 5, 6, 7, 8, 9, 10, 11, 12, 13, 14, 15, 16, 17, 18, 19, 20, 21, 22, 23, 24, 25, 26, 27, 28, 29, 30, 31, 32] .fin (fun W => ∃ cc : Cls (fun W => Below w8.heap.size w8 W), W = cc.val) (by kernel_rfl) (by kernel_rfl) (Cls.here (Below.refl _ _).drew) ?_
      simp only [List.filterMap_cons, List.filterMap_nil, List.take_succ_cons, List.take_zero, List.getElem?_toArray, List.getElem?_cons_zero, List.getElem?_cons_succ, List.drop_succ_cons, List.drop_zero]
      repeat (first
        | (refine wpQuiet_load_whole (o := ⟨some 30, _, _, _, _, _⟩) ?_ 28 (.tmp 11) ?_ (w.heap.size + 1) 0 ?_ (p.onS (some ⟨b0', o0', none⟩) cS (addD p.s.l l q k)).cells _ HRG.out Try.underlying28 rfl size28 ?_; rfl; rfl; rfl; simp only [Act.put, List.setIfInBounds_toArray, List.set_cons_zero, List.set_cons_succ])
        | go_big_quiet_step (rfl) | quiet_step (rfl))
      refine wpQuiet_nil ?_
      rw [wpWy_fin]
      clear r1 r2 r3 r4 r5 hne8 HRG
      have hd8 : Below w8.heap.size w8 w8.drew := (Below.refl _ _).drew
      have BD := Lib.hid (B8.out.trans (hd8.mono B8.out.size))
      have XD := Lib.hid (X8.out.call hd8)
      have SD := Lib.hid (S8.out.call hd8)
      clear hd8 X8 S8 B8
      generalize w8.drew = wd at *
      have hW := With_any (p.onS (some ⟨b0', o0', none⟩) cS (addD p.s.l l q k)) sn (r.1 + mb, r.2 + mb) wd (onS_at HP.out BD.out SD.out HLEN.out) (by show sn < (addD p.s.l l q k).length; rw [HLEN.out]; exact HSN.out) (by show (addD p.s.l l q k).length ≤ 5; rw [HLEN.out]; exact HV.out.ok.n)
      have HW := Lib.hid hW
      clear hW
      go_wp2_with (first
        | (go_at_call 36; refine HW.out.mono ?_; rintro e w9 ⟨A9, c9, rfl, hs9, hb9⟩; have X9 := Lib.hid (XD.out.call hb9))
        | (refine wpList_store_cells (o := ⟨none, .store 28 (.tmp 11) _, _, _, _, _⟩) ?_ 28 (.tmp 11) (.tmp 63) ?_ (w.heap.size + 1) 0 ?_ 28 (p.onS (some ⟨b0', o0', none⟩) cS (addD p.s.l l q k)).cells ((p.onS (some ⟨b0', o0', none⟩) cS (addD p.s.l l q k)).withS A9 c9 sn (r.1 + mb, r.2 + mb)).cells ?_ X9.out (Nat.le_refl 8) size28 (by simp [PlM.cells, Value.oneCell']) ?_; rfl; rfl; rfl; rfl; intro w10 HS10 HO10))
      go_roundw
      case rel =>
        have x10 : Lies w10 (w.heap.size + 1) 28 ((p.onS (some ⟨b0', o0', none⟩) cS (addD p.s.l l q k)).withS A9 c9 sn (r.1 + mb, r.2 + mb)).cells.toArray := by have := HS10.out; rwa [splice_whole (by simp [PlM.cells])] at this
        have s10 := (SlN.of_slT hs9 X9.out (by decide)).only HO10.out
        refine ⟨k + 1, by omega, by go_num, ⟨⟨A9, c9, ?_, ?_⟩, HO10.out.below (BD.out.trans (hb9.mono BD.out.size)) (by omega)⟩⟩
        · rw [HST.out]; exact x10
        · rw [HST.out]; exact s10
      case measure => simp [intOf]; omega
    · obtain rfl : k = l.length := by omega
      obtain ⟨⟨AS, cS, xk, sk⟩, bk⟩ := M.out
      have hat := onS_at (c := cS) HP.out bk sk (add_length _ _ _ _)
      have hF := Fault_any _ wr hat
      have hRo := HRO.out AS cS
      have hSo := HSO.out AS cS S Y
      have hen : enoughP p S Y number l q = (roomB p (buyP p l q) && decide (number ≤ giveP p S Y l q)) := rfl
      rw [← hRo, ← hSo] at hen
      have hSu : (p.onS AS cS (addD p.s.l l q l.length)).fault = 0 → ∀ W, Below wr.heap.size wr W → Calls Try.prog 35 #[.agg (p.onS AS cS (addD p.s.l l q l.length)).cells.toArray, .int .i64 (S : Int), .int .i64 number] W fun e w' => e = .returned (.bool (decide (number ≤ soldE (p.onS AS cS (addD p.s.l l q l.length)).d false S Y))) ∧ Below W.heap.size W w' := fun h0 W hb =>
        Surely_any _ Y S number W (hat.below hb hb.size) h0 HY.out (by show S < (addD p.s.l l q l.length).length; rw [add_length]; exact HS.out)
      have HSU := Lib.hid hSu
      have HEN := Lib.hid hen
      have XK := Lib.hid xk
      have BK := Lib.hid bk
      have HFT := Lib.hid hF
      clear hat hRo hSo hSu hen xk sk bk hF M HRO HSO
      by_cases h0 : (p.onS AS cS (addD p.s.l l q l.length)).fault = 0
      · have HS2 := Lib.hid (HSU.out h0)
        have hft := HFT.out
        rw [h0] at hft
        have HFZ := Lib.hid hft
        have hen := HEN.out
        rw [decide_eq_true h0, Bool.true_and] at hen
        have HE2 := Lib.hid hen
        clear hft HFT hen HEN HSU h0
        generalize soldE (p.onS AS cS (addD p.s.l l q l.length)).d false S Y = sv at *
        go_wp2_with (first
          | (refine wpList_load_row (o := ⟨some 64, _, _, _, _, _⟩) ?_ 28 (.tmp 11) ?_ (w.heap.size + 1) ?_ 28 (p.onS AS cS (addD p.s.l l q l.length)).cells.toArray (0, 0) _ XK.out Try.underlying28 rfl size28 ?_; rfl; rfl; rfl)
          | (go_at_call 24; refine HFZ.out.mono ?_; rintro e w5 ⟨rfl, hb5⟩; have X5 := Lib.hid (XK.out.call hb5))
          | (refine wpList_load_rowC (o := ⟨some 68, _, _, _, _, _⟩) ?_ 28 (.tmp 11) ?_ (w.heap.size + 1) ?_ 28 (p.onS AS cS (addD p.s.l l q l.length)).cells.toArray (0, 0) _ X5.out Try.underlying28 rfl size28 ?_; kernel_rfl; rfl; rfl)
          | (go_at_call 35; refine (HS2.out _ hb5).mono ?_; rintro e w6 ⟨rfl, hb6⟩))
        go_ret
        exact ⟨ret_bool HE2.out.symm, BK.out.trans ((hb5.trans (hb6.mono hb5.size)).mono BK.out.size)⟩
      · have hen := HEN.out
        rw [decide_eq_false h0, Bool.false_and] at hen
        have HE2 := Lib.hid hen
        clear hen HEN HSU
        generalize (p.onS AS cS (addD p.s.l l q l.length)).fault = ft at *
        have hft : (ft == 0) = false := by simpa using h0
        clear h0
        go_wp2_with (first
          | (refine wpList_load_row (o := ⟨some 64, _, _, _, _, _⟩) ?_ 28 (.tmp 11) ?_ (w.heap.size + 1) ?_ 28 (p.onS AS cS (addD p.s.l l q l.length)).cells.toArray (0, 0) _ XK.out Try.underlying28 rfl size28 ?_; rfl; rfl; rfl)
          | (go_at_call 24; refine HFT.out.mono ?_; rintro e w5 ⟨rfl, hb5⟩))
        go_ret
        exact ⟨ret_bool HE2.out.symm, BK.out.trans (hb5.mono BK.out.size)⟩
end Go.Proofs.Ytlkdmcdnkoiflaa

namespace Go.Proofs.Ytlkdmcdnkoiflaa
open Go.RowKit Go.Lib

/-- All purchases that begin so. -/
def subQ (l : List Cr) (b : List Int) : List (List Int) := (allQ (mosts (l.drop b.length))).map (b ++ ·)
theorem subQ_leaf {l : List Cr} {b : List Int} (h : b.length = l.length) : subQ l b = [b] := by
  unfold subQ
  rw [h, List.drop_length]
  simp [mosts, allQ]
theorem subQ_step {l : List Cr} {b : List Int} {c : Cr} (h : l[b.length]? = some c) : subQ l b = (List.range (c.most.toNat + 1)).flatMap fun x : Nat => subQ l (b ++ [(x : Int)]) := by
  have hlt := List.getElem?_eq_some_iff.1 h
  unfold subQ
  rw [List.drop_eq_getElem_cons hlt.1, hlt.2]
  show (allQ (c.most.toNat :: mosts (l.drop (b.length + 1)))).map (b ++ ·) = _
  rw [allQ, List.map_flatMap]
  congr 1
  funext x
  rw [List.map_map, List.length_append]
  show _ = (allQ (mosts (l.drop (b.length + 1)))).map _
  congr 1
  funext t
  simp
theorem subQ_top (l : List Cr) : subQ l [] = allQ (mosts l) := by
  unfold subQ
  simp
/-- A list that may begin a purchase. -/
structure PreB (l : List Cr) (b : List Int) : Prop where
  len : b.length ≤ l.length
  at_ : ∀ (i : Nat) (c : Cr) (m : Int), l[i]? = some c → b[i]? = some m → 0 ≤ m ∧ m ≤ c.most
theorem PreB.next {l : List Cr} {b : List Int} {c : Cr} (h : PreB l b) (hc : l[b.length]? = some c) {x : Nat} (hx : (x : Int) ≤ c.most) : PreB l (b ++ [(x : Int)]) := by
  have hlt := (List.getElem?_eq_some_iff.1 hc).1
  refine ⟨by simp; omega, fun i d m hd hm => ?_⟩
  by_cases hi : i < b.length
  · rw [List.getElem?_append_left hi] at hm
    exact h.at_ i d m hd hm
  · have hil := (List.getElem?_eq_some_iff.1 hm).1
    simp only [List.length_append, List.length_cons, List.length_nil] at hil
    obtain rfl : i = b.length := by omega
    rw [hc] at hd
    cases hd
    simp at hm
    subst hm
    omega
theorem PreB.sub {l : List Cr} {b z : List Int} (h : PreB l b) (hms : ∀ c, c ∈ l → 0 ≤ c.most ∧ c.most ≤ 9) (hz : z ∈ subQ l b) : pairedB l z (fun c m => inB m 0 c.most) = true ∧ z.length ≤ l.length := by
  unfold subQ at hz
  obtain ⟨t, ht, rfl⟩ := List.mem_map.1 hz
  obtain ⟨h1, h2⟩ := pairedB_iff.1 ((mem_allQ _ _).1 ht)
  have h1' : t.length = l.length - b.length := by have h := h1; simp [mosts] at h; omega
  have hlen := h.len
  refine ⟨pairedB_iff.2 ⟨by simp; omega, fun i c m hc hm => ?_⟩, by simp; omega⟩
  by_cases hi : i < b.length
  · rw [List.getElem?_append_left hi] at hm
    exact inB_iff.2 (h.at_ i c m hc hm)
  · rw [List.getElem?_append_right (by omega)] at hm
    have hc' : (l.drop b.length)[i - b.length]? = some c := by rw [List.getElem?_drop, show b.length + (i - b.length) = i by omega]; exact hc
    have h3 := h2 (i - b.length) c.most.toNat m (mosts_at hc') hm
    have h4 := inB_iff.1 h3
    have h5 := hms c (List.mem_of_getElem? hc)
    exact inB_iff.2 (by omega)
/-- What the reference's Cheapest hands back. -/
def SlX (w : World) (z : Option (List Int)) (v : Value) : Prop :=
  match z with
  | none => True
  | some z => ∃ A c, v = .slice A z.length c ∧ Sl w w.heap.size 1 encI A z
theorem SlX.call {w w' : World} {z : Option (List Int)} {v : Value} (h : SlX w z v) (hb : Below w.heap.size w w') : SlX w' z v := by
  cases z with
  | none => exact h
  | some z =>
    obtain ⟨A, c, e, h⟩ := h
    exact ⟨A, c, e, (h.below hb).more hb.size⟩
def RetX (z : Option (List Int)) (w : World) (e : Ending) (w' : World) : Prop :=
  ∃ v, e = .returned (.tuple #[v, .bool z.isSome]) ∧ SlX w' z v ∧ Below w.heap.size w w'
/-- The best of all that begin so. -/
def bestX (p : PlM) (l : List Cr) (S Y : Nat) (number : Int) (E : List (List Int)) : Option (List Int) := bestD (fun q => costP l q l.length) (enoughP p S Y number l) E
theorem bestX_next (p : PlM) (l : List Cr) (S Y : Nat) (number : Int) (f : Nat → List (List Int)) (j : Nat) : bestX p l S Y number ((List.range (j + 1)).flatMap f) = pickB (fun q => costP l q l.length) (bestX p l S Y number ((List.range j).flatMap f)) (bestX p l S Y number (f j)) := by
  unfold bestX
  rw [List.range_succ, List.flatMap_append, best_append]
  simp
theorem bestX_mem {p : PlM} {l : List Cr} {S Y : Nat} {number : Int} {E : List (List Int)} {z : List Int} (h : bestX p l S Y number E = some z) : z ∈ E := by
  have h1 := best_spec (fun q => costP l q l.length) (enoughP p S Y number l) E
  unfold bestX at h
  rw [h] at h1
  exact h1.1
end Go.Proofs.Ytlkdmcdnkoiflaa

namespace Go.Proofs.Ytlkdmcdnkoiflaa
open Go.RowKit Go.Lib

section
variable {P : Program} {Q : Exit → Act → World → Prop}
def wayWB (l : List Oper) (rs : List Nat) (t : Wy) : Bool :=
  Region.noSelect l.toArray && takes3B .any l.toArray (Array.replicate l.toArray.size false) rs && wysB .any l.toArray true (takenB (Array.replicate l.toArray.size false) rs) t && decide (t.depth + rs.length = l.toArray.size)
/-- A drawn region that goes in several ways to its very end. -/
theorem wp_region_wayw {id : Nat} {l : List Oper} {a : Act} {w : World} (rs : List Nat) (t : Wy) (S : World → Prop) (hm : P.follows .mixedOrders = true) (hB : wayWB l rs t = true) (hS : S w.drew)
    (h : wpQuiet P l.toArray S (fun a' => wpWy P l.toArray S (fun a w => Q .normal a w) true t a' w.drew) (rs.filterMap (l.toArray[·]?)) a) :
    (Code.region id l.toArray true).wp P Q a w := by
  simp only [wayWB, Bool.and_eq_true, decide_eq_true_eq] at hB
  obtain ⟨⟨⟨b6, b7⟩, b8⟩, b9⟩ := hB
  refine wp_region_any hm (wpAny_of_ends (T := fun a w => Q .normal a w) (fun _ _ h => h) _ _ _ _ ?_)
  refine wpAny_of_held (S := S) _ _ _ _ ?_
  rw [← b9]
  refine wpAnyH_takes3 b6 rs _ a _ t.depth hS (by rw [b9]; exact b7) ?_
  refine wpQuiet_mono (fun a' ha => ?_) _ _ h
  exact wpAnyH_wy b6 _ t _ a' _ (Nat.le_refl _) hS (by rw [b9]; exact b8) ha
end
/-- append of numbers to a row of one's own. -/
theorem wpList_app_ints {ops : Array Oper} {rest : List Oper} {o : Oper} {a : Act} {w : World} {Q : Exit → Act → World → Prop} (hgd : o.guard = none) (s x : Operand) (ho : o.op = .call { callee := .builtin .append, args := #[s, x], argTypes := #[23, 23] })
    (base : Nat) (v : Value) (xs : List Int) (hs : a.eval s = v) (hown : w.ownsRow base 3 1 v xs.length (xs.flatMap encI)) (A : Option Addr) (c : Nat) (ys : List Int) (hx : a.eval x = .slice A ys.length c) (hA : A = none → ys.length = 0 ∧ c = 0) (hy : Sl w w.heap.size 1 encI A ys) (hl : xs.length + ys.length ≤ 1000) (hb : base ≤ w.heap.size)
    (h : ∀ v' w', w'.ownsRow base 3 1 v' (xs ++ ys).length ((xs ++ ys).flatMap encI) → Below base w w' → w.grownBy w' v.ownBlock → wpList Try.prog ops Q rest (a.put o.dst v') w') : wpList Try.prog ops Q (o :: rest) a w := by
  obtain ⟨i0, hi, hz0, hz1, hz2⟩ := info_parts info_int
  have hln : (ys.flatMap encI).length = ys.length * 1 := flat_len (enc := encI) (fun _ => rfl) _
  have h1c : ∀ u ∈ ys.flatMap encI, u.oneCell' = true := fun u hu => by
    obtain ⟨z, _, hz⟩ := List.mem_flatMap.1 hu
    simp [encI] at hz; subst hz; rfl
  refine wpList_append_sl hgd s x 23 ho base 3 i0 _ 1 8 Try.underlying23 hi hz0 hz1 hz2 rfl (by decide) v xs.length _ hs hown A ys.length c (ys.flatMap encI) hx hln hA (hy.news (enc := encI) (fun _ => rfl)) h1c (by unfold maxLen; omega) (by omega) hb ?_
  intro v' w' hown' hg _
  refine h v' w' (by rw [List.length_append, List.flatMap_append]; exact hown') ((Below.refl base w).grown hg hb (fun k e => (hown.lt k e).1)) hg
set_option maxRecDepth 100000 in
set_option maxHeartbeats 2000000 in
theorem Cheap_leaf (p : PlM) (A B : Option Addr) (c cb S Y : Nat) (l : List Cr) (b : List Int) (number : Int) (w : World) (hp : p.At w w.heap.size) (hA : Sl w w.heap.size 4 encCr A l) (hB : Sl w w.heap.size 1 encI B b) (hf : p.fault = 0) (ho : offB p.s.l.length l = 0) (hS : S < p.s.l.length) (hY : p.years = (Y : Int)) (hb : PreB l b) (hlen : b.length = l.length) :
    Calls Try.prog 45 #[.agg p.cells.toArray, .slice A l.length c, .int .i64 (S : Int), .int .i64 number, .slice B b.length cb] w (RetX (bestX p l S Y number (subQ l b)) w) := by
  have l0 : Lies (w.alloc (.cells p.cells.toArray 28)) w.heap.size 28 p.cells.toArray := Lies.fresh _ _ _
  have b0 : Below w.heap.size w (w.alloc (.cells p.cells.toArray 28)) := (Below.refl _ _).alloc (Nat.le_refl _) _
  have hms : ∀ c, c ∈ l → 0 ≤ c.most ∧ c.most ≤ 9 := fun c hc => (Cr.ok_iff.1 ((offB_zero ho).2 c hc)).2.2.2
  have hpb := (hb.sub hms (z := b) (by rw [subQ_leaf hlen]; simp)).1
  have hE := refEnough_any p A B c cb S Y l b number _ (hp.below b0 b0.size) ((hA.below b0).more b0.size) ((hB.below b0).more b0.size) hf ho hpb hS hY
  have hz : bestX p l S Y number (subQ l b) = if enoughP p S Y number l b then some b else none := by
    rw [subQ_leaf hlen]; unfold bestX bestD; simp only [List.foldl_cons, List.foldl_nil]
    cases enoughP p S Y number l b <;> rfl
  rw [hz]
  generalize enoughP p S Y number l b = eb at *
  have HB := Lib.hid hB
  have L0 := Lib.hid l0
  have B0 := Lib.hid b0
  have HE := Lib.hid hE
  have HLEN := Lib.hid hlen
  have heq : ((b.length : Int) == (l.length : Int)) = true := by rw [hlen]; simp
  clear hp hA hB hf ho hS hY hb hlen l0 b0 hms hpb hE hz
  unfold PlM.cells at HE ⊢
  go_enter Try.func45, Try.ntmps45
  cases eb
  all_goals
    go_wp2_with (first
      | (refine wpList_load_row (o := ⟨some 25, _, _, _, _, _⟩) ?_ 28 (.tmp 5) ?_ w.heap.size ?_ 28 p.cells.toArray (0, 0) _ L0.out Try.underlying28 rfl size28 ?_; rfl; rfl; rfl)
      | (go_at_call 44; refine HE.out.mono ?_; rintro e w1 ⟨rfl, hb1⟩))
    go_ret2
    have hx := B0.out.trans (hb1.mono B0.out.size)
  · exact ⟨.slice B b.length cb, rfl, trivial, hx⟩
  · exact ⟨.slice B b.length cb, rfl, ⟨B, cb, rfl, (HB.out.below hx).more hx.size⟩, hx⟩
end Go.Proofs.Ytlkdmcdnkoiflaa

namespace Go.Proofs.Ytlkdmcdnkoiflaa
open Go.RowKit Go.Lib

set_option maxRecDepth 100000 in
set_option maxHeartbeats 800000 in
theorem Cheap_step (p : PlM) (A B : Option Addr) (c cb S Y : Nat) (l : List Cr) (b : List Int) (number : Int) (w : World) (hA : Sl w w.heap.size 4 encCr A l) (hB : Sl w w.heap.size 1 encI B b) (nB : B = none → b.length = 0 ∧ cb = 0) (ho : offB p.s.l.length l = 0) (hb : PreB l b) (hlen : b.length < l.length)
    (hIH : ∀ (j : Nat) (B' : Option Addr) (cb' : Nat) (W : World), PreB l (b ++ [(j : Int)]) → Below w.heap.size w W → Sl W W.heap.size 1 encI B' (b ++ [(j : Int)]) → (B' = none → (b ++ [(j : Int)]).length = 0 ∧ cb' = 0) →
      Calls Try.prog 45 #[.agg p.cells.toArray, .slice A l.length c, .int .i64 (S : Int), .int .i64 number, .slice B' (b ++ [(j : Int)]).length cb'] W (RetX (bestX p l S Y number (subQ l (b ++ [(j : Int)]))) W)) :
    Calls Try.prog 45 #[.agg p.cells.toArray, .slice A l.length c, .int .i64 (S : Int), .int .i64 number, .slice B b.length cb] w (RetX (bestX p l S Y number (subQ l b)) w) := by
  have hl4 := (offB_zero ho).1
  have hms : ∀ c, c ∈ l → 0 ≤ c.most ∧ c.most ≤ 9 := fun c hc => (Cr.ok_iff.1 ((offB_zero ho).2 c hc)).2.2.2
  obtain ⟨x, hx⟩ : ∃ x, l[b.length]? = some x := ⟨l[b.length], by simp [hlen]⟩
  have hxm := hms x (List.mem_of_getElem? hx)
  obtain ⟨M, hM⟩ : ∃ M : Nat, x.most = (M : Int) := ⟨x.most.toNat, by omega⟩
  have hM9 : M ≤ 9 := by omega
  have hsub : subQ l b = (List.range (M + 1)).flatMap fun j : Nat => subQ l (b ++ [(j : Int)]) := by
    have := subQ_step hx
    rw [show x.most.toNat = M by omega] at this
    exact this
  obtain ⟨ba, oa, rfl, hba, hc1⟩ := hA (by rintro e; rw [e] at hlen; simp at hlen)
  have e3 : w.cell? ⟨ba, oa + b.length * 4 + 3, none⟩ = some (.int .i64 (M : Int)) := by rw [← hM]; exact hc1 b.length _ hx 3 _ rfl
  have l0 : Lies (w.alloc (.cells p.cells.toArray 28)) w.heap.size 28 p.cells.toArray := Lies.fresh _ _ _
  have b0 : Below w.heap.size w (w.alloc (.cells p.cells.toArray 28)) := (Below.refl _ _).alloc (Nat.le_refl _) _
  have hPR : ∀ (A' : Option Addr) (c' : Nat) (y : List Int) (W : World), Below w.heap.size w W → Sl W W.heap.size 1 encI A' y → pairedB l y (fun c m => inB m 0 c.most) = true → Calls Try.prog 47 #[.slice (some ⟨ba, oa, none⟩) l.length c, .slice A' y.length c'] W fun e w' => e = .returned (.int .i64 (costP l y l.length)) ∧ Below W.heap.size W w' := fun A' c' y W hw hy hpy =>
    Price_any _ A' c c' l y W ((hA.below hw).more hw.size) hy (purF_of ho hpy)
  have hnx : ∀ j : Nat, (j : Int) ≤ (M : Int) → PreB l (b ++ [(j : Int)]) := fun j hj => hb.next hx (by rw [hM]; exact hj)
  have hpb : ∀ (z : List Int), z ∈ subQ l b → pairedB l z (fun c m => inB m 0 c.most) = true := fun z hz => (hb.sub hms hz).1
  have hbn : ∀ (j : Nat) (z : List Int), j ≤ M → bestX p l S Y number (subQ l (b ++ [(j : Int)])) = some z → pairedB l z (fun c m => inB m 0 c.most) = true := fun j z hj hz =>
    hpb z (by rw [hsub]; exact List.mem_flatMap.2 ⟨j, List.mem_range.2 (by omega), bestX_mem hz⟩)
  have hbs : ∀ (j : Nat) (z : List Int), j ≤ M + 1 → bestX p l S Y number ((List.range j).flatMap fun j : Nat => subQ l (b ++ [(j : Int)])) = some z → pairedB l z (fun c m => inB m 0 c.most) = true := fun j z hj hz => by
    obtain ⟨i, hi, hzi⟩ := List.mem_flatMap.1 (bestX_mem hz)
    exact hpb z (by rw [hsub]; exact List.mem_flatMap.2 ⟨i, List.mem_range.2 (by have := List.mem_range.1 hi; omega), hzi⟩)
  have hstep := bestX_next p l S Y number (fun j : Nat => subQ l (b ++ [(j : Int)]))
  rw [hsub]
  have HB := Lib.hid hB
  have HNB := Lib.hid nB
  have HIH := Lib.hid hIH
  have L0 := Lib.hid l0
  have B0 := Lib.hid b0
  have HPR := Lib.hid hPR
  have HNX := Lib.hid hnx
  have HBN := Lib.hid hbn
  have HBS := Lib.hid hbs
  have HST := Lib.hid hstep
  have E3 := Lib.hid e3
  have HBL := Lib.hid (show b.length ≤ 4 by omega)
  have heq : ((b.length : Int) == (l.length : Int)) = false := by simp; omega
  have hbl : (b.length : Int) < (l.length : Int) := by omega
  have hb0 : (0 : Int) ≤ (b.length : Int) := by omega
  have hMz : (M : Int) ≤ 9 := by omega
  clear hA hB nB ho hb hlen hIH hl4 hms hx hxm hM hsub hba hc1 e3 l0 b0 hPR hnx hpb hbn hbs hstep
  unfold PlM.cells at HIH ⊢
  go_enter Try.func45, Try.ntmps45
  go_wp2
  go_loopw [13, 14, 15] (fun v13 v14 v15 wr => ∃ j : Nat, j ≤ M + 1 ∧ v15 = .int .i64 j ∧ v14 = .bool (bestX p l S Y number ((List.range j).flatMap fun j : Nat => subQ l (b ++ [(j : Int)]))).isSome ∧ Aside (SlX wr (bestX p l S Y number ((List.range j).flatMap fun j : Nat => subQ l (b ++ [(j : Int)]))) v13 ∧ Below w.heap.size w wr ∧ Lies wr w.heap.size 28 p.cells.toArray)) (fun _ _ i _ => M + 1 - (intOf i).toNat)
  case atStart => exact ⟨0, by omega, rfl, rfl, trivial, B0.out, L0.out⟩
  case round =>
    obtain ⟨j, hj, rfl, rfl, hx⟩ := hrel
    obtain ⟨hz, hbw, hlw⟩ := hx.out
    have hk := KC.of_below hbw
    have d3 : wr.cell? ⟨ba, oa + b.length * 4 + 3, none⟩ = some (.int .i64 (M : Int)) := by rw [hbw.cell (World.block_lt_of_cell? _ _ E3.out)]; exact E3.out
    have HZ := Lib.hid hz
    have BW := Lib.hid hbw
    have LW := Lib.hid hlw
    clear hx hz hbw hlw hk L0 B0
    by_cases hjm : j ≤ M
    · have hjz : (j : Int) ≤ (M : Int) := by omega
      have hj0 : (0 : Int) ≤ (j : Int) := by omega
      have hst := HST.out j
      have hpn := fun z => HBN.out j z hjm
      have hps := fun z => HBS.out j z (by omega)
      have HS1 := Lib.hid hst
      have HPN := Lib.hid hpn
      have HPS := Lib.hid hps
      have hih := fun (B' : Option Addr) (cb' : Nat) (W : World) => HIH.out j B' cb' W (HNX.out j hjz)
      have HI := Lib.hid hih
      clear hst hpn hps hih hjm
      generalize hzj : bestX p l S Y number ((List.range j).flatMap fun j : Nat => subQ l (b ++ [(j : Int)])) = zj at *
      generalize hzn : bestX p l S Y number (subQ l (b ++ [(j : Int)])) = zn at *
      clear hzj hzn
      go_upto_region 9 with (fail)
      clear d3
      go_cut [16, 17] from 40 to 53 (fun s16 s17 wx => s17 = .bool zn.isSome ∧ Aside (SlX wx zn s16 ∧ Below wr.heap.size wr wx))
      case first =>
        have hrg : ∀ W, (∃ cc : Cls (fun W => Below wr.heap.size wr W), W = cc.val) → W.rangeAt w.heap.size 0 p.cells := by
          rintro W ⟨cc, rfl⟩
          exact Lies.range (cs := p.cells) (LW.out.call cc.h) (fun j v hj => by simpa using hj)
        have HRG := Lib.hid hrg
        haveI hne : Nonempty (Cls (fun W => Below wr.heap.size wr W)) := ⟨⟨wr, Below.refl _ _⟩⟩
        clear hrg
        refine wp_region_wayw [0, 1, 2, 3, 5, 7] (.way 4 (.way 6 (.way 8 (.way 9 (.way 10 (.take 11 (.take 12 (.take 13 (.take 14 (.take 15 .fin))))) .fin) .fin) .fin) (.way 8 (.way 6 (.way 9 (.way 10 (.take 11 (.take 12 (.take 13 (.take 14 (.take 15 .fin))))) .fin) .fin) .fin) .fin)) (.way 8 (.way 4 (.way 6 (.way 9 (.way 10 (.take 11 (.take 12 (.take 13 (.take 14 (.take 15 .fin))))) .fin) .fin) .fin) .fin) .fin)) (fun W => ∃ cc : Cls (fun W => Below wr.heap.size wr W), W = cc.val) (by kernel_rfl) (by kernel_rfl) (Cls.here (Below.refl _ _).drew) ?_
        simp only [List.filterMap_cons, List.filterMap_nil, List.getElem?_toArray, List.getElem?_cons_zero, List.getElem?_cons_succ]
        repeat (first
          | (refine wpQuiet_load_whole (o := ⟨some 41, _, _, _, _, _⟩) ?_ 28 (.tmp 5) ?_ w.heap.size 0 ?_ p.cells _ HRG.out Try.underlying28 rfl size28 ?_; rfl; rfl; rfl; simp only [Act.put, List.setIfInBounds_toArray, List.set_cons_zero, List.set_cons_succ])
          | go_big_quiet_step (rfl) | quiet_step (rfl))
        refine wpQuiet_nil ?_
        clear HRG
        have D0 := Lib.hid (show Below wr.heap.size wr wr.drew from (Below.refl _ _).drew)
        generalize wr.drew = d0 at *
        rw [wpWy_way]
        refine ⟨?_, ?_⟩
        · simp only [List.getElem?_toArray, List.getElem?_cons_succ, List.getElem?_cons_zero]
          go_wp2_with (fail)
          have hb1 := (Below.refl d0.heap.size d0).alloc (Nat.le_refl _) (.cells #[] 3)
          have D1 := Lib.hid (D0.out.trans (hb1.mono D0.out.size))
          have OE1 := Lib.hid (show (d0.alloc (.cells #[] 3)).ownsRow wr.heap.size 3 1 (.slice (some ⟨d0.heap.size, 0, none⟩) 0 0) ([] : List Int).length (([] : List Int).flatMap encI) from World.ownsRow_made d0 #[] 0 D0.out.size (by unfold maxLen; omega) rfl)
          generalize d0.heap.size = gE at *
          generalize d0.alloc (.cells #[] 3) = d1 at *
          refine Ends.intro ⟨Cls.here D1.out, ?_⟩
          rw [wpWy_way]
          refine ⟨?_, ?_⟩
          · simp only [List.getElem?_toArray, List.getElem?_cons_succ, List.getElem?_cons_zero]
            refine wpList_app_ints ?_ (.tmp 45) (.tmp 46) ?_ wr.heap.size _ [] ?_ OE1.out B cb b ?_ HNB.out ((HB.out.below (BW.out.trans (D1.out.mono BW.out.size))).more (BW.out.trans (D1.out.mono BW.out.size)).size) (by have := HBL.out; simp; omega) D1.out.size ?_
            rfl; rfl; rfl; rfl
            intro vA d2 oA2 hb2 hg2
            rw [List.nil_append] at oA2
            have OA2 := Lib.hid oA2
            have D2 := Lib.hid (D1.out.trans hb2)
            clear oA2 hg2
            simp only [Act.put, List.setIfInBounds_toArray, List.set_cons_zero, List.set_cons_succ]
            refine wpList_nil ?_
            refine Ends.intro ⟨Cls.here D2.out, ?_⟩
            rw [wpWy_way]
            refine ⟨?_, by exact trivial⟩
            simp only [List.getElem?_toArray, List.getElem?_cons_succ, List.getElem?_cons_zero]
            go_wp2_with (fail)
            have hb3 := (Below.refl d2.heap.size d2).alloc (Nat.le_refl _) (.cells #[.int .i64 (j : Int)] 3)
            have D3 := Lib.hid (D2.out.trans (hb3.mono D2.out.size))
            have LN3 := Lib.hid (show Lies (d2.alloc (.cells #[.int .i64 (j : Int)] 3)) d2.heap.size 3 (vals [(j : Int)]) from Lies.fresh d2 3 (vals [(j : Int)]))
            have OA3 := Lib.hid (ownsRow_call OA2.out hb3)
            generalize d2.heap.size = gN at *
            generalize d2.alloc (.cells #[.int .i64 (j : Int)] 3) = d3 at *
            refine Ends.intro ⟨Cls.here D3.out, ?_⟩
            rw [wpWy_way]
            refine ⟨?_, by exact trivial⟩
            simp only [List.getElem?_toArray, List.getElem?_cons_succ, List.getElem?_cons_zero]
            refine wpList_app_ints ?_ (.tmp 47) (.tmp 49) ?_ wr.heap.size _ b ?_ OA3.out (some ⟨gN, 0, none⟩) 1 [(j : Int)] ?_ (fun e => by cases e) (lies_q LN3.out) (by have := HBL.out; simp; omega) D3.out.size ?_
            rfl; rfl; rfl; rfl
            intro vP d4 oP4 hb4 _
            have D4 := Lib.hid (D3.out.trans hb4)
            simp only [Act.put, List.setIfInBounds_toArray, List.set_cons_zero, List.set_cons_succ]
            refine wpList_nil ?_
            refine Ends.intro ⟨Cls.here D4.out, ?_⟩
            rw [wpWy_way]
            refine ⟨?_, by exact trivial⟩
            simp only [List.getElem?_toArray, List.getElem?_cons_succ, List.getElem?_cons_zero]
            obtain ⟨BX, cX, eX, nX, sX⟩ := Sl.of_own (enc := encI) (l := b ++ [(j : Int)]) (fun _ => rfl) oP4 rfl
            subst eX
            have hrec := HI.out BX cX d4 (BW.out.trans (D4.out.mono BW.out.size)) sX (own_nil oP4)
            rw [show (b ++ [(j : Int)]).length = b.length + 1 by simp] at hrec
            have HREC := Lib.hid hrec
            clear hrec oP4
            go_wp2_with (go_at_call 45; refine HREC.out.mono ?_; rintro e wz ⟨vz, rfl, hzz, hbz⟩)
            have DZ := Lib.hid (D4.out.trans (hbz.mono D4.out.size))
            have HZN := Lib.hid hzz
            clear hzz hbz
            refine Ends.intro ⟨Cls.here DZ.out, ?_⟩
            rw [wpWy_take]
            simp only [List.getElem?_toArray, List.getElem?_cons_succ, List.getElem?_cons_zero]
            first | go_big_quiet_step (rfl) | quiet_step (rfl)
            refine wpQuiet_nil ?_
            rw [wpWy_take]
            simp only [List.getElem?_toArray, List.getElem?_cons_succ, List.getElem?_cons_zero]
            first | go_big_quiet_step (rfl) | quiet_step (rfl)
            refine wpQuiet_nil ?_
            rw [wpWy_take]
            simp only [List.getElem?_toArray, List.getElem?_cons_succ, List.getElem?_cons_zero]
            first | go_big_quiet_step (rfl) | quiet_step (rfl)
            refine wpQuiet_nil ?_
            rw [wpWy_take]
            simp only [List.getElem?_toArray, List.getElem?_cons_succ, List.getElem?_cons_zero]
            first | go_big_quiet_step (rfl) | quiet_step (rfl)
            refine wpQuiet_nil ?_
            rw [wpWy_take]
            simp only [List.getElem?_toArray, List.getElem?_cons_succ, List.getElem?_cons_zero]
            first | go_big_quiet_step (rfl) | quiet_step (rfl)
            refine wpQuiet_nil ?_
            rw [wpWy_fin]
            go_wp2
            go_meet
            case rel => exact ⟨rfl, HZN.out, DZ.out⟩
          · rw [wpWy_way]
            refine ⟨?_, by exact trivial⟩
            simp only [List.getElem?_toArray, List.getElem?_cons_succ, List.getElem?_cons_zero]
            go_wp2_with (fail)
            have hb2 := (Below.refl d1.heap.size d1).alloc (Nat.le_refl _) (.cells #[.int .i64 (j : Int)] 3)
            have D2 := Lib.hid (D1.out.trans (hb2.mono D1.out.size))
            have LN2 := Lib.hid (show Lies (d1.alloc (.cells #[.int .i64 (j : Int)] 3)) d1.heap.size 3 (vals [(j : Int)]) from Lies.fresh d1 3 (vals [(j : Int)]))
            have HNE := Lib.hid (show d1.heap.size ≠ gE by have := (own_at OE1.out (g := gE) rfl).2.1; omega)
            have OE2 := Lib.hid (ownsRow_call OE1.out hb2)
            generalize d1.heap.size = gN at *
            generalize d1.alloc (.cells #[.int .i64 (j : Int)] 3) = d2 at *
            refine Ends.intro ⟨Cls.here D2.out, ?_⟩
            rw [wpWy_way]
            refine ⟨?_, by exact trivial⟩
            simp only [List.getElem?_toArray, List.getElem?_cons_succ, List.getElem?_cons_zero]
            refine wpList_app_ints ?_ (.tmp 45) (.tmp 46) ?_ wr.heap.size _ [] ?_ OE2.out B cb b ?_ HNB.out ((HB.out.below (BW.out.trans (D2.out.mono BW.out.size))).more (BW.out.trans (D2.out.mono BW.out.size)).size) (by have := HBL.out; simp; omega) D2.out.size ?_
            rfl; rfl; rfl; rfl
            intro vA d3 oA3 hb3 hg3
            rw [List.nil_append] at oA3
            have OA3 := Lib.hid oA3
            have D3 := Lib.hid (D2.out.trans hb3)
            have LN3 := Lib.hid (LN2.out.to_ (hg3.block gN LN2.out.in_ (fun e => HNE.out (by simpa [Value.ownBlock] using e))))
            clear oA3 hg3
            simp only [Act.put, List.setIfInBounds_toArray, List.set_cons_zero, List.set_cons_succ]
            refine wpList_nil ?_
            refine Ends.intro ⟨Cls.here D3.out, ?_⟩
            rw [wpWy_way]
            refine ⟨?_, by exact trivial⟩
            simp only [List.getElem?_toArray, List.getElem?_cons_succ, List.getElem?_cons_zero]
            refine wpList_app_ints ?_ (.tmp 47) (.tmp 49) ?_ wr.heap.size _ b ?_ OA3.out (some ⟨gN, 0, none⟩) 1 [(j : Int)] ?_ (fun e => by cases e) (lies_q LN3.out) (by have := HBL.out; simp; omega) D3.out.size ?_
            rfl; rfl; rfl; rfl
            intro vP d4 oP4 hb4 _
            have D4 := Lib.hid (D3.out.trans hb4)
            simp only [Act.put, List.setIfInBounds_toArray, List.set_cons_zero, List.set_cons_succ]
            refine wpList_nil ?_
            refine Ends.intro ⟨Cls.here D4.out, ?_⟩
            rw [wpWy_way]
            refine ⟨?_, by exact trivial⟩
            simp only [List.getElem?_toArray, List.getElem?_cons_succ, List.getElem?_cons_zero]
            obtain ⟨BX, cX, eX, nX, sX⟩ := Sl.of_own (enc := encI) (l := b ++ [(j : Int)]) (fun _ => rfl) oP4 rfl
            subst eX
            have hrec := HI.out BX cX d4 (BW.out.trans (D4.out.mono BW.out.size)) sX (own_nil oP4)
            rw [show (b ++ [(j : Int)]).length = b.length + 1 by simp] at hrec
            have HREC := Lib.hid hrec
            clear hrec oP4
            go_wp2_with (go_at_call 45; refine HREC.out.mono ?_; rintro e wz ⟨vz, rfl, hzz, hbz⟩)
            have DZ := Lib.hid (D4.out.trans (hbz.mono D4.out.size))
            have HZN := Lib.hid hzz
            clear hzz hbz
            refine Ends.intro ⟨Cls.here DZ.out, ?_⟩
            rw [wpWy_take]
            simp only [List.getElem?_toArray, List.getElem?_cons_succ, List.getElem?_cons_zero]
            first | go_big_quiet_step (rfl) | quiet_step (rfl)
            refine wpQuiet_nil ?_
            rw [wpWy_take]
            simp only [List.getElem?_toArray, List.getElem?_cons_succ, List.getElem?_cons_zero]
            first | go_big_quiet_step (rfl) | quiet_step (rfl)
            refine wpQuiet_nil ?_
            rw [wpWy_take]
            simp only [List.getElem?_toArray, List.getElem?_cons_succ, List.getElem?_cons_zero]
            first | go_big_quiet_step (rfl) | quiet_step (rfl)
            refine wpQuiet_nil ?_
            rw [wpWy_take]
            simp only [List.getElem?_toArray, List.getElem?_cons_succ, List.getElem?_cons_zero]
            first | go_big_quiet_step (rfl) | quiet_step (rfl)
            refine wpQuiet_nil ?_
            rw [wpWy_take]
            simp only [List.getElem?_toArray, List.getElem?_cons_succ, List.getElem?_cons_zero]
            first | go_big_quiet_step (rfl) | quiet_step (rfl)
            refine wpQuiet_nil ?_
            rw [wpWy_fin]
            go_wp2
            go_meet
            case rel => exact ⟨rfl, HZN.out, DZ.out⟩
        · rw [wpWy_way]
          refine ⟨?_, by exact trivial⟩
          simp only [List.getElem?_toArray, List.getElem?_cons_succ, List.getElem?_cons_zero]
          go_wp2_with (fail)
          have hb1 := (Below.refl d0.heap.size d0).alloc (Nat.le_refl _) (.cells #[.int .i64 (j : Int)] 3)
          have D1 := Lib.hid (D0.out.trans (hb1.mono D0.out.size))
          have LN1 := Lib.hid (show Lies (d0.alloc (.cells #[.int .i64 (j : Int)] 3)) d0.heap.size 3 (vals [(j : Int)]) from Lies.fresh d0 3 (vals [(j : Int)]))
          generalize d0.heap.size = gN at *
          generalize d0.alloc (.cells #[.int .i64 (j : Int)] 3) = d1 at *
          refine Ends.intro ⟨Cls.here D1.out, ?_⟩
          rw [wpWy_way]
          refine ⟨?_, by exact trivial⟩
          simp only [List.getElem?_toArray, List.getElem?_cons_succ, List.getElem?_cons_zero]
          go_wp2_with (fail)
          have hb2 := (Below.refl d1.heap.size d1).alloc (Nat.le_refl _) (.cells #[] 3)
          have D2 := Lib.hid (D1.out.trans (hb2.mono D1.out.size))
          have OE2 := Lib.hid (show (d1.alloc (.cells #[] 3)).ownsRow wr.heap.size 3 1 (.slice (some ⟨d1.heap.size, 0, none⟩) 0 0) ([] : List Int).length (([] : List Int).flatMap encI) from World.ownsRow_made d1 #[] 0 D1.out.size (by unfold maxLen; omega) rfl)
          have HNE := Lib.hid (show gN ≠ d1.heap.size by have := LN1.out.in_; omega)
          have LN2 := Lib.hid (LN1.out.call hb2)
          generalize d1.heap.size = gE at *
          generalize d1.alloc (.cells #[] 3) = d2 at *
          refine Ends.intro ⟨Cls.here D2.out, ?_⟩
          rw [wpWy_way]
          refine ⟨?_, by exact trivial⟩
          simp only [List.getElem?_toArray, List.getElem?_cons_succ, List.getElem?_cons_zero]
          refine wpList_app_ints ?_ (.tmp 45) (.tmp 46) ?_ wr.heap.size _ [] ?_ OE2.out B cb b ?_ HNB.out ((HB.out.below (BW.out.trans (D2.out.mono BW.out.size))).more (BW.out.trans (D2.out.mono BW.out.size)).size) (by have := HBL.out; simp; omega) D2.out.size ?_
          rfl; rfl; rfl; rfl
          intro vA d3 oA3 hb3 hg3
          rw [List.nil_append] at oA3
          have OA3 := Lib.hid oA3
          have D3 := Lib.hid (D2.out.trans hb3)
          have LN3 := Lib.hid (LN2.out.to_ (hg3.block gN LN2.out.in_ (fun e => HNE.out (by simpa [Value.ownBlock] using e))))
          clear oA3 hg3
          simp only [Act.put, List.setIfInBounds_toArray, List.set_cons_zero, List.set_cons_succ]
          refine wpList_nil ?_
          refine Ends.intro ⟨Cls.here D3.out, ?_⟩
          rw [wpWy_way]
          refine ⟨?_, by exact trivial⟩
          simp only [List.getElem?_toArray, List.getElem?_cons_succ, List.getElem?_cons_zero]
          refine wpList_app_ints ?_ (.tmp 47) (.tmp 49) ?_ wr.heap.size _ b ?_ OA3.out (some ⟨gN, 0, none⟩) 1 [(j : Int)] ?_ (fun e => by cases e) (lies_q LN3.out) (by have := HBL.out; simp; omega) D3.out.size ?_
          rfl; rfl; rfl; rfl
          intro vP d4 oP4 hb4 _
          have D4 := Lib.hid (D3.out.trans hb4)
          simp only [Act.put, List.setIfInBounds_toArray, List.set_cons_zero, List.set_cons_succ]
          refine wpList_nil ?_
          refine Ends.intro ⟨Cls.here D4.out, ?_⟩
          rw [wpWy_way]
          refine ⟨?_, by exact trivial⟩
          simp only [List.getElem?_toArray, List.getElem?_cons_succ, List.getElem?_cons_zero]
          obtain ⟨BX, cX, eX, nX, sX⟩ := Sl.of_own (enc := encI) (l := b ++ [(j : Int)]) (fun _ => rfl) oP4 rfl
          subst eX
          have hrec := HI.out BX cX d4 (BW.out.trans (D4.out.mono BW.out.size)) sX (own_nil oP4)
          rw [show (b ++ [(j : Int)]).length = b.length + 1 by simp] at hrec
          have HREC := Lib.hid hrec
          clear hrec oP4
          go_wp2_with (go_at_call 45; refine HREC.out.mono ?_; rintro e wz ⟨vz, rfl, hzz, hbz⟩)
          have DZ := Lib.hid (D4.out.trans (hbz.mono D4.out.size))
          have HZN := Lib.hid hzz
          clear hzz hbz
          refine Ends.intro ⟨Cls.here DZ.out, ?_⟩
          rw [wpWy_take]
          simp only [List.getElem?_toArray, List.getElem?_cons_succ, List.getElem?_cons_zero]
          first | go_big_quiet_step (rfl) | quiet_step (rfl)
          refine wpQuiet_nil ?_
          rw [wpWy_take]
          simp only [List.getElem?_toArray, List.getElem?_cons_succ, List.getElem?_cons_zero]
          first | go_big_quiet_step (rfl) | quiet_step (rfl)
          refine wpQuiet_nil ?_
          rw [wpWy_take]
          simp only [List.getElem?_toArray, List.getElem?_cons_succ, List.getElem?_cons_zero]
          first | go_big_quiet_step (rfl) | quiet_step (rfl)
          refine wpQuiet_nil ?_
          rw [wpWy_take]
          simp only [List.getElem?_toArray, List.getElem?_cons_succ, List.getElem?_cons_zero]
          first | go_big_quiet_step (rfl) | quiet_step (rfl)
          refine wpQuiet_nil ?_
          rw [wpWy_take]
          simp only [List.getElem?_toArray, List.getElem?_cons_succ, List.getElem?_cons_zero]
          first | go_big_quiet_step (rfl) | quiet_step (rfl)
          refine wpQuiet_nil ?_
          rw [wpWy_fin]
          go_wp2
          go_meet
          case rel => exact ⟨rfl, HZN.out, DZ.out⟩
      case rest =>
        obtain ⟨hs17, hc0⟩ := hcut
        subst hs17
        obtain ⟨hzn, hbc⟩ := hc0.out
        have BC := Lib.hid (BW.out.trans (hbc.mono BW.out.size))
        have LC := Lib.hid (LW.out.call hbc)
        have HZC := Lib.hid (HZ.out.call hbc)
        clear hc0 hbc HI LW BW HZ
        cases zn with
        | none =>
          simp only [Option.isSome_none]
          clear hzn
          go_wp2
          go_roundw
          case rel => exact ⟨j + 1, by omega, by go_num, by rw [HS1.out, pickB_none], by rw [HS1.out, pickB_none]; exact ⟨HZC.out, BC.out, LC.out⟩⟩
          case measure => simp [intOf]; omega
        | some x =>
          obtain ⟨AX, cX, rfl, sX⟩ := hzn
          have SX := Lib.hid sX
          clear sX
          simp only [Option.isSome_some]
          cases zj with
          | none =>
            simp only [Option.isSome_none]
            go_wp2
            go_roundw
            case rel => exact ⟨j + 1, by omega, by go_num, by rw [HS1.out]; rfl, by rw [HS1.out]; exact ⟨⟨AX, cX, rfl, SX.out⟩, BC.out, LC.out⟩⟩
            case measure => simp [intOf]; omega
          | some z0 =>
            simp only [Option.isSome_some]
            obtain ⟨AZ, cZ, rfl, sZ⟩ := HZC.out
            have SZ := Lib.hid sZ
            clear sZ
            have hp1 := fun W (hw : Below wc.heap.size wc W) => HPR.out AX cX x W (BC.out.trans (hw.mono BC.out.size)) ((SX.out.below hw).more hw.size) (HPN.out x rfl)
            have hp2 := fun W (hw : Below wc.heap.size wc W) => HPR.out AZ cZ z0 W (BC.out.trans (hw.mono BC.out.size)) ((SZ.out.below hw).more hw.size) (HPS.out z0 rfl)
            have HP1 := Lib.hid hp1
            have HP2 := Lib.hid hp2
            have hst : bestX p l S Y number ((List.range (j + 1)).flatMap fun j : Nat => subQ l (b ++ [(j : Int)])) = if costP l x l.length < costP l z0 l.length then some x else some z0 := HS1.out
            have HST2 := Lib.hid hst
            clear hp1 hp2 hst HS1 HPR HPN HPS HZC
            by_cases hc : costP l x l.length < costP l z0 l.length
            · have hdl : decide (costP l x l.length < costP l z0 l.length) = true := decide_eq_true hc
              have hst := HST2.out
              rw [if_pos hc] at hst
              have HST3 := Lib.hid hst
              clear hst HST2 hc
              go_wp2_with (first
                | (go_at_call_of 47 (Value.slice AX x.length cX); refine (HP1.out _ (Below.refl _ _)).mono ?_; rintro e w5 ⟨rfl, hb5⟩)
                | (go_at_call_of 47 (Value.slice AZ z0.length cZ); refine (HP2.out _ hb5).mono ?_; rintro e w6 ⟨rfl, hb6⟩))
              have hb := hb5.trans (hb6.mono hb5.size)
              go_roundw
              case rel => exact ⟨j + 1, by omega, by go_num, by rw [HST3.out]; rfl, by rw [HST3.out]; exact ⟨⟨AX, cX, rfl, (SX.out.below hb).more hb.size⟩, BC.out.trans (hb.mono BC.out.size), LC.out.call hb⟩⟩
              case measure => simp [intOf]; omega
            · have hdl : decide (costP l x l.length < costP l z0 l.length) = false := decide_eq_false hc
              have hst := HST2.out
              rw [if_neg hc] at hst
              have HST3 := Lib.hid hst
              clear hst HST2 hc
              go_wp2_with (first
                | (go_at_call_of 47 (Value.slice AX x.length cX); refine (HP1.out _ (Below.refl _ _)).mono ?_; rintro e w5 ⟨rfl, hb5⟩)
                | (go_at_call_of 47 (Value.slice AZ z0.length cZ); refine (HP2.out _ hb5).mono ?_; rintro e w6 ⟨rfl, hb6⟩))
              have hb := hb5.trans (hb6.mono hb5.size)
              go_roundw
              case rel => exact ⟨j + 1, by omega, by go_num, by rw [HST3.out]; rfl, by rw [HST3.out]; exact ⟨⟨AZ, cZ, rfl, (SZ.out.below hb).more hb.size⟩, BC.out.trans (hb.mono BC.out.size), LC.out.call hb⟩⟩
              case measure => simp [intOf]; omega
    · obtain rfl : j = M + 1 := by omega
      have hgt : decide (((M + 1 : Nat) : Int) ≤ (M : Int)) = false := decide_eq_false (by omega)
      clear HIH HST HNX HBN HBS HPR hjm hj
      go_wp2
      go_ret2
      exact ⟨_, rfl, HZ.out, BW.out⟩
theorem refCheapest_any (p : PlM) (A : Option Addr) (c S Y : Nat) (l : List Cr) (number : Int) (w0 : World) (hp : p.At w0 w0.heap.size) (hA : Sl w0 w0.heap.size 4 encCr A l) (hf : p.fault = 0) (ho : offB p.s.l.length l = 0) (hS : S < p.s.l.length) (hY : p.years = (Y : Int)) :
    ∀ (n : Nat) (b : List Int) (B : Option Addr) (cb : Nat) (w : World), n + b.length = l.length → PreB l b → Below w0.heap.size w0 w → Sl w w.heap.size 1 encI B b → (B = none → b.length = 0 ∧ cb = 0) →
      Calls Try.prog 45 #[.agg p.cells.toArray, .slice A l.length c, .int .i64 (S : Int), .int .i64 number, .slice B b.length cb] w (RetX (bestX p l S Y number (subQ l b)) w)
  | 0, b, B, cb, w, hn, hb, hw, hB, _ => Cheap_leaf p A B c cb S Y l b number w (hp.below hw hw.size) ((hA.below hw).more hw.size) hB hf ho hS hY hb (by omega)
  | n + 1, b, B, cb, w, hn, hb, hw, hB, nB => Cheap_step p A B c cb S Y l b number w ((hA.below hw).more hw.size) hB nB ho hb (by omega) fun j B' cb' W hb' hW hB' nB' =>
      refCheapest_any p A c S Y l number w0 hp hA hf ho hS hY n (b ++ [(j : Int)]) B' cb' W (by simp; omega) hb' (hw.trans (hW.mono hw.size)) hB' nB'
end Go.Proofs.Ytlkdmcdnkoiflaa

namespace Go.Proofs.Ytlkdmcdnkoiflaa
open Go.RowKit Go.Lib

def buysB (p : PlM) (l : List Cr) (q : List Int) : Bool := thinB p && decide (l.length ≤ 6) && decide (q.length ≤ 8)
theorem buys_ok {p : PlM} {l : List Cr} {q : List Int} (h : buysB p l q = true) : thinB p = true ∧ l.length ≤ 6 ∧ q.length ≤ 8 := by
  unfold buysB at h
  simp only [Bool.and_eq_true, decide_eq_true_eq] at h
  exact ⟨h.1.1, h.1.2, h.2⟩
set_option maxRecDepth 100000 in
set_option maxHeartbeats 2000000 in
theorem Buys_no (p : PlM) (l : Sv Cr) (q : Sv Int) (size number : Int) (w : World) (hp : p.Lay w w.heap.size) (hno : buysB p l.l q.l = false) :
    Calls Try.prog 7 #[.agg p.cells.toArray, .slice l.A l.l.length l.c, .slice q.A q.l.length q.c, .int .i64 size, .int .i64 number] w fun e w' => e = .returned (.bool true) ∧ Below w.heap.size w w' := by
  have l0 : Lies (w.alloc (.cells p.cells.toArray 28)) w.heap.size 28 p.cells.toArray := Lies.fresh _ _ _
  have b0 : Below w.heap.size w (w.alloc (.cells p.cells.toArray 28)) := (Below.refl _ _).alloc (Nat.le_refl _) _
  have hT := Thin_any p _ (hp.below b0 b0.size)
  have L0 := Lib.hid l0
  have B0 := Lib.hid b0
  have HT := Lib.hid hT
  unfold buysB at hno
  obtain ⟨tb, htb⟩ : ∃ tb, thinB p = tb := ⟨_, rfl⟩
  rw [htb] at HT hno
  obtain ⟨lb, hlb⟩ : ∃ lb, decide ((6 : Int) < (l.l.length : Int)) = lb := ⟨_, rfl⟩
  obtain ⟨qb, hqb⟩ : ∃ qb, decide ((8 : Int) < (q.l.length : Int)) = qb := ⟨_, rfl⟩
  have hcase : tb = false ∨ lb = true ∨ qb = true := by
    rw [← hlb, ← hqb]
    simp only [decide_eq_true_eq]
    cases tb with
    | false => exact .inl rfl
    | true =>
      simp only [Bool.true_and, Bool.and_eq_false_iff, decide_eq_false_iff_not] at hno
      omega
  clear l0 b0 hT hp htb hno
  unfold PlM.cells at HT ⊢
  go_enter Try.func7, Try.ntmps7
  cases tb <;> cases lb <;> cases qb
  all_goals first
    | (exfalso; simp at hcase; done)
    | (clear hcase
       go_wp2_with (first
        | (refine wpList_load_row (o := ⟨some 21, _, _, _, _, _⟩) ?_ 28 (.tmp 5) ?_ w.heap.size ?_ 28 p.cells.toArray (0, 0) _ L0.out Try.underlying28 rfl size28 ?_; rfl; rfl; rfl)
        | (go_at_call 17; refine HT.out.mono ?_; rintro e w1 ⟨rfl, hb1⟩)
        | (go_at_call 19; refine (awake_any _).mono ?_; rintro e w2 ⟨rfl, hb2⟩))
       go_ret
       have hx := B0.out.trans (hb1.mono B0.out.size)
       exact ⟨rfl, hx.trans (hb2.mono hx.size)⟩)
set_option maxRecDepth 100000 in
set_option maxHeartbeats 4000000 in
theorem Buys_bad (p : PlM) (l : Sv Cr) (q : Sv Int) (size number : Int) (w : World) (hp : p.Lay w w.heap.size) (hA : Sl w w.heap.size 4 encCr l.A l.l) (nQ : q.A = none → q.l.length = 0 ∧ q.c = 0) (hQ : Sl w w.heap.size 1 encI q.A q.l) (hok : buysB p l.l q.l = true) (hE : offL p l.l size number ≠ 0) :
    Calls Try.prog 7 #[.agg p.cells.toArray, .slice l.A l.l.length l.c, .slice q.A q.l.length q.c, .int .i64 size, .int .i64 number] w fun e w' => e = .returned (.bool true) ∧ Below w.heap.size w w' := by
  obtain ⟨ht, hl6, hq8⟩ := buys_ok hok
  have hat := hp.at ht
  have l0 : Lies (w.alloc (.cells p.cells.toArray 28)) w.heap.size 28 p.cells.toArray := Lies.fresh _ _ _
  have b0 : Below w.heap.size w (w.alloc (.cells p.cells.toArray 28)) := (Below.refl _ _).alloc (Nat.le_refl _) _
  have hT := Thin_any p _ (hp.below b0 b0.size)
  rw [ht] at hT
  have hP : ∀ W, Below w.heap.size w W → Calls Try.prog 21 #[.agg p.cells.toArray] W (RetP p W) := fun W hb => Plan_any p W (hat.below hb hb.size) hp.nr hp.ne hp.nk
  have hCL : ∀ (W : World), Below w.heap.size w W → Calls Try.prog 39 #[.slice l.A l.l.length l.c] W fun e w' => ∃ A' c', e = .returned (.slice A' l.l.length c') ∧ SlT w' w'.heap.size 4 93 encCr A' l.l ∧ Below W.heap.size W w' := fun W hb => Crates_any l.A l.c l.l W ((hA.below hb).more hb.size) (by omega)
  have hLI : ∀ (W : World), Below w.heap.size w W → Calls Try.prog 40 #[.slice q.A q.l.length q.c] W fun e w' => ∃ A' c', e = .returned (.slice A' q.l.length c') ∧ Sl w' w'.heap.size 1 encI A' q.l ∧ Below W.heap.size W w' := fun W hb =>
    (lawList_own q.A q.c q.l W ((hQ.below hb).more hb.size) (by omega) nQ).mono fun e w' ⟨A', c', h1, h2, h3⟩ => ⟨A', c', h1, sl_of_own (fun _ => rfl) h2, h3⟩
  have hEN : ∀ (pq : PlM) (A A' : Option Addr) (c c' : Nat) (W : World), pq.d = p.d → pq.At W W.heap.size → Sl W W.heap.size 4 encCr A l.l → Calls Try.prog 38 #[.agg pq.cells.toArray, .slice A l.l.length c, .slice A' q.l.length c', .int .i64 size, .int .i64 number] W fun e w' => e = .returned (.tuple #[.bool false, .int .i64 (offL p l.l size number)]) ∧ Below W.heap.size W w' := fun pq A A' c c' W hd ha hx => by
    have := Enough_no pq A A' c c' l.l q.l size number W ha hx (by omega) (by rw [offL_congr hd]; exact hE)
    rwa [offL_congr hd] at this
  have hCH : ∀ (pq : PlM) (A : Option Addr) (c : Nat) (W : World), pq.d = p.d → pq.At W W.heap.size → Sl W W.heap.size 4 encCr A l.l → Calls Try.prog 41 #[.agg pq.cells.toArray, .slice A l.l.length c, .int .i64 size, .int .i64 number] W fun e w' => e = .returned (.tuple #[.slice none 0 0, .int .i64 0, .int .i64 (offL p l.l size number)]) ∧ Below W.heap.size W w' := fun pq A c W hd ha hx => by
    have := Cheapest_no pq A c l.l size number W ha hx (by omega) (by rw [offL_congr hd]; exact hE)
    rwa [offL_congr hd] at this
  have hF : ∀ W, Below w.heap.size w W → Calls Try.prog 24 #[.agg p.cells.toArray] W fun e w' => e = .returned (.int .i64 p.fault) ∧ Below W.heap.size W w' := fun W hb => Fault_any p W (hat.below hb hb.size)
  have hC : ∀ W, Below w.heap.size w W → Calls Try.prog 42 #[.agg p.cells.toArray, .slice l.A l.l.length l.c] W fun e w' => e = .returned (.int .i64 (offB p.s.l.length l.l)) ∧ Below W.heap.size W w' := fun W hb =>
    CratesFault_any p l.A l.c l.l W ((hA.below hb).more hb.size) hat.ls (by omega)
  have hAS : ∀ (g : Nat) (W : World), Below w.heap.size w W → Sl W W.heap.size 1 encI (some ⟨g, 0, none⟩) [size] → Calls Try.prog 32 #[.agg p.cells.toArray, .int .i64 number, .slice (some ⟨g, 0, none⟩) 1 1] W fun e w' => e = .returned (.int .i64 (askedL p number [size])) ∧ Below W.heap.size W w' := fun g W hb hs =>
    asked_any p number (some ⟨g, 0, none⟩) 1 [size] W (hat.below hb hb.size) hs (by simp)
  have hdef : offL p l.l size number = if p.fault ≠ 0 then p.fault else if offB p.s.l.length l.l ≠ 0 then offB p.s.l.length l.l else askedL p number [size] := rfl
  generalize offL p l.l size number = E at *
  generalize p.fault = ft at *
  generalize offB p.s.l.length l.l = ob at *
  generalize askedL p number [size] = ak at *
  have hlz : decide ((6 : Int) < (l.l.length : Int)) = false := decide_eq_false (by omega)
  have hqz : decide ((8 : Int) < (q.l.length : Int)) = false := decide_eq_false (by omega)
  have HA := Lib.hid hA
  have L0 := Lib.hid l0
  have B0 := Lib.hid b0
  have HT := Lib.hid hT
  have HPL := Lib.hid hP
  have HCL := Lib.hid hCL
  have HLI := Lib.hid hLI
  have HEN := Lib.hid hEN
  have HCH := Lib.hid hCH
  have HF := Lib.hid hF
  have HC := Lib.hid hC
  have HAS := Lib.hid hAS
  have hne : (E != 0) = true := by simpa using hE
  have HDEF := Lib.hid hdef
  have HENE := Lib.hid hE
  clear hdef hE hp hA nQ hQ hok ht hl6 hq8 hat l0 b0 hT hP hCL hLI hEN hCH hF hC hAS
  unfold PlM.cells at HT HF HC HAS ⊢
  go_enter Try.func7, Try.ntmps7
  go_upto_region 4 with (first
    | (refine wpList_load_row (o := ⟨some 21, _, _, _, _, _⟩) ?_ 28 (.tmp 5) ?_ w.heap.size ?_ 28 p.cells.toArray (0, 0) _ L0.out Try.underlying28 rfl size28 ?_; rfl; rfl; rfl)
    | (go_at_call 17; refine HT.out.mono ?_; rintro e w1 ⟨rfl, hb1⟩; have L1 := Lib.hid (L0.out.call hb1); have B1 := Lib.hid (B0.out.trans (hb1.mono B0.out.size)))
    | (refine wpList_load_row (o := ⟨some 36, _, _, _, _, _⟩) ?_ 28 (.tmp 5) ?_ w.heap.size ?_ 28 p.cells.toArray (0, 0) _ L1.out Try.underlying28 rfl size28 ?_; rfl; rfl; rfl)
    | (go_at_call 21; refine (HPL.out _ B1.out).mono ?_; rintro e w2 ⟨pq, rfl, hqd, hqa, hb2⟩; have B2 := Lib.hid (B1.out.trans (hb2.mono B1.out.size)))
    | (go_at_call 39; refine (HCL.out _ B2.out).mono ?_; rintro e w3 ⟨A3, c3, rfl, hs3, hb3⟩; have B3 := Lib.hid (B2.out.trans (hb3.mono B2.out.size)))
    | (go_at_call 40; refine (HLI.out _ B3.out).mono ?_; rintro e w4 ⟨A4, c4, rfl, hs4, hb4⟩)
    | (go_at_call 38; refine (HEN.out pq A3 A4 c3 c4 w4 hqd ((hqa.below hb3 hb3.size).below hb4 hb4.size) (hs3.call hb4).sl).mono ?_; rintro e w5 ⟨rfl, hb5⟩))
  have hd5 : Below w1.heap.size w1 w5 := hb2.trans ((hb3.trans ((hb4.trans (hb5.mono hb4.size)).mono hb3.size)).mono hb2.size)
  have L5 := Lib.hid (L1.out.call hd5)
  have B5 := Lib.hid (B1.out.trans (hd5.mono B1.out.size))
  clear hd5 hb1 hb2 hb3 hb4 hb5 hqd hqa hs3 hs4 L0 B0 L1 B1 B2 B3 HT HEN HLI hlz hqz
  go_upto_region 5 with (first
    | (refine wpList_load_row (o := ⟨some 48, _, _, _, _, _⟩) ?_ 28 (.tmp 5) ?_ w.heap.size ?_ 28 p.cells.toArray (0, 0) _ L5.out Try.underlying28 rfl size28 ?_; rfl; rfl; rfl)
    | (go_at_call 21; refine (HPL.out _ B5.out).mono ?_; rintro e w6 ⟨pq, rfl, hqd, hqa, hb6⟩; have B6 := Lib.hid (B5.out.trans (hb6.mono B5.out.size)))
    | (go_at_call 39; refine (HCL.out _ B6.out).mono ?_; rintro e w7 ⟨A7, c7, rfl, hs7, hb7⟩)
    | (go_at_call 41; refine (HCH.out pq A7 c7 w7 hqd (hqa.below hb7 hb7.size) hs7.sl).mono ?_; rintro e w8 ⟨rfl, hb8⟩))
  have hd8 : Below w5.heap.size w5 w8 := hb6.trans ((hb7.trans (hb8.mono hb7.size)).mono hb6.size)
  have L8 := Lib.hid (L5.out.call hd8)
  have B8 := Lib.hid (B5.out.trans (hd8.mono B5.out.size))
  clear hd8 hb6 hb7 hb8 hqd hqa hs7 L5 B5 B6 HPL HCL HCH
  have hdef := HDEF.out
  have hE := HENE.out
  clear HDEF HENE
  by_cases hf0 : ft = 0
  · subst hf0
    by_cases ho0 : ob = 0
    · subst ho0
      have hEa : E = ak := by rw [hdef]; simp
      subst hEa
      clear hdef hE
      go_wp2_with (first
        | (refine wpList_load_row (o := ⟨some 58, _, _, _, _, _⟩) ?_ 28 (.tmp 5) ?_ w.heap.size ?_ 28 p.cells.toArray (0, 0) _ L8.out Try.underlying28 rfl size28 ?_; rfl; rfl; rfl)
        | (go_at_call 24; refine (HF.out _ B8.out).mono ?_; rintro e w9 ⟨rfl, hb9⟩; have L9 := Lib.hid (L8.out.call hb9); have B9 := Lib.hid (B8.out.trans (hb9.mono B8.out.size)))
        | (refine wpList_load_row (o := ⟨some 62, _, _, _, _, _⟩) ?_ 28 (.tmp 5) ?_ w.heap.size ?_ 28 p.cells.toArray (0, 0) _ L9.out Try.underlying28 rfl size28 ?_; rfl; rfl; rfl)
        | (go_at_call 42; refine (HC.out _ B9.out).mono ?_; rintro e w10 ⟨rfl, hb10⟩; have L10 := Lib.hid (L9.out.call hb10); have B10 := Lib.hid (B9.out.trans (hb10.mono B9.out.size)))
        | (refine wpList_load_row (o := ⟨some 67, _, _, _, _, _⟩) ?_ 28 (.tmp 5) ?_ w.heap.size ?_ 28 p.cells.toArray (0, 0) _ L10.out Try.underlying28 rfl size28 ?_; rfl; rfl; rfl)
        | (go_at_call 32; refine (HAS.out w10.heap.size _ (B10.out.alloc B10.out.size _) ?_).mono ?_; exact sl_of_lies (enc := encI) (fun _ => rfl) (Lies.fresh' (by simp)); rintro e w11 ⟨rfl, hb11⟩; have B11 := Lib.hid ((B10.out.alloc B10.out.size (.cells #[.int .i64 size] 3)).trans (hb11.mono (B10.out.alloc B10.out.size (.cells #[.int .i64 size] 3)).size)))
        | (go_at_call 19; refine (awake_any _).mono ?_; rintro e wz ⟨rfl, hbz⟩))
      go_ret
      exact ⟨rfl, B11.out.trans (hbz.mono B11.out.size)⟩
    · have hEa : E = ob := by rw [hdef]; simp [ho0]
      subst hEa
      have he0 : (E == 0) = false := by simpa using hE
      have he1 : decide (E = 0) = false := by simpa using hE
      clear hdef hE ho0
      go_wp2_with (first
        | (refine wpList_load_row (o := ⟨some 58, _, _, _, _, _⟩) ?_ 28 (.tmp 5) ?_ w.heap.size ?_ 28 p.cells.toArray (0, 0) _ L8.out Try.underlying28 rfl size28 ?_; rfl; rfl; rfl)
        | (go_at_call 24; refine (HF.out _ B8.out).mono ?_; rintro e w9 ⟨rfl, hb9⟩; have L9 := Lib.hid (L8.out.call hb9); have B9 := Lib.hid (B8.out.trans (hb9.mono B8.out.size)))
        | (refine wpList_load_row (o := ⟨some 62, _, _, _, _, _⟩) ?_ 28 (.tmp 5) ?_ w.heap.size ?_ 28 p.cells.toArray (0, 0) _ L9.out Try.underlying28 rfl size28 ?_; rfl; rfl; rfl)
        | (go_at_call 42; refine (HC.out _ B9.out).mono ?_; rintro e w10 ⟨rfl, hb10⟩; have L10 := Lib.hid (L9.out.call hb10); have B10 := Lib.hid (B9.out.trans (hb10.mono B9.out.size)))
        | (go_at_call 19; refine (awake_any _).mono ?_; rintro e wz ⟨rfl, hbz⟩))
      go_ret
      exact ⟨rfl, B10.out.trans (hbz.mono B10.out.size)⟩
  · have hEa : E = ft := by rw [hdef]; simp [hf0]
    subst hEa
    have he0 : (E == 0) = false := by simpa using hE
    have he1 : decide (E = 0) = false := by simpa using hE
    clear hdef hE hf0
    go_wp2_with (first
      | (refine wpList_load_row (o := ⟨some 58, _, _, _, _, _⟩) ?_ 28 (.tmp 5) ?_ w.heap.size ?_ 28 p.cells.toArray (0, 0) _ L8.out Try.underlying28 rfl size28 ?_; rfl; rfl; rfl)
      | (go_at_call 24; refine (HF.out _ B8.out).mono ?_; rintro e w9 ⟨rfl, hb9⟩; have L9 := Lib.hid (L8.out.call hb9); have B9 := Lib.hid (B8.out.trans (hb9.mono B8.out.size)))
      | (go_at_call 19; refine (awake_any _).mono ?_; rintro e wz ⟨rfl, hbz⟩))
    go_ret
    exact ⟨rfl, B9.out.trans (hbz.mono B9.out.size)⟩
end Go.Proofs.Ytlkdmcdnkoiflaa

namespace Go.Proofs.Ytlkdmcdnkoiflaa
open Go.RowKit Go.Lib

/-- How many purchases there are of the first k kinds. -/
def prodM (l : List Cr) : Nat → Int
  | 0 => 1
  | k + 1 => prodM l k * ((l.getD k default).most + 1)
theorem prodM_bd {l : List Cr} (hm : ∀ c, c ∈ l → 0 ≤ c.most ∧ c.most ≤ 9) : ∀ k : Nat, k ≤ l.length → 1 ≤ prodM l k ∧ prodM l k ≤ 10 ^ k
  | 0, _ => by simp [prodM]
  | k + 1, hk => by
    have ih := prodM_bd hm k (by omega)
    obtain ⟨c, hc⟩ : ∃ c, l[k]? = some c := ⟨l[k], by simp⟩
    have h := hm c (List.mem_of_getElem? hc)
    rw [prodM, at_getD hc, Int.pow_succ]
    generalize (10 : Int) ^ k = t at *
    generalize prodM l k = u at *
    have h1 : 1 * (c.most + 1) ≤ u * (c.most + 1) := Int.mul_le_mul_of_nonneg_right ih.1 (by omega)
    have h2 : u * (c.most + 1) ≤ t * (c.most + 1) := Int.mul_le_mul_of_nonneg_right ih.2 (by omega)
    have h3 : t * (c.most + 1) ≤ t * 10 := Int.mul_le_mul_of_nonneg_left (by omega) (by omega)
    omega
set_option maxRecDepth 100000 in
set_option maxHeartbeats 4000000 in
theorem Buys_good (p : PlM) (lA : Option Addr) (lc : Nat) (ll : List Cr) (q : Sv Int) (S : Nat) (number : Int) (w : World) (hp : p.Lay w w.heap.size) (hA : Sl w w.heap.size 4 encCr lA ll) (nQ : q.A = none → q.l.length = 0 ∧ q.c = 0) (hQ : Sl w w.heap.size 1 encI q.A q.l) (hok : buysB p ll q.l = true) (hE : offL p ll (S : Int) number = 0) :
    Calls Try.prog 7 #[.agg p.cells.toArray, .slice lA ll.length lc, .slice q.A q.l.length q.c, .int .i64 (S : Int), .int .i64 number] w fun e w' => e = .returned (.bool true) ∧ Below w.heap.size w w' := by
  obtain ⟨ht, hl6, hq8⟩ := buys_ok hok
  have hat := hp.at ht
  obtain ⟨hf, ho, hask⟩ := offL_zero hE
  have hl4 := (offB_zero ho).1
  have hv := fault_zero hf
  have hSl : S < p.s.l.length := by have := ((asked_zero hask).2.1 (S : Int) (by simp)).2; omega
  obtain ⟨Y, hY⟩ : ∃ Y : Nat, p.years = (Y : Int) := ⟨p.years.toNat, years_nat hv⟩
  have hms : ∀ c, c ∈ ll → 0 ≤ c.most ∧ c.most ≤ 9 := fun c hc => (Cr.ok_iff.1 ((offB_zero ho).2 c hc)).2.2.2
  have l0 : Lies (w.alloc (.cells p.cells.toArray 28)) w.heap.size 28 p.cells.toArray := Lies.fresh _ _ _
  have b0 : Below w.heap.size w (w.alloc (.cells p.cells.toArray 28)) := (Below.refl _ _).alloc (Nat.le_refl _) _
  have hT := Thin_any p _ (hp.below b0 b0.size)
  rw [ht] at hT
  have hP : ∀ W, Below w.heap.size w W → Calls Try.prog 21 #[.agg p.cells.toArray] W (RetP p W) := fun W hb => Plan_any p W (hat.below hb hb.size) hp.nr hp.ne hp.nk
  have hCL : ∀ (W : World), Below w.heap.size w W → Calls Try.prog 39 #[.slice lA ll.length lc] W fun e w' => ∃ A' c', e = .returned (.slice A' ll.length c') ∧ SlT w' w'.heap.size 4 93 encCr A' ll ∧ Below W.heap.size W w' := fun W hb => Crates_any lA lc ll W ((hA.below hb).more hb.size) (by omega)
  have hLI : ∀ (W : World), Below w.heap.size w W → Calls Try.prog 40 #[.slice q.A q.l.length q.c] W fun e w' => ∃ A' c', e = .returned (.slice A' q.l.length c') ∧ Sl w' w'.heap.size 1 encI A' q.l ∧ Below W.heap.size W w' := fun W hb =>
    (lawList_own q.A q.c q.l W ((hQ.below hb).more hb.size) (by omega) nQ).mono fun e w' ⟨A', c', h1, h2, h3⟩ => ⟨A', c', h1, sl_of_own (fun _ => rfl) h2, h3⟩
  obtain ⟨pb, hpb⟩ : ∃ pb, pairedB ll q.l (fun c m => inB m 0 c.most) = pb := ⟨_, rfl⟩
  obtain ⟨eb, heb⟩ : ∃ eb, enoughP p S Y number ll q.l = eb := ⟨_, rfl⟩
  have hEN : ∀ (pq : PlM) (A A' : Option Addr) (c c' : Nat) (W : World), pq.d = p.d → pq.At W W.heap.size → Sl W W.heap.size 4 encCr A ll → Sl W W.heap.size 1 encI A' q.l → Calls Try.prog 38 #[.agg pq.cells.toArray, .slice A ll.length c, .slice A' q.l.length c', .int .i64 (S : Int), .int .i64 number] W fun e w' => ∃ fe : Int, e = .returned (.tuple #[.bool (pb && eb), .int .i64 fe]) ∧ (pb = true → fe = 0) ∧ (pb = false → fe = 2) ∧ Below W.heap.size W w' := fun pq A A' c c' W hd ha hx hy =>
    (Enough_all pq p hd A A' c c' S Y ll q.l number W ha hx hy hE hY).mono fun e w' h => ⟨if pb then 0 else 2, by rw [h.1]; unfold enV; rw [hpb, heb], fun h => by rw [h]; rfl, fun h => by rw [h]; rfl, h.2⟩
  have hCH : ∀ (pq : PlM) (A : Option Addr) (c : Nat) (W : World), pq.d = p.d → pq.At W W.heap.size → Sl W W.heap.size 4 encCr A ll → Calls Try.prog 41 #[.agg pq.cells.toArray, .slice A ll.length c, .int .i64 (S : Int), .int .i64 number] W (RetCh ll (bestP p ll S Y number) W) := fun pq A c W hd ha hx =>
    Cheapest_all pq p hd A c S Y ll number W ha hx hE hY
  have hF : ∀ W, Below w.heap.size w W → Calls Try.prog 24 #[.agg p.cells.toArray] W fun e w' => e = .returned (.int .i64 0) ∧ Below W.heap.size W w' := fun W hb => by
    have := Fault_any p W (hat.below hb hb.size)
    rwa [hf] at this
  have hC : ∀ W, Below w.heap.size w W → Calls Try.prog 42 #[.agg p.cells.toArray, .slice lA ll.length lc] W fun e w' => e = .returned (.int .i64 0) ∧ Below W.heap.size W w' := fun W hb => by
    have := CratesFault_any p lA lc ll W ((hA.below hb).more hb.size) hat.ls (by omega)
    rwa [ho] at this
  have hAS : ∀ (g : Nat) (W : World), Below w.heap.size w W → Sl W W.heap.size 1 encI (some ⟨g, 0, none⟩) [(S : Int)] → Calls Try.prog 32 #[.agg p.cells.toArray, .int .i64 number, .slice (some ⟨g, 0, none⟩) 1 1] W fun e w' => e = .returned (.int .i64 0) ∧ Below W.heap.size W w' := fun g W hb hs => by
    have := asked_any p number (some ⟨g, 0, none⟩) 1 [(S : Int)] W (hat.below hb hb.size) hs (by simp)
    rwa [hask] at this
  have hIP : ∀ (W : World), Below w.heap.size w W → Calls Try.prog 43 #[.slice lA ll.length lc, .slice q.A q.l.length q.c] W fun e w' => e = .returned (.bool pb) ∧ Below W.heap.size W w' := fun W hb => by
    have := IsPurchase_any lA q.A lc q.c ll q.l W ((hA.below hb).more hb.size) ((hQ.below hb).more hb.size) (by omega) (by omega)
    rwa [hpb] at this
  have hRE : pb = true → ∀ (W : World), Below w.heap.size w W → Calls Try.prog 44 #[.agg p.cells.toArray, .slice lA ll.length lc, .slice q.A q.l.length q.c, .int .i64 (S : Int), .int .i64 number] W fun e w' => e = .returned (.bool eb) ∧ Below W.heap.size W w' := fun h W hb => by
    have := refEnough_any p lA q.A lc q.c S Y ll q.l number W (hat.below hb hb.size) ((hA.below hb).more hb.size) ((hQ.below hb).more hb.size) hf ho (by rw [hpb, h]) hSl hY
    rwa [heb] at this
  have hRX : ∀ (W : World), Below w.heap.size w W → Calls Try.prog 45 #[.agg p.cells.toArray, .slice lA ll.length lc, .int .i64 (S : Int), .int .i64 number, .slice none 0 0] W (RetX (bestP p ll S Y number) W) := fun W hb => by
    have := refCheapest_any p lA lc S Y ll number W (hat.below hb hb.size) ((hA.below hb).more hb.size) hf ho hSl hY ll.length [] none 0 W (by simp) ⟨by simp, fun i c m _ h => by simp at h⟩ (Below.refl _ _) Sl.nil (fun _ => ⟨rfl, rfl⟩)
    rw [subQ_top] at this
    exact this
  have hPR : ∀ (A' : Option Addr) (c' : Nat) (y : List Int) (W : World), Below w.heap.size w W → Sl W W.heap.size 1 encI A' y → pairedB ll y (fun c m => inB m 0 c.most) = true → Calls Try.prog 47 #[.slice lA ll.length lc, .slice A' y.length c'] W fun e w' => e = .returned (.int .i64 (costP ll y ll.length)) ∧ Below W.heap.size W w' := fun A' c' y W hb hy hp =>
    Price_any lA A' lc c' ll y W ((hA.below hb).more hb.size) hy (purF_of ho hp)
  have hsp := bestP_spec p ll S Y number hms
  generalize bestP p ll S Y number = z at *
  have hzf : ∀ z0, z = some z0 → pairedB ll z0 (fun c m => inB m 0 c.most) = true ∧ z0.length ≤ 8 := fun z0 h => by
    subst h
    have := (pairedB_iff.1 hsp.1).1
    exact ⟨hsp.1, by omega⟩
  have hpd := prodM_bd hms
  have HPD := Lib.hid hpd
  have HMS := Lib.hid hms
  have HZF := Lib.hid hzf
  have HA := Lib.hid hA
  have L0 := Lib.hid l0
  have B0 := Lib.hid b0
  have HT := Lib.hid hT
  have HPL := Lib.hid hP
  have HCL := Lib.hid hCL
  have HLI := Lib.hid hLI
  have HEN := Lib.hid hEN
  have HCH := Lib.hid hCH
  have HF := Lib.hid hF
  have HC := Lib.hid hC
  have HAS := Lib.hid hAS
  have HIP := Lib.hid hIP
  have HRE := Lib.hid hRE
  have HRX := Lib.hid hRX
  have HPR := Lib.hid hPR
  have HL4 := Lib.hid hl4
  have hlz : decide ((6 : Int) < (ll.length : Int)) = false := decide_eq_false (by omega)
  have hqz : decide ((8 : Int) < (q.l.length : Int)) = false := decide_eq_false (by omega)
  have hl4z : (ll.length : Int) ≤ 4 := by omega
  clear hp hA nQ hQ hok hE ht hl6 hq8 hat hf ho hask hl4 hv hSl hY hms l0 b0 hT hP hCL hLI hpb heb hEN hCH hF hC hAS hIP hRE hRX hPR hsp hzf hpd
  unfold PlM.cells at HT HF HC HAS HRE HRX ⊢
  go_enter Try.func7, Try.ntmps7
  go_upto_region 4 with (first
    | (refine wpList_load_row (o := ⟨some 21, _, _, _, _, _⟩) ?_ 28 (.tmp 5) ?_ w.heap.size ?_ 28 p.cells.toArray (0, 0) _ L0.out Try.underlying28 rfl size28 ?_; rfl; rfl; rfl)
    | (go_at_call 17; refine HT.out.mono ?_; rintro e w1 ⟨rfl, hb1⟩; have L1 := Lib.hid (L0.out.call hb1); have B1 := Lib.hid (B0.out.trans (hb1.mono B0.out.size)))
    | (refine wpList_load_row (o := ⟨some 36, _, _, _, _, _⟩) ?_ 28 (.tmp 5) ?_ w.heap.size ?_ 28 p.cells.toArray (0, 0) _ L1.out Try.underlying28 rfl size28 ?_; rfl; rfl; rfl)
    | (go_at_call 21; refine (HPL.out _ B1.out).mono ?_; rintro e w2 ⟨pq, rfl, hqd, hqa, hb2⟩; have B2 := Lib.hid (B1.out.trans (hb2.mono B1.out.size)))
    | (go_at_call 39; refine (HCL.out _ B2.out).mono ?_; rintro e w3 ⟨A3, c3, rfl, hs3, hb3⟩; have B3 := Lib.hid (B2.out.trans (hb3.mono B2.out.size)))
    | (go_at_call 40; refine (HLI.out _ B3.out).mono ?_; rintro e w4 ⟨A4, c4, rfl, hs4, hb4⟩)
    | (go_at_call 38; refine (HEN.out pq A3 A4 c3 c4 w4 hqd ((hqa.below hb3 hb3.size).below hb4 hb4.size) (hs3.call hb4).sl hs4).mono ?_; rintro e w5 ⟨fe, rfl, hf0, hf2, hb5⟩))
  have hd5 : Below w1.heap.size w1 w5 := hb2.trans ((hb3.trans ((hb4.trans (hb5.mono hb4.size)).mono hb3.size)).mono hb2.size)
  have L5 := Lib.hid (L1.out.call hd5)
  have B5 := Lib.hid (B1.out.trans (hd5.mono B1.out.size))
  have HF0 := Lib.hid hf0
  have HF2 := Lib.hid hf2
  clear hd5 hb1 hb2 hb3 hb4 hb5 hqd hqa hs3 hs4 hf0 hf2 L0 B0 L1 B1 B2 B3 HT HEN HLI hlz hqz
  go_upto_region 5 with (first
    | (refine wpList_load_row (o := ⟨some 48, _, _, _, _, _⟩) ?_ 28 (.tmp 5) ?_ w.heap.size ?_ 28 p.cells.toArray (0, 0) _ L5.out Try.underlying28 rfl size28 ?_; rfl; rfl; rfl)
    | (go_at_call 21; refine (HPL.out _ B5.out).mono ?_; rintro e w6 ⟨pq, rfl, hqd, hqa, hb6⟩; have B6 := Lib.hid (B5.out.trans (hb6.mono B5.out.size)))
    | (go_at_call 39; refine (HCL.out _ B6.out).mono ?_; rintro e w7 ⟨A7, c7, rfl, hs7, hb7⟩)
    | (go_at_call 41; refine (HCH.out pq A7 c7 w7 hqd (hqa.below hb7 hb7.size) hs7.sl).mono ?_; rintro e w8 ⟨v8, rfl, hz8, hb8⟩))
  have hd8 : Below w5.heap.size w5 w8 := hb6.trans ((hb7.trans (hb8.mono hb7.size)).mono hb6.size)
  have L8 := Lib.hid (L5.out.call hd8)
  have B8 := Lib.hid (B5.out.trans (hd8.mono B5.out.size))
  have HZ8 := Lib.hid hz8
  clear hd8 hb6 hb7 hb8 hqd hqa hs7 hz8 L5 B5 B6 HPL HCL HCH
  go_upto_if 101 with (first
    | (refine wpList_load_row (o := ⟨some 58, _, _, _, _, _⟩) ?_ 28 (.tmp 5) ?_ w.heap.size ?_ 28 p.cells.toArray (0, 0) _ L8.out Try.underlying28 rfl size28 ?_; rfl; rfl; rfl)
    | (go_at_call 24; refine (HF.out _ B8.out).mono ?_; rintro e w9 ⟨rfl, hb9⟩; have L9 := Lib.hid (L8.out.call hb9); have B9 := Lib.hid (B8.out.trans (hb9.mono B8.out.size)))
    | (refine wpList_load_row (o := ⟨some 62, _, _, _, _, _⟩) ?_ 28 (.tmp 5) ?_ w.heap.size ?_ 28 p.cells.toArray (0, 0) _ L9.out Try.underlying28 rfl size28 ?_; rfl; rfl; rfl)
    | (go_at_call 42; refine (HC.out _ B9.out).mono ?_; rintro e w10 ⟨rfl, hb10⟩; have L10 := Lib.hid (L9.out.call hb10); have B10 := Lib.hid (B9.out.trans (hb10.mono B9.out.size)))
    | (refine wpList_load_row (o := ⟨some 67, _, _, _, _, _⟩) ?_ 28 (.tmp 5) ?_ w.heap.size ?_ 28 p.cells.toArray (0, 0) _ L10.out Try.underlying28 rfl size28 ?_; rfl; rfl; rfl)
    | (go_at_call 32; refine (HAS.out w10.heap.size _ (B10.out.alloc B10.out.size _) ?_).mono ?_; exact sl_of_lies (enc := encI) (fun _ => rfl) (Lies.fresh' (by simp)); rintro e w11 ⟨rfl, hb11⟩; have hd11 := ((Below.refl w10.heap.size w10).alloc (Nat.le_refl _) (.cells #[.int .i64 (S : Int)] 3)).trans (hb11.mono ((Below.refl w10.heap.size w10).alloc (Nat.le_refl _) (.cells #[.int .i64 (S : Int)] 3)).size); have L11 := Lib.hid (L10.out.call hd11); have B11 := Lib.hid (B10.out.trans (hd11.mono B10.out.size)))
    | (go_at_call 43; refine (HIP.out _ B11.out).mono ?_; rintro e w12 ⟨rfl, hb12⟩))
  have hd12 : Below w8.heap.size w8 w12 := hb9.trans ((hb10.trans ((hd11.trans (hb12.mono hd11.size)).mono hb10.size)).mono hb9.size)
  have L12 := Lib.hid (L8.out.call hd12)
  have B12 := Lib.hid (B8.out.trans (hd12.mono B8.out.size))
  have HZ12 := Lib.hid (HZ8.out.call hd12)
  clear hd12 hb9 hb10 hb11 hd11 hb12 L8 B8 L9 B9 L10 B10 L11 B11 HF HC HAS HIP HZ8
  go_cut [] from 102 to 118 (fun wx => Aside (Below w12.heap.size w12 wx))
  case first =>
    cases pb with
    | false =>
      obtain rfl := HF2.out rfl
      simp only [Bool.false_and]
      go_wp2
      go_meet
      case rel => exact Below.refl _ _
    | true =>
      obtain rfl := HF0.out rfl
      simp only [Bool.true_and]
      have HR2 := Lib.hid (HRE.out rfl)
      cases eb
      · go_wp2_with (first
          | (refine wpList_load_rowC (o := ⟨some 111, _, _, _, _, _⟩) ?_ 28 (.tmp 5) ?_ w.heap.size ?_ 28 p.cells.toArray (0, 0) _ L12.out Try.underlying28 rfl size28 ?_; kernel_rfl; rfl; rfl)
          | (go_at_call 44; refine (HR2.out _ B12.out).mono ?_; rintro e w13 ⟨rfl, hb13⟩))
        go_meet
        case rel => exact hb13
      · go_wp2_with (first
          | (refine wpList_load_rowC (o := ⟨some 111, _, _, _, _, _⟩) ?_ 28 (.tmp 5) ?_ w.heap.size ?_ 28 p.cells.toArray (0, 0) _ L12.out Try.underlying28 rfl size28 ?_; kernel_rfl; rfl; rfl)
          | (go_at_call 44; refine (HR2.out _ B12.out).mono ?_; rintro e w13 ⟨rfl, hb13⟩))
        go_meet
        case rel => exact hb13
  case rest =>
    have hc0 := hcut.out
    have LC := Lib.hid (L12.out.call hc0)
    have BC := Lib.hid (B12.out.trans (hc0.mono B12.out.size))
    have HZC := Lib.hid (HZ12.out.call hc0)
    clear hc0 hcut L12 B12 HZ12 HRE HF0 HF2
    go_wp2
    go_loopw [17, 18] (fun v i wr => ∃ k : Nat, k ≤ ll.length ∧ i = .int .i64 k ∧ v = .int .i64 (prodM ll k) ∧ Aside (Below wc.heap.size wc wr)) (fun _ i _ => ll.length - (intOf i).toNat)
    case atStart => exact ⟨0, by omega, rfl, rfl, Below.refl _ _⟩
    case round =>
      obtain ⟨k, hk, rfl, rfl, hbr⟩ := hrel
      have hb := hbr.out
      by_cases hlt : k < ll.length
      · have hltz : (k : Int) < (ll.length : Int) := by omega
        have hk0 : (0 : Int) ≤ (k : Int) := by omega
        obtain ⟨x, hx⟩ : ∃ x, ll[k]? = some x := ⟨ll[k], by simp [hlt]⟩
        obtain ⟨bb, off, rfl, hb0, c0, c1, c2, c3⟩ := HA.out.cellCr hx
        have hww := BC.out.trans (hb.mono BC.out.size)
        have d3 : wr.cell? ⟨bb, off + k * 4 + 3, none⟩ = some (.int .i64 x.most) := by rw [hww.cell (p := ⟨bb, off + k * 4 + 3, none⟩) hb0]; exact c3
        have hxm := HMS.out x (List.mem_of_getElem? hx)
        have hpk := HPD.out k (by omega)
        have hp4 : (10 : Int) ^ k ≤ 10000 := by
          have : k = 0 ∨ k = 1 ∨ k = 2 ∨ k = 3 := by have := HL4.out; omega
          rcases this with rfl | rfl | rfl | rfl <;> decide
        have hst : prodM ll (k + 1) = prodM ll k * (x.most + 1) := by rw [prodM, at_getD hx]
        have h1 : 1 * (x.most + 1) ≤ prodM ll k * (x.most + 1) := Int.mul_le_mul_of_nonneg_right hpk.1 (by omega)
        have h2 : prodM ll k * (x.most + 1) ≤ 10000 * (x.most + 1) := Int.mul_le_mul_of_nonneg_right (by omega) (by omega)
        have hm0 := hxm.1
        have hm9 := hxm.2
        have HST := Lib.hid hst
        have HB := Lib.hid hb
        generalize prodM ll k = pk at *
        generalize hmo : x.most = mo at *
        have hw1 : IntKind.i64.wrap (mo + 1) = mo + 1 := wrap_small (by omega) (by omega)
        have hw2 : IntKind.i64.wrap (pk * (mo + 1)) = pk * (mo + 1) := wrap_small (by omega) (by omega)
        clear hst hx c0 c1 c2 c3 hxm hpk hp4 h1 h2 hb hbr hww hmo hb0 hm0 hm9
        go_wp2
        go_roundw
        case rel => exact ⟨k + 1, by omega, by go_num, by rw [HST.out], HB.out⟩
        case measure => simp [intOf]; omega
      · obtain rfl : k = ll.length := by omega
        have LR := Lib.hid (LC.out.call hb)
        have BR := Lib.hid (BC.out.trans (hb.mono BC.out.size))
        have HZR := Lib.hid (HZC.out.call hb)
        clear hb hbr LC BC HZC HPD HMS hlt hk
        generalize prodM ll ll.length = pn at *
        by_cases h300 : (300 : Int) < pn
        · go_wp2_with (go_at_call 19; refine (awake_any _).mono ?_; rintro e wz ⟨rfl, hbz⟩)
          go_ret
          exact ⟨rfl, BR.out.trans (hbz.mono BR.out.size)⟩
        · have h3 : decide ((300 : Int) < pn) = false := decide_eq_false h300
          go_upto_if 145 with (first
            | (refine wpList_load_row (o := ⟨some 137, _, _, _, _, _⟩) ?_ 28 (.tmp 5) ?_ w.heap.size ?_ 28 p.cells.toArray (0, 0) _ LR.out Try.underlying28 rfl size28 ?_; rfl; rfl; rfl)
            | (go_at_call 45; refine (HRX.out _ BR.out).mono ?_; rintro e w15 ⟨vx, rfl, hzx, hb15⟩))
          have HX := Lib.hid hzx
          have B15 := Lib.hid (BR.out.trans (hb15.mono BR.out.size))
          have HZ15 := Lib.hid (HZR.out.call hb15)
          clear hzx hb15 LR BR HZR HRX h300 h3
          cases z with
          | none =>
            obtain rfl : v8 = .slice none 0 0 := HZ15.out
            simp only [errZ_none, prZ_none, Option.isSome_none]
            go_wp2_with (go_at_call 19; refine (awake_any _).mono ?_; rintro e wz ⟨rfl, hbz⟩)
            go_ret
            exact ⟨rfl, B15.out.trans (hbz.mono B15.out.size)⟩
          | some z0 =>
            obtain ⟨A6, c6, rfl, _, hw6⟩ := HZ15.out
            obtain ⟨AX, cX, rfl, sX⟩ := HX.out
            have hz8 := HZF.out z0 rfl
            have hin := ints_yes A6 AX c6 cX z0 w15 hw6.sl sX (by omega)
            have hpr := fun W (hb : Below w15.heap.size w15 W) => HPR.out AX cX z0 W (B15.out.trans (hb.mono B15.out.size)) ((sX.below hb).more hb.size) hz8.1
            have HIN := Lib.hid hin
            have HPR2 := Lib.hid hpr
            clear hin hpr hz8 hw6 sX HX HZ15 HPR HZF
            have e0 : errZ (some z0) = 0 := rfl
            have e1 : prZ ll (some z0) = costP ll z0 ll.length := rfl
            simp only [e0, e1, Option.isSome_some]
            clear e0 e1
            go_wp2_with (first
              | (go_at_call 46; refine HIN.out.mono ?_; rintro e w16 ⟨rfl, hb16⟩)
              | (go_at_call 47; refine (HPR2.out _ hb16).mono ?_; rintro e w17 ⟨rfl, hb17⟩; have B17 := Lib.hid (B15.out.trans ((hb16.trans (hb17.mono hb16.size)).mono B15.out.size)))
              | (go_at_call 19; refine (awake_any _).mono ?_; rintro e wz ⟨rfl, hbz⟩))
            go_ret
            exact ⟨rfl, B17.out.trans (hbz.mono B17.out.size)⟩
theorem StockBuys_walk (p : PlM) (l : Sv Cr) (q : Sv Int) (size number : Int) (w : World) (hp : p.Lay w w.heap.size) (_nA : l.A = none → l.l.length = 0 ∧ l.c = 0) (hA : Sl w w.heap.size 4 encCr l.A l.l) (nQ : q.A = none → q.l.length = 0 ∧ q.c = 0) (hQ : Sl w w.heap.size 1 encI q.A q.l) (_h1 : -9223372036854775808 ≤ size ∧ size ≤ 9223372036854775807) (_h2 : -9223372036854775808 ≤ number ∧ number ≤ 9223372036854775807) :
    Calls Try.prog 7 #[.agg p.cells.toArray, .slice l.A l.l.length l.c, .slice q.A q.l.length q.c, .int .i64 size, .int .i64 number] w fun e w' => e = .returned (.bool true) ∧ Below w.heap.size w w' := by
  cases h : buysB p l.l q.l with
  | false => exact Buys_no p l q size number w hp h
  | true =>
    by_cases hE : offL p l.l size number = 0
    · obtain ⟨S, hS⟩ : ∃ S : Nat, size = (S : Int) := ⟨size.toNat, by have := ((asked_zero (offL_zero hE).2.2).2.1 size (by simp)).1; omega⟩
      subst hS
      exact Buys_good p l.A l.c l.l q S number w hp hA nQ hQ h hE
    · exact Buys_bad p l q size number w hp hA nQ hQ h hE
end Go.Proofs.Ytlkdmcdnkoiflaa
