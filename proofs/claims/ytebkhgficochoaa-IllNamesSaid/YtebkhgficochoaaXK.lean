/- The texts OPW SR ST SV SW, joined. -/
import Derived.Test.YtebkhgficochoaaXF
import Derived.Test.YtebkhgficochoaaXJ
import Derived.Test.YtebkhgficochoaaXI
/- Words that came in, opened. -/
namespace Go.Proofs.Ytebkhgficochoaa
open Go.RowKit Go.Lib

section
variable {H : Type} {enc : TypeId × Value → H} {w : World} {fuel : Nat} {cs : List Value} {x : DataW H × List MemPlace}
theorem cW16 : Try.prog.cellsOf 129 = 1 := by kernel_rfl
theorem open_word (h : DataW.trod enc Try.prog w 0 (fun _ => true) true fuel 129 cs = some x) : ∃ y : Nat, cs = enc16 y ∧ y < 65536 := by
  obtain ⟨n, e, hw⟩ := open_num Try.underlying129 h
  have hb := bounds_u16 hw
  exact ⟨n.toNat, by rw [e]; simp [enc16]; omega, by omega⟩
theorem open_words (h : DataW.trod enc Try.prog w 0 (fun _ => true) true fuel 62 cs = some x) : ∃ s : Sv Nat, cs = encV s ∧ ((∀ x, x ∈ s.l → x < 65536) ∧ s.l.length ≤ maxLen) ∧ Sl w w.heap.size 1 enc16 s.A s.l := by
  obtain ⟨A, l, c, e, _, hs, hq, hm⟩ := open_sl (en := enc16) (Q := fun y => y < 65536) (by decide) Try.underlying62 cW16 (fun _ _ _ h => open_word h) h
  exact ⟨⟨A, l, c⟩, e, ⟨hq, hm⟩, hs⟩
end
end Go.Proofs.Ytebkhgficochoaa

/- What is noted of a truth can be; what is known of it, and its number. -/
namespace Go.Proofs.Ytebkhgficochoaa
open Go.RowKit Go.Lib

theorem winD_all (sh old : Int) (p : Nat) (t : Int) : ∀ (ns : List Nt) (ws : List (Int × Int)), (∀ n, n ∈ ns → n.p.toNat < ws.length) → winD ws p t = true →
    (∀ n, n ∈ ns → p = n.p.toNat → inB t (alwD sh old n).1 (alwD sh old n).2 = true) → winD (notedD sh old ws ns) p t = true
  | [], _, _, h, _ => h
  | n :: ns, ws, hl, h, hn => by
    unfold notedD
    rw [List.foldl_cons]
    refine winD_all sh old p t ns _ (fun m hm => by rw [noteD_length]; exact hl m (by simp [hm])) ?_ (fun m hm e => hn m (by simp [hm]) e)
    rw [winD_note sh old ws n (hl n (by simp)), h, Bool.true_and, Bool.or_eq_true]
    by_cases e : p = n.p.toNat
    · exact .inr (hn n (by simp) e)
    · exact .inl (by simp [e])
theorem noted_fault {r : RwD} (hf : r.fault = 0) (t : List Int) (ws : List Nat) : (r.notedBy t ws).fault = 0 := by
  obtain ⟨-, hns, -, hlw, hln⟩ := fault_ok hf
  have hv : r.validB = true := by
    unfold RwD.fault at hf
    split at hf
    · cases hf
    · split at hf
      · assumption
      · cases hf
  refine fault_yes hlw (by show (r.ndTo t ws r.ns.length).length ≤ 40; rw [ndTo_length]; exact hln) ?_
  have hn : (r.notedBy t ws).ns.all (r.notedBy t ws).haveB = true := by
    rw [List.all_eq_true]
    intro y hy
    obtain ⟨n, hn, e1, e2, e3, -⟩ := ndTo_mem hy
    have h := hns n hn
    show r.haveB y = true
    unfold RwD.haveB at *
    rw [e1, e2, e3]; exact h
  unfold RwD.validB at *
  rw [hn, Bool.and_true]
  rw [Bool.and_eq_true] at hv
  exact hv.1
theorem noted_mem {r : RwD} {t : List Int} {ws : List Nat} {y : Nt} (h : y ∈ r.ndTo t ws r.ns.length) : ∃ n, n ∈ r.ns ∧ ∃ i, y = { n with y := r.noteYes t ws i n } := by
  obtain ⟨i, hi⟩ := List.getElem?_of_mem h
  unfold RwD.ndTo at hi
  rw [List.getElem?_mapIdx] at hi
  cases e : r.ns[i]? with
  | none => rw [e] at hi; cases hi
  | some n =>
    rw [e] at hi
    simp only [Option.map_some, Option.some.injEq] at hi
    rw [if_pos (List.getElem?_eq_some_iff.1 e).1] at hi
    exact ⟨n, List.mem_of_getElem? e, i, hi.symm⟩
/-- A note says what is so: it allows the truth. -/
theorem note_so {r : RwD} (hok : r.Ok) {t : List Int} {ws : List Nat} {i : Nat} {n : Nt} (hn : r.haveB n = true) (h0 : -1 ≤ t.getD n.p.toNat 0 ∧ t.getD n.p.toNat 0 ≤ r.ws.length) :
    inB (in31 (t.getD n.p.toNat 0)) (alwD r.sh r.old { n with y := r.noteYes t ws i n }).1 (alwD r.sh r.old { n with y := r.noteYes t ws i n }).2 = true := by
  obtain ⟨-, hw1, hw2⟩ := note_plant hok hn
  have hsh := hok.sh
  have hold := hok.old
  have hnw := hok.nw
  rw [inB_iff]
  unfold alwD yesD noD in31
  dsimp only
  cases hy : r.noteYes t ws i n with
  | true =>
    unfold RwD.noteYes at hy
    rw [if_pos rfl]
    dsimp only
    by_cases hk : n.k = 0
    · rw [if_pos hk] at hy ⊢
      simp only [Bool.and_eq_true, decide_eq_true_eq] at hy
      split <;> omega
    · rw [if_neg hk] at hy ⊢
      simp only [Bool.and_eq_true, decide_eq_true_eq] at hy
      split <;> omega
  | false =>
    unfold RwD.noteYes at hy
    rw [if_neg (by simp)]
    dsimp only
    by_cases hk : n.k = 0
    · rw [if_pos hk] at hy ⊢
      rw [← Bool.not_eq_true] at hy
      simp only [Bool.and_eq_true, decide_eq_true_eq] at hy
      split <;> omega
    · rw [if_neg hk] at hy ⊢
      rw [← Bool.not_eq_true] at hy
      simp only [Bool.and_eq_true, Bool.or_eq_true, decide_eq_true_eq] at hy
      split <;> omega
theorem truthD_in {t : List Int} {p : Nat} (hp : p < t.length) : (truthD t).getD p 0 = in31 (t.getD p 0) := by
  rw [truthD_at, dif_pos hp, List.getD, List.getElem?_eq_getElem hp, Option.getD_some]
theorem getD_mem {t : List Int} {p : Nat} (hp : p < t.length) : t.getD p 0 ∈ t := by
  rw [List.getD, List.getElem?_eq_getElem hp]; exact List.getElem_mem _
theorem noted_poss {r : RwD} (hf : r.fault = 0) {t : List Int} (ws : List Nat) (hl : t.length = r.dug.length) (ht : ∀ o, o ∈ t → -1 ≤ o ∧ o ≤ r.ws.length)
    (hfa : ∀ p, p < r.dug.length → (truthD t).getD p 0 = 31 ∨ r.fallB (truthD t) p ((truthD t).getD p 0) = true) : (r.notedBy t ws).possB (r.notedBy t ws).wins (truthD t) = true := by
  obtain ⟨hok, hns, -, hlw, -⟩ := fault_ok hf
  have hd10 : r.dug.length ≤ 10 := by have := hok.dug; have := hok.n1; omega
  refine all_range.2 fun p hp => ?_
  have hp' : p < r.dug.length := hp
  have e : (truthD t).getD p 0 = in31 (t.getD p 0) := truthD_in (by omega)
  have hm := ht _ (getD_mem (p := p) (by omega))
  unfold RwD.possAt
  rw [Bool.and_eq_true, Bool.or_eq_true, decide_eq_true_eq]
  refine ⟨?_, hfa p hp'⟩
  refine winD_all r.sh r.old p _ _ anyD (fun n hn => ?_) ?_ fun y hy ep => ?_
  · obtain ⟨m, hm, e1, -⟩ := ndTo_mem hn
    have := (note_plant hok (hns m hm)).1
    rw [e1]
    show _ < 10
    omega
  · have hw : winAt anyD p = (0, 31) := by
      unfold winAt anyD
      rw [List.getD, List.getElem?_replicate, if_pos (by omega)]; rfl
    unfold winD
    rw [e, hw, inB_iff]
    unfold in31
    dsimp only
    split <;> omega
  · obtain ⟨n, hn, i, rfl⟩ := noted_mem hy
    have ep' : p = n.p.toNat := ep
    rw [e, ep']
    exact note_so hok (hns n hn) (by rw [← ep']; exact hm)
theorem noted_can {r : RwD} (hf : r.fault = 0) {t : List Int} (ws : List Nat) (hT : TrW r.ws.length (truthD t)) (h : (r.notedBy t ws).possB (r.notedBy t ws).wins (truthD t) = true) : (r.notedBy t ws).can = true :=
  early_can (fault_ok (noted_fault hf t ws)).1 hT h
theorem known_three (r : RwD) (ws : List (Int × Int)) (t : List Int) (p : Nat) : r.knownD ws t p = 1 ∨ r.knownD ws t p = 2 ∨ r.knownD ws t p = 3 := by
  unfold RwD.knownD
  split
  · exact .inr (.inl rfl)
  · split
    · exact .inr (.inr rfl)
    · exact .inl rfl
/-- What is known is so in each possible truth. -/
theorem known_truth {r : RwD} (hf : r.fault = 0) {t : List Int} (hT : TrW r.ws.length t) (ht : r.possB r.wins t = true) {p : Nat} (hp : p < r.dug.length) :
    (t.getD p 0 ≠ 31 → r.knownD r.wins r.earliest p ≠ 2) ∧ (t.getD p 0 = 31 → r.knownD r.wins r.earliest p ≠ 1) := by
  obtain ⟨hok, -, -, hlw, -⟩ := fault_ok hf
  have hle : r.earliest.getD p 0 ≤ t.getD p 0 := early_least hok hT ht p hp
  have hb := hT.b p
  unfold RwD.knownD
  refine ⟨fun h => ?_, fun h => ?_⟩
  · rw [if_neg (by omega)]
    split <;> decide
  · rw [(spare_iff hok hp).2 ⟨t, hT, ht, h⟩]
    split <;> decide
theorem ill_truth {r : RwD} (hf : r.fault = 0) {t : List Int} (hT : TrW r.ws.length t) (ht : r.possB r.wins t = true) {m : Nat} (hm : Least r r.wins m) :
    m ≤ (r.illB t).length ∧ (r.illB t).length ≤ (r.illB r.earliest).length := by
  obtain ⟨hok, -, -, hlw, -⟩ := fault_ok hf
  refine ⟨hm.le t hT ht, length_le_sub illB_nodup fun p hp => ?_⟩
  obtain ⟨h1, h2⟩ := mem_illB.1 hp
  have hle : r.earliest.getD p 0 ≤ t.getD p 0 := early_least hok hT ht p h1.1
  exact mem_illB.2 ⟨h1, by omega⟩
theorem truthD_trw {l : List Int} {N : Nat} (hl : l.length ≤ 10) (h : ∀ o, o ∈ l → -1 ≤ o ∧ o ≤ (N : Int)) : TrW N (truthD l) := by
  refine ⟨by unfold truthD; simp; omega, fun i => ?_⟩
  by_cases hi : i < l.length
  · rw [truthD_in hi]
    have := h _ (getD_mem hi)
    unfold in31
    split <;> omega
  · rw [truthD_at, dif_neg hi]
    split <;> omega
end Go.Proofs.Ytebkhgficochoaa

/- IllTruth: the walk. -/
namespace Go.Proofs.Ytebkhgficochoaa
open Go.RowKit Go.Lib

set_option maxRecDepth 100000 in
set_option maxHeartbeats 8000000 in
theorem IllTruth_unready (r : RwM) (A : Option Addr) (n c : Nat) (w : World) (h : OpenRow r w) (hy : (r.d.thin && decide (r.d.fault = 0)) = false) : Calls Try.prog 7 #[.agg r.cells.toArray, .slice A n c] w fun e w' => e = .returned (.bool true) ∧ Below w.heap.size w w' := by
  have l0 : Lies (w.alloc (.cells r.cells.toArray 26)) w.heap.size 26 r.cells.toArray := Lies.fresh _ _ _
  have b0 : Below w.heap.size w (w.alloc (.cells r.cells.toArray 26)) := (by repeat (first | (with_reducible assumption) | (with_reducible exact Below.refl _ _) | (with_reducible refine Below.drew ?_) | (with_reducible refine below_drewN ?_ _) | ((with_reducible refine Below.setCell ?_ ?_ _); rotate_left; focus (first | (simp; done) | (simp; omega) | omega)) | ((with_reducible refine Below.alloc ?_ ?_ _); rotate_left; focus (first | (simp; done) | (simp; omega) | omega))))
  have hR := fun W hb => ready_no h hy (W := W) hb
  have HR := Lib.hid hR
  have L0 := Lib.hid l0
  have B0 := Lib.hid b0
  clear hR l0 b0 hy h
  go_enter Try.func7, Try.ntmps7
  go_upto_region 1 with (fail)
  change Code.wp _ _ _ _ (w.alloc (.cells r.cells.toArray 26))
  generalize w.alloc (.cells r.cells.toArray 26) = w0 at *
  go_wp2_with (first
    | (refine wpList_load_row (o := ⟨some 14, _, _, _, _, _⟩) ?_ 26 (.tmp 2) ?_ w.heap.size ?_ 26 r.cells.toArray (0, 0) _ L0.out Try.underlying26 rfl size_refrow ?_; rfl; rfl; rfl)
    | (go_at_call 38; refine (HR.out _ B0.out).mono ?_; rintro e w1 ⟨rfl, hb1⟩)
    | (go_at_call 16; refine (awake_any _).mono ?_; rintro e w2 ⟨rfl, hb2⟩))
  go_ret
  exact ⟨rfl, B0.out.trans ((hb1.trans (hb2.mono hb1.size)).mono B0.out.size)⟩
set_option maxRecDepth 100000 in
set_option maxHeartbeats 16000000 in
theorem IllTruth_main (r : RwM) (A : Option Addr) (c : Nat) (ws : List Nat) (w : World) (hr : r.At w w.heap.size) (hth : ThinM r) (hnn : r.ns.A = none → r.ns.l.length = 0 ∧ r.ns.c = 0)
    (hA : Sl w w.heap.size 1 enc16 A ws) (hl : ws.length ≤ maxLen) (hx : ∀ x, x ∈ ws → x < 65536) (hy : (r.d.thin && decide (r.d.fault = 0)) = true) (hf : r.d.fault = 0) :
    Calls Try.prog 7 #[.agg r.cells.toArray, .slice A ws.length c] w fun e w' => e = .returned (.bool true) ∧ Below w.heap.size w w' := by
  have l0 : Lies (w.alloc (.cells r.cells.toArray 26)) w.heap.size 26 r.cells.toArray := Lies.fresh _ _ _
  have b0 : Below w.heap.size w (w.alloc (.cells r.cells.toArray 26)) := (by repeat (first | (with_reducible assumption) | (with_reducible exact Below.refl _ _) | (with_reducible refine Below.drew ?_) | (with_reducible refine below_drewN ?_ _) | ((with_reducible refine Below.setCell ?_ ?_ _); rotate_left; focus (first | (simp; done) | (simp; omega) | omega)) | ((with_reducible refine Below.alloc ?_ ?_ _); rotate_left; focus (first | (simp; done) | (simp; omega) | omega))))
  have hR := fun W (hb : Below w.heap.size w W) => ready_any r W (hr.below hb hb.size)
  rw [hy] at hR
  obtain ⟨hok, hns, -, hlw, -⟩ := fault_ok hf
  obtain ⟨N, hN⟩ : ∃ N, N = r.dug.l.length := ⟨_, rfl⟩
  have hne : r.n = (N : Int) := by rw [hN]; exact hok.dug.symm
  have hN10 : N ≤ 10 := by have := hok.n1; have h2 : r.d.n = r.n := rfl; omega
  have hS := fun W (hb : Below w.heap.size w W) => spread_any r A c ws W (hr.below hb hb.size) hok ((hA.below hb).more hb.size) hl hx
  have hNd := fun W (hb : Below w.heap.size w W) (A' : Option Addr) (c' : Nat) (t : List Int) => lawNoted_any r A' c' t A c ws W (hr.below hb hb.size) hf hnn
  have hNu := fun W (hb : Below w.heap.size w W) (A' : Option Addr) (c' : Nat) (t : List Int) => Number_any r A' c' t W (hr.below hb hb.size) hok
  obtain ⟨t, ht⟩ : ∃ t, t = r.d.spreadD ws := ⟨_, rfl⟩
  have htl : t.length = r.dug.l.length := by rw [ht]; exact spW_length r.d ws _
  have htb : ∀ o, o ∈ t → -1 ≤ o ∧ o ≤ r.d.ws.length := fun o ho => by rw [ht] at ho; exact spW_mem r.d ws _ o ho
  have hfa : ∀ p, p < r.d.dug.length → (truthD t).getD p 0 = 31 ∨ r.d.fallB (truthD t) p ((truthD t).getD p 0) = true := fun p hp => by rw [ht]; exact spread_falls hok ws hp
  rw [← ht] at hS
  clear ht
  have hpo := noted_poss hf ws htl htb hfa
  have hT : TrW r.d.ws.length (truthD t) := truthD_trw (by omega) htb
  have hfx := noted_fault hf t ws
  have hcx := noted_can hf ws hT hpo
  have her := err_ok hfx hcx
  obtain ⟨xd, hxd⟩ : ∃ xd, xd = r.d.notedBy t ws := ⟨_, rfl⟩
  have hxl : xd.dug.length = N := by rw [hxd, hN]; rfl
  have hxw : xd.ws.length = r.d.ws.length := by rw [hxd]; rfl
  have hxi : ∀ u, r.d.illB u = xd.illB u := fun u => by rw [hxd]; rfl
  have hdN : r.d.dug.length = N := hN.symm
  have hnk : r.d.numK t r.d.dug.length = (xd.illB (truthD t)).length := by rw [← hxi]; exact numK_ill htl (by have := hok.nw; omega) htb
  rw [← hxd] at hpo hfx hcx her
  have hpr : xd.proveD t = true := by
    unfold RwD.proveD RwD.onsB
    rw [hfx, hpo]
    simp only [decide_true, Bool.true_and, Bool.and_true, Bool.and_eq_true, decide_eq_true_eq, List.all_eq_true, inB_iff]
    have h2 : xd.n = r.n := by rw [hxd]; rfl
    refine ⟨by rw [htl, h2]; exact hok.dug, fun o ho => by rw [hxw]; exact htb o ho⟩
  have hkl : xd.knowns.length = N := by unfold RwD.knowns; simp [hxl]
  have hkk : ∀ (p : Nat) (k o : Int), xd.knowns[p]? = some k → t[p]? = some o → (k = 1 ∨ k = 2 ∨ k = 3) ∧ (0 ≤ o → k ≠ 2) ∧ (o < 0 → k ≠ 1) ∧ -1 ≤ o ∧ o ≤ 30 := fun p k o hk ho => by
    unfold RwD.knowns at hk
    obtain ⟨hp1, hp2⟩ := List.getElem?_eq_some_iff.1 hk
    have hp : p < xd.dug.length := by simpa using hp1
    simp at hp2
    subst hp2
    have hob := htb o (List.mem_of_getElem? ho)
    have hpt : p < t.length := (List.getElem?_eq_some_iff.1 ho).1
    have hto : t.getD p 0 = o := by rw [List.getD, ho]; rfl
    have h2 := known_truth hfx (by rw [hxw]; exact hT) hpo hp
    rw [truthD_in hpt, hto] at h2
    have hnw := hok.nw
    unfold in31 at h2
    refine ⟨known_three _ _ _ _, fun h => h2.1 (by split <;> omega), fun h => h2.2 (by rw [if_pos (by omega)]), hob.1, by omega⟩
  have hlm := fun m (hm : Least xd xd.wins m) => ill_truth hfx (by rw [hxw]; exact hT) hpo hm
  obtain ⟨nu, hnu⟩ : ∃ nu, nu = (xd.illB (truthD t)).length := ⟨_, rfl⟩
  rw [← hnu] at hnk
  have hnu10 : nu ≤ 10 := by rw [hnu]; have := illB_len xd (truthD t); omega
  rw [← hnu] at hlm
  have HR := Lib.hid hR
  have HS := Lib.hid hS
  have HND := Lib.hid hNd
  have HNU := Lib.hid hNu
  have HWS := Lib.hid (And.intro hA (And.intro hl hx))
  have L0 := Lib.hid l0
  have B0 := Lib.hid b0
  have HTL := Lib.hid htl
  have HTB := Lib.hid (show ∀ o, o ∈ t → -1 ≤ o ∧ o ≤ 30 from fun o ho => by have := htb o ho; have := hok.nw; omega)
  have HTH := Lib.hid hth
  have HXD := Lib.hid hxd
  have HER := Lib.hid her
  have HPR := Lib.hid hpr
  obtain ⟨la, hla⟩ : ∃ la, la = xd.knowns := ⟨_, rfl⟩
  obtain ⟨M, hM⟩ : ∃ M, M = (xd.illB xd.earliest).length := ⟨_, rfl⟩
  rw [← hla] at hkl hkk
  rw [← hM] at hlm
  have HLA := Lib.hid hla
  have HM := Lib.hid hM
  have HKL := Lib.hid hkl
  have HKK := Lib.hid hkk
  have HLM := Lib.hid hlm
  have HNK := Lib.hid hnk
  have HN := Lib.hid hN
  have HNE := Lib.hid hne
  clear hR l0 b0 hy hr hth hnn hA hl hx hf hok hns hlw hS hNd hNu htl htb hfa hpo hT hfx hcx her hxd hxl hxw hxi hdN hnk hpr hkl hkk hlm hnu hN hne hla hM
  go_enter Try.func7, Try.ntmps7
  go_upto_region 1 with (fail)
  change Code.wp _ _ _ _ (w.alloc (.cells r.cells.toArray 26))
  generalize w.alloc (.cells r.cells.toArray 26) = w0 at *
  go_upto_region 3 with (first
    | (refine wpList_load_row (o := ⟨some 14, _, _, _, _, _⟩) ?_ 26 (.tmp 2) ?_ w.heap.size ?_ 26 r.cells.toArray (0, 0) _ L0.out Try.underlying26 rfl size_refrow ?_; rfl; rfl; rfl)
    | (go_at_call 38; refine (HR.out _ B0.out).mono ?_; rintro e w1 ⟨rfl, hb1⟩))
  have L1 := Lib.hid (L0.out.call hb1)
  have B1 := Lib.hid (B0.out.trans (hb1.mono B0.out.size))
  clear hb1 L0 B0 HR
  go_upto_region 4 with (first
    | (refine wpList_load_row (o := ⟨some 18, _, _, _, _, _⟩) ?_ 26 (.tmp 2) ?_ w.heap.size ?_ 26 r.cells.toArray (0, 0) _ L1.out Try.underlying26 rfl size_refrow ?_; rfl; rfl; rfl)
    | (go_at_call 39; refine (HS.out _ B1.out).mono ?_; rintro e w2 ⟨A2, c2, rfl, ho2, hb2⟩))
  have L2 := Lib.hid (L1.out.call hb2)
  have B2 := Lib.hid (B1.out.trans (hb2.mono B1.out.size))
  rw [← HTL.out] at ho2
  obtain ⟨_, _, e2, hn2, hs2⟩ := Sl.of_own (enc := encI) (fun _ => rfl) ho2 rfl
  cases e2
  have S2 := Lib.hid hs2
  have SN := Lib.hid hn2
  rw [← HTL.out]
  clear hb2 ho2 hs2 hn2 L1 B1 HS
  have hND := HND.out w2 B2.out A2 c2 t S2.out HTL.out HTB.out ((HWS.out.1.below B2.out).more B2.out.size) HWS.out.2.1 HWS.out.2.2
  have HND2 := Lib.hid hND
  clear hND HND HWS
  go_upto_region 5 with (first
    | (refine wpList_load_row (o := ⟨some 21, _, _, _, _, _⟩) ?_ 26 (.tmp 2) ?_ w.heap.size ?_ 26 r.cells.toArray (0, 0) _ L2.out Try.underlying26 rfl size_refrow ?_; rfl; rfl; rfl)
    | (go_at_call 40; refine HND2.out.mono ?_; rintro e w3 ⟨x, rfl, hx3⟩)
    | (refine wpList_store_cells (o := ⟨none, .store 26 (.tmp 6) _, _, _, _, _⟩) ?_ 26 (.tmp 6) (.tmp 24) ?_ w3.heap.size 0 ?_ 26 zrow x.cells ?_ (Lies.fresh w3 26 zrow.toArray) (by simp [zrow, RwM.cells]) size_refrow (part_one x _ _ _ rfl rfl rfl) ?_; rfl; rfl; rfl; rfl; intro w4 HS4 HO4; (try simp only [Act.put])))
  have hs4 := HS4.out
  rw [splice_whole (by rfl)] at hs4
  have hz4 := (Below.refl w3.heap.size w3).alloc (Nat.le_refl _) (.cells zrow.toArray 26)
  have hb4 : Below w3.heap.size w3 w4 := HO4.out.below hz4 (Nat.le_refl _)
  have hd4 := hx3.b.trans (hb4.mono hx3.b.size)
  have X4 := Lib.hid hs4
  have XA := Lib.hid (hx3.at_.below hb4 hb4.size)
  have XT := Lib.hid (hx3.t HTH.out)
  have XD := Lib.hid (hx3.d.trans HXD.out.symm)
  have L4 := Lib.hid (L2.out.call hd4)
  have B4 := Lib.hid (B2.out.trans (hd4.mono B2.out.size))
  have S4 := Lib.hid ((S2.out.below hd4).more hd4.size)
  clear hs4 hz4 hb4 hd4 hx3 HS4 HO4 L2 B2 S2 HND2 HXD HTH
  generalize w3.heap.size = gx at *
  have RX := Lib.hid (fun W (hb : Below w4.heap.size w4 W) => lawRow_thin x W (XA.out.below hb hb.size) XT.out)
  have hKX := fun q w0 W (h : LawR x w0 q W) => Known_of h (by rw [XD.out]; exact HER.out)
  have hCX := fun q w0 W (h : LawR x w0 q W) => Count_of h (by rw [XD.out]; exact HER.out)
  unfold YesC at hCX
  simp only [XD.out, ← HLA.out, ← HM.out] at hKX hCX
  have PX := Lib.hid (fun (q : RwM) (w0 V W : World) (A : Option Addr) (c : Nat) (h : LawR x w0 q V) (hb : Below V.heap.size V W) (hA : Sl W W.heap.size 1 encI A t) => (by have h2 := ProveTruth_any q A c t W (h.at_.below hb hb.size) hA (by have := HTL.out; have := HN.out; omega); rw [h.d, XD.out, HPR.out] at h2; exact h2 : Calls Try.prog 20 #[.agg q.cells.toArray, .slice A t.length c] W fun e w' => e = .returned (.bool true) ∧ Below W.heap.size W w'))
  have HKX := Lib.hid hKX
  have HCX := Lib.hid hCX
  clear hKX hCX
  go_upto_region 6 with (first
    | (refine wpList_load_row (o := ⟨some 26, _, _, _, _, _⟩) ?_ 26 (.tmp 6) ?_ gx ?_ 26 x.cells.toArray (0, 0) _ X4.out Try.underlying26 rfl size_refrow ?_; rfl; rfl; rfl)
    | (go_at_call_of 18 (Value.agg x.cells.toArray); refine (RX.out _ (Below.refl _ _)).mono ?_; rintro e w5 ⟨q5, rfl, hq5⟩)
    | (go_at_call_of 27 (Value.agg q5.cells.toArray); refine (HKX.out q5 _ _ hq5).mono ?_; rintro e w6 ⟨A6, c6, rfl, hA6, hS6, hb6⟩))
  have D6 := Lib.hid (hq5.b.trans (hb6.mono hq5.b.size))
  have S6 := Lib.hid hS6
  have X6 := Lib.hid (X4.out.call D6.out)
  clear hq5 hb6 hS6 hA6 HKX
  go_upto_region 7 with (first
    | (refine wpList_load_row (o := ⟨some 32, _, _, _, _, _⟩) ?_ 26 (.tmp 6) ?_ gx ?_ 26 x.cells.toArray (0, 0) _ X6.out Try.underlying26 rfl size_refrow ?_; rfl; rfl; rfl)
    | (go_at_call_of 18 (Value.agg x.cells.toArray); refine (RX.out _ D6.out).mono ?_; rintro e w7 ⟨q7, rfl, hq7⟩)
    | (go_at_call_of 28 (Value.agg q7.cells.toArray); refine (HCX.out q7 _ _ hq7).mono ?_; rintro e w8 ⟨m, rfl, hm, hb8⟩))
  have hb78 := hq7.b.trans (hb8.mono hq7.b.size)
  have D8 := Lib.hid (D6.out.trans (hb78.mono D6.out.size))
  have S8 := Lib.hid ((S6.out.below hb78).more hb78.size)
  have X8 := Lib.hid (X4.out.call D8.out)
  have HMM := Lib.hid (HLM.out m hm)
  have a8 : w8.cell? ⟨w.heap.size, 0, none⟩ = some (.int .i64 N) := by rw [← HNE.out]; exact (L4.out.call D8.out).at_ 0
  clear hq7 hb8 hm hb78 HCX HLM X6 S6 D6
  have hkl := HKL.out
  have hla : ((la.length : Int) != (N : Int)) = false := by rw [hkl]; simp
  have hlaz : (la.length : Int) ≤ 10 := by omega
  have RL := Lib.hid (fun W (hb : Below w4.heap.size w4 W) => lawList_any A2 c2 t W ((S4.out.below hb).more hb.size) (by have := HTL.out; have := HN.out; omega) SN.out)
  clear hkl
  go_upto_region 9 with (first
    | ((fail_if_success (have hxx := D9)); refine wpList_load_rowG (o := ⟨some 52, _, _, _, _, _⟩) ?_ 26 (.tmp 6) ?_ gx ?_ 26 x.cells.toArray (0, 0) _ X8.out Try.underlying26 rfl size_refrow ?_; kernel_rfl; rfl; rfl)
    | ((fail_if_success (have hxx := D9)); go_at_call_of 18 (Value.agg x.cells.toArray); refine (RX.out _ D8.out).mono ?_; rintro e w9 ⟨q9, rfl, hq9⟩; have D9 := Lib.hid (D8.out.trans (hq9.b.mono D8.out.size)))
    | ((fail_if_success (have hxx := Da)); go_at_call_of 21 (Value.slice A2 t.length c2); refine (RL.out _ D9.out).mono ?_; rintro e wa ⟨Al, cl, rfl, hAl, hSl, hbl⟩; have Da := Lib.hid (D9.out.trans (hbl.mono D9.out.size)))
    | ((fail_if_success (have hxx := Db)); go_at_call_of 20 (Value.agg q9.cells.toArray); refine (PX.out q9 _ _ _ Al cl hq9 hbl hSl).mono ?_; rintro e wb ⟨rfl, hbb⟩; have Db := Lib.hid (Da.out.trans (hbb.mono Da.out.size))))
  have h8b := hq9.b.trans ((hbl.trans (hbb.mono hbl.size)).mono hq9.b.size)
  have SK := Lib.hid ((S8.out.below h8b).more h8b.size)
  have ST := Lib.hid ((S4.out.below Db.out).more Db.out.size)
  have LB := Lib.hid (L4.out.call Db.out)
  have BB := Lib.hid (B4.out.trans (Db.out.mono B4.out.size))
  clear h8b hq9 hbl hSl hAl hbb D9 Da Db S8 S4 X8 a8 RX PX RL D8 hla XA XT XD X4 L4 B4 HPR HLA HM HER HTB
  go_wp2
  go_loopw [12] (fun s12 wr => ∃ k : Nat, k ≤ N ∧ s12 = .int .i64 k ∧ Aside (Below wb.heap.size wb wr)) (fun i _ => N - (intOf i).toNat)
  case atStart => exact ⟨0, by omega, rfl, Below.refl _ _⟩
  case round =>
    obtain ⟨k, hk, rfl, HB⟩ := hrel
    have c0 : wr.cell? ⟨w.heap.size, 0, none⟩ = some (.int .i64 N) := by rw [← HNE.out]; exact (LB.out.call HB.out).at_ 0
    by_cases hlt : k < N
    · have hltz : (k : Int) < (N : Int) := by omega
      have hk0 : (0 : Int) ≤ (k : Int) := by omega
      have hkl := HKL.out
      have htn : t.length = N := HTL.out.trans HN.out.symm
      have hlta : (k : Int) < (la.length : Int) := by omega
      have hltt : (k : Int) < (t.length : Int) := by omega
      obtain ⟨a, ha⟩ : ∃ a, la[k]? = some a := ⟨la[k]'(by omega), by simp⟩
      obtain ⟨o, ho⟩ : ∃ o, t[k]? = some o := ⟨t[k]'(by omega), by simp⟩
      obtain ⟨h123, h2, h1, ho0, ho1⟩ := HKK.out k a o ha ho
      obtain ⟨b1, o1, e1, hb1, p1⟩ := SK.out.cell8 ha
      obtain ⟨b2, o2, e2, hb2, p2⟩ := ST.out.cell1 ho
      have r1 : wr.cell? ⟨b1, o1 + k, none⟩ = some (.int .u8 a) := (HB.out.cell (p := ⟨b1, o1 + k, none⟩) hb1).trans p1
      have r2 : wr.cell? ⟨b2, o2 + k, none⟩ = some (.int .i64 o) := (HB.out.cell (p := ⟨b2, o2 + k, none⟩) hb2).trans p2
      have HB' := Lib.hid HB.out
      subst e1 e2
      clear ha ho p1 p2 hb1 hb2 hkl htn HB
      by_cases h0 : 0 ≤ o
      · have h0' : ¬ o < 0 := by omega
        have h3 := h2 h0
        clear h1 h2
        rcases h123 with rfl | rfl | rfl
        · go_wp2
          go_roundw
          case rel => exact ⟨k + 1, by omega, by go_num, HB'.out⟩
          case measure => simp [intOf]; omega
        · exact absurd rfl h3
        · go_wp2
          go_roundw
          case rel => exact ⟨k + 1, by omega, by go_num, HB'.out⟩
          case measure => simp [intOf]; omega
      · have h0' : o < 0 := by omega
        have h3 := h1 h0'
        clear h1 h2
        rcases h123 with rfl | rfl | rfl
        · exact absurd rfl h3
        · go_wp2
          go_roundw
          case rel => exact ⟨k + 1, by omega, by go_num, HB'.out⟩
          case measure => simp [intOf]; omega
        · go_wp2
          go_roundw
          case rel => exact ⟨k + 1, by omega, by go_num, HB'.out⟩
          case measure => simp [intOf]; omega
    · obtain rfl : k = N := by omega
      have HB' := Lib.hid HB.out
      have hNW := HNU.out _ (BB.out.trans (HB.out.mono BB.out.size)) A2 c2 t ((ST.out.below HB.out).more HB.out.size) HTL.out
      rw [HNK.out] at hNW
      have HNW := Lib.hid hNW
      have LR := Lib.hid (LB.out.call HB.out)
      have hm1 : (m : Int) ≤ (nu : Int) := by have := HMM.out; omega
      have hm2 : (nu : Int) ≤ (M : Int) := by have := HMM.out; omega
      clear hNW HB
      go_wp2_with (first
        | (refine wpList_load_row (o := ⟨some 105, _, _, _, _, _⟩) ?_ 26 (.tmp 2) ?_ w.heap.size ?_ 26 r.cells.toArray (0, 0) _ LR.out Try.underlying26 rfl size_refrow ?_; rfl; rfl; rfl)
        | (go_at_call 30; refine HNW.out.mono ?_; rintro e v1 ⟨rfl, hbn⟩)
        | (go_at_call 16; refine (awake_any _).mono ?_; rintro e v2 ⟨rfl, hb9⟩))
      go_ret
      exact ⟨rfl, BB.out.trans ((HB'.out.trans ((hbn.trans (hb9.mono hbn.size)).mono HB'.out.size)).mono BB.out.size)⟩
theorem IllTruth_walk (r : RwM) (s : Sv Nat) (w : World) (h : OpenRow r w) (hs : (∀ x, x ∈ s.l → x < 65536) ∧ s.l.length ≤ maxLen) (hS : Sl w w.heap.size 1 enc16 s.A s.l) :
    Calls Try.prog 7 #[.agg r.cells.toArray, .slice s.A s.l.length s.c] w fun e w' => e = .returned (.bool true) ∧ Below w.heap.size w w' := by
  cases hy : r.d.thin && decide (r.d.fault = 0) with
  | false => exact IllTruth_unready r _ _ _ w h hy
  | true =>
    have hy2 := hy
    rw [Bool.and_eq_true, decide_eq_true_eq] at hy2
    obtain ⟨hr, ht⟩ := h.thin hy2.1
    exact IllTruth_main r s.A s.c s.l w hr ht h.nsn hS hs.2 hs.1 hy hy2.2
end Go.Proofs.Ytebkhgficochoaa

/- What First tells, as a list of onsets. -/
namespace Go.Proofs.Ytebkhgficochoaa
open Go.RowKit Go.Lib

theorem poss_congr {r : RwD} (hok : r.Ok) {ws : List (Int × Int)} {s t : List Int} (h : ∀ p, p < r.dug.length → s.getD p 0 = t.getD p 0) (ht : r.possB ws t = true) : r.possB ws s = true := by
  refine all_range.2 fun p hp => ?_
  have hp2 := all_range.1 ht p hp
  unfold RwD.possAt at *
  rw [h p hp]
  rw [Bool.and_eq_true, Bool.or_eq_true] at *
  exact ⟨hp2.1, hp2.2.imp id (fun hf => fall_mono hok (fun q hq _ => by rw [h q hq]; exact Int.le_refl _) hf)⟩
theorem ill_congr {r : RwD} {s t : List Int} (h : ∀ p, p < r.dug.length → s.getD p 0 = t.getD p 0) : r.illB s = r.illB t := by
  unfold RwD.illB
  refine List.filter_congr fun q hq => ?_
  unfold thoseD at hq
  rw [h q (List.mem_range.1 (List.mem_filter.1 hq).1)]
section
variable {r : RwD}
theorem first_truth (hf : r.fault = 0) (p : Nat) (hp : p < r.dug.length) : (truthD r.firstD).getD p 0 = r.earliest.getD p 0 := by
  obtain ⟨hok, -, -, hlw, -⟩ := fault_ok hf
  have h10 : r.dug.length ≤ 10 := by have := hok.dug; have := hok.n1; omega
  rw [truthD_in (by rw [firstD_length _ h10]; exact hp), firstD_at r p hp h10]
  have b := (earliest_ok (r := r)).b p
  unfold in31 out31
  split <;> split at * <;> omega
theorem first_mem (hf : r.fault = 0) : ∀ o, o ∈ r.firstD → -1 ≤ o ∧ o ≤ r.ws.length := fun o ho => by
  obtain ⟨hok, -, -, hlw, -⟩ := fault_ok hf
  have h10 : r.dug.length ≤ 10 := by have := hok.dug; have := hok.n1; omega
  obtain ⟨p, hp⟩ := List.getElem?_of_mem ho
  obtain ⟨-, rfl⟩ := first_at h10 hp
  have b := (earliest_ok (r := r)).b p
  unfold out31
  split <;> omega
theorem first_prove (hf : r.fault = 0) (hc : r.can = true) : r.proveD r.firstD = true := by
  obtain ⟨hok, -, -, hlw, -⟩ := fault_ok hf
  have h10 : r.dug.length ≤ 10 := by have := hok.dug; have := hok.n1; omega
  unfold RwD.proveD RwD.onsB
  rw [hf, poss_congr hok (first_truth hf) hc]
  simp only [decide_true, Bool.true_and, Bool.and_true, Bool.and_eq_true, decide_eq_true_eq, List.all_eq_true, inB_iff]
  exact ⟨by rw [firstD_length _ h10]; exact hok.dug, first_mem hf⟩
theorem first_ill (hf : r.fault = 0) : r.illB (truthD r.firstD) = r.illB r.earliest := ill_congr (first_truth hf)
theorem prove_has {t : List Int} (h : r.proveD t = true) : r.fault = 0 ∧ TrW r.ws.length (truthD t) ∧ t.length = r.dug.length ∧ r.possB r.wins (truthD t) = true ∧ ∀ o, o ∈ t → -1 ≤ o ∧ o ≤ r.ws.length := by
  unfold RwD.proveD at h
  rw [Bool.and_eq_true, Bool.and_eq_true, decide_eq_true_eq] at h
  obtain ⟨⟨hf, ho⟩, hp⟩ := h
  obtain ⟨hl, hb⟩ := onsB_at ho
  obtain ⟨hok, -, -, hlw, -⟩ := fault_ok hf
  have := hok.dug
  have := hok.n1
  exact ⟨hf, truthD_trw (by omega) hb, by omega, hp, hb⟩
theorem prove_can {t : List Int} (h : r.proveD t = true) : r.can = true := by
  obtain ⟨hf, hT, -, hp, -⟩ := prove_has h
  exact early_can (fault_ok hf).1 hT hp
theorem prove_least {t : List Int} (h : r.proveD t = true) {p : Nat} {o f : Int} (ho : t[p]? = some o) (hfi : r.firstD[p]? = some f) (h0 : 0 ≤ o) : 0 ≤ f ∧ f ≤ o := by
  obtain ⟨hf, hT, hl, hp, hob⟩ := prove_has h
  obtain ⟨hok, -, -, hlw, -⟩ := fault_ok hf
  have h10 : r.dug.length ≤ 10 := by have := hok.dug; have := hok.n1; omega
  obtain ⟨hpl, rfl⟩ := first_at h10 hfi
  have hle : r.earliest.getD p 0 ≤ (truthD t).getD p 0 := early_least hok hT hp p hpl
  have hpt := (List.getElem?_eq_some_iff.1 ho).1
  have b := (earliest_ok (r := r)).b p
  have e : t.getD p 0 = o := by rw [List.getD, ho]; rfl
  have hb := hob o (List.mem_of_getElem? ho)
  rw [truthD_in hpt, e] at hle
  unfold in31 at hle
  rw [if_neg (by omega)] at hle
  unfold out31
  split <;> omega
end
end Go.Proofs.Ytebkhgficochoaa

/- IllEarliest: the walk. -/
namespace Go.Proofs.Ytebkhgficochoaa
open Go.RowKit Go.Lib

set_option maxRecDepth 100000 in
set_option maxHeartbeats 8000000 in
theorem IllEarliest_unready (r : RwM) (A1 A2 : Option Addr) (n1 c1 n2 c2 : Nat) (w : World) (h : OpenRow r w) (hy : (r.d.thin && decide (r.d.fault = 0)) = false) : Calls Try.prog 8 #[.agg r.cells.toArray, .slice A1 n1 c1, .slice A2 n2 c2] w fun e w' => e = .returned (.bool true) ∧ Below w.heap.size w w' := by
  have l0 : Lies (w.alloc (.cells r.cells.toArray 26)) w.heap.size 26 r.cells.toArray := Lies.fresh _ _ _
  have b0 : Below w.heap.size w (w.alloc (.cells r.cells.toArray 26)) := (by repeat (first | (with_reducible assumption) | (with_reducible exact Below.refl _ _) | (with_reducible refine Below.drew ?_) | (with_reducible refine below_drewN ?_ _) | ((with_reducible refine Below.setCell ?_ ?_ _); rotate_left; focus (first | (simp; done) | (simp; omega) | omega)) | ((with_reducible refine Below.alloc ?_ ?_ _); rotate_left; focus (first | (simp; done) | (simp; omega) | omega))))
  have hR := fun W hb => ready_no h hy (W := W) hb
  have HR := Lib.hid hR
  have L0 := Lib.hid l0
  have B0 := Lib.hid b0
  clear hR l0 b0 hy h
  go_enter Try.func8, Try.ntmps8
  go_upto_region 1 with (fail)
  change Code.wp _ _ _ _ (w.alloc (.cells r.cells.toArray 26))
  generalize w.alloc (.cells r.cells.toArray 26) = w0 at *
  go_wp2_with (first
    | (refine wpList_load_row (o := ⟨some 17, _, _, _, _, _⟩) ?_ 26 (.tmp 3) ?_ w.heap.size ?_ 26 r.cells.toArray (0, 0) _ L0.out Try.underlying26 rfl size_refrow ?_; rfl; rfl; rfl)
    | (go_at_call 38; refine (HR.out _ B0.out).mono ?_; rintro e w1 ⟨rfl, hb1⟩)
    | (go_at_call 16; refine (awake_any _).mono ?_; rintro e w2 ⟨rfl, hb2⟩))
  go_ret
  exact ⟨rfl, B0.out.trans ((hb1.trans (hb2.mono hb1.size)).mono B0.out.size)⟩
set_option maxRecDepth 100000 in
set_option maxHeartbeats 8000000 in
theorem IllEarliest_long (r : RwM) (A1 A2 : Option Addr) (n1 c1 n2 c2 : Nat) (w : World) (hr : r.At w w.heap.size) (hy : (r.d.thin && decide (r.d.fault = 0)) = true) (hn : 15 < n1) (_hm : n1 ≤ maxLen) : Calls Try.prog 8 #[.agg r.cells.toArray, .slice A1 n1 c1, .slice A2 n2 c2] w fun e w' => e = .returned (.bool true) ∧ Below w.heap.size w w' := by
  have l0 : Lies (w.alloc (.cells r.cells.toArray 26)) w.heap.size 26 r.cells.toArray := Lies.fresh _ _ _
  have b0 : Below w.heap.size w (w.alloc (.cells r.cells.toArray 26)) := (by repeat (first | (with_reducible assumption) | (with_reducible exact Below.refl _ _) | (with_reducible refine Below.drew ?_) | (with_reducible refine below_drewN ?_ _) | ((with_reducible refine Below.setCell ?_ ?_ _); rotate_left; focus (first | (simp; done) | (simp; omega) | omega)) | ((with_reducible refine Below.alloc ?_ ?_ _); rotate_left; focus (first | (simp; done) | (simp; omega) | omega))))
  have hR := fun W (hb : Below w.heap.size w W) => ready_any r W (hr.below hb hb.size)
  rw [hy] at hR
  have hnz : (15 : Int) < (n1 : Int) := by omega
  have HR := Lib.hid hR
  have L0 := Lib.hid l0
  have B0 := Lib.hid b0
  clear hR l0 b0 hy hr
  go_enter Try.func8, Try.ntmps8
  go_upto_region 1 with (fail)
  change Code.wp _ _ _ _ (w.alloc (.cells r.cells.toArray 26))
  generalize w.alloc (.cells r.cells.toArray 26) = w0 at *
  go_wp2_with (first
    | (refine wpList_load_row (o := ⟨some 17, _, _, _, _, _⟩) ?_ 26 (.tmp 3) ?_ w.heap.size ?_ 26 r.cells.toArray (0, 0) _ L0.out Try.underlying26 rfl size_refrow ?_; rfl; rfl; rfl)
    | (go_at_call 38; refine (HR.out _ B0.out).mono ?_; rintro e w1 ⟨rfl, hb1⟩)
    | (go_at_call 16; refine (awake_any _).mono ?_; rintro e w2 ⟨rfl, hb2⟩))
  go_ret
  exact ⟨rfl, B0.out.trans ((hb1.trans (hb2.mono hb1.size)).mono B0.out.size)⟩
/-- The row and the list of a round. -/
structure EarX (r : RwM) (w : World) (gx k : Nat) (x : RwM) (t : List Int) (A : Option Addr) (c : Nat) (W : World) : Prop where
  o : Lies W gx 26 x.cells.toArray
  a : x.At W W.heap.size
  th : ThinM x
  f : x.d.fault = 0
  n : x.d.dug.length = r.d.dug.length
  il : ∀ u, x.d.illB u = r.d.illB u
  nw : x.d.ws.length = r.d.ws.length
  s : Sl W W.heap.size 1 encI A t
  sn : A = none → t.length = 0 ∧ c = 0
  tl : t.length ≤ 15
  one : k = 1 → x.d.proveD t = true
  r : Lies W w.heap.size 26 r.cells.toArray
  b : Below w.heap.size w W
/-- By words: the list is possible in the row that is noted of it. -/
theorem noted_at {r x : RwM} {t : List Int} {ws : List Nat} {w w5 w6 w7 : World} {gx : Nat} (h : NotedR r t ws w5 x w6) (hr : r.At w w.heap.size) (hb : Below w.heap.size w w5) (ho : Only gx w6 w7) (hg : w.heap.size < gx) (hg2 : gx < w5.heap.size) : x.At w7 w7.heap.size := by
  have hb7 := ho.below (hb.trans (h.b.mono hb.size)) (Nat.le_of_lt hg)
  have hr7 := hr.below hb7 hb7.size
  have a := h.at_
  refine ⟨by rw [h.ew]; exact hr7.ws, by rw [h.ed]; exact hr7.dug, ?_, a.lw, a.ld, a.ln, a.kn⟩
  have h5 := own_keep h.own fun j hj => ho.block j (by have := (own_at h.own hj).1; omega)
  obtain ⟨_, _, e1, _, s1⟩ := Sl.of_own (enc := encN) (fun _ => rfl) h5 rfl
  cases e1
  exact s1
theorem only_ints {A : Option Addr} {c : Nat} {t : List Int} {w4 w6 w7 : World} {gx : Nat} (h : w6.ownsRow w4.heap.size 3 1 (.slice A t.length c) t.length (t.flatMap encI)) (ho : Only gx w6 w7) (hg : gx < w4.heap.size) : Sl w7 w7.heap.size 1 encI A t := by
  have h5 := own_keep h fun j hj => ho.block j (by have := (own_at h hj).1; omega)
  obtain ⟨_, _, e1, _, s1⟩ := Sl.of_own (enc := encI) (fun _ => rfl) h5 rfl
  cases e1
  exact s1
theorem noted_prove {r : RwD} (hf : r.fault = 0) (ws : List Nat) : (r.notedBy (r.spreadD ws) ws).proveD (r.spreadD ws) = true := by
  obtain ⟨hok, -, -, hlw, -⟩ := fault_ok hf
  have hl : (r.spreadD ws).length = r.dug.length := spW_length r ws _
  have hb : ∀ o, o ∈ r.spreadD ws → -1 ≤ o ∧ o ≤ r.ws.length := fun o ho => spW_mem r ws _ o ho
  unfold RwD.proveD RwD.onsB
  rw [noted_fault hf, noted_poss hf ws hl hb (fun p hp => spread_falls hok ws hp)]
  simp only [decide_true, Bool.true_and, Bool.and_true, Bool.and_eq_true, decide_eq_true_eq, List.all_eq_true, inB_iff]
  exact ⟨by rw [hl]; exact hok.dug, hb⟩
set_option maxRecDepth 100000 in
set_option maxHeartbeats 16000000 in
theorem IllEarliest_main (r : RwM) (A0 : Option Addr) (c0 : Nat) (os : List Int) (A : Option Addr) (c : Nat) (ws : List Nat) (w : World) (hr : r.At w w.heap.size) (hth : ThinM r) (hnn : r.ns.A = none → r.ns.l.length = 0 ∧ r.ns.c = 0)
    (hO : Sl w w.heap.size 1 encI A0 os) (hon : A0 = none → os.length = 0 ∧ c0 = 0) (hol : os.length ≤ 15)
    (hA : Sl w w.heap.size 1 enc16 A ws) (hl : ws.length ≤ maxLen) (hx : ∀ x, x ∈ ws → x < 65536) (hy : (r.d.thin && decide (r.d.fault = 0)) = true) (hf : r.d.fault = 0) :
    Calls Try.prog 8 #[.agg r.cells.toArray, .slice A0 os.length c0, .slice A ws.length c] w fun e w' => e = .returned (.bool true) ∧ Below w.heap.size w w' := by
  have l0 : Lies (w.alloc (.cells r.cells.toArray 26)) w.heap.size 26 r.cells.toArray := Lies.fresh _ _ _
  have b0 : Below w.heap.size w (w.alloc (.cells r.cells.toArray 26)) := (by repeat (first | (with_reducible assumption) | (with_reducible exact Below.refl _ _) | (with_reducible refine Below.drew ?_) | (with_reducible refine below_drewN ?_ _) | ((with_reducible refine Below.setCell ?_ ?_ _); rotate_left; focus (first | (simp; done) | (simp; omega) | omega)) | ((with_reducible refine Below.alloc ?_ ?_ _); rotate_left; focus (first | (simp; done) | (simp; omega) | omega))))
  have hR := fun W (hb : Below w.heap.size w W) => ready_any r W (hr.below hb hb.size)
  rw [hy] at hR
  obtain ⟨hok, hns, -, hlw, -⟩ := fault_ok hf
  obtain ⟨N, hN⟩ : ∃ N, N = r.dug.l.length := ⟨_, rfl⟩
  have hne : r.n = (N : Int) := by rw [hN]; exact hok.dug.symm
  have hN1 : 1 ≤ N := by have := hok.n0; have h2 : r.d.n = r.n := rfl; omega
  have hN10 : N ≤ 10 := by have := hok.n1; have h2 : r.d.n = r.n := rfl; omega
  have hS := fun W (hb : Below w.heap.size w W) => spread_any r A c ws W (hr.below hb hb.size) hok ((hA.below hb).more hb.size) hl hx
  have hNd := fun W (hb : Below w.heap.size w W) (A' : Option Addr) (c' : Nat) (t : List Int) => lawNoted_any r A' c' t A c ws W (hr.below hb hb.size) hf hnn
  have hNu := fun W (hb : Below w.heap.size w W) (A' : Option Addr) (c' : Nat) (t : List Int) => Number_any r A' c' t W (hr.below hb hb.size) hok
  obtain ⟨t1, ht1⟩ : ∃ t, t = r.d.spreadD ws := ⟨_, rfl⟩
  have htl : t1.length = r.dug.l.length := by rw [ht1]; exact spW_length r.d ws _
  have htb : ∀ o, o ∈ t1 → -1 ≤ o ∧ o ≤ 30 := fun o ho => by rw [ht1] at ho; have := spW_mem r.d ws _ o ho; omega
  have htp := noted_prove hf ws
  rw [← ht1] at hS htp
  clear ht1
  have hfx := noted_fault hf t1 ws
  have hon15 : (os.length : Int) ≤ 15 := by omega
  have HR := Lib.hid hR
  have HS := Lib.hid hS
  have HND := Lib.hid hNd
  have HNU := Lib.hid hNu
  have HWS := Lib.hid (And.intro hA (And.intro hl hx))
  have HOS := Lib.hid (And.intro hO (And.intro hon hol))
  have L0 := Lib.hid l0
  have B0 := Lib.hid b0
  have HRR := Lib.hid hr
  have HOK := Lib.hid hok
  have HTL := Lib.hid htl
  have HTB := Lib.hid htb
  have HTP := Lib.hid htp
  have HFX := Lib.hid hfx
  have HTH := Lib.hid hth
  have HF := Lib.hid hf
  have HN := Lib.hid hN
  have HNE := Lib.hid hne
  clear hR l0 b0 hy hr hth hnn hA hl hx hf hok hns hlw hS hNd hNu htl htb htp hfx hN hne hO hon hol
  go_enter Try.func8, Try.ntmps8
  go_upto_region 1 with (fail)
  change Code.wp _ _ _ _ (w.alloc (.cells r.cells.toArray 26))
  generalize w.alloc (.cells r.cells.toArray 26) = w0 at *
  go_upto_region 3 with (first
    | (refine wpList_load_row (o := ⟨some 17, _, _, _, _, _⟩) ?_ 26 (.tmp 3) ?_ w.heap.size ?_ 26 r.cells.toArray (0, 0) _ L0.out Try.underlying26 rfl size_refrow ?_; rfl; rfl; rfl)
    | (go_at_call 38; refine (HR.out _ B0.out).mono ?_; rintro e w1 ⟨rfl, hb1⟩))
  have L1 := Lib.hid (L0.out.call hb1)
  have B1 := Lib.hid (B0.out.trans (hb1.mono B0.out.size))
  clear hb1 L0 B0 HR
  go_wp2
  go_loopw [7, 8, 9, 10, 11, 12, 13, 14, 15, 16] (fun s7 _ _ _ _ _ _ _ _ _ wr => ∃ k : Nat, k ≤ 2 ∧ s7 = .int .i64 k ∧ Aside (Lies wr w.heap.size 26 r.cells.toArray ∧ Below w.heap.size w wr)) (fun i _ _ _ _ _ _ _ _ _ _ => 2 - (intOf i).toNat)
  case atStart => exact ⟨0, by omega, rfl, L1.out, B1.out⟩
  case round =>
    obtain ⟨k, hk, rfl, HB⟩ := hrel
    clear L1 B1
    by_cases hlt : k < 2
    · have hltz : (k : Int) < 2 := by omega
      have hk0 : (0 : Int) ≤ (k : Int) := by omega
      have LR := Lib.hid HB.out.1
      have BR := Lib.hid HB.out.2
      have Z3 := Lib.hid (show Lies (wr.alloc (.cells zrow.toArray 26)) wr.heap.size 26 zrow.toArray from Lies.fresh _ _ _)
      clear HB
      go_upto_region 7 with (first
        | (refine wpList_load_row (o := ⟨some 30, _, _, _, _, _⟩) ?_ 26 (.tmp 3) ?_ w.heap.size ?_ 26 r.cells.toArray (0, 0) _ LR.out Try.underlying26 rfl size_refrow ?_; rfl; rfl; rfl)
        | (refine wpList_store_cells (o := ⟨none, .store 26 (.tmp 8) _, _, _, _, _⟩) ?_ 26 (.tmp 8) (.tmp 30) ?_ wr.heap.size 0 ?_ 26 zrow r.cells ?_ Z3.out (by simp [zrow, RwM.cells]) size_refrow (part_one r _ _ _ rfl rfl rfl) ?_; rfl; rfl; rfl; rfl; intro w4 HS4 HO4; (try simp only [Act.put])))
      have hs4 := HS4.out
      rw [splice_whole (by rfl)] at hs4
      have hz3 := (Below.refl wr.heap.size wr).alloc (Nat.le_refl _) (.cells zrow.toArray 26)
      have hb4 : Below wr.heap.size wr w4 := HO4.out.below hz3 (Nat.le_refl _)
      have L4 := Lib.hid (LR.out.call hb4)
      have B4 := Lib.hid (BR.out.trans (hb4.mono BR.out.size))
      have X4 := Lib.hid hs4
      have hgx : w.heap.size < wr.heap.size := LR.out.in_
      have hgx4 : wr.heap.size < w4.heap.size := X4.out.in_
      clear hs4 hz3 hb4 HS4 HO4 Z3 LR BR
      generalize wr.heap.size = gx at *
      go_upto_if 33 with (fail)
      go_cut [9] from 34 to 40 (fun s9 wx => ∃ (x : RwM) (t : List Int) (A : Option Addr) (c : Nat), s9 = .slice A t.length c ∧ EarX r w gx k x t A c wx)
      case first =>
        obtain rfl | rfl : k = 0 ∨ k = 1 := by omega
        · go_wp2
          go_meet
          case rel => exact ⟨r, os, A0, c0, rfl, X4.out, HRR.out.below B4.out B4.out.size, HTH.out, HF.out, rfl, fun _ => rfl, rfl, (HOS.out.1.below B4.out).more B4.out.size, HOS.out.2.1, HOS.out.2.2, (fun h => by cases h), L4.out, B4.out⟩
        · go_upto_region 9 with (first
            | (refine wpList_load_row (o := ⟨some 34, _, _, _, _, _⟩) ?_ 26 (.tmp 3) ?_ w.heap.size ?_ 26 r.cells.toArray (0, 0) _ L4.out Try.underlying26 rfl size_refrow ?_; rfl; rfl; rfl)
            | (go_at_call 39; refine (HS.out _ B4.out).mono ?_; rintro e w5 ⟨A5, c5, rfl, ho5, hb5⟩))
          have L5 := Lib.hid (L4.out.call hb5)
          have X5 := Lib.hid (X4.out.call hb5)
          have B5 := Lib.hid (B4.out.trans (hb5.mono B4.out.size))
          rw [← HTL.out] at ho5
          obtain ⟨_, _, e5, hn5, hs5⟩ := Sl.of_own (enc := encI) (fun _ => rfl) ho5 rfl
          cases e5
          have S5 := Lib.hid hs5
          have O5 := Lib.hid ho5
          have SN := Lib.hid hn5
          rw [← HTL.out]
          have hgx5 : gx < w5.heap.size := X5.out.in_
          clear hb5 ho5 hs5 hn5 L4 B4 X4 HS
          have hND := HND.out w5 B5.out A5 c5 t1 S5.out HTL.out HTB.out ((HWS.out.1.below B5.out).more B5.out.size) HWS.out.2.1 HWS.out.2.2
          have HND2 := Lib.hid hND
          clear hND HND
          go_wp2_with (first
            | (refine wpList_load_row (o := ⟨some 37, _, _, _, _, _⟩) ?_ 26 (.tmp 3) ?_ w.heap.size ?_ 26 r.cells.toArray (0, 0) _ L5.out Try.underlying26 rfl size_refrow ?_; rfl; rfl; rfl)
            | (go_at_call 40; refine HND2.out.mono ?_; rintro e w6 ⟨x, rfl, hx6⟩; have X6 := Lib.hid (X5.out.call (hx6.b)))
            | (refine wpList_store_cells (o := ⟨none, .store 26 (.tmp 8) _, _, _, _, _⟩) ?_ 26 (.tmp 8) (.tmp 40) ?_ gx 0 ?_ 26 r.cells x.cells ?_ X6.out (by simp [RwM.cells]) size_refrow (part_one x _ _ _ rfl rfl rfl) ?_; rfl; rfl; rfl; rfl; intro w7 HS7 HO7; (try simp only [Act.put])))
          have hs7 := HS7.out
          rw [splice_whole (by rfl)] at hs7
          have X7 := Lib.hid hs7
          have HX6 := Lib.hid hx6
          have HO := Lib.hid HO7.out
          clear hs7 hx6 HS7 HO7 HND2 X6
          go_meet
          case rel => exact ⟨x, t1, A5, c5, rfl, X7.out, noted_at HX6.out HRR.out B5.out HO.out hgx hgx5, HX6.out.t HTH.out, by rw [HX6.out.d]; exact HFX.out, by rw [HX6.out.d]; rfl, (fun u => by rw [HX6.out.d]; rfl), by rw [HX6.out.d]; rfl, only_ints (ownsRow_call O5.out HX6.out.b) HO.out hgx4, SN.out, by have := HTL.out; have := HN.out; omega, (fun _ => by rw [HX6.out.d]; exact HTP.out), HO.out.lies (L5.out.call HX6.out.b) (by omega), HO.out.below (B5.out.trans (HX6.out.b.mono B5.out.size)) (by omega)⟩
      case rest =>
        obtain ⟨x, t, A', c', rfl, hX⟩ := hcut
        have XO := Lib.hid hX.o
        have XA := Lib.hid hX.a
        have XR := Lib.hid hX.r
        have XB := Lib.hid hX.b
        have SX := Lib.hid hX.s
        have htl15 := hX.tl
        have hXN : x.d.dug.length = N := hX.n.trans HN.out.symm
        have RX := Lib.hid (fun W (hb : Below wc.heap.size wc W) => lawRow_thin x W (XA.out.below hb hb.size) hX.th)
        have RL := Lib.hid (fun W (hb : Below wc.heap.size wc W) => lawList_any A' c' t W ((SX.out.below hb).more hb.size) (by omega) hX.sn)
        have hPX := fun (l : List Int) (hl : l.length ≤ 1000000) (q : RwM) (w0 V W : World) (A : Option Addr) (c : Nat) (h : LawR x w0 q V) (hb : Below V.heap.size V W) (hA : Sl W W.heap.size 1 encI A l) => (by have h2 := ProveTruth_any q A c l W (h.at_.below hb hb.size) hA hl; rw [h.d] at h2; exact h2 : Calls Try.prog 20 #[.agg q.cells.toArray, .slice A l.length c] W fun e w' => e = .returned (.bool (x.d.proveD l)) ∧ Below W.heap.size W w')
        clear X4 L4 B4 HND HS HWS HOS HRR HTL HTB HTP HFX HTH HF
        cases hc : x.d.can with
        | false =>
          have hp : x.d.proveD t = false := by
            cases h : x.d.proveD t with
            | false => rfl
            | true => rw [prove_can h] at hc; cases hc
          have hk1 : k ≠ 1 := fun h => by have := hX.one h; rw [hp] at this; cases this
          have hkn : ((k : Int) == 1) = false := by simp; omega
          have hes := err_sick hX.f hc
          have hFN := fun q w0 W (h : LawR x w0 q W) => First_of_no h (by rw [hes]; decide)
          have hPT := hPX t (by omega)
          simp only [hes] at hFN
          simp only [hp] at hPT
          have HFN := Lib.hid hFN
          have HPT := Lib.hid hPT
          clear hX hPX hFN hPT hp hes hc SX XA HNU HOK HNE HN
          go_upto_region 11 with (first
            | (refine wpList_load_row (o := ⟨some 42, _, _, _, _, _⟩) ?_ 26 (.tmp 8) ?_ gx ?_ 26 x.cells.toArray (0, 0) _ XO.out Try.underlying26 rfl size_refrow ?_; rfl; rfl; rfl)
            | (go_at_call_of 18 (Value.agg x.cells.toArray); refine (RX.out _ (Below.refl _ _)).mono ?_; rintro e v1 ⟨q1, rfl, hq1⟩)
            | (go_at_call_of 19 (Value.agg q1.cells.toArray); refine (HFN.out q1 _ _ hq1).mono ?_; rintro e v2 ⟨rfl, hb2⟩))
          have D2 := Lib.hid (hq1.b.trans (hb2.mono hq1.b.size))
          have X2 := Lib.hid (XO.out.call D2.out)
          clear hq1 hb2 HFN
          go_wp2_with (first
            | (refine wpList_load_row (o := ⟨some 47, _, _, _, _, _⟩) ?_ 26 (.tmp 8) ?_ gx ?_ 26 x.cells.toArray (0, 0) _ X2.out Try.underlying26 rfl size_refrow ?_; rfl; rfl; rfl)
            | (go_at_call_of 18 (Value.agg x.cells.toArray); refine (RX.out _ D2.out).mono ?_; rintro e v3 ⟨q3, rfl, hq3⟩; have D3 := Lib.hid (D2.out.trans (hq3.b.mono D2.out.size)))
            | (go_at_call_of 21 (Value.slice A' t.length c'); refine (RL.out _ D3.out).mono ?_; rintro e v4 ⟨Al, cl, rfl, hAl, hSl, hbl⟩; have D4 := Lib.hid (D3.out.trans (hbl.mono D3.out.size)))
            | (go_at_call_of 20 (Value.agg q3.cells.toArray); refine (HPT.out q3 _ _ _ Al cl hq3 hbl hSl).mono ?_; rintro e v5 ⟨rfl, hb5⟩; have D5 := Lib.hid (D4.out.trans (hb5.mono D4.out.size))))
          go_roundw
          case rel => exact ⟨k + 1, by omega, by go_num, XR.out.call D5.out, XB.out.trans (D5.out.mono XB.out.size)⟩
          case measure => simp [intOf]; omega
        | true =>
          have her := err_ok hX.f hc
          obtain ⟨hok, -, -, hlw, -⟩ := fault_ok hX.f
          obtain ⟨lf, hlf⟩ : ∃ lf, lf = x.d.firstD := ⟨_, rfl⟩
          obtain ⟨M, hM⟩ : ∃ M, M = (x.d.illB x.d.earliest).length := ⟨_, rfl⟩
          have hfl : lf.length = N := by rw [hlf, firstD_length _ (by omega)]; exact hXN
          have hfp : x.d.proveD lf = true := by rw [hlf]; exact first_prove hX.f hc
          have hfi : r.d.numK lf r.d.dug.length = M := by
            have hn := hX.n
            have hw := hX.nw
            rw [numK_ill (hfl.trans HN.out) (by omega) (fun o ho => by rw [← hw]; rw [hlf] at ho; exact first_mem hX.f o ho), ← hX.il, hlf, first_ill hX.f, hM]
          have hM10 : M ≤ 10 := by have := illB_len x.d x.d.earliest; omega
          have hle : x.d.proveD t = true → t.length = N ∧ (∀ o, o ∈ t → -1 ≤ o ∧ o ≤ 30) ∧ ∀ (p : Nat) (o f : Int), t[p]? = some o → lf[p]? = some f → 0 ≤ o → 0 ≤ f ∧ f ≤ o := fun h => by
            obtain ⟨-, -, h3, -, h5⟩ := prove_has h
            refine ⟨h3.trans hXN, fun o ho => by have := h5 o ho; omega, fun p o f ho hf h0 => ?_⟩
            rw [hlf] at hf
            exact prove_least h ho hf h0
          have hlb : ∀ f, f ∈ lf → -1 ≤ f ∧ f ≤ 30 := fun f h => by rw [hlf] at h; have := first_mem hX.f f h; omega
          have hFY := fun q w0 W (h : LawR x w0 q W) => First_of h her
          have hCY := fun q w0 W (h : LawR x w0 q W) => Count_of h her
          have hPT := hPX t (by omega)
          have hPF := hPX lf (by omega)
          unfold YesC at hCY
          simp only [← hlf] at hFY
          simp only [← hM] at hCY
          simp only [hfp] at hPF
          generalize x.d.proveD t = pr at *
          have hNF := fun W (hb : Below wc.heap.size wc W) (A : Option Addr) (c : Nat) (hA : Sl W W.heap.size 1 encI A lf) => HNU.out W (XB.out.trans (hb.mono XB.out.size)) A c lf hA (hfl.trans HN.out)
          simp only [hfi] at hNF
          have hflz : (lf.length : Int) ≤ 10 := by omega
          have hfn : ((lf.length : Int) != (N : Int)) = false := by rw [hfl]; simp
          have hmm : ((M : Int) != (M : Int)) = false := by simp
          have HFY := Lib.hid hFY
          have HCY := Lib.hid hCY
          have HPT := Lib.hid hPT
          have HPF := Lib.hid hPF
          have HNF := Lib.hid hNF
          have HLE := Lib.hid hle
          have HLB := Lib.hid hlb
          have HFL := Lib.hid hfl
          clear hX hPX hFY hCY hPT hPF hNF hle hlb her hok hlw hlf hM hfl hfp hfi hc HNU HOK hXN XA
          go_upto_region 11 with (first
            | (refine wpList_load_row (o := ⟨some 42, _, _, _, _, _⟩) ?_ 26 (.tmp 8) ?_ gx ?_ 26 x.cells.toArray (0, 0) _ XO.out Try.underlying26 rfl size_refrow ?_; rfl; rfl; rfl)
            | (go_at_call_of 18 (Value.agg x.cells.toArray); refine (RX.out _ (Below.refl _ _)).mono ?_; rintro e v1 ⟨q1, rfl, hq1⟩)
            | (go_at_call_of 19 (Value.agg q1.cells.toArray); refine (HFY.out q1 _ _ hq1).mono ?_; rintro e v2 ⟨A2, c2, rfl, hA2, hS2, hb2⟩))
          have D2 := Lib.hid (hq1.b.trans (hb2.mono hq1.b.size))
          have X2 := Lib.hid (XO.out.call D2.out)
          have S2 := Lib.hid hS2
          have N2 := Lib.hid hA2
          clear hq1 hb2 hS2 hA2 HFY
          go_upto_region 12 with (first
            | (refine wpList_load_row (o := ⟨some 47, _, _, _, _, _⟩) ?_ 26 (.tmp 8) ?_ gx ?_ 26 x.cells.toArray (0, 0) _ X2.out Try.underlying26 rfl size_refrow ?_; rfl; rfl; rfl)
            | (go_at_call_of 18 (Value.agg x.cells.toArray); refine (RX.out _ D2.out).mono ?_; rintro e v3 ⟨q3, rfl, hq3⟩; have D3 := Lib.hid (D2.out.trans (hq3.b.mono D2.out.size)))
            | (go_at_call_of 21 (Value.slice A' t.length c'); refine (RL.out _ D3.out).mono ?_; rintro e v4 ⟨Al, cl, rfl, hAl, hSl, hbl⟩)
            | (go_at_call_of 20 (Value.agg q3.cells.toArray); refine (HPT.out q3 _ _ _ Al cl hq3 hbl hSl).mono ?_; rintro e v5 ⟨rfl, hb5⟩))
          have h25 := hq3.b.trans ((hbl.trans (hb5.mono hbl.size)).mono hq3.b.size)
          have D5 := Lib.hid (D2.out.trans (h25.mono D2.out.size))
          have X5 := Lib.hid (X2.out.call h25)
          have S5 := Lib.hid ((S2.out.below h25).more h25.size)
          clear h25 hq3 hbl hb5 hSl hAl D3 D2 X2 S2 HPT RL
          go_upto_region 16 with (first
            | (refine wpList_load_row (o := ⟨some 64, _, _, _, _, _⟩) ?_ 26 (.tmp 8) ?_ gx ?_ 26 x.cells.toArray (0, 0) _ X5.out Try.underlying26 rfl size_refrow ?_; rfl; rfl; rfl)
            | (go_at_call_of 18 (Value.agg x.cells.toArray); refine (RX.out _ D5.out).mono ?_; rintro e v6 ⟨q6, rfl, hq6⟩)
            | (go_at_call_of 28 (Value.agg q6.cells.toArray); refine (HCY.out q6 _ _ hq6).mono ?_; rintro e v7 ⟨m, rfl, -, hb7⟩))
          have h57 := hq6.b.trans (hb7.mono hq6.b.size)
          have D7 := Lib.hid (D5.out.trans (h57.mono D5.out.size))
          have X7 := Lib.hid (X5.out.call h57)
          have R7 := Lib.hid (XR.out.call D7.out)
          have S7 := Lib.hid ((S5.out.below h57).more h57.size)
          have a7 : v7.cell? ⟨w.heap.size, 0, none⟩ = some (.int .i64 N) := by rw [← HNE.out]; exact R7.out.at_ 0
          clear h57 hq6 hb7 D5 X5 S5 HCY
          have LF := Lib.hid (fun W (hb : Below v7.heap.size v7 W) => lawList_any A2 c2 lf W ((S7.out.below hb).more hb.size) (by omega) N2.out)
          go_upto_region 18 with (first
            | ((fail_if_success (have hxx := D8)); refine wpList_load_rowG (o := ⟨some 80, _, _, _, _, _⟩) ?_ 26 (.tmp 8) ?_ gx ?_ 26 x.cells.toArray (0, 0) _ X7.out Try.underlying26 rfl size_refrow ?_; kernel_rfl; rfl; rfl)
            | ((fail_if_success (have hxx := D8)); go_at_call_of 18 (Value.agg x.cells.toArray); refine (RX.out _ D7.out).mono ?_; rintro e v8 ⟨q8, rfl, hq8⟩; have D8 := Lib.hid hq8.b)
            | ((fail_if_success (have hxx := D9)); go_at_call_of 21 (Value.slice A2 lf.length c2); refine (LF.out _ D8.out).mono ?_; rintro e v9 ⟨Al, cl, rfl, hAl, hSl, hbl⟩; have D9 := Lib.hid (D8.out.trans (hbl.mono D8.out.size)))
            | ((fail_if_success (have hxx := Da)); go_at_call_of 20 (Value.agg q8.cells.toArray); refine (HPF.out q8 _ _ _ Al cl hq8 hbl hSl).mono ?_; rintro e va ⟨rfl, hba⟩; have Da := Lib.hid (D9.out.trans (hba.mono D9.out.size)); have Ra := Lib.hid (R7.out.call Da.out))
            | (refine wpList_load_rowG (o := ⟨some 89, _, _, _, _, _⟩) ?_ 26 (.tmp 3) ?_ w.heap.size ?_ 26 r.cells.toArray (0, 0) _ Ra.out Try.underlying26 rfl size_refrow ?_; kernel_rfl; rfl; rfl)
            | (go_at_call_of 30 (Value.agg r.cells.toArray); refine (HNF.out _ (D7.out.trans (Da.out.mono D7.out.size)) A2 c2 ((S7.out.below Da.out).more Da.out.size)).mono ?_; rintro e vb ⟨rfl, hbb⟩; have Db := Lib.hid (Da.out.trans (hbb.mono Da.out.size))))
          have SF := Lib.hid ((S7.out.below Db.out).more Db.out.size)
          have RB := Lib.hid (R7.out.call Db.out)
          have DB := Lib.hid (D7.out.trans (Db.out.mono D7.out.size))
          have ST := Lib.hid ((SX.out.below DB.out).more DB.out.size)
          clear a7 hq8 hbl hSl hAl hba hbb D8 D9 Da Db Ra LF HPF HNF X7 R7 S7 D7 RX SX XO hfn hmm N2
          go_wp2
          go_loopw [16] (fun s16 wr => ∃ p : Nat, p ≤ N ∧ s16 = .int .i64 p ∧ Aside (Below vb.heap.size vb wr)) (fun i _ => N - (intOf i).toNat)
          case atStart => exact ⟨0, by omega, rfl, Below.refl _ _⟩
          case round =>
            obtain ⟨p, hp, rfl, HB⟩ := hrel
            have c0 : wr.cell? ⟨w.heap.size, 0, none⟩ = some (.int .i64 N) := by rw [← HNE.out]; exact (RB.out.call HB.out).at_ 0
            have HB' := Lib.hid HB.out
            clear HB
            by_cases hlt2 : p < N
            · have hpz : (p : Int) < (N : Int) := by omega
              have hp0 : (0 : Int) ≤ (p : Int) := by omega
              cases pr with
              | false =>
                go_wp2
                go_roundw
                case rel => exact ⟨k + 1, by omega, by go_num, (RB.out.call HB'.out), XB.out.trans ((DB.out.trans (HB'.out.mono DB.out.size)).mono XB.out.size)⟩
                case measure => simp [intOf]; omega
              | true =>
                obtain ⟨htn, hto, hle⟩ := HLE.out rfl
                have hfl := HFL.out
                have hpt : (p : Int) < (t.length : Int) := by omega
                have hpf : (p : Int) < (lf.length : Int) := by omega
                obtain ⟨o, ho⟩ : ∃ o, t[p]? = some o := ⟨t[p]'(by omega), by simp⟩
                obtain ⟨f, hf⟩ : ∃ f, lf[p]? = some f := ⟨lf[p]'(by omega), by simp⟩
                have hof := hle p o f ho hf
                obtain ⟨ho0, ho1⟩ := hto o (List.mem_of_getElem? ho)
                obtain ⟨hf0, hf1⟩ := HLB.out f (List.mem_of_getElem? hf)
                obtain ⟨b1, o1, e1, hb1, p1⟩ := ST.out.cell1 ho
                obtain ⟨b2, o2, e2, hb2, p2⟩ := SF.out.cell1 hf
                have r1 := cell_regrown ((HB'.out.cell (p := ⟨b1, o1 + p, none⟩) hb1).trans p1)
                have r2 := cell_regrown ((HB'.out.cell (p := ⟨b2, o2 + p, none⟩) hb2).trans p2)
                clear ho hf hle hto p1 p2 htn hfl
                go_upto_region 21 with (fail)
                clear c0
                subst e1 e2
                by_cases h0 : 0 ≤ o
                · obtain ⟨hof0, hof1⟩ := hof h0
                  have d1 : decide (0 ≤ o) = true := decide_eq_true h0
                  have d2 : decide (f < 0) = false := decide_eq_false (by omega)
                  have d3 : decide (o < f) = false := decide_eq_false (by omega)
                  refine wp_region_quiet_below (by kernel_rfl) (by kernel_rfl) ?_; (repeat (first | go_big_quiet_step ((rfl)) | quiet_step ((rfl)))); refine wpQuiet_nil ?_; intro wq hwq; have hbq : Below _ _ wq := (by obtain ⟨p, rfl⟩ := hwq; exact below_regrown _ _ _); clear hwq
                  clear r1 r2
                  go_wp2
                  go_roundw
                  case rel => exact ⟨p + 1, by omega, by go_num, HB'.out.trans (hbq.mono HB'.out.size)⟩
                  case measure => simp [intOf]; omega
                · have d1 : decide (0 ≤ o) = false := decide_eq_false h0
                  clear hof
                  refine wp_region_quiet_below (by kernel_rfl) (by kernel_rfl) ?_; (repeat (first | go_big_quiet_step ((fail)) | quiet_step ((fail)))); refine wpQuiet_nil ?_; intro wq hwq; have hbq : Below _ _ wq := (by obtain ⟨p, rfl⟩ := hwq; exact below_regrown _ _ _); clear hwq
                  clear r1 r2
                  go_wp2
                  go_roundw
                  case rel => exact ⟨p + 1, by omega, by go_num, HB'.out.trans (hbq.mono HB'.out.size)⟩
                  case measure => simp [intOf]; omega
            · obtain rfl : p = N := by omega
              go_wp2
              go_roundw
              case rel => exact ⟨k + 1, by omega, by go_num, (RB.out.call HB'.out), XB.out.trans ((DB.out.trans (HB'.out.mono DB.out.size)).mono XB.out.size)⟩
              case measure => simp [intOf]; omega
    · obtain rfl : k = 2 := by omega
      have BB := Lib.hid HB.out.2
      clear HB
      go_wp2_with (go_at_call 16; refine (awake_any _).mono ?_; rintro e v9 ⟨rfl, hb9⟩)
      go_ret
      exact ⟨rfl, BB.out.trans (hb9.mono BB.out.size)⟩
theorem IllEarliest_walk (r : RwM) (o : Sv Int) (s : Sv Nat) (w : World) (h : OpenRow r w) (ho : (o.A = none → o.l.length = 0 ∧ o.c = 0) ∧ o.l.length ≤ maxLen) (hO : Sl w w.heap.size 1 encI o.A o.l) (hs : (∀ x, x ∈ s.l → x < 65536) ∧ s.l.length ≤ maxLen) (hS : Sl w w.heap.size 1 enc16 s.A s.l) :
    Calls Try.prog 8 #[.agg r.cells.toArray, .slice o.A o.l.length o.c, .slice s.A s.l.length s.c] w fun e w' => e = .returned (.bool true) ∧ Below w.heap.size w w' := by
  cases hy : r.d.thin && decide (r.d.fault = 0) with
  | false => exact IllEarliest_unready r _ _ _ _ _ _ w h hy
  | true =>
    have hy2 := hy
    rw [Bool.and_eq_true, decide_eq_true_eq] at hy2
    obtain ⟨hr, ht⟩ := h.thin hy2.1
    by_cases hn : 15 < o.l.length
    · exact IllEarliest_long r _ _ _ _ _ _ w hr hy hn ho.2
    · exact IllEarliest_main r o.A o.c o.l s.A s.c s.l w hr ht h.nsn hO ho.1 (by omega) hS hs.2 hs.1 hy hy2.2
end Go.Proofs.Ytebkhgficochoaa
