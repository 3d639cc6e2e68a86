/- Lists of lists; table, Table. -/
import Derived.Test.YteognijlgalahaaPS
import Derived.WalkSpells
namespace Go.Proofs.Yteognijlgalahaa
open Go.RowKit Go.Lib
attribute [local go_sem] Oper.semAt_some

theorem own_lower {base base' size n : Nat} {e : TypeId} {v : Value} {xs : List Value} {W : World} (h : W.ownsRow base e size v n xs) (hb : base' ≤ base) : W.ownsRow base' e size v n xs := by
  refine ⟨h.1, ?_⟩
  rcases h.2 with hn | ⟨g, cap, cur, e1, h1, r⟩
  · exact .inl hn
  · exact .inr ⟨g, cap, cur, e1, Nat.le_trans hb h1, r⟩
/-- A list of lists: the outer row is one's own, and each of its lists. -/
structure OutM (B : Nat) (out : List (Sv Int)) (A : Option Addr) (c : Nat) (W : World) : Prop where
  o : W.ownsRow B 42 1 (.slice A out.length c) out.length (out.flatMap encV)
  i : ∀ s, s ∈ out → W.ownsRow B 3 1 (.slice s.A s.l.length s.c) s.l.length (s.l.flatMap encI)
theorem OutM.call {B c : Nat} {out : List (Sv Int)} {A : Option Addr} {W W' : World} (h : OutM B out A c W) (hb : Below W.heap.size W W') : OutM B out A c W' := ⟨ownsRow_call h.o hb, fun s hs => ownsRow_call (h.i s hs) hb⟩
theorem OutM.lower {B B' c : Nat} {out : List (Sv Int)} {A : Option Addr} {W : World} (h : OutM B out A c W) (hb : B' ≤ B) : OutM B' out A c W := ⟨own_lower h.o hb, fun s hs => own_lower (h.i s hs) hb⟩
theorem OutM.nil (B : Nat) (W : World) : OutM B [] none 0 W := ⟨World.ownsRow_nil _ _ _ _, fun s hs => by cases hs⟩
theorem info_list : (Try.prog.info? 42).map (fun i => (i.zero, i.size, i.bytes)) = some (some (.slice none 0 0), 1, 24) := by kernel_rfl
theorem encV_len (x : Sv Int) : (encV x).length = 1 := rfl
theorem encV_one (x : Sv Int) : ∀ u ∈ encV x, u.oneCell' = true := by intro u hu; simp [encV, Sv.val] at hu; subst hu; rfl
/-- append of lists to a list of lists of one's own. -/
theorem wpList_app_outs {ops : Array Oper} {rest : List Oper} {o : Oper} {a : Act} {w : World} {Q : Exit → Act → World → Prop} (hgd : o.guard = none) (s x : Operand) (ho : o.op = .call { callee := .builtin .append, args := #[s, x], argTypes := #[40, 40] })
    (base : Nat) (A1 : Option Addr) (c1 : Nat) (out1 : List (Sv Int)) (hs : a.eval s = .slice A1 out1.length c1) (h1 : OutM base out1 A1 c1 w) (A2 : Option Addr) (c2 : Nat) (out2 : List (Sv Int)) (hx : a.eval x = .slice A2 out2.length c2) (h2 : OutM base out2 A2 c2 w) (hl : out1.length + out2.length ≤ 1000000) (hb : base ≤ w.heap.size)
    (h : ∀ A c w', OutM base (out1 ++ out2) A c w' → Below base w w' → w.grownBy w' (Value.slice A1 out1.length c1).ownBlock → wpList Try.prog ops Q rest (a.put o.dst (.slice A (out1 ++ out2).length c)) w') : wpList Try.prog ops Q (o :: rest) a w := by
  obtain ⟨i0, hi, hp⟩ := Option.map_eq_some_iff.1 info_list
  have hz0 := congrArg (·.1) hp
  have hz1 := congrArg (·.2.1) hp
  have hz2 := congrArg (·.2.2) hp
  dsimp only at hz0 hz1 hz2
  obtain ⟨_, _, e2, hA2, s2⟩ := Sl.of_own (enc := encV) encV_len h2.o rfl
  cases e2
  have hln : (out2.flatMap encV).length = out2.length * 1 := flat_len (enc := encV) encV_len _
  have h1c : ∀ u ∈ out2.flatMap encV, u.oneCell' = true := fun u hu => by
    obtain ⟨z, _, hz⟩ := List.mem_flatMap.1 hu
    exact encV_one z u hz
  refine wpList_append_sl hgd s x 40 ho base 42 i0 _ 1 24 Try.underlying40 hi hz0 hz1 hz2 rfl (by decide) _ out1.length _ hs h1.o A2 out2.length c2 (out2.flatMap encV) hx hln hA2 (s2.news (enc := encV) encV_len) h1c (by unfold maxLen; omega) (by omega) hb ?_
  intro v' w' hown' hg _
  have hown : w'.ownsRow base 42 1 v' (out1 ++ out2).length ((out1 ++ out2).flatMap encV) := by rw [List.length_append, List.flatMap_append]; exact hown'
  obtain ⟨A, c, hv, -, -⟩ := Sl.of_own (enc := encV) encV_len hown rfl
  subst hv
  have keep : ∀ s, s ∈ out1 ++ out2 → w'.ownsRow base 3 1 (.slice s.A s.l.length s.c) s.l.length (s.l.flatMap encI) := fun s hs => by
    have h0 : w.ownsRow base 3 1 (.slice s.A s.l.length s.c) s.l.length (s.l.flatMap encI) := by
      rcases List.mem_append.1 hs with hs | hs
      · exact h1.i s hs
      · exact h2.i s hs
    refine own_keep h0 fun j hj => hg.block j (own_at h0 hj).2.1 fun e => ?_
    obtain ⟨_, _, cs, hcs⟩ := own_at h0 hj
    obtain ⟨_, _, cs', hcs'⟩ := own_at h1.o e.symm
    exact lies_ne hcs hcs' (by decide) rfl
  exact h A c w' ⟨hown, keep⟩ ((Below.refl base w).grown hg hb (fun k e => (h1.o.lt k e).1)) hg
section
set_option maxHeartbeats 1000000
theorem clone_own (g o n c : Nat) (l : List Int) (w : World) (hA : Sl w w.heap.size 1 encI (some ⟨g, o, none⟩) l) (hn : n = l.length) (hl : l.length ≤ 1000000) :
    Calls Try.prog 83 #[.slice (some ⟨g, o, none⟩) n c] w fun e w' => ∃ A' c', e = .returned (.slice A' l.length c') ∧ w'.ownsRow w.heap.size 3 1 (.slice A' l.length c') l.length (l.flatMap encI) ∧ Below w.heap.size w w' := by
  subst hn
  obtain ⟨i0, hi, hz0, hz1, hz2⟩ := info_parts info_int
  have hown : (w.alloc (.cells #[] 3)).ownsRow w.heap.size 3 1 (.slice (some ⟨w.heap.size, 0, none⟩) 0 0) 0 [] :=
    ⟨rfl, .inr ⟨w.heap.size, 0, #[], rfl, Nat.le_refl _, heap_alloc_new _ _, Nat.le_refl _, by unfold maxLen; omega, rfl, rfl⟩⟩
  have hb0 : Below w.heap.size w (w.alloc (.cells #[] 3)) := (Below.refl _ _).alloc (Nat.le_refl _) _
  have hnews := (hA.below hb0).news (enc := encI) (fun _ => rfl)
  have HO := Lib.hid hown
  have HN := Lib.hid hnews
  have HA := Lib.hid hA
  have Hz0 := Lib.hid hz0
  have Hz1 := Lib.hid hz1
  have Hz2 := Lib.hid hz2
  have HI := Lib.hid hi
  have HB := Lib.hid hb0
  clear hown hnews hA hz0 hz1 hz2 hi hb0
  have q22 : ∀ (w : World) (a : Option Addr) (n c n' c' : Nat), (binOp .eql 42 (.slice a n c) (.slice none n' c')).run Try.prog w = .ok (.bool a.isNone) w := fun w a n c n' c' => Lib.run_eql_slice_nil w _ _ a n c n' c' Try.underlying42
  go_enter Try.func83, Try.ntmps83
  go_wp2_with (at_builtin; refine wpList_append_own _ ?_ (.tmp 5) (.tmp 6) 42 ?_ w.heap.size 3 i0 (.int .i64 0) 1 8 Try.underlying42 HI.out Hz0.out Hz1.out Hz2.out rfl (by decide) _ 0 [] ?_ HO.out ⟨g, o, none⟩ l.length c (l.map (Value.int .i64)) ?_ (by simp) ?_ (ints_one l) (by unfold maxLen; omega) (by omega) (by simp) ?_; rfl; rfl; rfl; rfl; (intro j v hj; exact HN.out _ rfl j v (by rw [flat_ints]; exact hj)); intro v' w1 hown1 hgrow1 hx)
  obtain ⟨A', c', e1, e2, e3⟩ := Sl.of_own (enc := encI) (l := l) (fun _ => rfl) (by simpa using hown1) (by rw [flat_ints])
  subst e1
  go_ret
  exact ⟨A', c', rfl, by rw [flat_ints]; simpa using hown1, HB.out.grown hgrow1 (by simp) (by simp [Value.ownBlock])⟩
end
/-- The costs of the levels from Low to High on a day. -/
def PoD.levels (p : PoD) : Nat := (p.high + 1 - p.low).toNat
def PoD.rowT (p : PoD) (day : Nat) : List Int := (List.range p.levels).map fun (i : Nat) => p.vals (p.ds.drop day) (p.low + (i : Int))
def PoD.tableD (p : PoD) : List (List Int) := (List.range (p.ds.length + 1)).map p.rowT
theorem PoD.rowT_length (p : PoD) (day : Nat) : (p.rowT day).length = p.levels := by simp [PoD.rowT]
theorem PoD.rowT_at (p : PoD) (day : Nat) {i : Nat} (h : i < p.levels) : (p.rowT day)[i]? = some (p.vals (p.ds.drop day) (p.low + (i : Int))) := by
  unfold PoD.rowT
  rw [List.getElem?_map, List.getElem?_range h]; rfl
/-- What Table hands back. -/
def RetT (ls : List (List Int)) (w : World) (e : Ending) (w' : World) : Prop := ∃ (out : List (Sv Int)) (A : Option Addr) (c : Nat), e = .returned (.slice A out.length c) ∧ out.map Sv.l = ls ∧ OutM w.heap.size out A c w' ∧ Below w.heap.size w w'
theorem out_one {W : World} {g base : Nat} {s : Sv Int} (h : Lies W g 42 #[s.val]) (hb : base ≤ g) (hi : W.ownsRow base 3 1 (.slice s.A s.l.length s.c) s.l.length (s.l.flatMap encI)) : OutM base [s] (some ⟨g, 0, none⟩) 1 W :=
  ⟨⟨rfl, .inr ⟨g, 1, _, rfl, hb, h, Nat.le_refl _, by unfold maxLen; omega, rfl, rfl⟩⟩, fun x hx => by
    obtain rfl : x = s := by simpa using hx
    exact hi⟩
def zc61 : List Value := [.int .i64 0, .int .i64 0, .int .i64 0, .int .i64 0, .int .i64 0, .int .i64 0, .int .i64 0, .int .i64 0, .int .i64 0, .int .i64 0, .int .i64 0, .int .i64 0, .int .i64 0, .int .i64 0, .int .i64 0, .int .i64 0, .int .i64 0, .int .i64 0, .int .i64 0, .int .i64 0, .int .i64 0, .int .i64 0, .int .i64 0, .int .i64 0, .int .i64 0, .int .i64 0, .int .i64 0, .int .i64 0, .int .i64 0, .int .i64 0, .int .i64 0, .int .i64 0, .int .i64 0, .int .i64 0, .int .i64 0, .int .i64 0, .int .i64 0, .int .i64 0, .int .i64 0, .int .i64 0, .int .i64 0, .int .i64 0, .int .i64 0, .int .i64 0, .int .i64 0, .int .i64 0, .int .i64 0, .int .i64 0, .int .i64 0, .int .i64 0, .int .i64 0, .int .i64 0, .int .i64 0, .int .i64 0, .int .i64 0, .int .i64 0, .int .i64 0, .int .i64 0, .int .i64 0, .int .i64 0, .int .i64 0]
theorem size_co : (Try.prog.info? 116).map (·.size) = some 61 := by kernel_rfl
theorem lies_sl {V : World} {g a : Nat} {t : TypeId} {cs : Array Value} {l : List Int} (h : Lies V g t cs) (hl : ∀ (i : Nat) x, l[i]? = some x → cs[a + i]? = some (.int .i64 x)) : Sl V V.heap.size 1 encI (some ⟨g, a, none⟩) l := fun _ =>
  ⟨g, a, rfl, h.in_, fun i x hx j u hu => by
    obtain rfl : j = 0 := by
      have := (List.getElem?_eq_some_iff.1 hu).1
      simp [encI] at this; exact this
    have hu' : u = .int .i64 x := by simpa [encI] using hu.symm
    subst hu'
    rw [Nat.mul_one, Nat.add_zero, h.at_]
    exact hl i x hx⟩
set_option maxRecDepth 100000 in
set_option maxHeartbeats 8000000 in
theorem table_any (p : PoM) (D mb : Nat) (w : World) (hk : KeM p p.T 0 D mb w) (hok : p.d.Ok) : Calls Try.prog 58 #[.agg (keC p D mb).toArray] w (RetT p.d.tableD w) := by
  have hln : p.ds.l.length ≤ 12 := hok.n2
  have hl0 : 0 ≤ p.low := hok.l0
  have hl1 : p.low ≤ p.high := hok.l1
  have hl2 : p.high ≤ 60 := hok.l2
  obtain ⟨a, ha⟩ : ∃ a : Nat, p.low = (a : Int) := ⟨p.low.toNat, by omega⟩
  obtain ⟨b, hb⟩ : ∃ b : Nat, p.high = (b : Int) := ⟨p.high.toNat, by omega⟩
  have hlv : p.d.levels = b + 1 - a := by unfold PoD.levels; show (p.high + 1 - p.low).toNat = _; omega
  obtain ⟨N, hN⟩ : ∃ N, N = p.ds.l.length + 1 := ⟨_, rfl⟩
  have b0 : Below w.heap.size w (w.alloc (.cells (keC p D mb).toArray 89)) := (by repeat (first | (with_reducible assumption) | (with_reducible exact Below.refl _ _) | (with_reducible refine Below.drew ?_) | (with_reducible refine below_drewN ?_ _) | ((with_reducible refine Below.setCell ?_ ?_ _); rotate_left; focus (first | (simp; done) | (simp; omega) | omega)) | ((with_reducible refine Below.alloc ?_ ?_ _); rotate_left; focus (first | (simp; done) | (simp; omega) | omega))))
  have HK := Lib.hid (hk.call b0)
  have HB := Lib.hid b0
  have L0 := Lib.hid (Lies.fresh w 89 (keC p D mb).toArray)
  have HN := Lib.hid hN
  have HLV := Lib.hid hlv
  have HA := Lib.hid ha
  have HBB := Lib.hid hb
  have hab : a ≤ b := by omega
  have hb60 : b ≤ 60 := by omega
  have hNz : N ≤ 13 := by omega
  clear hk hok b0 hN hlv ha hb hl0 hl1 hl2 hln
  go_enter Try.func58, Try.ntmps58
  go_upto_region 1 with (fail)
  change Code.wp _ _ _ _ (w.alloc (.cells (keC p D mb).toArray 89))
  generalize w.alloc (.cells (keC p D mb).toArray 89) = w1 at *
  have c7 : w1.cell? ⟨w.heap.size, 7, none⟩ = some (.slice (some ⟨D, 0, none⟩) N N) := by rw [HN.out]; exact L0.out.at_ 7
  go_wp2
  go_loopw [3, 5, 9] (fun s3 _ s9 wr => ∃ (k : Nat) (out : List (Sv Int)) (A : Option Addr) (c : Nat), k ≤ N ∧ out.length = k ∧ s3 = .slice A out.length c ∧ s9 = .int .i64 k ∧ Aside (out.map Sv.l = (List.range k).map p.d.rowT) ∧ Aside (OutM w1.heap.size out A c wr) ∧ Aside (Below w1.heap.size w1 wr)) (fun _ _ i _ => N - (intOf i).toNat)
  case atStart => exact ⟨0, [], none, 0, by omega, rfl, rfl, rfl, rfl, OutM.nil _ _, Below.refl _ _⟩
  case round =>
    obtain ⟨k, out, A, c, hkN, hol, rfl, rfl, HO, HM, HBW⟩ := hrel
    by_cases hlt : k < N
    · have hltz : (k : Int) < (N : Int) := by omega
      have hk0 : (0 : Int) ≤ (k : Int) := by omega
      have hke := HK.out.call HBW.out
      obtain ⟨cs, hcs, hcz, hci, hct⟩ := hke.c.l
      have hNn := HN.out
      have hvl : ((cs.toList.drop (k * 61)).take 61).length = 61 := by rw [List.length_take, List.length_drop, Array.length_toList]; omega
      have hva : ∀ j, j < 61 → ((cs.toList.drop (k * 61)).take 61)[j]? = cs[k * 61 + j]? := fun j hj => by
        rw [List.getElem?_take, if_pos hj, List.getElem?_drop, Array.getElem?_toList]
      have hrg : wr.rangeAt D (k * 61) ((cs.toList.drop (k * 61)).take 61) := fun j v hj => by
        have h61 : j < 61 := by have := (List.getElem?_eq_some_iff.1 hj).1; omega
        rw [hva j h61] at hj
        rw [hcs.at_]; exact hj
      have hone : ∀ v ∈ (cs.toList.drop (k * 61)).take 61, v.oneCell' = true := fun v hv => by
        have h1 := List.mem_of_mem_drop (List.mem_of_mem_take hv)
        obtain ⟨i, hi⟩ := List.getElem?_of_mem h1
        rw [Array.getElem?_toList] at hi
        obtain ⟨x, hx⟩ := hci i (Array.getElem?_eq_some_iff.1 hi).1
        rw [hx] at hi; cases hi; rfl
      have hrow : ∀ (i : Nat) x, (p.d.rowT k)[i]? = some x → ((cs.toList.drop (k * 61)).take 61)[a + i]? = some (.int .i64 x) := fun i x hx => by
        have hi : i < p.d.levels := by have := (List.getElem?_eq_some_iff.1 hx).1; rw [PoD.rowT_length] at this; exact this
        rw [PoD.rowT_at _ _ hi] at hx
        obtain rfl := Option.some.inj hx
        have h1 := HLV.out
        rw [hva _ (by omega)]
        have h2 := hct k (Nat.zero_le _) (by omega) (a + i) (by have := HA.out; omega) (by have := HBB.out; omega)
        rw [← Nat.add_assoc] at h2 ⊢
        rw [h2]
        have e2 : ((a + i : Nat) : Int) = p.low + (i : Int) := by have := HA.out; omega
        rw [e2]; rfl
      obtain ⟨vs, hvs⟩ : ∃ vs, vs = (cs.toList.drop (k * 61)).take 61 := ⟨_, rfl⟩
      rw [← hvs] at hvl hrg hone hrow
      have HVL := Lib.hid hvl
      have HOL := Lib.hid hol
      have HRG := Lib.hid hrg
      have HONE := Lib.hid hone
      have HROW := Lib.hid hrow
      have HCI := Lib.hid (show (Try.prog.info? 116).map (·.size) = some vs.length by rw [hvl]; exact size_co)
      have hsz1 := HBW.out.size
      clear hke hcs hcz hci hct hva hvs hvl hrg hone hrow hNn hol
      have K12 := Lib.hid True.intro
      go_upto_region 5 with (first
        | (have h := K12; clear h; refine wpList_load_mid (op := ⟨some 12, _, _, _, _, _⟩) ?_ 116 (.tmp 11) ?_ D (k * 61) ?_ vs _ HRG.out Try.underlying116 rfl HCI.out ?_; rfl; rfl; rfl; have Z := Lib.hid (Lies.fresh wr 116 zc61.toArray); have KST := Lib.hid True.intro; clear K12)
        | (have h := KST; clear h; refine wpList_store_cells (o := ⟨none, .store 116 (.tmp 5) _, _, _, _, _⟩) ?_ 116 (.tmp 5) (.tmp 12) ?_ wr.heap.size 0 ?_ 116 zc61 vs ?_ Z.out (by rw [HVL.out]; decide) HCI.out HONE.out ?_; rfl; rfl; rfl; rfl; intro w4 HS4 HO4; clear KST))
      have hs4 := HS4.out
      rw [splice_whole (by rw [HVL.out]; rfl)] at hs4
      have hbr := Lib.hid (show Below wr.heap.size wr w4 from HO4.out.below ((Below.refl _ _).alloc (Nat.le_refl _) _) (Nat.le_refl _))
      have B4 := Lib.hid (HBW.out.trans (hbr.out.mono HBW.out.size))
      have c16 : w4.cell? ⟨w.heap.size, 0, none⟩ = some (.int .i64 a) := by rw [← HA.out]; exact (L0.out.call B4.out).at_ 0
      have c19 : w4.cell? ⟨w.heap.size, 1, none⟩ = some (.int .i64 b) := by rw [← HBB.out]; exact (L0.out.call B4.out).at_ 1
      have hcl := clone_own wr.heap.size a (b + 1 - a) (61 - a) (p.d.rowT k) w4 (lies_sl hs4 (fun i x hx => by rw [List.getElem?_toArray]; exact HROW.out i x hx)) (by rw [PoD.rowT_length, HLV.out]) (by rw [PoD.rowT_length, HLV.out]; omega)
      have hrl : (p.d.rowT k).length = b + 1 - a := by rw [PoD.rowT_length, HLV.out]
      have HCL := Lib.hid hcl
      have HRL := Lib.hid hrl
      have haz : (0 : Int) ≤ (a : Int) := by omega
      have habz : (a : Int) ≤ (b : Int) + 1 := by omega
      have hbz : (b : Int) + 1 ≤ 61 := by omega
      have hab1 : a ≤ b + 1 := by omega
      have ha61 : a ≤ 61 := by omega
      have H4 := Lib.hid (HM.out.call hbr.out)
      clear hs4 HS4 HO4 hcl hrl hbr HM
      generalize wr.heap.size = g5 at *
      have K22 := Lib.hid True.intro
      go_wp2_with (first
        | (have h := K22; clear h; go_at_call 83; refine (HCL.out).mono ?_; rintro e w5 ⟨A5, c5, rfl, ho5, hb5⟩; have O5 := Lib.hid ho5; have B5 := Lib.hid (B4.out.trans (hb5.mono B4.out.size)); have hlb : w1.heap.size ≤ w4.heap.size := B4.out.size; have H5 := Lib.hid (H4.out.call hb5); have F5 := Lib.hid (Lies.fresh w5 42 #[(⟨A5, p.d.rowT k, c5⟩ : Sv Int).val]); have bf5 := Lib.hid ((Below.refl w5.heap.size w5).alloc (Nat.le_refl _) (.cells #[(⟨A5, p.d.rowT k, c5⟩ : Sv Int).val] 42)); clear ho5 hb5; have K24 := Lib.hid True.intro; clear K22)
        | (have h := K24; clear h; refine wpList_app_outs (o := ⟨some 24, _, _, _, _, _⟩) ?_ (.tmp 13) (.tmp 23) ?_ w1.heap.size A c out ?_ (H5.out.call bf5.out) (some ⟨w5.heap.size, 0, none⟩) 1 [⟨A5, p.d.rowT k, c5⟩] ?_ (out_one F5.out B5.out.size (own_lower (ownsRow_call O5.out bf5.out) hlb)) (by have := HOL.out; simp; omega) (by have := B5.out.size; simp; omega) ?_; rfl; rfl; rfl; rfl; intro A6 c6 w6 hm6 hb6 hg6; clear K24))
      go_roundw
      case rel =>
        have hl7 : w1.heap.size ≤ w5.heap.size := B5.out.size
        refine ⟨k + 1, out ++ [(⟨A5, p.d.rowT k, c5⟩ : Sv Int)], A6, c6, by omega, by simp [HOL.out], by simp, by go_num, ?_, hm6, (B5.out.alloc B5.out.size _).trans hb6⟩
        show _ = _
        rw [List.map_append, List.range_succ, List.map_append, HO.out]; rfl
      case measure => simp [intOf]; omega
    · obtain rfl : k = N := by omega
      have hfin : out.map Sv.l = p.d.tableD := by
        rw [HO.out]
        unfold PoD.tableD
        have := HN.out
        show _ = (List.range (p.ds.l.length + 1)).map _
        rw [← this]
      have HF := Lib.hid hfin
      have HMM := Lib.hid HM.out
      have HWW := Lib.hid HBW.out
      clear hfin HO HM HBW
      go_wp2
      go_ret
      exact ⟨out, A, c, rfl, HF.out, HMM.out.lower HB.out.size, HB.out.trans (HWW.out.mono HB.out.size)⟩
/-- What Table tells. -/
def PoD.tabR (p : PoD) : List (List Int) × Int := if p.fault ≠ 0 then ([], p.fault) else (p.tableD, 0)
def TabE (x : List (List Int) × Int) (w : World) (e : Ending) (w' : World) : Prop := ∃ (out : List (Sv Int)) (A : Option Addr) (c : Nat), e = .returned (.tuple #[.slice A out.length c, .int .i64 x.2]) ∧ out.map Sv.l = x.1 ∧ OutM w.heap.size out A c w' ∧ Below w.heap.size w w'
set_option maxRecDepth 100000 in
set_option maxHeartbeats 4000000 in
theorem Table_any (p : PoM) (w : World) (hp : p.At w w.heap.size) : Calls Try.prog 33 #[.agg p.cells.toArray] w (TabE p.d.tabR w) := by
  have l0 : Lies (w.alloc (.cells p.cells.toArray 34)) w.heap.size 34 p.cells.toArray := Lies.fresh _ _ _
  have b0 : Below w.heap.size w (w.alloc (.cells p.cells.toArray 34)) := (by repeat (first | (with_reducible assumption) | (with_reducible exact Below.refl _ _) | (with_reducible refine Below.drew ?_) | (with_reducible refine below_drewN ?_ _) | ((with_reducible refine Below.setCell ?_ ?_ _); rotate_left; focus (first | (simp; done) | (simp; omega) | omega)) | ((with_reducible refine Below.alloc ?_ ?_ _); rotate_left; focus (first | (simp; done) | (simp; omega) | omega))))
  have hv := CheckPolder_any p (w.alloc (.cells p.cells.toArray 34)) (hp.below b0 b0.size)
  have hke : ∀ W, p.d.fault = 0 → Below w.heap.size w W → Calls Try.prog 48 #[.agg p.cells.toArray] W fun e w' => ∃ D mb, e = .returned (.agg (keC p D mb).toArray) ∧ KeM p p.T 0 D mb w' ∧ Below W.heap.size W w' := fun W h hb => (keep_any p W (PoD.fault_iff.1 h) (hp.below hb hb.size)).mono (by rintro e w' ⟨D, mb, h1, h2, h3, h4, h5⟩; exact ⟨D, mb, h1, h2, h5⟩)
  have hco : p.d.fault = 0 → ∀ D mb W, KeM p p.T 0 D mb W → Calls Try.prog 58 #[.agg (keC p D mb).toArray] W (RetT p.d.tableD W) := fun h D mb W hk => table_any p D mb W hk (PoD.fault_iff.1 h)
  have hf : p.d.tabR = if p.d.fault ≠ 0 then ([], p.d.fault) else (p.d.tableD, 0) := rfl
  have HV := Lib.hid hv
  have HF := Lib.hid hf
  have HK := Lib.hid hke
  have HC := Lib.hid hco
  have L0 := Lib.hid l0
  have B0 := Lib.hid b0
  clear hv hf l0 b0 hp hke hco
  generalize p.d.tabR = rr at *
  generalize p.d.tableD = tt at *
  generalize p.d.fault = ff at *
  go_enter Try.func33, Try.ntmps33
  go_upto_region 2 with (first
    | (refine wpList_load_row (o := ⟨some 5, _, _, _, _, _⟩) ?_ 34 (.tmp 1) ?_ w.heap.size ?_ 34 p.cells.toArray (0, 0) _ L0.out Try.underlying34 rfl size_po ?_; rfl; rfl; rfl)
    | (go_at_call 17; refine HV.out.mono ?_; rintro e w2 ⟨rfl, hb2⟩))
  have B2 := Lib.hid (B0.out.trans (hb2.mono B0.out.size))
  have L2 := Lib.hid (L0.out.call hb2)
  clear hb2 HV L0 B0
  by_cases h0 : ff = 0
  · subst h0
    have HKK := Lib.hid (HK.out w2 rfl B2.out)
    have HCC := Lib.hid (HC.out rfl)
    rw [if_neg (by simp)] at HF
    clear HK HC
    go_wp2_with (first
      | (have h := HKK; clear h; refine wpList_load_row (o := ⟨some 10, _, _, _, _, _⟩) ?_ 34 (.tmp 1) ?_ w.heap.size ?_ 34 p.cells.toArray (0, 0) _ L2.out Try.underlying34 rfl size_po ?_; rfl; rfl; rfl)
      | (go_at_call 48; refine HKK.out.mono ?_; rintro e w3 ⟨D, mb, rfl, hk3, hb3⟩; have K3 := Lib.hid hk3; clear hk3 HKK)
      | (go_at_call 58; refine (HCC.out D mb _ K3.out).mono ?_; rintro e w4 ⟨out, A, c, rfl, hm4, ho4, hb4⟩))
    have hb23 := B2.out.trans (hb3.mono B2.out.size)
    go_ret2
    rw [HF.out]
    exact ⟨out, A, c, rfl, hm4, ho4.lower hb23.size, hb23.trans (hb4.mono hb23.size)⟩
  · have hne : ((ff : Int) == 0) = false := by simpa using h0
    have hne2 : ((ff : Int) != 0) = true := by simpa using h0
    rw [if_pos h0] at HF
    clear h0 HK HC
    go_wp2
    go_ret2
    rw [HF.out]
    exact ⟨[], none, 0, rfl, rfl, OutM.nil _ _, B2.out⟩
end Go.Proofs.Yteognijlgalahaa
