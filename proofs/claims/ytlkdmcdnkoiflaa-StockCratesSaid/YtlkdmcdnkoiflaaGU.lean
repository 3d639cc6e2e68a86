/- The texts BP BQ BR BS BT BU BV BW BX, joined. -/
import Derived.Test.YtlkdmcdnkoiflaaGS
import Derived.Test.YtlkdmcdnkoiflaaGT
import Derived.Test.YtlkdmcdnkoiflaaGI
import Derived.Test.YtlkdmcdnkoiflaaGF
/- slices.Backward over crates: the iterator; purchases' closure. -/
namespace Go.Proofs.Ytlkdmcdnkoiflaa
open Go.RowKit Go.Lib
attribute [local go_sem] Oper.semAt_some

theorem Backward_any (A : Option Addr) (n c : Nat) (w : World) :
    Calls Try.prog 128 #[.slice A n c] w fun e w' => e = .returned (.func (.func 129) #[] #[.pointer (some ⟨w.heap.size, 0, none⟩)]) ∧ w.alloc (.cells #[.slice A n c] 76) = w' := by
  go_enter Try.func128, Try.ntmps128
  go_wp2
  go_ret
  exact ⟨rfl, rfl⟩
theorem purchases_any (A : Option Addr) (n c : Nat) (w : World) :
    Calls Try.prog 114 #[.slice A n c] w fun e w' => e = .returned (.func (.func 126) #[] #[.pointer (some ⟨w.heap.size, 0, none⟩)]) ∧ w.alloc (.cells #[.slice A n c] 76) = w' := by
  go_enter Try.func114, Try.ntmps114
  go_wp2
  go_ret
  exact ⟨rfl, rfl⟩
def encBk (x : Nat × Cr) : Array Value := #[.int .i64 x.1, .agg (encCr x.2).toArray]
set_option maxRecDepth 100000 in
set_option maxHeartbeats 4000000 in
theorem Backward1_gives (n : Nat) (hn : 1 ≤ n) (A : Option Addr) (c gb : Nat) (l : List Cr) (w : World) (hl : l.length ≤ 1000000) (St : World → Prop) (hSt : ∀ W, St W → Lies W gb 76 #[.slice A l.length c] ∧ Sl W W.heap.size 4 encCr A l) :
    GivesB n Try.prog 129 #[.pointer (some ⟨gb, 0, none⟩)] (fun _ => encBk) (backL l) w (fun _ _ _ => True) St := by
  intro l' J Jx W hbW hJS hJ hY h0
  have HPT := Lib.hid (fun k A (h : J k A) => hSt A (hJS k A h))
  have HY := Lib.hid hY
  have HJ := Lib.hid hJ
  have H0 := Lib.hid h0
  have c0 : W.cell? ⟨gb, 0, none⟩ = some (.slice A l.length c) := (HPT.out _ _ H0.out).1.at_ 0
  have hlz : (l.length : Int) ≤ 1000000 := by omega
  clear hJS hY hJ h0 hSt hbW
  refine callsIn_of_wp Try.func129 rfl trivial ?_ rfl
  refine wpIn_wide.2 ?_
  simp only [Try.ntmps129, List.size_toArray, List.length_cons, List.length_nil, Nat.reduceAdd, Nat.reduceSub, Array.replicate_succ, Array.replicate_zero, List.push_toArray, List.append_toArray, List.nil_append, List.cons_append]
  go_wp2
  clear c0
  go_loopw [3] (fun s3 wr => ∃ (k j : Nat), k + j = l.length ∧ s3 = .int .i64 ((j : Int) - 1) ∧ Aside (J k wr)) (fun i _ => (intOf i + 1).toNat)
  case atStart => exact ⟨0, l.length, by omega, rfl, H0.out⟩
  case round =>
    obtain ⟨k, j, hkj, rfl, N⟩ := hrel
    have c0 : wr.cell? ⟨gb, 0, none⟩ = some (.slice A l.length c) := (HPT.out _ _ N.out).1.at_ 0
    cases j with
    | zero =>
      simp only [Int.natCast_zero, Int.zero_sub]
      go_wp2
      go_end0
      exact ⟨⟨_, rfl⟩, .inl (by rw [backL_length, ← hkj]; exact N.out)⟩
    | succ j =>
      have e : ((j + 1 : Nat) : Int) - 1 = (j : Int) := by omega
      rw [e]
      have hltz : (j : Int) < (l.length : Int) := by omega
      have hj0 : (0 : Int) ≤ (j : Int) := by omega
      obtain ⟨x, hx⟩ : ∃ x, l[j]? = some x := ⟨l[j]'(by omega), by simp⟩
      obtain ⟨b, off, rfl, hb, c0', c1, c2, c3⟩ := (HPT.out _ _ N.out).2.cellCr hx
      have hat : (backL l)[k]? = some (j, x) := by
        have e1 : l.length - 1 - k = j := by omega
        have := backL_at (l := l) (k := k) (by omega) (x := x) (by rw [e1]; exact hx)
        rwa [e1] at this
      have HE := Lib.hid hat
      have HX := Lib.hid hx
      have HKJ := Lib.hid hkj
      clear hat hx e hkj hb
      obtain ⟨fn, tmps, assign, body, hy, hR⟩ := HY.out k (j, x) wr HE.out N.out trivial
      dsimp only [encBk, encCr] at hy
      have hn1 : 1 ≤ n := hn
      refine (wpIn_wide (n := n)).1 ?_
      gi_wp2_with (fail)
      refine hR.mono ?_
      clear hR hy
      rintro e W5 (⟨rfl, hJ5, -⟩ | ⟨rfl, hx5⟩)
      · gi_wp2_with (fail)
        go_wp2_with (fail)
        go_roundw
        case rel => exact ⟨k + 1, j, by have := HKJ.out; omega, by go_num, hJ5⟩
        case measure => simp [intOf]
      · gi_wp2_with (fail)
        go_wp2
        refine bodyPost_ret (results_none rfl _ _ _) rfl ?_
        exact ⟨⟨_, rfl⟩, .inr ⟨k + 1, by rw [backL_length]; have := HKJ.out; omega, hx5⟩⟩
end Go.Proofs.Ytlkdmcdnkoiflaa

/- goOn: the next purchase. -/
namespace Go.Proofs.Ytlkdmcdnkoiflaa
open Go.RowKit Go.Lib
attribute [local go_sem] Oper.semAt_some

theorem run_loadVar_one {P : Program} (w : World) (ty : TypeId) (a : Addr) (v : Value) (d : TypeDesc) (hc : w.cell? a = some v) (hu : P.underlying ty = some d) (hd : d.isRow = false) : (loadVar ty a).run P w = .ok v w := by
  have hagg : (isAgg ty).run P w = .ok false w := by
    unfold isAgg
    rw [Sem.run_bind, run_underlying hu w]
    cases d <;> simp_all
  simp [loadVar, Sem.run_bind, hagg, hc]
theorem results_cell_one {P : Program} {fn : Func} {p : Tmp} {ty : TypeId} (h : fn.results = #[.cell p ty]) (tmps : Array Value) (w : World) (a : Addr) (v : Value) (d : TypeDesc)
    (hp : tmps.getD p undef = .pointer (some a)) (hc : w.cell? a = some v) (hu : P.underlying ty = some d) (hd : d.isRow = false) :
    (results fn tmps).run P w = .ok v w := by
  have hp' : tmps[p]?.getD undef = .pointer (some a) := by simpa using hp
  simp [results, h, hp', asAddr, run_loadVar_one w ty a v d hc hu hd]
theorem StepB.new {b b' : Nat} {w A A' : World} (h : StepB b w A) (h' : StepB b' A A') (hb : w.heap.size ≤ b') : StepB b w A' :=
  ⟨h'.os.trans h.os, h'.tape.trans h.tape, h'.output.trans h.output, Nat.le_trans h.size h'.size, fun k hk hkb => (h'.block k (Nat.lt_of_lt_of_le hk h.size) (fun e => by cases e; omega)).trans (h.block k hk hkb)⟩
theorem StepB.recs {b D : Nat} {w A A' : World} (h : StepB b w A) (h' : Recs D A A') (hb : w.heap.size ≤ D) : StepB b w A' := by
  obtain ⟨row, hg, hr⟩ := h'
  exact ⟨hg.os.trans h.os, hg.tape.trans h.tape, hg.output.trans h.output, Nat.le_trans h.size hg.size, fun k hk hkb => (hg.block k (Nat.lt_of_lt_of_le hk h.size) (fun e => by have := (hr k e.symm).1; omega)).trans (h.block k hk hkb)⟩
theorem StepB.refl (b : Nat) (w : World) : StepB b w w := .of_below (Below.refl _ _)
/-- goOn between two rounds: k kinds from behind are at their most. -/
structure GoM (A : Option Addr) (c pb : Nat) (l : List Cr) (ms : List Nat) (q : List Int) (w : World) (k : Nat) (W : World) : Prop where
  p : Lies W pb 3 (vals (zeroB q (q.length - k)))
  s : Lies W w.heap.size 23 #[.slice (some ⟨pb, 0, none⟩) q.length q.length]
  r : Lies W (w.heap.size + 1) 4 #[.bool false]
  g : Lies W (w.heap.size + 1 + 1) 76 #[.slice A l.length c]
  st : StepB pb w W
  sz : w.heap.size + 3 ≤ W.heap.size
  no : nextD (ms.drop (q.length - k)) (q.drop (q.length - k)) = none
/-- goOn left early. -/
structure GoX (pb : Nat) (ms : List Nat) (q : List Int) (w : World) (c : Code) (W : World) : Prop where
  c : c = .ret
  p : Lies W pb 3 (vals (goQ ms q))
  r : Lies W (w.heap.size + 1) 4 #[.bool true]
  st : StepB pb w W
  yes : (nextD ms q).isSome = true
/-- What goOn hands back. -/
def GoR (pb : Nat) (ms : List Nat) (q : List Int) (w : World) (e : Ending) (w' : World) : Prop := e = .returned (.bool (nextD ms q).isSome) ∧ Lies w' pb 3 (vals (goQ ms q)) ∧ StepB pb w w'
theorem mosts_at {l : List Cr} {j : Nat} {x : Cr} (hx : l[j]? = some x) : (l.map fun c : Cr => c.most.toNat)[j]? = some x.most.toNat := by rw [List.getElem?_map, hx]; rfl
theorem zeroB_nil (q : List Int) : zeroB q 0 = q.map fun _ => 0 := by simp [zeroB, List.map_const']

theorem GoM.call {A : Option Addr} {c pb : Nat} {l : List Cr} {ms : List Nat} {q : List Int} {w : World} {k : Nat} {V V' : World} (h : GoM A c pb l ms q w k V) (hb : Below V.heap.size V V') : GoM A c pb l ms q w k V' :=
  ⟨h.p.call hb, h.s.call hb, h.r.call hb, h.g.call hb, h.st.below' hb, Nat.le_trans h.sz hb.size, h.no⟩
theorem sizeCr : (Try.prog.info? 93).map (·.size) = some 4 := by kernel_rfl
theorem wrap_small {x : Int} (h : 0 ≤ x) (h' : x ≤ 1000000000) : IntKind.i64.wrap x = x := by
  refine IntWalk.i64_in ?_ ?_ <;> omega
set_option maxRecDepth 100000 in
set_option maxHeartbeats 4000000 in
theorem goOn_any (A : Option Addr) (c pb : Nat) (l : List Cr) (q : List Int) (w : World) (hA : Sl w pb 4 encCr A l) (hP : Lies w pb 3 (vals q)) (hq : q.length = l.length) (hl : l.length ≤ 4)
    (hb : ∀ (i : Nat) (x : Cr) (m : Int), l[i]? = some x → q[i]? = some m → 0 ≤ x.most ∧ 0 ≤ m ∧ m ≤ 9) :
    Calls Try.prog 127 #[.slice (some ⟨pb, 0, none⟩) q.length q.length, .slice A l.length c] w (GoR pb (l.map fun c : Cr => c.most.toNat) q w) := by
  obtain ⟨ms, hms⟩ : ∃ ms, ms = l.map fun c : Cr => c.most.toNat := ⟨_, rfl⟩
  rw [← hms]
  have hml : ms.length = q.length := by rw [hms, List.length_map, hq]
  have hmm : ∀ (j : Nat) (x : Cr), l[j]? = some x → ms[j]? = some x.most.toNat := fun j x hx => by rw [hms]; exact mosts_at hx
  have hpw : pb < w.heap.size := hP.in_
  have HA := Lib.hid hA
  have HP := Lib.hid hP
  have HB := Lib.hid hb
  have HQ := Lib.hid hq
  have HML := Lib.hid hml
  have HMM := Lib.hid hmm
  have hlz : (l.length : Int) ≤ 4 := by omega
  have hqz : (q.length : Int) ≤ 4 := by omega
  clear hms hA hP hb hq hml hmm
  refine calls_of_wp_marks 5 Try.func127 rfl ?_
  simp only [Try.ntmps127, List.size_toArray, List.length_cons, List.length_nil, Nat.reduceAdd, Nat.reduceSub, Array.replicate_succ, Array.replicate_zero, List.push_toArray, List.append_toArray, List.nil_append, List.cons_append]
  go_wp2_with (go_at_call 128; refine (Backward_any _ _ _ _).mono ?_; rintro e w' ⟨rfl, rfl⟩)
  have hW : ∃ W, ((w.alloc (.cells #[.slice (some ⟨pb, 0, none⟩) q.length q.length] 23)).alloc (.cells #[.bool false] 4)).alloc (.cells #[.slice A l.length c] 76) = W ∧ GoM A c pb l ms q w 0 W ∧ W.heap.size = w.heap.size + 3 := by
    have hbw : Below w.heap.size w (((w.alloc (.cells #[.slice (some ⟨pb, 0, none⟩) q.length q.length] 23)).alloc (.cells #[.bool false] 4)).alloc (.cells #[.slice A l.length c] 76)) := (by repeat (first | (with_reducible assumption) | (with_reducible exact Below.refl _ _) | (with_reducible refine Below.drew ?_) | (with_reducible refine below_drewN ?_ _) | ((with_reducible refine Below.setCell ?_ ?_ _); rotate_left; focus (first | (simp; done) | (simp; omega) | omega)) | ((with_reducible refine Below.alloc ?_ ?_ _); rotate_left; focus (first | (simp; done) | (simp; omega) | omega))))
    refine ⟨_, rfl, ⟨?_, ((Lies.fresh _ _ _).alloc _).alloc _, (Lies.fresh' (by simp)).alloc _, Lies.fresh' (by simp), .of_below hbw, by simp, ?_⟩, by simp⟩
    · rw [Nat.sub_zero, zeroB_full]; exact HP.out.call hbw
    · rw [Nat.sub_zero, ← HML.out, List.drop_length]; simp [nextD]
  obtain ⟨W, hWe, hI, hz⟩ := hW
  rw [hWe]
  have hgv := Backward1_gives 4 (by omega) A c (w.heap.size + 1 + 1) l W (by omega) (fun V => Lies V (w.heap.size + 1 + 1) 76 #[.slice A l.length c] ∧ Sl V V.heap.size 4 encCr A l) (fun V h => h)
  have HI := Lib.hid hI
  clear hWe hI
  refine range_givesB (n := 5) (gf := 129) rfl (enters_of Try.func129 (by kernel_rfl) rfl) hgv (Below.refl _ _) (fun _ _ => rfl) (fun _ _ _ _ h _ => h)
    (GoM A c pb l ms q w) (fun c _ V => GoX pb ms q w c V) ?hI ?hIs ?hIx HI.out ?hSt
    (fun x a' V => ∃ gx, w.heap.size + 3 ≤ gx ∧ Lies V gx 93 (encCr x.2).toArray ∧ a' = { tmps := #[.slice (some ⟨pb, 0, none⟩) q.length q.length, .slice A l.length c, .pointer (some ⟨w.heap.size, 0, none⟩), undef, .pointer (some ⟨w.heap.size + 1, 0, none⟩), .int .i64 x.1, .pointer (some ⟨gx, 0, none⟩), .slice A l.length c, .func (.func 129) #[] #[.pointer (some ⟨w.heap.size + 1 + 1, 0, none⟩)], .int .i64 x.1, .agg (encCr x.2).toArray, undef, undef, undef, undef, undef, undef, undef, undef, undef, undef, undef, undef, undef, undef, undef, undef], defers := [] }) ?hAx ?assign ?body ?done ?stop
  case hI =>
    intro k V V' h ht
    exact ⟨ht.lies h.p, ht.lies h.s, ht.lies h.r, ht.lies h.g, h.st.recs ht (by omega), Nat.le_trans h.sz ht.size, h.no⟩
  case hIs =>
    intro k V V' h ht
    exact ⟨ht.lies h.p (by omega), ht.lies h.s (by omega), ht.lies h.r (by omega), ht.lies h.g (by omega), h.st.new ht (by omega), Nat.le_trans h.sz ht.size, h.no⟩
  case hIx =>
    intro c k V V' h ht
    exact ⟨h.c, ht.lies h.p, ht.lies h.r, h.st.recs ht (by omega), h.yes⟩
  case hSt =>
    intro k V h
    exact ⟨h.g, (HA.out.below (h.st.below (Below.refl _ _) (Nat.le_refl _) (by omega))).more (by have := h.sz; omega)⟩
  case hAx =>
    rintro x a' V V' ⟨gx, h1, h2, h3⟩ ht
    exact ⟨gx, h1, ht.lies h2, h3⟩
  case stop =>
    intro D c k V hD hk hi hd
    obtain rfl := hi.c
    refine wpIn_ret ?_
    have hlt := (Array.getElem?_eq_some_iff.1 hd).1
    have hO : ∀ g t cs, Lies V g t cs → Lies (V.putObj D (.deferred none)) g t cs := fun g t cs h => Recs.lies (Recs.put (D := D) _ (Nat.le_refl _) hd rfl) h
    refine leave_mark hd ⟨_, results_cell_one (v := .bool true) (a := ⟨w.heap.size + 1, 0, none⟩) rfl _ _ _ rfl ((hO _ _ _ hi.r).at_ 0) Try.underlying4 rfl, ?_, hO _ _ _ hi.p, hi.st.recs (Recs.put _ (Nat.le_refl D) hd rfl) (by omega)⟩
    rw [hi.yes]
  case assign =>
    intro l' k x V K hx hi _ hK
    have HIN := Lib.hid hi
    have hfit : 0 + [x.2.size, x.2.bulbs, x.2.price, x.2.most].length ≤ ([0, 0, 0, 0] : List Int).length ∧ (Try.prog.info? 93).map (·.size) = some [x.2.size, x.2.bulbs, x.2.price, x.2.most].length := ⟨by simp, sizeCr⟩
    have HFIT := Lib.hid hfit
    clear hgv hfit hx hi
    simp only [encBk, encCr]
    gi_wp2_with (refine wpListIn_store_ints (o := ⟨none, .store 93 (.tmp 6) _, _, _, _, _⟩) ?_ 93 (.tmp 6) (.tmp 10) ?_ V.heap.size 0 ?_ 93 [0, 0, 0, 0] [x.2.size, x.2.bulbs, x.2.price, x.2.most] ?_ (Lies.fresh V 93 (vals [0, 0, 0, 0])) HFIT.out.1 HFIT.out.2 ?_; rfl; rfl; rfl; rfl; intro w5 HS5 HO5; (try simp only [Act.put]))
    have hl5 : Lies w5 V.heap.size 93 (encCr x.2).toArray := by
      have := HS5.out
      rw [splice_all (by rfl)] at this
      exact this
    have hb5 : Below V.heap.size V w5 := HO5.out.below ((Below.refl _ _).alloc (Nat.le_refl _) _) (Nat.le_refl _)
    exact hK _ _ (KeepsFrom.of_below hb5) (HIN.out.call hb5) trivial ⟨V.heap.size, HIN.out.sz, hl5, rfl⟩
  case body =>
    rintro l' k x a' V hl' hx hi _ ⟨gx, hgx, hlx, rfl⟩
    have hkl : k < l.length := by
      have := (List.getElem?_eq_some_iff.1 hx).1
      rwa [backL_length] at this
    obtain ⟨j, hj⟩ : ∃ j, j + k + 1 = l.length := ⟨l.length - 1 - k, by omega⟩
    obtain ⟨y, hy⟩ : ∃ y, l[j]? = some y := ⟨l[j]'(by omega), by simp⟩
    obtain ⟨m, hm⟩ : ∃ m, q[j]? = some m := ⟨q[j]'(by rw [HQ.out]; omega), by simp⟩
    obtain rfl : (j, y) = x := by
      have e1 : l.length - 1 - k = j := by omega
      have := backL_at hkl (x := y) (by rw [e1]; exact hy)
      rw [e1, hx] at this
      exact (Option.some.inj this).symm
    have ek : q.length - k = j + 1 := by rw [HQ.out]; omega
    have ek' : q.length - (k + 1) = j := by rw [HQ.out]; omega
    have hbd := HB.out j y m hy hm
    have hp := hi.p
    rw [ek] at hp
    have hno := hi.no
    rw [ek] at hno
    have hms := HMM.out j y hy
    have hjz : (j : Int) < (q.length : Int) := by rw [HQ.out]; omega
    have hj0 : (0 : Int) ≤ (j : Int) := by omega
    have hw1 : IntKind.i64.wrap (m + 1) = m + 1 := wrap_small (by omega) (by omega)
    have cj : V.cell? ⟨pb, j, none⟩ = some (.int .i64 m) := by
      rw [hp.at_]
      simp [vals, zeroB_at hm]
    have c2 : V.cell? ⟨w.heap.size, 0, none⟩ = some (.slice (some ⟨pb, 0, none⟩) q.length q.length) := hi.s.at_ 0
    have c6 : V.cell? ⟨gx, 3, none⟩ = some (.int .i64 y.most) := hlx.at_ 3
    have rj := cell_regrown cj
    have r2 := cell_regrown c2
    have r6 := cell_regrown c6
    have HIN := Lib.hid hi
    have HNO := Lib.hid hno
    have HMS := Lib.hid hms
    have HPP := Lib.hid hp
    have HM := Lib.hid hm
    have HEK := Lib.hid ek'
    clear hi hlx hx hgv hno hms hp hm hy ek ek' cj c2 c6
    simp only [encCr]
    gi_wp2_with (fail)
    refine wpIn_region_tail 6 (by kernel_rfl) (by kernel_rfl) (by kernel_rfl) (by kernel_rfl) (by kernel_rfl) (by kernel_rfl) (by simp) ?_
    simp only [List.take_succ_cons, List.take_zero, List.drop_succ_cons, List.drop_zero]
    repeat (first | go_big_quiet_step (fail) | quiet_step (fail))
    refine wpQuiet_nil ?_
    intro wq hwq
    have hbq : Below V.heap.size V wq := (by obtain ⟨q, rfl⟩ := hwq; exact below_regrown _ _ _)
    clear hwq rj r2 r6
    have hIq := HIN.out.call hbq
    have hPq := HPP.out.call hbq
    have cj : wq.cell? ⟨pb, j, none⟩ = some (.int .i64 m) := by
      rw [hPq.at_]
      simp [vals, zeroB_at HM.out]
    have fj : wq.frozen? ⟨pb, j, none⟩ = false := hPq.free _
    have c2 : wq.cell? ⟨w.heap.size, 0, none⟩ = some (.slice (some ⟨pb, 0, none⟩) q.length q.length) := hIq.s.at_ 0
    have c4 : ∀ u, (wq.setCell ⟨pb, j, none⟩ u).cell? ⟨w.heap.size + 1, 0, none⟩ = some (.bool false) := fun u => (hIq.r.other (p := ⟨pb, j, none⟩) (by simp; omega) u).at_ 0
    have f4 : ∀ u, (wq.setCell ⟨pb, j, none⟩ u).frozen? ⟨w.heap.size + 1, 0, none⟩ = false := fun u => (hIq.r.other (p := ⟨pb, j, none⟩) (by simp; omega) u).free 0
    have HIQ := Lib.hid hIq
    have HPQ := Lib.hid hPq
    have HBQ := Lib.hid hbq
    clear hIq hPq hbq HIN HPP
    have hmo : ((y.most.toNat : Nat) : Int) = y.most := by omega
    by_cases hlt : m < y.most
    · gi_wp2
      have hO := Only.set pb j wq (.int .i64 (m + 1))
      have hO2 := Only.set (w.heap.size + 1) 0 (wq.setCell ⟨pb, j, none⟩ (.int .i64 (m + 1))) (.bool true)
      have hr1 : Lies (wq.setCell ⟨pb, j, none⟩ (.int .i64 (m + 1))) (w.heap.size + 1) 4 #[.bool false] := HIQ.out.r.other (by simp; omega) _
      have hp1 : Lies (wq.setCell ⟨pb, j, none⟩ (.int .i64 (m + 1))) pb 3 (vals ((zeroB q (j + 1)).set j (m + 1))) := by
        have := HPQ.out.set j (.int .i64 (m + 1))
        rwa [vals_set] at this
      have hnx := next_some HML.out HMS.out HM.out HNO.out (by rw [hmo]; exact hlt)
      refine ⟨(KeepsFrom.of_below HBQ.out).trans ((KeepsFrom.of_only hO HPQ.out).trans (KeepsFrom.of_only hO2 hr1)), rfl, ?_, hr1.set 0 _, (HIQ.out.st.trans (.of_only hO)).only_new hO2 (by omega), ?_⟩
      · have e : goQ ms q = (zeroB q (j + 1)).set j (m + 1) := by
          rw [zeroB_set HM.out]; unfold goQ; rw [hnx]
        rw [e]
        exact hO2.lies hp1 (by omega)
      · rw [hnx]; rfl
    · gi_wp2
      have hO := Only.set pb j wq (.int .i64 0)
      have hp1 : Lies (wq.setCell ⟨pb, j, none⟩ (.int .i64 0)) pb 3 (vals (zeroB q j)) := by
        have := HPQ.out.set j (.int .i64 0)
        rwa [vals_set, zeroB_zero HM.out] at this
      have hnx := next_none HMS.out HM.out HNO.out (by rw [hmo]; omega)
      refine ⟨(KeepsFrom.of_below HBQ.out).trans (KeepsFrom.of_only hO HPQ.out), ⟨?_, hO.lies HIQ.out.s (by omega), hO.lies HIQ.out.r (by omega), hO.lies HIQ.out.g (by omega), HIQ.out.st.trans (.of_only hO), by rw [hO.size]; exact HIQ.out.sz, ?_⟩, trivial⟩
      · rw [HEK.out]; exact hp1
      · rw [HEK.out]; exact hnx
  case done =>
    intro D V hD hi hd
    have c4 : V.cell? ⟨w.heap.size + 1, 0, none⟩ = some (.bool false) := hi.r.at_ 0
    have f4 : V.frozen? ⟨w.heap.size + 1, 0, none⟩ = false := hi.r.free 0
    go_wp2
    have hO := Only.set (w.heap.size + 1) 0 V (.bool false)
    have hd' : (V.setCell ⟨w.heap.size + 1, 0, none⟩ (.bool false)).heap[D]? = some (.deferred (some [])) := (hO.block D (by omega)).trans hd
    have hR := Recs.put (D := D) (.deferred none) (Nat.le_refl _) hd' rfl
    have hno := hi.no
    have hp := hi.p
    have e0 : q.length - (backL l).length = 0 := by rw [backL_length, HQ.out]; omega
    rw [e0] at hno hp
    rw [List.drop_zero, List.drop_zero] at hno
    have eg : goQ ms q = zeroB q 0 := by unfold goQ; rw [hno]
    refine leave_mark hd' ⟨_, results_cell_one (v := .bool false) (a := ⟨w.heap.size + 1, 0, none⟩) rfl _ _ _ rfl ((hR.lies (hi.r.set 0 _)).at_ 0) Try.underlying4 rfl, ?_, ?_, (hi.st.only_new hO (by omega)).recs hR (by omega)⟩
    · rw [hno]; rfl
    · rw [eg]; exact hR.lies (hO.lies hp (by omega))
end Go.Proofs.Ytlkdmcdnkoiflaa

/- purchases: the iterator. -/
namespace Go.Proofs.Ytlkdmcdnkoiflaa
open Go.RowKit Go.Lib
attribute [local go_sem] Oper.semAt_some

/-- A loop whose rounds are counted by a number that no variable holds. -/
theorem wp_loop_ghost {P : Program} {Q : Exit → Act → World → Prop} {a : Act} {w : World} {c : Code} (R : Nat → Act → World → Prop) {N : Nat} (h0 : R N a w)
    (hr : ∀ N a w, R N a w → c.wp P (Exit.then (fun a' w' => ∃ M, M < N ∧ R M a' w') Q) a w) : (Code.loop c).wp P Q a w := by
  refine wp_loop_rounds (N + 1) ?_
  have key : ∀ n N, N < n → ∀ a w, R N a w → Code.rounds P c Q n a w := by
    intro n
    induction n with
    | zero => intro N h; omega
    | succ n ih =>
      intro N hN a w h
      rw [rounds_succ]
      refine wp_mono (hr N a w h) ?_
      intro e a' w' he
      cases e with
      | normal =>
        obtain ⟨M, hM, h'⟩ := he
        exact ih M (by omega) a' w' h'
      | exit id => exact he
      | goto l => exact he
      | ret => exact he
      | panic ch => exact he
      | outgrown => exact he
  exact key _ N (by omega) a w h0
theorem made_zero (n : Nat) : madeCells #[.int .i64 0] n = vals (List.replicate n 0) := by
  apply Array.ext
  · simp [vals, size_madeCells]
  · intro i h1 h2
    simp [madeCells, vals, Nat.mod_one]
theorem make_ints (n : Nat) (hn : n ≤ 1000000) (w : World) : (Instr.makeSlice 23 (.int .i64 (n : Int)) (.int .i64 (n : Int))).run Try.prog w = .ok (.slice (some ⟨w.heap.size, 0, none⟩) n n) (w.alloc (.cells (vals (List.replicate n 0)) 3)) := by
  obtain ⟨j0, hj, yz0, yz1, yz2⟩ := info_parts info_int
  have := run_make_n (P := Try.prog) 23 3 j0 _ Try.underlying23 hj yz0 n (by rw [yz2]; omega) (by omega) w
  rw [yz1, Nat.mul_one] at this
  rw [this, ← made_zero]
  rfl
def mosts (l : List Cr) : List Nat := l.map fun c : Cr => c.most.toNat
theorem mosts_zero (l : List Cr) : ((mosts l).map fun _ => (0 : Int)) = List.replicate l.length 0 := by
  unfold mosts
  rw [List.map_map]
  show l.map (fun _ => (0 : Int)) = _
  simp [List.map_const']
theorem allQ_len : ∀ (ms : List Nat) (q : List Int), q ∈ allQ ms → q.length = ms.length
  | [], q, h => by simp [allQ] at h; simp [h]
  | m :: ms, q, h => by
    simp only [allQ, List.mem_flatMap, List.mem_map] at h
    obtain ⟨x, _, y, hy, rfl⟩ := h
    simp [allQ_len ms y hy]
theorem allQ_bd {l : List Cr} (hm : ∀ c, c ∈ l → 0 ≤ c.most ∧ c.most ≤ 9) {q : List Int} (hq : q ∈ allQ (mosts l)) : ∀ (i : Nat) (x : Cr) (m : Int), l[i]? = some x → q[i]? = some m → 0 ≤ x.most ∧ 0 ≤ m ∧ m ≤ 9 := by
  intro i x m hx hi
  have h1 := (pairedB_iff.1 ((mem_allQ _ _).1 hq)).2 i x.most.toNat m (mosts_at hx) hi
  have h2 := inB_iff.1 h1
  have h3 := hm x (List.mem_of_getElem? hx)
  omega
def encQ (b : Nat) (q : List Int) : Array Value := #[.slice (some ⟨b, 0, none⟩) q.length q.length]
set_option maxRecDepth 100000 in
set_option maxHeartbeats 4000000 in
theorem purchases1_gives (n : Nat) (hn : 1 ≤ n) (A : Option Addr) (c gb : Nat) (l : List Cr) (w : World) (hl : l.length ≤ 4) (hm : ∀ c, c ∈ l → 0 ≤ c.most ∧ c.most ≤ 9) (St : World → Prop) (hSt : ∀ W, St W → Lies W gb 76 #[.slice A l.length c] ∧ Sl W w.heap.size 4 encCr A l) :
    GivesB n Try.prog 126 #[.pointer (some ⟨gb, 0, none⟩)] encQ (allQ (mosts l)) w (fun b q V => Lies V b 3 (vals q)) St := by
  intro l' J Jx W hbW hJS hJ hY h0
  have HPT := Lib.hid (fun k V (h : J k V) => hSt V (hJS k V h))
  have HY := Lib.hid hY
  have HJ := Lib.hid hJ
  have H0 := Lib.hid h0
  have HBW := Lib.hid hbW.size
  have c0 : W.cell? ⟨gb, 0, none⟩ = some (.slice A l.length c) := (HPT.out _ _ H0.out).1.at_ 0
  have hlz : (l.length : Int) ≤ 4 := by omega
  have hmk := make_ints l.length (by omega) W
  have HM := Lib.hid hm
  clear hJS hY hJ h0 hSt hbW hm
  refine callsIn_of_wp Try.func126 rfl trivial ?_ rfl
  refine wpIn_wide.2 ?_
  simp only [Try.ntmps126, List.size_toArray, List.length_cons, List.length_nil, Nat.reduceAdd, Nat.reduceSub, Array.replicate_succ, Array.replicate_zero, List.push_toArray, List.append_toArray, List.nil_append, List.cons_append]
  go_wp2
  clear c0 hmk
  have hst : ∃ W1, W.alloc (.cells (vals (List.replicate l.length 0)) 3) = W1 ∧ J 0 W1 ∧ Lies W1 W.heap.size 3 (vals (List.replicate l.length 0)) :=
    ⟨_, rfl, HJ.out _ _ _ H0.out (.of_below ((Below.refl _ _).alloc (Nat.le_refl _) _)), Lies.fresh _ _ _⟩
  obtain ⟨W1, hW1, hJ1, hL1⟩ := hst
  rw [hW1]
  refine wp_loop_ghost (fun N a V => ∃ (k : Nat) (q : List Int) (u7 u8 u9 u10 u11 u12 u13 u14 : Value), N + k = (allQ (mosts l)).length ∧ (allQ (mosts l))[k]? = some q ∧ J k V ∧ Lies V W.heap.size 3 (vals q) ∧ a = { tmps := #[.func (.yield l') #[] #[], .pointer (some ⟨gb, 0, none⟩), undef, .slice (some ⟨W.heap.size, 0, none⟩) l.length l.length, .slice A l.length c, .int .i64 l.length, .slice (some ⟨W.heap.size, 0, none⟩) l.length l.length, u7, u8, u9, u10, u11, u12, u13, u14], defers := [] })
    (N := (allQ (mosts l)).length) ⟨0, _, undef, undef, undef, undef, undef, undef, undef, undef, by omega, allQ_zero _, hJ1, by rw [mosts_zero]; exact hL1, rfl⟩ ?_
  clear hJ1 hL1 hW1 H0
  rintro N a V ⟨k, q, u7, u8, u9, u10, u11, u12, u13, u14, hN, hq, hJk, hLk, rfl⟩
  have hmem := List.mem_of_getElem? hq
  have hql : q.length = l.length := by rw [allQ_len _ _ hmem]; simp [mosts]
  obtain ⟨fn, tmps, assign, body, hy, hR⟩ := HY.out k q V hq hJk hLk
  dsimp only [encQ] at hy
  rw [hql] at hy
  have hklt := (List.getElem?_eq_some_iff.1 hq).1
  have hnx := allQ_next _ _ _ hq
  have HQ := Lib.hid hq
  have HMEM := Lib.hid hmem
  have HQL := Lib.hid hql
  have HN := Lib.hid hN
  have HK := Lib.hid hklt
  have HNX := Lib.hid hnx
  clear hq hmem hql hN hJk hLk hklt hnx
  have hn1 : 1 ≤ n := hn
  refine (wpIn_wide (n := n)).1 ?_
  gi_wp2_with (fail)
  refine hR.mono ?_
  clear hR hy
  rintro e W5 (⟨rfl, hJ5, hL5⟩ | ⟨rfl, hx5⟩)
  · have hS5 := HPT.out _ _ hJ5
    have hG := goOn_any A c W.heap.size l q W5 (hS5.2.more HBW.out) hL5 HQL.out (by omega) (allQ_bd HM.out HMEM.out)
    rw [HQL.out] at hG
    have c5 : W5.cell? ⟨gb, 0, none⟩ = some (.slice A l.length c) := hS5.1.at_ 0
    have HJ5 := Lib.hid hJ5
    clear hS5 hL5 hJ5
    cases hnq : nextD (mosts l) q with
    | none =>
      have hG' : Calls Try.prog 127 #[.slice (some ⟨W.heap.size, 0, none⟩) l.length l.length, .slice A l.length c] W5 fun e w' => e = .returned (.bool false) ∧ StepB W.heap.size W5 w' := hG.mono fun e w' h => ⟨by rw [h.1]; show Ending.returned (.bool (nextD (mosts l) q).isSome) = _; rw [hnq]; rfl, h.2.2⟩
      have hend : k + 1 = (allQ (mosts l)).length := by
        have h1 := HNX.out
        rw [hnq] at h1
        have := List.getElem?_eq_none_iff.1 h1.symm
        have := HK.out
        omega
      have HG := Lib.hid hG'
      have HE := Lib.hid hend
      clear hG hG' hend hnq
      gi_wp2_with (fail)
      refine ⟨trivial, (callsIn_wide.2 HG.out).mono ?_⟩
      rintro e w6 ⟨rfl, hs6⟩
      gi_wp2_with (fail)
      go_wp2
      go_end0
      exact ⟨⟨_, rfl⟩, .inl (by rw [← HE.out]; exact HJ.out _ _ _ HJ5.out hs6)⟩
    | some y =>
      have hG' : Calls Try.prog 127 #[.slice (some ⟨W.heap.size, 0, none⟩) l.length l.length, .slice A l.length c] W5 fun e w' => e = .returned (.bool true) ∧ Lies w' W.heap.size 3 (vals y) ∧ StepB W.heap.size W5 w' := hG.mono fun e w' h => ⟨by rw [h.1]; show Ending.returned (.bool (nextD (mosts l) q).isSome) = _; rw [hnq]; rfl, by have := h.2.1; unfold goQ at this; rw [show nextD (l.map fun c : Cr => c.most.toNat) q = some y from hnq] at this; exact this, h.2.2⟩
      have hy1 : (allQ (mosts l))[k + 1]? = some y := by rw [← HNX.out, hnq]
      have HG := Lib.hid hG'
      have HY1 := Lib.hid hy1
      clear hG hG' hy1 hnq
      gi_wp2_with (fail)
      refine ⟨trivial, (callsIn_wide.2 HG.out).mono ?_⟩
      rintro e w6 ⟨rfl, hl6, hs6⟩
      gi_wp2_with (fail)
      go_wp2
      exact ⟨N - 1, by have := HN.out; have := HK.out; omega, k + 1, y, _, _, _, _, _, _, _, _, by have := HN.out; have := HK.out; omega, HY1.out, HJ.out _ _ _ HJ5.out hs6, hl6, rfl⟩
  · gi_wp2_with (fail)
    refine ⟨trivial, ?_⟩
    gi_wp2_with (fail)
    go_wp2
    go_end0
    exact ⟨⟨_, rfl⟩, .inr ⟨k + 1, by have := HK.out; omega, hx5⟩⟩
end Go.Proofs.Ytlkdmcdnkoiflaa

/- best: of all purchases the one that gives enough and costs least. -/
namespace Go.Proofs.Ytlkdmcdnkoiflaa
open Go.RowKit Go.Lib
attribute [local go_sem] Oper.semAt_some

theorem results_cell3 {P : Program} {fn : Func} {p1 p2 p3 : Tmp} {t1 t2 t3 : TypeId} (h : fn.results = #[.cell p1 t1, .cell p2 t2, .cell p3 t3]) (tmps : Array Value) (w : World) (a1 a2 a3 : Addr) (v1 v2 v3 : Value) (d1 d2 d3 : TypeDesc)
    (hp1 : tmps.getD p1 undef = .pointer (some a1)) (hp2 : tmps.getD p2 undef = .pointer (some a2)) (hp3 : tmps.getD p3 undef = .pointer (some a3)) (hc1 : w.cell? a1 = some v1) (hc2 : w.cell? a2 = some v2) (hc3 : w.cell? a3 = some v3)
    (hu1 : P.underlying t1 = some d1) (hd1 : d1.isRow = false) (hu2 : P.underlying t2 = some d2) (hd2 : d2.isRow = false) (hu3 : P.underlying t3 = some d3) (hd3 : d3.isRow = false) :
    (results fn tmps).run P w = .ok (.tuple #[v1, v2, v3]) w := by
  have hp1' : tmps[p1]?.getD undef = .pointer (some a1) := by simpa using hp1
  have hp2' : tmps[p2]?.getD undef = .pointer (some a2) := by simpa using hp2
  have hp3' : tmps[p3]?.getD undef = .pointer (some a3) := by simpa using hp3
  simp [results, h, hp1', hp2', hp3', asAddr, run_loadVar_one w t1 a1 v1 d1 hc1 hu1 hd1, run_loadVar_one w t2 a2 v2 d2 hc2 hu2 hd2, run_loadVar_one w t3 a3 v3 d3 hc3 hu3 hd3]
theorem SlW.keepL {α : Type} {w w' : World} {lo hi k : Nat} {T : TypeId} {enc : α → List Value} {A : Option Addr} {xs : List α} (h : SlW w lo hi k T enc A xs) (hk : ∀ b cs, lo ≤ b → Lies w b T cs → Lies w' b T cs) : SlW w' lo hi k T enc A xs := fun hx => by
  obtain ⟨b, off, e, hl, hb, ⟨cs, hcs⟩, hc⟩ := h hx
  have h' := hk b cs hl hcs
  have he : w'.heap[b]? = w.heap[b]? := by unfold Lies at h' hcs; rw [h', hcs]
  exact ⟨b, off, e, hl, hb, ⟨cs, h'⟩, fun i x hi j u hu => (World.cell?_of_block (a := ⟨b, off + i * k + j, none⟩) he).trans (hc i x hi j u hu)⟩
theorem SlW.up {α : Type} {w : World} {lo hi hi' k : Nat} {T : TypeId} {enc : α → List Value} {A : Option Addr} {xs : List α} (h : SlW w lo hi k T enc A xs) (hh : hi ≤ hi') : SlW w lo hi' k T enc A xs := fun hx => by
  obtain ⟨b, off, e, hl, hb, hc⟩ := h hx
  exact ⟨b, off, e, hl, by omega, hc⟩
theorem KC.of_step {w w' : World} {b N : Nat} {f : List Int → Int} (h : StepB b w w') (hm : Memo w b N f) : KC w w' := by
  obtain ⟨es, clock, hb, _⟩ := hm
  exact KC.of_grown h hb
theorem own_nil {w : World} {base k : Nat} {e : TypeId} {A : Option Addr} {n c : Nat} {xs : List Value} (h : w.ownsRow base e k (.slice A n c) n xs) : A = none → n = 0 ∧ c = 0 := by
  rintro rfl
  obtain ⟨_, h1⟩ := h
  rcases h1 with ⟨e1, h0⟩ | ⟨g, cap, cur, e1, _⟩
  · injection e1 with _ _ e3
    exact ⟨h0, e3⟩
  · injection e1 with e2; cases e2
/-- The best of the first k purchases; its price. -/
def bzK (p : PlM) (l : List Cr) (S Y : Nat) (number : Int) (k : Nat) : Option (List Int) := bestD (fun q => costP l q l.length) (enoughP p S Y number l) ((allQ (mosts l)).take k)
def prZ (l : List Cr) : Option (List Int) → Int
  | none => 0
  | some z => costP l z l.length
/-- The slice of the best one. -/
def SlZ (V : World) (lo : Nat) (z : Option (List Int)) (v : Value) : Prop :=
  match z with
  | none => v = .slice none 0 0
  | some z => ∃ A c, v = .slice A z.length c ∧ (A = none → z.length = 0 ∧ c = 0) ∧ SlW V lo V.heap.size 1 3 encI A z
theorem SlZ.keep {V V' : World} {lo : Nat} {z : Option (List Int)} {v : Value} (h : SlZ V lo z v) (hs : V.heap.size ≤ V'.heap.size) (hk : ∀ b cs, lo ≤ b → Lies V b 3 cs → Lies V' b 3 cs) : SlZ V' lo z v := by
  cases z with
  | none => exact h
  | some z =>
    obtain ⟨A, c, e, hn, h⟩ := h
    exact ⟨A, c, e, hn, (h.keepL hk).up hs⟩
theorem SlZ.low {V : World} {lo lo' : Nat} {z : Option (List Int)} {v : Value} (h : SlZ V lo z v) (hl : lo' ≤ lo) : SlZ V lo' z v := by
  cases z with
  | none => exact h
  | some z =>
    obtain ⟨A, c, e, hn, h⟩ := h
    refine ⟨A, c, e, hn, fun hx => ?_⟩
    obtain ⟨b, off, e, h1, h2⟩ := h hx
    exact ⟨b, off, e, by omega, h2⟩
theorem SlZ.slice {V : World} {lo : Nat} {z : Option (List Int)} {v : Value} (h : SlZ V lo z v) : ∃ a n k, v = .slice a n k := by
  cases z with
  | none => exact ⟨_, _, _, h⟩
  | some z =>
    obtain ⟨A, c, e, _, _⟩ := h
    exact ⟨_, _, _, e⟩
/-- best between two rounds. -/
structure BsM (p : PlM) (A : Option Addr) (c : Nat) (l : List Cr) (S Y mb : Nat) (number : Int) (gv : Value) (w : World) (k : Nat) (V : World) : Prop where
  c0 : Lies V w.heap.size 76 #[.slice A l.length c]
  c1 : Lies V (w.heap.size + 1) 3 #[.int .i64 number]
  c2 : Lies V (w.heap.size + 1 + 1) 149 #[gv]
  c3 : ∃ v, Lies V (w.heap.size + 1 + 1 + 1) 23 #[v] ∧ SlZ V (w.heap.size + 10) (bzK p l S Y number k) v
  c4 : Lies V (w.heap.size + 1 + 1 + 1 + 1) 3 #[.int .i64 (prZ l (bzK p l S Y number k))]
  c5 : Lies V (w.heap.size + 1 + 1 + 1 + 1 + 1) 4 #[.bool (bzK p l S Y number k).isSome]
  c6 : Lies V (w.heap.size + 1 + 1 + 1 + 1 + 1 + 1) 76 #[.slice A l.length c]
  sb : StepB mb w V
  sz : w.heap.size + 7 ≤ V.heap.size
section
variable {p : PlM} {A : Option Addr} {c : Nat} {l : List Cr} {S Y mb : Nat} {number : Int} {f : List Int → Int} {gv : Value} {w V V' : World} {k : Nat}
theorem BsM.keep (h : BsM p A c l S Y mb number gv w k V) (hs : V.heap.size ≤ V'.heap.size) (hk : ∀ b t cs, b ≠ w.heap.size + 9 → Lies V b t cs → Lies V' b t cs) (hst : StepB mb w V') : BsM p A c l S Y mb number gv w k V' := by
  obtain ⟨v, h3, hz⟩ := h.c3
  exact ⟨hk _ _ _ (by omega) h.c0, hk _ _ _ (by omega) h.c1, hk _ _ _ (by omega) h.c2, ⟨v, hk _ _ _ (by omega) h3, hz.keep hs fun b cs hb hl => hk _ _ _ (by omega) hl⟩, hk _ _ _ (by omega) h.c4, hk _ _ _ (by omega) h.c5, hk _ _ _ (by omega) h.c6, hst, Nat.le_trans h.sz hs⟩
theorem BsM.call (h : BsM p A c l S Y mb number gv w k V) (hb : Below V.heap.size V V') : BsM p A c l S Y mb number gv w k V' :=
  h.keep hb.size (fun _ _ _ _ hl => hl.call hb) (h.sb.below' hb)
theorem Memo.of_recs {D b n : Nat} (h : Memo V b n f) (hr : Recs D V V') (hb : b < D) : Memo V' b n f := by
  obtain ⟨es, clock, hm, r⟩ := h
  obtain ⟨row, hg, hrow⟩ := hr
  exact ⟨es, clock, (hg.block b (Array.getElem?_eq_some_iff.1 hm).1 (fun e => by have := (hrow b e.symm).1; omega)).trans hm, r⟩
theorem Memo.of_step {b' b n : Nat} (h : Memo V b n f) (hr : StepB b' V V') (hb : b ≠ b') : Memo V' b n f := by
  obtain ⟨es, clock, hm, r⟩ := h
  exact ⟨es, clock, (hr.block b (Array.getElem?_eq_some_iff.1 hm).1 (fun e => by cases e; exact hb rfl)).trans hm, r⟩
theorem BsM.recs {D : Nat} (h : BsM p A c l S Y mb number gv w k V) (hr : Recs D V V') (hD : w.heap.size ≤ D) : BsM p A c l S Y mb number gv w k V' :=
  h.keep hr.size (fun _ _ _ _ hl => hr.lies hl) (h.sb.recs hr hD)
theorem BsM.step (h : BsM p A c l S Y mb number gv w k V) (hr : StepB (w.heap.size + 9) V V') : BsM p A c l S Y mb number gv w k V' :=
  h.keep hr.size (fun _ _ _ hb hl => hr.lies hl hb) (h.sb.new hr (by omega))
/-- Behind gives. -/
theorem BsM.gives (h : BsM p A c l S Y mb number gv w k V) (hr : StepB mb V V') (hkc : KC V V') : BsM p A c l S Y mb number gv w k V' :=
  h.keep hr.size (fun _ _ _ _ hl => hkc.lies hl) (h.sb.trans hr)
/-- A purchase that is no better. -/
theorem BsM.skip (h : BsM p A c l S Y mb number gv w k V) (e : bzK p l S Y number (k + 1) = bzK p l S Y number k) : BsM p A c l S Y mb number gv w (k + 1) V := by
  obtain ⟨h0, h1, h2, h3, h4, h5, h6, h7, h8⟩ := h
  rw [← e] at h3 h4 h5
  exact ⟨h0, h1, h2, h3, h4, h5, h6, h7, h8⟩
/-- A purchase that is better. -/
theorem BsM.take {V3 : World} {A' : Option Addr} {c' : Nat} {q : List Int} (h : BsM p A c l S Y mb number gv w k V) (hb : Below V.heap.size V V3) (hs : SlW V3 (w.heap.size + 10) V3.heap.size 1 3 encI A' q) (hn : A' = none → q.length = 0 ∧ c' = 0) (e : bzK p l S Y number (k + 1) = some q) :
    BsM p A c l S Y mb number gv w (k + 1) (((V3.setCell ⟨w.heap.size + 1 + 1 + 1, 0, none⟩ (.slice A' q.length c')).setCell ⟨w.heap.size + 1 + 1 + 1 + 1, 0, none⟩ (.int .i64 (costP l q l.length))).setCell ⟨w.heap.size + 1 + 1 + 1 + 1 + 1, 0, none⟩ (.bool true)) := by
  have h3 := h.call hb
  have o1 := Only.set (w.heap.size + 1 + 1 + 1) 0 V3 (.slice A' q.length c')
  have o2 := Only.set (w.heap.size + 1 + 1 + 1 + 1) 0 (V3.setCell ⟨w.heap.size + 1 + 1 + 1, 0, none⟩ (.slice A' q.length c')) (.int .i64 (costP l q l.length))
  have o3 := Only.set (w.heap.size + 1 + 1 + 1 + 1 + 1) 0 ((V3.setCell ⟨w.heap.size + 1 + 1 + 1, 0, none⟩ (.slice A' q.length c')).setCell ⟨w.heap.size + 1 + 1 + 1 + 1, 0, none⟩ (.int .i64 (costP l q l.length))) (.bool true)
  have hk : ∀ b t cs, b < w.heap.size + 3 ∨ w.heap.size + 5 < b → Lies V3 b t cs → Lies (((V3.setCell ⟨w.heap.size + 1 + 1 + 1, 0, none⟩ (.slice A' q.length c')).setCell ⟨w.heap.size + 1 + 1 + 1 + 1, 0, none⟩ (.int .i64 (costP l q l.length))).setCell ⟨w.heap.size + 1 + 1 + 1 + 1 + 1, 0, none⟩ (.bool true)) b t cs := fun b t cs hb hl =>
    o3.lies (o2.lies (o1.lies hl (by omega)) (by omega)) (by omega)
  obtain ⟨v, hv, _⟩ := h3.c3
  refine ⟨hk _ _ _ (by omega) h3.c0, hk _ _ _ (by omega) h3.c1, hk _ _ _ (by omega) h3.c2, ⟨.slice A' q.length c', o3.lies (o2.lies (hv.set 0 _) (by omega)) (by omega), ?_⟩, ?_, ?_, hk _ _ _ (by omega) h3.c6, ((h3.sb.only_new o1 (by omega)).only_new o2 (by omega)).only_new o3 (by omega), by rw [o3.size, o2.size, o1.size]; exact h3.sz⟩
  · rw [e]
    exact ⟨A', c', rfl, hn, (hs.keepL fun b cs hb hl => hk _ _ _ (by omega) hl).up (by rw [o3.size, o2.size, o1.size]; exact Nat.le_refl _)⟩
  · rw [e]
    exact o3.lies ((o1.lies h3.c4 (by omega)).set 0 _) (by omega)
  · rw [e]
    exact (o2.lies (o1.lies h3.c5 (by omega)) (by omega)).set 0 _
end
theorem bzK_step {p : PlM} {l : List Cr} {S Y : Nat} {number : Int} {k : Nat} {q : List Int} (hq : (allQ (mosts l))[k]? = some q) : bzK p l S Y number (k + 1) = pickB (fun q => costP l q l.length) (bzK p l S Y number k) (if enoughP p S Y number l q then some q else none) := best_take _ _ hq
def RetBs (p : PlM) (l : List Cr) (S Y : Nat) (number : Int) (mb : Nat) (w : World) (e : Ending) (w' : World) : Prop :=
  ∃ v, e = .returned (.tuple #[v, .int .i64 (prZ l (bzK p l S Y number (allQ (mosts l)).length)), .bool (bzK p l S Y number (allQ (mosts l)).length).isSome]) ∧ SlZ w' w.heap.size (bzK p l S Y number (allQ (mosts l)).length) v ∧ StepB mb w w'
theorem lies_q {V : World} {b : Nat} {q : List Int} (h : Lies V b 3 (vals q)) : Sl V V.heap.size 1 encI (some ⟨b, 0, none⟩) q := fun _ =>
  ⟨b, 0, rfl, h.in_, fun i x hx j u hu => by
    obtain rfl : j = 0 := by
      have := (List.getElem?_eq_some_iff.1 hu).1
      simp [encI] at this; exact this
    have hu' : u = .int .i64 x := by simpa [encI] using hu.symm
    subst hu'
    rw [Nat.zero_add, Nat.mul_one, Nat.add_zero, h.at_]
    simp [vals, hx]⟩
theorem mosts_pair {l : List Cr} (hm : ∀ c, c ∈ l → 0 ≤ c.most ∧ c.most ≤ 9) {q : List Int} (hq : q ∈ allQ (mosts l)) : pairedB l q (fun c m => inB m 0 c.most) = true := by
  have h := pairedB_iff.1 ((mem_allQ _ _).1 hq)
  refine pairedB_iff.2 ⟨by have := h.1; simpa [mosts] using this, fun i c m hc hm' => ?_⟩
  have h1 := inB_iff.1 (h.2 i c.most.toNat m (mosts_at hc) hm')
  have h2 := hm c (List.mem_of_getElem? hc)
  exact inB_iff.2 (by omega)

set_option maxRecDepth 100000 in
set_option maxHeartbeats 800000 in
theorem best_any (p : PlM) (t : TrM) (A : Option Addr) (c S Y mb : Nat) (l : List Cr) (number : Int) (w : World) (hp : p.At w w.heap.size) (ht : t.At w w.heap.size) (hv : p.Valid) (hpt : PT p t) (hts : t.s.l = p.s.l.map (·.1)) (hty : t.g.l.length = Y)
    (hso : ∀ pl (z : Nat), soldUp p t pl z Y = sellsD p.d (·.1) (·.2) pl z Y) (hmm : Memo w mb 0 fun pl => soldUp p t pl S t.g.l.length) (hA : Sl w w.heap.size 4 encCr A l) (hS : S < 5) (ho : offB p.s.l.length l = 0) :
    Calls Try.prog 84 #[.slice A l.length c, .int .i64 number, .func (.func 83) #[.agg (offC p t A l.length c (S : Int) mb).toArray] #[]] w (RetBs p l S Y number mb w) := by
  have hl4 := (offB_zero ho).1
  have hms : ∀ c, c ∈ l → 0 ≤ c.most ∧ c.most ≤ 9 := fun c hc => (Cr.ok_iff.1 ((offB_zero ho).2 c hc)).2.2.2
  have hmw : mb < w.heap.size := hmm.in_
  -- costOf and gives, in a world of a round
  have hco : ∀ (q : List Int) (b : Nat) (V : World), q ∈ allQ (mosts l) → KC w V → Lies V b 3 (vals q) → Calls Try.prog 115 #[.slice A l.length c, .slice (some ⟨b, 0, none⟩) q.length q.length] V fun e w' => e = .returned (.int .i64 (costP l q l.length)) ∧ Below V.heap.size V w' := fun q b V hq hk hb =>
    costOf_any A _ c _ l q V (hA.kc hk hk.size) (lies_q hb) (purF_of ho (mosts_pair hms hq))
  have hgi : ∀ (q : List Int) (b k : Nat) (V : World), q ∈ allQ (mosts l) → KC w V → Memo V mb k (fun pl => soldUp p t pl S t.g.l.length) → Lies V b 3 (vals q) → Calls Try.prog 83 #[.agg (offC p t A l.length c (S : Int) mb).toArray, .slice (some ⟨b, 0, none⟩) q.length q.length] V fun e w' =>
      e = .returned (.tuple #[.int .i64 (if roomB p (buyP p l q) then giveP p S Y l q else 0), .bool (roomB p (buyP p l q))]) ∧ Memo w' mb (k + 1) (fun pl => soldUp p t pl S t.g.l.length) ∧ KC V w' ∧ StepB mb V w' := fun q b k V hq hk hm hb =>
    gives_off c q.length ⟨hp.kc hk hk.size, ht.kc hk hk.size, hpt, hts, hty, hso, hm, hA.kc hk hk.size, lies_q hb⟩ hv hS ho (mosts_pair hms hq)
  have HCO := Lib.hid hco
  have HGI := Lib.hid hgi
  have HMM := Lib.hid hmm
  have HA := Lib.hid hA
  have HMS := Lib.hid hms
  have HL4 := Lib.hid hl4
  clear hco hgi hmm hA hms hp ht hv hpt hts hty hso ho hl4
  generalize hf : (fun pl => soldUp p t pl S t.g.l.length) = f at *
  generalize hof : (offC p t A l.length c (S : Int) mb).toArray = off at *
  clear hf hof
  obtain ⟨gv, hgv⟩ : ∃ gv, gv = Value.func (.func 83) #[.agg off] #[] := ⟨_, rfl⟩
  refine calls_of_wp_marks 5 Try.func84 rfl ?_
  simp only [Try.ntmps84, List.size_toArray, List.length_cons, List.length_nil, Nat.reduceAdd, Nat.reduceSub, Array.replicate_succ, Array.replicate_zero, List.push_toArray, List.append_toArray, List.nil_append, List.cons_append]
  go_wp2_with (go_at_call 114; refine (purchases_any _ _ _ _).mono ?_; rintro e w' ⟨rfl, rfl⟩)
  have hW : ∃ W, ((((((w.alloc (.cells #[.slice A l.length c] 76)).alloc (.cells #[.int .i64 number] 3)).alloc (.cells #[gv] 149)).alloc (.cells #[.slice none 0 0] 23)).alloc (.cells #[.int .i64 0] 3)).alloc (.cells #[.bool false] 4)).alloc (.cells #[.slice A l.length c] 76) = W ∧ BsM p A c l S Y mb number gv w 0 W ∧ Memo W mb 0 f ∧ W.heap.size = w.heap.size + 7 := by
    have hbw : Below w.heap.size w (((((((w.alloc (.cells #[.slice A l.length c] 76)).alloc (.cells #[.int .i64 number] 3)).alloc (.cells #[gv] 149)).alloc (.cells #[.slice none 0 0] 23)).alloc (.cells #[.int .i64 0] 3)).alloc (.cells #[.bool false] 4)).alloc (.cells #[.slice A l.length c] 76)) := (by repeat (first | (with_reducible assumption) | (with_reducible exact Below.refl _ _) | (with_reducible refine Below.drew ?_) | (with_reducible refine below_drewN ?_ _) | ((with_reducible refine Below.setCell ?_ ?_ _); rotate_left; focus (first | (simp; done) | (simp; omega) | omega)) | ((with_reducible refine Below.alloc ?_ ?_ _); rotate_left; focus (first | (simp; done) | (simp; omega) | omega))))
    exact ⟨_, rfl, ⟨((((((Lies.fresh _ _ _).alloc _).alloc _).alloc _).alloc _).alloc _).alloc _, (((((Lies.fresh' (by simp)).alloc _).alloc _).alloc _).alloc _).alloc _, ((((Lies.fresh' (by simp)).alloc _).alloc _).alloc _).alloc _, ⟨_, (((Lies.fresh' (by simp)).alloc _).alloc _).alloc _, rfl⟩, ((Lies.fresh' (by simp)).alloc _).alloc _, (Lies.fresh' (by simp)).alloc _, Lies.fresh' (by simp), .of_below hbw, by simp⟩, HMM.out.call hbw, by simp⟩
  obtain ⟨W, hWe, hI, hM0, hz⟩ := hW
  rw [hgv] at hWe
  rw [hWe]
  have hpg := purchases1_gives 4 (by omega) A c (w.heap.size + 1 + 1 + 1 + 1 + 1 + 1) l W HL4.out HMS.out (fun V => Lies V (w.heap.size + 1 + 1 + 1 + 1 + 1 + 1) 76 #[.slice A l.length c] ∧ Sl V W.heap.size 4 encCr A l) (fun V h => h)
  have HI := Lib.hid (And.intro hI hM0)
  have HG := Lib.hid hgv
  have HZ := Lib.hid hz
  have HMW := Lib.hid hmw
  clear hWe hI hM0 hz hmw hgv
  refine range_givesB (n := 5) (gf := 126) rfl (enters_of Try.func126 (by kernel_rfl) rfl) hpg (Below.refl _ _) (fun _ _ => rfl) (fun b q V V' h hr => hr.lies h)
    (fun k V => BsM p A c l S Y mb number gv w k V ∧ Memo V mb k f) (fun _ _ _ => False) ?hI ?hIs (fun _ _ _ _ h _ => h) HI.out ?hSt
    (fun q a' V => a' = { tmps := #[.slice A l.length c, .int .i64 number, .func (.func 83) #[.agg off] #[], .pointer (some ⟨w.heap.size, 0, none⟩), .pointer (some ⟨w.heap.size + 1, 0, none⟩), .pointer (some ⟨w.heap.size + 1 + 1, 0, none⟩), .pointer (some ⟨w.heap.size + 1 + 1 + 1, 0, none⟩), .pointer (some ⟨w.heap.size + 1 + 1 + 1 + 1, 0, none⟩), .pointer (some ⟨w.heap.size + 1 + 1 + 1 + 1 + 1, 0, none⟩), .slice (some ⟨W.heap.size + 2, 0, none⟩) q.length q.length, undef, undef, undef, .slice A l.length c, .func (.func 126) #[] #[.pointer (some ⟨w.heap.size + 1 + 1 + 1 + 1 + 1 + 1, 0, none⟩)], .slice (some ⟨W.heap.size + 2, 0, none⟩) q.length q.length, undef, undef, undef, undef, undef, undef, undef, undef, undef, undef, undef, undef, undef, undef, undef, undef, undef, undef, undef, undef, undef, undef, undef, undef, undef, undef, undef], defers := [] }) (fun _ _ _ _ h _ => h) ?assign ?body ?done (fun _ _ _ _ _ _ h _ => h.elim)
  case hI => exact fun k V V' h hr => ⟨h.1.recs hr (by have := HZ.out; omega), h.2.of_recs hr (by have := HZ.out; have := HMW.out; omega)⟩
  case hIs =>
    intro k V V' h hr
    rw [show W.heap.size + 2 = w.heap.size + 9 by have := HZ.out; omega] at hr
    exact ⟨h.1.step hr, h.2.of_step hr (by have := HMW.out; omega)⟩
  case hSt =>
    intro k V h
    exact ⟨h.1.c6, HA.out.kc (KC.of_step h.1.sb HMM.out) (by have := HZ.out; omega)⟩
  case assign =>
    intro l' k q V K hq hi ho hK
    clear hpg
    simp only [encQ]
    gi_wp2_with (fail)
    exact hK _ _ (KeepsFrom.refl _ _) hi ho rfl
  case body =>
    rintro l' k q a' V hl' hq ⟨hi, hm⟩ hown rfl
    have hmem := List.mem_of_getElem? hq
    have hst := bzK_step (p := p) (S := S) (Y := Y) (number := number) hq
    have hkc := KC.of_step hi.sb HMM.out
    have hC := HCO.out q _ V hmem hkc hown
    have hg9 : W.heap.size + 2 = w.heap.size + 9 := by have := HZ.out; omega
    have HG9 := Lib.hid hg9
    clear hg9
    generalize W.heap.size + 2 = G at *
    have HMEM := Lib.hid hmem
    have HST := Lib.hid hst
    have HIN := Lib.hid hi
    have HM := Lib.hid hm
    have HOWN := Lib.hid hown
    have HKC := Lib.hid hkc
    have c0 : V.cell? ⟨w.heap.size, 0, none⟩ = some (.slice A l.length c) := hi.c0.at_ 0
    clear hpg hq hmem hst hi hm hown hkc
    gi_wp2_with (fail)
    refine ⟨trivial, (CallsIn.inRound l' (callsIn_wide.2 hC)).mono ?_⟩
    clear hC c0
    rintro e V1 ⟨rfl, hb1⟩
    have hi1 := HIN.out.call hb1
    have hgi := HGI.out q G k V1 HMEM.out (HKC.out.call hb1) (HM.out.call hb1) (HOWN.out.call hb1)
    have hen : enoughP p S Y number l q = (roomB p (buyP p l q) && decide (number ≤ giveP p S Y l q)) := rfl
    have hst := HST.out
    rw [hen] at hst
    have hql : q.length = l.length := by rw [allQ_len _ _ HMEM.out]; simp [mosts]
    generalize roomB p (buyP p l q) = rb at *
    generalize giveP p S Y l q = sv at *
    obtain ⟨cq, hcq⟩ : ∃ cq, costP l q l.length = cq := ⟨_, rfl⟩
    rw [hcq]
    obtain ⟨z, hz⟩ : ∃ z, z = bzK p l S Y number k := ⟨_, rfl⟩
    have d7 : V1.cell? ⟨w.heap.size + 1 + 1 + 1 + 1, 0, none⟩ = some (.int .i64 (prZ l z)) := by rw [hz]; exact hi1.c4.at_ 0
    have d8 : V1.cell? ⟨w.heap.size + 1 + 1 + 1 + 1 + 1, 0, none⟩ = some (.bool z.isSome) := by rw [hz]; exact hi1.c5.at_ 0
    have d5 : V1.cell? ⟨w.heap.size + 1 + 1, 0, none⟩ = some (.func (.func 83) #[.agg off] #[]) := by rw [← HG.out]; exact hi1.c2.at_ 0
    rw [← hz] at hst
    have HST1 := Lib.hid hst
    have HZZ := Lib.hid hz
    have HI1 := Lib.hid hi1
    have HGV := Lib.hid hgi
    have HB1 := Lib.hid hb1
    have HCQ := Lib.hid hcq.symm
    have HQL := Lib.hid hql
    clear hst hz hi1 hgi hb1 hen HST HIN HKC hql
    cases z with
    | none =>
      simp only [Option.isSome_none, prZ] at d7 d8
      clear hcq
      gi_wp2_with (fail)
      refine ⟨trivial, (CallsIn.inRound l' (callsIn_wide.2 HGV.out)).mono ?_⟩
      rintro e V2 ⟨rfl, hm2, hk2, hs2⟩
      have hi2 := HI1.out.gives hs2 hk2
      have hown2 : Lies V2 G 3 (vals q) := hk2.lies (HOWN.out.call HB1.out)
      have hkf : KeepsFrom W.heap.size V V2 := (KeepsFrom.of_below HB1.out).trans (KeepsFrom.of_grownBy hs2 (fun j e => by cases e; have := HMW.out; have := HZ.out; omega))
      have d4 : V2.cell? ⟨w.heap.size + 1, 0, none⟩ = some (.int .i64 number) := hi2.c1.at_ 0
      have HI2 := Lib.hid hi2
      have HM2 := Lib.hid hm2
      have HO2 := Lib.hid hown2
      have HKF := Lib.hid hkf
      clear hi2 hm2 hk2 hs2 hown2 hkf d7 d8 d5
      cases rb with
      | false =>
        simp only [Bool.false_eq_true, if_false]
        have hst := HST1.out
        simp only [Bool.false_and, Bool.false_eq_true, if_false, pickB] at hst
        have HST2 := Lib.hid hst
        clear hst
        gi_wp2
        exact ⟨HKF.out, ⟨HI2.out.skip (by rw [HST2.out, ← HZZ.out]), HM2.out⟩, HO2.out⟩
      | true =>
        simp only [if_true]
        have hst := HST1.out
        simp only [Bool.true_and, pickB] at hst
        by_cases hsv : number ≤ sv
        · simp only [hsv, decide_true, if_true] at hst
          have hcl := clone_own G 0 q.length q.length q V2 (lies_q HO2.out) rfl (by have := HQL.out; have := HL4.out; omega)
          have HCL := Lib.hid hcl
          have HST2 := Lib.hid hst
          clear hst hcl
          gi_wp2_with (fail)
          refine ⟨trivial, (CallsIn.inRound l' (callsIn_wide.2 HCL.out)).mono ?_⟩
          rintro e V3 ⟨A', c', rfl, ho3, hb3⟩
          have hlo : w.heap.size + 10 ≤ V2.heap.size := by have := HO2.out.in_; have := HG9.out; omega
          have hw3 : SlW V3 (w.heap.size + 10) V3.heap.size 1 3 encI A' q := slW_of_own (fun _ => rfl) hlo ho3
          have hi4 := HI2.out.take (c' := c') hb3 hw3 (own_nil ho3) HST2.out
          have h33 := HI2.out.call hb3
          obtain ⟨v3, hv3, hz3⟩ := h33.c3
          have o1 := Only.set (w.heap.size + 1 + 1 + 1) 0 V3 (.slice A' q.length c')
          have o2 := Only.set (w.heap.size + 1 + 1 + 1 + 1) 0 (V3.setCell ⟨w.heap.size + 1 + 1 + 1, 0, none⟩ (.slice A' q.length c')) (.int .i64 cq)
          have o3 := Only.set (w.heap.size + 1 + 1 + 1 + 1 + 1) 0 ((V3.setCell ⟨w.heap.size + 1 + 1 + 1, 0, none⟩ (.slice A' q.length c')).setCell ⟨w.heap.size + 1 + 1 + 1 + 1, 0, none⟩ (.int .i64 cq)) (.bool true)
          have l4 := o1.lies h33.c4 (by omega)
          have l5 := o2.lies (o1.lies h33.c5 (by omega)) (by omega)
          have f3 : V3.frozen? ⟨w.heap.size + 1 + 1 + 1, 0, none⟩ = false := hv3.free 0
          have g3 := hv3.at_ 0
          have f4 : (V3.setCell ⟨w.heap.size + 1 + 1 + 1, 0, none⟩ (.slice A' q.length c')).frozen? ⟨w.heap.size + 1 + 1 + 1 + 1, 0, none⟩ = false := l4.free 0
          have g4 := l4.at_ 0
          have f5 : ((V3.setCell ⟨w.heap.size + 1 + 1 + 1, 0, none⟩ (.slice A' q.length c')).setCell ⟨w.heap.size + 1 + 1 + 1 + 1, 0, none⟩ (.int .i64 cq)).frozen? ⟨w.heap.size + 1 + 1 + 1 + 1 + 1, 0, none⟩ = false := l5.free 0
          have g5 := l5.at_ 0
          have HKF4 := Lib.hid (HKF.out.trans ((KeepsFrom.of_below hb3).trans ((KeepsFrom.of_only (D := W.heap.size) o1 hv3).trans ((KeepsFrom.of_only o2 l4).trans (KeepsFrom.of_only o3 l5)))))
          have HI4 := Lib.hid hi4
          have HM4 := Lib.hid ((((HM2.out.call hb3).only hv3 o1).only l4 o2).only l5 o3)
          have HO4 := Lib.hid (o3.lies (o2.lies (o1.lies (HO2.out.call hb3) (by have := HG9.out; omega)) (by have := HG9.out; omega)) (by have := HG9.out; omega))
          clear hi4 h33 hv3 hz3 o1 o2 o3 l4 l5 ho3 hb3 hw3 hlo
          gi_wp2_with (fail)
          rw [← HCQ.out] at HI4
          exact ⟨HKF4.out, ⟨HI4.out, HM4.out⟩, HO4.out⟩
        · simp only [hsv, decide_false, Bool.false_eq_true, if_false] at hst
          have HST2 := Lib.hid hst
          clear hst
          gi_wp2
          exact ⟨HKF.out, ⟨HI2.out.skip (by rw [HST2.out, ← HZZ.out]), HM2.out⟩, HO2.out⟩
    | some z0 =>
      simp only [Option.isSome_some, prZ] at d7 d8
      by_cases hc : costP l z0 l.length ≤ cq
      · have hst := HST1.out
        have e : bzK p l S Y number (k + 1) = bzK p l S Y number k := by
          rw [hst, ← HZZ.out]
          cases hb : (rb && decide (number ≤ sv)) with
          | true => rw [if_pos rfl]; show (if costP l q l.length < costP l z0 l.length then some q else some z0) = some z0; exact if_neg (by rw [hcq]; omega)
          | false => rw [if_neg (by simp)]; rfl
        have HE := Lib.hid e
        clear hst e hcq
        generalize costP l z0 l.length = c0 at *
        gi_wp2
        exact ⟨KeepsFrom.of_below HB1.out, ⟨HI1.out.skip HE.out, (HM.out.call HB1.out).mono (by omega)⟩, HOWN.out.call HB1.out⟩
      · have hnc : costP l q l.length < costP l z0 l.length := by rw [hcq]; omega
        have HNC := Lib.hid hnc
        clear hnc hcq
        gi_wp2_with (fail)
        refine ⟨trivial, (CallsIn.inRound l' (callsIn_wide.2 HGV.out)).mono ?_⟩
        rintro e V2 ⟨rfl, hm2, hk2, hs2⟩
        have hi2 := HI1.out.gives hs2 hk2
        have hown2 : Lies V2 G 3 (vals q) := hk2.lies (HOWN.out.call HB1.out)
        have hkf : KeepsFrom W.heap.size V V2 := (KeepsFrom.of_below HB1.out).trans (KeepsFrom.of_grownBy hs2 (fun j e => by cases e; have := HMW.out; have := HZ.out; omega))
        have d4 : V2.cell? ⟨w.heap.size + 1, 0, none⟩ = some (.int .i64 number) := hi2.c1.at_ 0
        have HI2 := Lib.hid hi2
        have HM2 := Lib.hid hm2
        have HO2 := Lib.hid hown2
        have HKF := Lib.hid hkf
        clear hi2 hm2 hk2 hs2 hown2 hkf d7 d8 d5
        cases rb with
        | false =>
          simp only [Bool.false_eq_true, if_false]
          have hst := HST1.out
          simp only [Bool.false_and, Bool.false_eq_true, if_false, pickB] at hst
          have HST2 := Lib.hid hst
          clear hst
          gi_wp2
          exact ⟨HKF.out, ⟨HI2.out.skip (by rw [HST2.out, ← HZZ.out]), HM2.out⟩, HO2.out⟩
        | true =>
          simp only [if_true]
          have hst := HST1.out
          simp only [Bool.true_and, pickB] at hst
          by_cases hsv : number ≤ sv
          · simp only [hsv, decide_true, if_true, HNC.out] at hst
            have hcl := clone_own G 0 q.length q.length q V2 (lies_q HO2.out) rfl (by have := HQL.out; have := HL4.out; omega)
            have HCL := Lib.hid hcl
            have HST2 := Lib.hid hst
            clear hst hcl
            gi_wp2_with (fail)
            refine ⟨trivial, (CallsIn.inRound l' (callsIn_wide.2 HCL.out)).mono ?_⟩
            rintro e V3 ⟨A', c', rfl, ho3, hb3⟩
            have hlo : w.heap.size + 10 ≤ V2.heap.size := by have := HO2.out.in_; have := HG9.out; omega
            have hw3 : SlW V3 (w.heap.size + 10) V3.heap.size 1 3 encI A' q := slW_of_own (fun _ => rfl) hlo ho3
            have hi4 := HI2.out.take (c' := c') hb3 hw3 (own_nil ho3) HST2.out
            have h33 := HI2.out.call hb3
            obtain ⟨v3, hv3, hz3⟩ := h33.c3
            have o1 := Only.set (w.heap.size + 1 + 1 + 1) 0 V3 (.slice A' q.length c')
            have o2 := Only.set (w.heap.size + 1 + 1 + 1 + 1) 0 (V3.setCell ⟨w.heap.size + 1 + 1 + 1, 0, none⟩ (.slice A' q.length c')) (.int .i64 cq)
            have o3 := Only.set (w.heap.size + 1 + 1 + 1 + 1 + 1) 0 ((V3.setCell ⟨w.heap.size + 1 + 1 + 1, 0, none⟩ (.slice A' q.length c')).setCell ⟨w.heap.size + 1 + 1 + 1 + 1, 0, none⟩ (.int .i64 cq)) (.bool true)
            have l4 := o1.lies h33.c4 (by omega)
            have l5 := o2.lies (o1.lies h33.c5 (by omega)) (by omega)
            have f3 : V3.frozen? ⟨w.heap.size + 1 + 1 + 1, 0, none⟩ = false := hv3.free 0
            have g3 := hv3.at_ 0
            have f4 : (V3.setCell ⟨w.heap.size + 1 + 1 + 1, 0, none⟩ (.slice A' q.length c')).frozen? ⟨w.heap.size + 1 + 1 + 1 + 1, 0, none⟩ = false := l4.free 0
            have g4 := l4.at_ 0
            have f5 : ((V3.setCell ⟨w.heap.size + 1 + 1 + 1, 0, none⟩ (.slice A' q.length c')).setCell ⟨w.heap.size + 1 + 1 + 1 + 1, 0, none⟩ (.int .i64 cq)).frozen? ⟨w.heap.size + 1 + 1 + 1 + 1 + 1, 0, none⟩ = false := l5.free 0
            have g5 := l5.at_ 0
            have HKF4 := Lib.hid (HKF.out.trans ((KeepsFrom.of_below hb3).trans ((KeepsFrom.of_only (D := W.heap.size) o1 hv3).trans ((KeepsFrom.of_only o2 l4).trans (KeepsFrom.of_only o3 l5)))))
            have HI4 := Lib.hid hi4
            have HM4 := Lib.hid ((((HM2.out.call hb3).only hv3 o1).only l4 o2).only l5 o3)
            have HO4 := Lib.hid (o3.lies (o2.lies (o1.lies (HO2.out.call hb3) (by have := HG9.out; omega)) (by have := HG9.out; omega)) (by have := HG9.out; omega))
            clear hi4 h33 hv3 hz3 o1 o2 o3 l4 l5 ho3 hb3 hw3 hlo
            gi_wp2_with (fail)
            rw [← HCQ.out] at HI4
            exact ⟨HKF4.out, ⟨HI4.out, HM4.out⟩, HO4.out⟩
          · simp only [hsv, decide_false, Bool.false_eq_true, if_false] at hst
            have HST2 := Lib.hid hst
            clear hst
            gi_wp2
            exact ⟨HKF.out, ⟨HI2.out.skip (by rw [HST2.out, ← HZZ.out]), HM2.out⟩, HO2.out⟩
  case done =>
    intro D V hD hi hd
    obtain ⟨v, h3, hzz⟩ := hi.1.c3
    obtain ⟨a1, n1, k1, rfl⟩ := hzz.slice
    have c3 : V.cell? ⟨w.heap.size + 1 + 1 + 1, 0, none⟩ = some (.slice a1 n1 k1) := h3.at_ 0
    have c4 := hi.1.c4.at_ 0
    have c5 := hi.1.c5.at_ 0
    have f3 : V.frozen? ⟨w.heap.size + 1 + 1 + 1, 0, none⟩ = false := h3.free 0
    have f4 : V.frozen? ⟨w.heap.size + 1 + 1 + 1 + 1, 0, none⟩ = false := hi.1.c4.free 0
    have f5 : V.frozen? ⟨w.heap.size + 1 + 1 + 1 + 1 + 1, 0, none⟩ = false := hi.1.c5.free 0
    have HII := Lib.hid hi
    have H3 := Lib.hid h3
    have HZ3 := Lib.hid hzz
    have HDD := Lib.hid hd
    clear hi h3 hzz hd hpg
    obtain ⟨pz, hpz⟩ : ∃ pz, pz = prZ l (bzK p l S Y number (allQ (mosts l)).length) := ⟨_, rfl⟩
    obtain ⟨bz, hbz⟩ : ∃ bz, bz = (bzK p l S Y number (allQ (mosts l)).length).isSome := ⟨_, rfl⟩
    rw [← hpz] at c4
    rw [← hbz] at c5
    have HPZ := Lib.hid hpz
    have HBZ := Lib.hid hbz
    clear hpz hbz
    go_wp2
    go_region
    go_wp2
    have o1 := Only.set (w.heap.size + 1 + 1 + 1) 0 V (.slice a1 n1 k1)
    have o2 := Only.set (w.heap.size + 1 + 1 + 1 + 1) 0 (V.setCell ⟨w.heap.size + 1 + 1 + 1, 0, none⟩ (.slice a1 n1 k1)) (.int .i64 pz)
    have o3 := Only.set (w.heap.size + 1 + 1 + 1 + 1 + 1) 0 ((V.setCell ⟨w.heap.size + 1 + 1 + 1, 0, none⟩ (.slice a1 n1 k1)).setCell ⟨w.heap.size + 1 + 1 + 1 + 1, 0, none⟩ (.int .i64 pz)) (.bool bz)
    have hsb := ((HII.out.1.sb.only_new o1 (by omega)).only_new o2 (by omega)).only_new o3 (by omega)
    have l3 := o3.lies (o2.lies (H3.out.set 0 (.slice a1 n1 k1)) (by omega)) (by omega)
    have l4 := o3.lies ((o1.lies HII.out.1.c4 (by omega)).set 0 (.int .i64 pz)) (by omega)
    have l5 := (o2.lies (o1.lies HII.out.1.c5 (by omega)) (by omega)).set 0 (.bool bz)
    have hdd := (o3.block D (by have := HZ.out; omega)).trans ((o2.block D (by have := HZ.out; omega)).trans ((o1.block D (by have := HZ.out; omega)).trans HDD.out))
    have hz6 := HZ3.out.keep (V' := ((V.setCell ⟨w.heap.size + 1 + 1 + 1, 0, none⟩ (.slice a1 n1 k1)).setCell ⟨w.heap.size + 1 + 1 + 1 + 1, 0, none⟩ (.int .i64 pz)).setCell ⟨w.heap.size + 1 + 1 + 1 + 1 + 1, 0, none⟩ (.bool bz)) (by rw [o3.size, o2.size, o1.size]; exact Nat.le_refl _) (fun b cs hb hl => o3.lies (o2.lies (o1.lies hl (by omega)) (by omega)) (by omega))
    generalize ((V.setCell ⟨w.heap.size + 1 + 1 + 1, 0, none⟩ (.slice a1 n1 k1)).setCell ⟨w.heap.size + 1 + 1 + 1 + 1, 0, none⟩ (.int .i64 pz)).setCell ⟨w.heap.size + 1 + 1 + 1 + 1 + 1, 0, none⟩ (.bool bz) = V6 at *
    have hbd : Below V6.heap.size V6 V6.drew := (Below.refl _ _).drew
    have hR : Recs D V6.drew (V6.drew.putObj D (.deferred none)) := Recs.put _ (Nat.le_refl _) (show V6.drew.heap[D]? = _ from hdd) rfl
    refine leave_mark (show V6.drew.heap[D]? = _ from hdd) ⟨_, results_cell3 rfl _ _ _ _ _ _ _ _ _ _ _ rfl rfl rfl ((hR.lies (l3.call hbd)).at_ 0) ((hR.lies (l4.call hbd)).at_ 0) ((hR.lies (l5.call hbd)).at_ 0) Try.underlying23 rfl Try.underlying3 rfl Try.underlying4 rfl, .slice a1 n1 k1, ?_, ?_, ?_⟩
    · rw [← HPZ.out, ← HBZ.out]; rfl
    · exact (hz6.low (by omega)).keep (Nat.le_trans hbd.size hR.size) (fun b cs _ hl => hR.lies (hl.call hbd))
    · exact (hsb.below' hbd).recs hR (by have := HZ.out; omega)
end Go.Proofs.Ytlkdmcdnkoiflaa

/- Cheapest, of what can be asked. -/
namespace Go.Proofs.Ytlkdmcdnkoiflaa
open Go.RowKit Go.Lib

/-- The best purchase. -/
def bestP (p : PlM) (l : List Cr) (S Y : Nat) (number : Int) : Option (List Int) := bestD (fun q => costP l q l.length) (enoughP p S Y number l) (allQ (mosts l))
theorem bzK_all (p : PlM) (l : List Cr) (S Y : Nat) (number : Int) : bzK p l S Y number (allQ (mosts l)).length = bestP p l S Y number := by
  unfold bzK bestP; rw [List.take_length]
def errZ (z : Option (List Int)) : Int := if z.isSome then 0 else 9
/-- What Cheapest hands back. -/
def RetCh (l : List Cr) (z : Option (List Int)) (w : World) (e : Ending) (w' : World) : Prop :=
  ∃ v, e = .returned (.tuple #[v, .int .i64 (prZ l z), .int .i64 (errZ z)]) ∧ SlZ w' w.heap.size z v ∧ Below w.heap.size w w'
theorem SlZ.call {V V' : World} {lo : Nat} {z : Option (List Int)} {v : Value} (h : SlZ V lo z v) (hb : Below V.heap.size V V') : SlZ V' lo z v := h.keep hb.size fun _ _ _ hl => hl.call hb
set_option maxRecDepth 100000 in
set_option maxHeartbeats 2000000 in
theorem Cheapest_ok (p : PlM) (A : Option Addr) (c S Y : Nat) (l : List Cr) (number : Int) (w : World) (hp : p.At w w.heap.size) (hA : Sl w w.heap.size 4 encCr A l) (hno : offL p l (S : Int) number = 0) (hY : p.years = (Y : Int)) :
    Calls Try.prog 41 #[.agg p.cells.toArray, .slice A l.length c, .int .i64 (S : Int), .int .i64 number] w (RetCh l (bestP p l S Y number) w) := by
  obtain ⟨hf, hob, hask⟩ := offL_zero hno
  have hl4 := (offB_zero hob).1
  have hv := fault_zero hf
  have hS : S < 5 := by
    have h1 := ((asked_zero hask).2.1 (S : Int) (by simp)).2
    have := hv.ok.n
    omega
  have l0 : Lies (w.alloc (.cells p.cells.toArray 41)) w.heap.size 41 p.cells.toArray := Lies.fresh _ _ _
  have b0 : Below w.heap.size w (w.alloc (.cells p.cells.toArray 41)) := (Below.refl _ _).alloc (Nat.le_refl _) _
  have hC := checkOffer_any p A c l (S : Int) number _ (hp.below b0 b0.size) ((hA.below b0).more b0.size) (by omega)
  have hN : ∀ W, Below w.heap.size w W → Calls Try.prog 82 #[.agg p.cells.toArray, .slice A l.length c, .int .i64 (S : Int)] W (RetOf p A l.length c (S : Int) Y W) := fun W hb => newOffer_any p A l.length c (S : Int) Y W (hp.below hb hb.size) hv hY
  have hG : ∀ (t : TrM) (mb : Nat) (W : World), Below w.heap.size w W → t.At W W.heap.size → PT p t → t.s.l = p.s.l.map (·.1) → t.g.l.length = Y → (∀ pl (z : Nat), soldUp p t pl z Y = sellsD p.d (·.1) (·.2) pl z Y) → (∀ f, Memo W mb 0 f) →
      Calls Try.prog 84 #[.slice A l.length c, .int .i64 number, .func (.func 83) #[.agg (offC p t A l.length c (S : Int) mb).toArray] #[]] W (RetBs p l S Y number mb W) := fun t mb W hb h1 h2 h3 h4 h5 h6 =>
    best_any p t A c S Y mb l number W (hp.below hb hb.size) h1 hv h2 h3 h4 h5 (h6 _) ((hA.below hb).more hb.size) hS hob
  have hbz := bzK_all p l S Y number
  generalize bestP p l S Y number = z at *
  rw [hno] at hC
  have L0 := Lib.hid l0
  have B0 := Lib.hid b0
  have HC := Lib.hid hC
  have HN := Lib.hid hN
  have HG := Lib.hid hG
  have HBZ := Lib.hid hbz
  clear l0 b0 hC hno hp hA hN hG hv hf hob hask hY hbz
  unfold PlM.cells at HC HN ⊢
  go_enter Try.func41, Try.ntmps41
  cases z
  all_goals
    go_wp2_with (first
      | (refine wpList_load_row (o := ⟨some 13, _, _, _, _, _⟩) ?_ 41 (.tmp 4) ?_ w.heap.size ?_ 41 p.cells.toArray (0, 0) _ L0.out Try.underlying41 rfl size41 ?_; rfl; rfl; rfl)
      | (go_at_call 79; refine HC.out.mono ?_; rintro e w1 ⟨rfl, hb1⟩; have L1 := Lib.hid (L0.out.call hb1); have B1 := Lib.hid (B0.out.trans (hb1.mono B0.out.size)))
      | (refine wpList_load_row (o := ⟨some 24, _, _, _, _, _⟩) ?_ 41 (.tmp 4) ?_ w.heap.size ?_ 41 p.cells.toArray (0, 0) _ L1.out Try.underlying41 rfl size41 ?_; rfl; rfl; rfl)
      | (go_at_call 82; refine (HN.out _ B1.out).mono ?_; rintro e w3 ⟨t, mb, rfl, hh⟩; have HH := Lib.hid hh; clear hh; have B3 := Lib.hid (B1.out.trans (HH.out.2.2.2.2.2.2.2.mono B1.out.size)))
      | (go_at_call 84; refine (HG.out t mb w3 B3.out HH.out.1 HH.out.2.1 HH.out.2.2.1 HH.out.2.2.2.1 HH.out.2.2.2.2.1 HH.out.2.2.2.2.2.1).mono ?_; rintro e w4 ⟨v, he, hz4, hs4⟩; rw [HBZ.out] at he hz4; subst he; have HZ4 := Lib.hid hz4; have HS4 := Lib.hid hs4; clear hz4 hs4))
    have hb4 : Below w.heap.size w w4 := HS4.out.below B3.out (Nat.le_trans B1.out.size HH.out.2.2.2.2.2.2.1) B3.out.size
    go_ret3
  · exact ⟨_, rfl, rfl, hb4⟩
  · exact ⟨_, rfl, HZ4.out.low B3.out.size, hb4⟩
end Go.Proofs.Ytlkdmcdnkoiflaa

/- Crates that are dearer, or fewer (mathematics alone); a crate changed in a row of one's own. -/
namespace Go.Proofs.Ytlkdmcdnkoiflaa
open Go.RowKit Go.Lib

theorem enough_congr {p q : PlM} (h : q.d = p.d) (S Y : Nat) (number : Int) (l : List Cr) (x : List Int) : enoughP q S Y number l x = enoughP p S Y number l x := by
  have hs : q.s.l = p.s.l := congrArg PD.s h
  have hr : q.r.l = p.r.l := congrArg PD.r h
  have ha : roomAt q = roomAt p := by funext a b; unfold roomAt; rw [hs, hr]
  unfold enoughP giveP buyP roomB
  rw [h, hs, ha]
theorem bestP_congr {p q : PlM} (h : q.d = p.d) (l : List Cr) (S Y : Nat) (number : Int) : bestP q l S Y number = bestP p l S Y number := by
  unfold bestP
  rw [show enoughP q S Y number l = enoughP p S Y number l from funext fun x => enough_congr h S Y number l x]
theorem offL_congr {p q : PlM} (h : q.d = p.d) (l : List Cr) (s n : Int) : offL q l s n = offL p l s n := by
  have hs : q.s.l = p.s.l := congrArg PD.s h
  unfold offL askedL
  rw [fault_congr h, hs]
theorem offL_good {p : PlM} {l : List Cr} {S : Nat} {n : Int} (hf : p.fault = 0) (ho : offB p.s.l.length l = 0) (hs : S < p.s.l.length) (h0 : 0 ≤ n) (h1 : n ≤ 10000000) : offL p l (S : Int) n = 0 := by
  have h2 : inB (S : Int) 0 ((p.s.l.length : Int) - 1) = true := inB_iff.2 (by omega)
  have h3 : inB n 0 10000000 = true := inB_iff.2 ⟨h0, h1⟩
  unfold offL askedL
  rw [if_neg (by simpa using hf), if_neg (by simpa using ho), if_neg (by simpa using hf)]
  simp [h2, h3]
/-- The same crates, but dearer or fewer. -/
structure Worse (l x : List Cr) : Prop where
  len : x.length = l.length
  at_ : ∀ (i : Nat) (c d : Cr), l[i]? = some c → x[i]? = some d → d.size = c.size ∧ d.bulbs = c.bulbs ∧ c.price ≤ d.price ∧ d.most ≤ c.most
theorem Worse.refl (l : List Cr) : Worse l l := ⟨rfl, fun i c d h h' => by rw [h] at h'; cases h'; exact ⟨rfl, rfl, Int.le_refl _, Int.le_refl _⟩⟩
theorem Worse.set {l : List Cr} {i : Nat} {c d : Cr} (hc : l[i]? = some c) (h : d.size = c.size ∧ d.bulbs = c.bulbs ∧ c.price ≤ d.price ∧ d.most ≤ c.most) : Worse l (l.set i d) := by
  refine ⟨by simp, fun j a b ha hb => ?_⟩
  rw [List.getElem?_set] at hb
  by_cases e : i = j
  · subst e
    rw [hc] at ha
    cases ha
    have hi := (List.getElem?_eq_some_iff.1 hc).1
    rw [if_pos rfl, if_pos hi] at hb
    cases hb
    exact h
  · rw [if_neg e, ha] at hb
    cases hb
    exact ⟨rfl, rfl, Int.le_refl _, Int.le_refl _⟩
theorem Worse.pick {l x : List Cr} (h : Worse l x) {k : Nat} (hk : k < l.length) : ∃ c d, l[k]? = some c ∧ x[k]? = some d ∧ d.size = c.size ∧ d.bulbs = c.bulbs ∧ c.price ≤ d.price ∧ d.most ≤ c.most := by
  have h1 : l[k]? = some l[k] := by simp [hk]
  have h2 : x[k]? = some (x[k]'(by rw [h.len]; exact hk)) := by simp
  exact ⟨_, _, h1, h2, h.at_ k _ _ h1 h2⟩
theorem Worse.buy {l x : List Cr} (h : Worse l x) (s0 q : List Int) : ∀ k, k ≤ l.length → buyD s0 x q k = buyD s0 l q k
  | 0, _ => rfl
  | k + 1, hk => by
    obtain ⟨c, d, hc, hd, h1, h2, _⟩ := h.pick (k := k) (by omega)
    rw [buyD, buyD, h.buy s0 q k (by omega), at_getD hc, at_getD hd, h1, h2]
theorem Worse.cost {l x : List Cr} (h : Worse l x) {q : List Int} (hq : ∀ i, 0 ≤ q.getD i 0) : ∀ k, k ≤ l.length → costP l q k ≤ costP x q k
  | 0, _ => Int.le_refl _
  | k + 1, hk => by
    obtain ⟨c, d, hc, hd, _, _, h3, _⟩ := h.pick (k := k) (by omega)
    have ih := h.cost hq k (by omega)
    rw [costP, costP, at_getD hc, at_getD hd]
    have := Int.mul_le_mul_of_nonneg_right h3 (hq k)
    omega
theorem enough_worse {p : PlM} {S Y : Nat} {N m : Int} {l x : List Cr} {q : List Int} (h : Worse l x) (hN : N ≤ m) (he : enoughP p S Y m x q = true) : enoughP p S Y N l q = true := by
  have hb : buyP p x q = buyP p l q := by
    unfold buyP
    rw [h.len, h.buy _ q _ (Nat.le_refl _)]
  unfold enoughP giveP at he ⊢
  rw [hb] at he
  simp only [Bool.and_eq_true, decide_eq_true_eq] at he ⊢
  exact ⟨he.1, by omega⟩
theorem mem_worse {l x : List Cr} (h : Worse l x) {q : List Int} (hq : q ∈ allQ (mosts x)) : q ∈ allQ (mosts l) := by
  obtain ⟨h1, h2⟩ := pairedB_iff.1 ((mem_allQ _ _).1 hq)
  refine (mem_allQ _ _).2 (pairedB_iff.2 ⟨by simpa [mosts, h.len] using h1, fun i m n hm hn => ?_⟩)
  have hi : i < l.length := by
    have := (List.getElem?_eq_some_iff.1 hm).1
    simpa [mosts] using this
  obtain ⟨c, d, hc, hd, _, _, _, h4⟩ := h.pick hi
  have e : m = c.most.toNat := by
    have := mosts_at hc
    rw [show (l.map fun c : Cr => c.most.toNat) = mosts l from rfl, hm] at this
    exact Option.some.inj this
  have := inB_iff.1 (h2 i d.most.toNat n (mosts_at hd) hn)
  exact inB_iff.2 (by omega)
theorem allQ_nonneg {ms : List Nat} {q : List Int} (hq : q ∈ allQ ms) (i : Nat) : 0 ≤ q.getD i 0 := by
  obtain ⟨h1, h2⟩ := pairedB_iff.1 ((mem_allQ _ _).1 hq)
  by_cases hi : i < q.length
  · have hx : q[i]? = some q[i] := by simp [hi]
    have hm : ms[i]? = some (ms[i]'(by omega)) := by simp
    rw [at_getD hx]
    exact (inB_iff.1 (h2 i _ _ hm hx)).1
  · simp [List.getD, List.getElem?_eq_none (show q.length ≤ i by omega)]
theorem best_worse {p : PlM} {S Y : Nat} {N m : Int} {l x : List Cr} {y : List Int} (h : Worse l x) (hN : N ≤ m) (hy : bestP p x S Y m = some y) : ∃ z, bestP p l S Y N = some z ∧ costP l z l.length ≤ costP x y x.length := by
  have h1 := best_spec (fun q => costP x q x.length) (enoughP p S Y m x) (allQ (mosts x))
  rw [show bestD (fun q => costP x q x.length) (enoughP p S Y m x) (allQ (mosts x)) = some y from hy] at h1
  obtain ⟨hm, he, _⟩ := h1
  have hm' := mem_worse h hm
  have he' := enough_worse h hN he
  have h2 := best_spec (fun q => costP l q l.length) (enoughP p S Y N l) (allQ (mosts l))
  cases hz : bestD (fun q => costP l q l.length) (enoughP p S Y N l) (allQ (mosts l)) with
  | none =>
    rw [hz] at h2
    have := h2 y hm'
    rw [this] at he'; cases he'
  | some z =>
    rw [hz] at h2
    refine ⟨z, hz, Int.le_trans (h2.2.2 y hm' he') ?_⟩
    rw [h.len]
    exact h.cost (allQ_nonneg hm) _ (Nat.le_refl _)
/-- Of the best: it is a purchase, and enough; no other is and costs less. -/
theorem bestP_spec (p : PlM) (l : List Cr) (S Y : Nat) (number : Int) (hm : ∀ c, c ∈ l → 0 ≤ c.most ∧ c.most ≤ 9) : match bestP p l S Y number with
    | some z => pairedB l z (fun c m => inB m 0 c.most) = true ∧ enoughP p S Y number l z = true ∧ ∀ q, pairedB l q (fun c m => inB m 0 c.most) = true → enoughP p S Y number l q = true → costP l z l.length ≤ costP l q l.length
    | none => ∀ q, pairedB l q (fun c m => inB m 0 c.most) = true → enoughP p S Y number l q = false := by
  have hmem : ∀ q, pairedB l q (fun c m => inB m 0 c.most) = true → q ∈ allQ (mosts l) := fun q hq => by
    obtain ⟨h1, h2⟩ := pairedB_iff.1 hq
    refine (mem_allQ _ _).2 (pairedB_iff.2 ⟨by simpa [mosts] using h1, fun i m n hm' hn => ?_⟩)
    have hi : i < l.length := by
      have := (List.getElem?_eq_some_iff.1 hm').1
      simpa [mosts] using this
    have hc : l[i]? = some l[i] := by simp [hi]
    have e : m = l[i].most.toNat := by
      have := mosts_at hc
      rw [show (l.map fun c : Cr => c.most.toNat) = mosts l from rfl, hm'] at this
      exact Option.some.inj this
    have h3 := inB_iff.1 (h2 i _ n hc hn)
    exact inB_iff.2 (by omega)
  have h := best_spec (fun q => costP l q l.length) (enoughP p S Y number l) (allQ (mosts l))
  unfold bestP
  cases hz : bestD (fun q => costP l q l.length) (enoughP p S Y number l) (allQ (mosts l)) with
  | none =>
    rw [hz] at h
    exact fun q hq => h q (hmem q hq)
  | some z =>
    rw [hz] at h
    exact ⟨mosts_pair hm h.1, h.2.1, fun q hq he => h.2.2 q (hmem q hq) he⟩
theorem offB_set {n i : Nat} {l : List Cr} {d : Cr} (h : offB n l = 0) (hd : d.okB n = true) : offB n (l.set i d) = 0 := by
  obtain ⟨h1, h2⟩ := offB_zero h
  have h3 : (l.set i d).all (Cr.okB n) = true := List.all_eq_true.2 fun c hc => by
    rcases List.mem_or_eq_of_mem_set hc with h | h
    · exact h2 c h
    · rw [h]; exact hd
  unfold offB
  rw [List.length_set, if_neg (by omega), h3, if_pos rfl]
/-- A crate of a row of one's own: its cells, and what the row reads as when one of them is set. -/
theorem own_crate {w : World} {base : Nat} {T : TypeId} {v : Value} {l : List Cr} (h : w.ownsRow base T 4 v l.length (l.flatMap encCr)) {i : Nat} {c : Cr} (hc : l[i]? = some c) :
    ∃ g cap cs, v = .slice (some ⟨g, 0, none⟩) l.length cap ∧ base ≤ g ∧ Lies w g T cs ∧ w.cell? ⟨g, i * 4 + 2, none⟩ = some (.int .i64 c.price) ∧ w.cell? ⟨g, i * 4 + 3, none⟩ = some (.int .i64 c.most) ∧
      ∀ (j : Nat) (u : Value) (d : Cr), j < 4 → (encCr c).set j u = encCr d → Sl (w.setCell ⟨g, i * 4 + j, none⟩ u) w.heap.size 4 encCr (some ⟨g, 0, none⟩) (l.set i d) := by
  have hne : l ≠ [] := by rintro rfl; simp at hc
  obtain ⟨_, h1⟩ := id h
  rcases h1 with ⟨_, h0⟩ | ⟨g, cap, cur, rfl, hb, hl, hcap, _, hsz, htk⟩
  · exact absurd (List.length_eq_zero_iff.1 h0) hne
  have hS : Sl w w.heap.size 4 encCr (some ⟨g, 0, none⟩) l := sl_of_own (fun _ => rfl) h
  obtain ⟨b, off, e, hbl, hcell⟩ := hS hne
  obtain ⟨rfl, rfl⟩ : g = b ∧ 0 = off := by
    have := Option.some.inj e
    injection this with e1 e2 e3
    exact ⟨e1, e2⟩
  have hLies : Lies w g T cur := hl
  refine ⟨g, cap, cur, rfl, hb, hLies, ?_, ?_, fun j u d hj he hn => ⟨g, 0, rfl, hbl, fun k x hx m y hy => ?_⟩⟩
  · have := hcell i c hc 2 _ rfl
    rwa [Nat.zero_add] at this
  · have := hcell i c hc 3 _ rfl
    rwa [Nat.zero_add] at this
  · have hm4 : m < 4 := by
      have := (List.getElem?_eq_some_iff.1 hy).1
      simpa [encCr] using this
    have hset := hLies.set (i * 4 + j) u
    have hold : ∀ n y, w.cell? ⟨g, n, none⟩ = some y → n ≠ i * 4 + j → (w.setCell ⟨g, i * 4 + j, none⟩ u).cell? ⟨g, n, none⟩ = some y := fun n y hn' hne' => by
      rw [hset.at_, Array.getElem?_setIfInBounds_ne (Ne.symm hne'), ← hLies.at_]; exact hn'
    rw [Nat.zero_add]
    rw [List.getElem?_set] at hx
    by_cases ek : i = k
    · subst ek
      have hi := (List.getElem?_eq_some_iff.1 hc).1
      rw [if_pos rfl, if_pos hi] at hx
      cases hx
      rw [← he, List.getElem?_set] at hy
      by_cases em : j = m
      · subst em
        rw [if_pos rfl, if_pos (by simpa [encCr] using hj)] at hy
        cases hy
        have hin : i * 4 + j < cur.size := by
          rw [hsz]
          have : (i + 1) * 4 ≤ cap * 4 := Nat.mul_le_mul_right 4 (by omega)
          omega
        rw [hset.at_]
        simp [hin]
      · rw [if_neg em] at hy
        have := hcell i c hc m y hy
        rw [Nat.zero_add] at this
        exact hold _ _ this (by omega)
    · rw [if_neg ek] at hx
      have := hcell k x hx m y hy
      rw [Nat.zero_add] at this
      exact hold _ _ this (by omega)
end Go.Proofs.Ytlkdmcdnkoiflaa

/- StockCrates: its parts as contracts; plans that are not ready. -/
namespace Go.Proofs.Ytlkdmcdnkoiflaa
open Go.RowKit Go.Lib

theorem wpList_load_rowC {P : Program} {ops : Array Oper} {rest : List Oper} {o : Oper} {a : Act} {w : World} {Q : Exit → Act → World → Prop} (hw : Region.wanted o (yielded ops a.tmps) = true) (ty : TypeId) (x : Operand) (ho : o.op = .load ty x)
    (g : Nat) (hx : a.eval x = .pointer (some ⟨g, 0, none⟩)) (t : TypeId) (cs : Array Value) (fr : Nat × Nat) (d : TypeDesc) (hg : w.heap[g]? = some (.cells cs t fr))
    (hu : P.underlying ty = some d) (hd : (match d with | .struct _ | .array _ _ => true | _ => false) = true) (hi : (P.info? ty).map (·.size) = some cs.size)
    (h : wpList P ops Q rest (a.put o.dst (.agg cs)) w) : wpList P ops Q (o :: rest) a w :=
  wpList_step fun K hK => by
    rw [if_pos hw]
    exact wp_load_row ty x ho g hx t cs fr d hg hu hd hi (hK _ _ h)
/-- What Enough hands back, of what can be asked. -/
def enV (p : PlM) (l : List Cr) (S Y : Nat) (number : Int) (y : List Int) : Value :=
  .tuple #[.bool (pairedB l y (fun c m => inB m 0 c.most) && enoughP p S Y number l y), .int .i64 (if pairedB l y (fun c m => inB m 0 c.most) then 0 else 2)]
theorem Enough_all (q p : PlM) (hd : q.d = p.d) (A A' : Option Addr) (c c' S Y : Nat) (l : List Cr) (y : List Int) (number : Int) (w : World) (hp : q.At w w.heap.size) (hA : Sl w w.heap.size 4 encCr A l) (hA' : Sl w w.heap.size 1 encI A' y) (hno : offL p l (S : Int) number = 0) (hY : p.years = (Y : Int)) :
    Calls Try.prog 38 #[.agg q.cells.toArray, .slice A l.length c, .slice A' y.length c', .int .i64 (S : Int), .int .i64 number] w fun e w' => e = .returned (enV p l S Y number y) ∧ Below w.heap.size w w' := by
  have hno' : offL q l (S : Int) number = 0 := by rw [offL_congr hd]; exact hno
  unfold enV
  cases hb : pairedB l y (fun c m => inB m 0 c.most) with
  | true =>
    have h := Enough_ok q A A' c c' S Y l y number w hp hA hA' hno' hb (by rw [← hY]; show q.d.years = _; rw [hd]; rfl)
    rw [enough_congr hd] at h
    exact h.mono fun e w' h => ⟨by rw [h.1]; rfl, h.2⟩
  | false => exact (Enough_not q A A' c c' l y (S : Int) number w hp hA hA' hno' hb).mono fun e w' h => ⟨by rw [h.1]; rfl, h.2⟩
theorem Cheapest_all (q p : PlM) (hd : q.d = p.d) (A : Option Addr) (c S Y : Nat) (l : List Cr) (number : Int) (w : World) (hp : q.At w w.heap.size) (hA : Sl w w.heap.size 4 encCr A l) (hno : offL p l (S : Int) number = 0) (hY : p.years = (Y : Int)) :
    Calls Try.prog 41 #[.agg q.cells.toArray, .slice A l.length c, .int .i64 (S : Int), .int .i64 number] w (RetCh l (bestP p l S Y number) w) := by
  have hno' : offL q l (S : Int) number = 0 := by rw [offL_congr hd]; exact hno
  have h := Cheapest_ok q A c S Y l number w hp hA hno' (by rw [← hY]; show q.d.years = _; rw [hd]; rfl)
  rwa [bestP_congr hd] at h
/-- May StockCrates go on? -/
def cratesB (p : PlM) (l : List Cr) (q : List Int) : Bool := readyB p && decide (l.length ≤ 4) && decide (offB p.s.l.length l = 0) && decide (q.length ≤ 8)
set_option maxRecDepth 100000 in
set_option maxHeartbeats 2000000 in
theorem Crates_no (p : PlM) (l : Sv Cr) (q : Sv Int) (s n wh at_ by_ : Nat) (w : World) (hp : p.Lay w w.heap.size) (hA : Sl w w.heap.size 4 encCr l.A l.l) (hno : cratesB p l.l q.l = false) :
    Calls Try.prog 14 #[.agg p.cells.toArray, .slice l.A l.l.length l.c, .slice q.A q.l.length q.c, .int .u8 s, .int .u32 n, .int .u8 wh, .int .u8 at_, .int .u16 by_] w fun e w' => e = .returned (.bool true) ∧ Below w.heap.size w w' := by
  have l0 : Lies (w.alloc (.cells p.cells.toArray 28)) w.heap.size 28 p.cells.toArray := Lies.fresh _ _ _
  have b0 : Below w.heap.size w (w.alloc (.cells p.cells.toArray 28)) := (Below.refl _ _).alloc (Nat.le_refl _) _
  have hR := ready_any p _ (hp.below b0 b0.size)
  have hC : readyB p = true → l.l.length ≤ 4 → ∀ W, Below w.heap.size w W → Calls Try.prog 42 #[.agg p.cells.toArray, .slice l.A l.l.length l.c] W fun e w' => e = .returned (.int .i64 (offB p.s.l.length l.l)) ∧ Below W.heap.size W w' := fun hr hl W hb =>
    CratesFault_any p l.A l.c l.l W ((hA.below hb).more hb.size) (by have := (fault_zero (ready_iff.1 hr).2).ok.n; omega) (by omega)
  have L0 := Lib.hid l0
  have B0 := Lib.hid b0
  have HC := Lib.hid hC
  unfold cratesB at hno
  cases hr : readyB p with
  | false =>
    rw [hr] at hR
    have HR := Lib.hid hR
    clear l0 b0 hR hC hp hr hA hno
    unfold PlM.cells at HR ⊢
    go_enter Try.func14, Try.ntmps14
    go_wp2_with (first
      | (refine wpList_load_row (o := ⟨some 32, _, _, _, _, _⟩) ?_ 28 (.tmp 8) ?_ w.heap.size ?_ 28 p.cells.toArray (0, 0) _ L0.out Try.underlying28 rfl size28 ?_; rfl; rfl; rfl)
      | (go_at_call 51; refine HR.out.mono ?_; rintro e w1 ⟨rfl, hb1⟩)
      | (go_at_call 19; refine (awake_any _).mono ?_; rintro e w2 ⟨rfl, hb2⟩))
    go_ret
    have hx := B0.out.trans (hb1.mono B0.out.size)
    exact ⟨rfl, hx.trans (hb2.mono hx.size)⟩
  | true =>
    rw [hr] at hR hno
    have HR := Lib.hid hR
    have HC1 := Lib.hid (HC.out hr)
    clear l0 b0 hR hC hp hr hA HC
    by_cases hl : l.l.length ≤ 4
    · have HC2 := Lib.hid (HC1.out hl)
      have hlz : decide ((4 : Int) < (l.l.length : Int)) = false := decide_eq_false (by omega)
      rw [decide_eq_true hl] at hno
      clear hl HC1
      obtain ⟨ob, hob⟩ : ∃ ob, offB p.s.l.length l.l = ob := ⟨_, rfl⟩
      rw [hob] at HC2 hno
      clear hob
      by_cases ho : ob = 0
      · subst ho
        have hq : 8 < q.l.length := by
          simp only [Bool.and_self, decide_true, Bool.true_and, decide_eq_false_iff_not] at hno
          omega
        have hqz : (8 : Int) < (q.l.length : Int) := by omega
        clear hno hq
        unfold PlM.cells at HR HC2 ⊢
        go_enter Try.func14, Try.ntmps14
        go_wp2_with (first
          | (refine wpList_load_row (o := ⟨some 32, _, _, _, _, _⟩) ?_ 28 (.tmp 8) ?_ w.heap.size ?_ 28 p.cells.toArray (0, 0) _ L0.out Try.underlying28 rfl size28 ?_; rfl; rfl; rfl)
          | (go_at_call 51; refine HR.out.mono ?_; rintro e w1 ⟨rfl, hb1⟩; have L1 := Lib.hid (L0.out.call hb1); have B1 := Lib.hid (B0.out.trans (hb1.mono B0.out.size)))
          | (refine wpList_load_rowC (o := ⟨some 41, _, _, _, _, _⟩) ?_ 28 (.tmp 8) ?_ w.heap.size ?_ 28 p.cells.toArray (0, 0) _ L1.out Try.underlying28 rfl size28 ?_; kernel_rfl; rfl; rfl)
          | (go_at_call 42; refine (HC2.out _ B1.out).mono ?_; rintro e w3 ⟨rfl, hb3⟩; have B3 := Lib.hid (B1.out.trans (hb3.mono B1.out.size)))
          | (go_at_call 19; refine (awake_any _).mono ?_; rintro e w2 ⟨rfl, hb2⟩))
        go_ret
        exact ⟨rfl, B3.out.trans (hb2.mono B3.out.size)⟩
      · have hon : (ob != 0) = true := by simpa using ho
        clear hno ho
        unfold PlM.cells at HR HC2 ⊢
        go_enter Try.func14, Try.ntmps14
        go_wp2_with (first
          | (refine wpList_load_row (o := ⟨some 32, _, _, _, _, _⟩) ?_ 28 (.tmp 8) ?_ w.heap.size ?_ 28 p.cells.toArray (0, 0) _ L0.out Try.underlying28 rfl size28 ?_; rfl; rfl; rfl)
          | (go_at_call 51; refine HR.out.mono ?_; rintro e w1 ⟨rfl, hb1⟩; have L1 := Lib.hid (L0.out.call hb1); have B1 := Lib.hid (B0.out.trans (hb1.mono B0.out.size)))
          | (refine wpList_load_rowC (o := ⟨some 41, _, _, _, _, _⟩) ?_ 28 (.tmp 8) ?_ w.heap.size ?_ 28 p.cells.toArray (0, 0) _ L1.out Try.underlying28 rfl size28 ?_; kernel_rfl; rfl; rfl)
          | (go_at_call 42; refine (HC2.out _ B1.out).mono ?_; rintro e w3 ⟨rfl, hb3⟩; have B3 := Lib.hid (B1.out.trans (hb3.mono B1.out.size)))
          | (go_at_call 19; refine (awake_any _).mono ?_; rintro e w2 ⟨rfl, hb2⟩))
        go_ret
        exact ⟨rfl, B3.out.trans (hb2.mono B3.out.size)⟩
    · have hlz : (4 : Int) < (l.l.length : Int) := by omega
      clear hl hno HC1
      unfold PlM.cells at HR ⊢
      go_enter Try.func14, Try.ntmps14
      go_wp2_with (first
        | (refine wpList_load_row (o := ⟨some 32, _, _, _, _, _⟩) ?_ 28 (.tmp 8) ?_ w.heap.size ?_ 28 p.cells.toArray (0, 0) _ L0.out Try.underlying28 rfl size28 ?_; rfl; rfl; rfl)
        | (go_at_call 51; refine HR.out.mono ?_; rintro e w1 ⟨rfl, hb1⟩)
        | (go_at_call 19; refine (awake_any _).mono ?_; rintro e w2 ⟨rfl, hb2⟩))
      go_ret
      have hx := B0.out.trans (hb1.mono B0.out.size)
      exact ⟨rfl, hx.trans (hb2.mono hx.size)⟩
end Go.Proofs.Ytlkdmcdnkoiflaa

/- StockCrates: its walk. -/
namespace Go.Proofs.Ytlkdmcdnkoiflaa
open Go.RowKit Go.Lib

theorem infoRC : (Try.prog.info? 85).map (fun i => (i.zero, i.size, i.bytes)) = some (some (.agg #[.int .i64 0, .int .i64 0, .int .i64 0, .int .i64 0]), 4, 32) := by kernel_rfl
theorem errZ_none : errZ none = 9 := rfl
theorem prZ_none (l : List Cr) : prZ l none = 0 := rfl
theorem crates_ok {p : PlM} {l : List Cr} {q : List Int} (h : cratesB p l q = true) : readyB p = true ∧ l.length ≤ 4 ∧ offB p.s.l.length l = 0 ∧ q.length ≤ 8 := by
  unfold cratesB at h
  simp only [Bool.and_eq_true, decide_eq_true_eq] at h
  exact ⟨h.1.1.1, h.1.1.2, h.1.2, h.2⟩
set_option maxRecDepth 100000 in
set_option maxHeartbeats 4000000 in
theorem Crates_yes (p : PlM) (l : Sv Cr) (q : Sv Int) (s n wh at_ by_ : Nat) (w : World) (hp : p.Lay w w.heap.size) (nA : l.A = none → l.l.length = 0 ∧ l.c = 0) (hA : Sl w w.heap.size 4 encCr l.A l.l) (nQ : q.A = none → q.l.length = 0 ∧ q.c = 0) (hQ : Sl w w.heap.size 1 encI q.A q.l)
    (hok : cratesB p l.l q.l = true) (hs : s ≤ 255) (hn : n ≤ 4294967295) (hwh : wh ≤ 255) (hat' : at_ ≤ 255) (hby : by_ ≤ 65535) :
    Calls Try.prog 14 #[.agg p.cells.toArray, .slice l.A l.l.length l.c, .slice q.A q.l.length q.c, .int .u8 s, .int .u32 n, .int .u8 wh, .int .u8 at_, .int .u16 by_] w fun e w' => e = .returned (.bool true) ∧ Below w.heap.size w w' := by
  obtain ⟨hr, hl4, ho, hq8⟩ := crates_ok hok
  obtain ⟨ht, hf⟩ := ready_iff.1 hr
  have hat := hp.at ht
  have hv := fault_zero hf
  obtain ⟨Y, hY⟩ : ∃ Y : Nat, p.years = (Y : Int) := ⟨p.years.toNat, years_nat hv⟩
  have hn5 := hv.ok.n
  have hn1 := hv.ok.one
  obtain ⟨S, hS, hSl⟩ : ∃ S : Nat, (s : Int) % (p.s.l.length : Int) = (S : Int) ∧ S < p.s.l.length := ⟨s % p.s.l.length, by rw [Int.natCast_emod], Nat.mod_lt _ (by omega)⟩
  obtain ⟨N, hN, hNl⟩ : ∃ N : Nat, (n : Int) % 10000001 = (N : Int) ∧ N ≤ 10000000 := ⟨n % 10000001, by omega, by omega⟩
  have hms : ∀ c, c ∈ l.l → 0 ≤ c.most ∧ c.most ≤ 9 := fun c hc => (Cr.ok_iff.1 ((offB_zero ho).2 c hc)).2.2.2
  have l0 : Lies (w.alloc (.cells p.cells.toArray 28)) w.heap.size 28 p.cells.toArray := Lies.fresh _ _ _
  have b0 : Below w.heap.size w (w.alloc (.cells p.cells.toArray 28)) := (Below.refl _ _).alloc (Nat.le_refl _) _
  have hR := ready_any p _ (hp.below b0 b0.size)
  rw [hr] at hR
  have hC : ∀ W, Below w.heap.size w W → Calls Try.prog 42 #[.agg p.cells.toArray, .slice l.A l.l.length l.c] W fun e w' => e = .returned (.int .i64 0) ∧ Below W.heap.size W w' := fun W hb => by
    have := CratesFault_any p l.A l.c l.l W ((hA.below hb).more hb.size) (by omega) (by omega)
    rwa [ho] at this
  have hP : ∀ W, Below w.heap.size w W → Calls Try.prog 21 #[.agg p.cells.toArray] W (RetP p W) := fun W hb => Plan_any p W (hat.below hb hb.size) hp.nr hp.ne hp.nk
  have hCL : ∀ (A : Option Addr) (c : Nat) (x : List Cr) (W : World), x.length ≤ 4 → Sl W W.heap.size 4 encCr A x → Calls Try.prog 39 #[.slice A x.length c] W fun e w' => ∃ A' c', e = .returned (.slice A' x.length c') ∧ SlT w' w'.heap.size 4 93 encCr A' x ∧ Below W.heap.size W w' := fun A c x W hx h => Crates_any A c x W h (by omega)
  have hLI : ∀ (A : Option Addr) (c : Nat) (y : List Int) (W : World), y.length ≤ 8 → Sl W W.heap.size 1 encI A y → (A = none → y.length = 0 ∧ c = 0) → Calls Try.prog 40 #[.slice A y.length c] W fun e w' => ∃ A' c', e = .returned (.slice A' y.length c') ∧ Sl w' w'.heap.size 1 encI A' y ∧ Below W.heap.size W w' := fun A c y W hy h hn =>
    (lawList_own A c y W h (by omega) hn).mono fun e w' ⟨A', c', h1, h2, h3⟩ => ⟨A', c', h1, sl_of_own (fun _ => rfl) h2, h3⟩
  have hCH : ∀ (pq : PlM) (A : Option Addr) (c : Nat) (x : List Cr) (m : Int) (W : World), pq.d = p.d → pq.At W W.heap.size → Sl W W.heap.size 4 encCr A x → offB p.s.l.length x = 0 → 0 ≤ m → m ≤ 10000000 → Calls Try.prog 41 #[.agg pq.cells.toArray, .slice A x.length c, .int .i64 (S : Int), .int .i64 m] W (RetCh x (bestP p x S Y m) W) := fun pq A c x m W hd ha hx hox h0 h1 =>
    Cheapest_all pq p hd A c S Y x m W ha hx (offL_good hf hox hSl h0 h1) hY
  have hEN : ∀ (pq : PlM) (A A' : Option Addr) (c c' : Nat) (y : List Int) (W : World), pq.d = p.d → pq.At W W.heap.size → Sl W W.heap.size 4 encCr A l.l → Sl W W.heap.size 1 encI A' y → Calls Try.prog 38 #[.agg pq.cells.toArray, .slice A l.l.length c, .slice A' y.length c', .int .i64 (S : Int), .int .i64 (N : Int)] W fun e w' => e = .returned (enV p l.l S Y N y) ∧ Below W.heap.size W w' := fun pq A A' c c' y W hd ha hx hy =>
    Enough_all pq p hd A A' c c' S Y l.l y N W ha hx hy (offL_good hf ho hSl (by omega) (by omega)) hY
  have hsp := bestP_spec p l.l S Y N hms
  have hbw := fun (x : List Cr) (m : Int) (y : List Int) (h : Worse l.l x) (hm : (N : Int) ≤ m) (hy : bestP p x S Y m = some y) => best_worse (p := p) (S := S) (Y := Y) h hm hy
  generalize hzz : bestP p l.l S Y (N : Int) = z at *
  obtain ⟨pb, hpb⟩ : ∃ pb, pairedB l.l q.l (fun c m => inB m 0 c.most) = pb := ⟨_, rfl⟩
  obtain ⟨eb, heb⟩ : ∃ eb, enoughP p S Y (N : Int) l.l q.l = eb := ⟨_, rfl⟩
  have hqz' : pb = true → eb = true → ∃ z0, z = some z0 ∧ costP l.l z0 l.l.length ≤ costP l.l q.l l.l.length := fun h1 h2 => by
    cases z with
    | none => have := hsp q.l (by rw [hpb, h1]); rw [heb, h2] at this; cases this
    | some z0 => exact ⟨z0, rfl, hsp.2.2 q.l (by rw [hpb, h1]) (by rw [heb, h2])⟩
  have hpf : pb = true → PurF l.l q.l := fun h => purF_of ho (by rw [hpb, h])
  have hzf : ∀ z0, z = some z0 → pairedB l.l z0 (fun c m => inB m 0 c.most) = true ∧ enoughP p S Y (N : Int) l.l z0 = true ∧ z0.length ≤ 8 := fun z0 h => by
    subst h
    have := (pairedB_iff.1 hsp.1).1
    exact ⟨hsp.1, hsp.2.1, by omega⟩
  have hEQ : ∀ (pq : PlM) (A A' : Option Addr) (c c' : Nat) (W : World), pq.d = p.d → pq.At W W.heap.size → Sl W W.heap.size 4 encCr A l.l → Sl W W.heap.size 1 encI A' q.l → Calls Try.prog 38 #[.agg pq.cells.toArray, .slice A l.l.length c, .slice A' q.l.length c', .int .i64 (S : Int), .int .i64 (N : Int)] W fun e w' => ∃ fe : Int, e = .returned (.tuple #[.bool (pb && eb), .int .i64 fe]) ∧ (pb = true → fe = 0) ∧ (pb = false → fe = 2) ∧ Below W.heap.size W w' := fun pq A A' c c' W hd ha hx hy =>
    (hEN pq A A' c c' q.l W hd ha hx hy).mono fun e w' h => ⟨if pb then 0 else 2, by rw [h.1]; unfold enV; rw [hpb, heb], fun h => by rw [h]; rfl, fun h => by rw [h]; rfl, h.2⟩
  have hEZ : ∀ (z0 : List Int), z = some z0 → ∀ (pq : PlM) (A A' : Option Addr) (c c' : Nat) (W : World), pq.d = p.d → pq.At W W.heap.size → Sl W W.heap.size 4 encCr A l.l → Sl W W.heap.size 1 encI A' z0 → Calls Try.prog 38 #[.agg pq.cells.toArray, .slice A l.l.length c, .slice A' z0.length c', .int .i64 (S : Int), .int .i64 (N : Int)] W fun e w' => e = .returned (.tuple #[.bool true, .int .i64 0]) ∧ Below W.heap.size W w' := fun z0 hz0 pq A A' c c' W hd ha hx hy =>
    (hEN pq A A' c c' z0 W hd ha hx hy).mono fun e w' h => ⟨by rw [h.1]; unfold enV; rw [(hzf z0 hz0).1, (hzf z0 hz0).2.1]; rfl, h.2⟩
  have hPR : ∀ (A A' : Option Addr) (c c' : Nat) (y : List Int) (W : World), Sl W W.heap.size 4 encCr A l.l → Sl W W.heap.size 1 encI A' y → pairedB l.l y (fun c m => inB m 0 c.most) = true → Calls Try.prog 47 #[.slice A l.l.length c, .slice A' y.length c'] W fun e w' => e = .returned (.int .i64 (costP l.l y l.l.length)) ∧ Below W.heap.size W w' := fun A A' c c' y W hx hy hp =>
    Price_any A A' c c' l.l y W hx hy (purF_of ho hp)
  have hIP : ∀ (z0 : List Int), z = some z0 → ∀ (A A' : Option Addr) (c c' : Nat) (W : World), Sl W W.heap.size 4 encCr A l.l → Sl W W.heap.size 1 encI A' z0 → Calls Try.prog 43 #[.slice A l.l.length c, .slice A' z0.length c'] W fun e w' => e = .returned (.bool true) ∧ Below W.heap.size W w' := fun z0 hz0 A A' c c' W hx hy => by
    have := IsPurchase_any A A' c c' l.l z0 W hx hy (by omega) (by have := (hzf z0 hz0).2.2; omega)
    rwa [(hzf z0 hz0).1] at this
  have HIP := Lib.hid hIP
  have HZZ := Lib.hid hzz
  have HPB := Lib.hid hpb
  have HQZ := Lib.hid hqz'
  have HZF := Lib.hid hzf
  have HBW := Lib.hid hbw
  have HEQ := Lib.hid hEQ
  have HEZ := Lib.hid hEZ
  have HPR := Lib.hid hPR
  have L0 := Lib.hid l0
  have B0 := Lib.hid b0
  have HR := Lib.hid hR
  have HC := Lib.hid hC
  have HPL := Lib.hid hP
  have HCL := Lib.hid hCL
  have HLI := Lib.hid hLI
  have HCH := Lib.hid hCH
  have HS := Lib.hid hS
  have HN := Lib.hid hN
  have HA := Lib.hid hA
  have HQ := Lib.hid hQ
  have HNA := Lib.hid nA
  have HNQ := Lib.hid nQ
  have HO := Lib.hid ho
  have HL4 := Lib.hid hl4
  have HQ8 := Lib.hid hq8
  have HMS := Lib.hid hms
  have hlz : decide ((4 : Int) < (l.l.length : Int)) = false := decide_eq_false (by omega)
  have hqz : decide ((8 : Int) < (q.l.length : Int)) = false := decide_eq_false (by omega)
  have hn0 : (0 : Int) < (p.s.l.length : Int) := by omega
  clear hsp hbw hzz hpb heb hqz' hpf hzf hEQ hEZ hPR hIP l0 b0 hR hC hP hCL hLI hCH hEN hS hN hA hQ nA nQ ho hl4 hq8 hms hp hok hr ht hf hat hv hY hn5 hn1
  unfold PlM.cells at HR ⊢
  go_enter Try.func14, Try.ntmps14
  go_upto_region 3 with (first
    | (refine wpList_load_row (o := ⟨some 32, _, _, _, _, _⟩) ?_ 28 (.tmp 8) ?_ w.heap.size ?_ 28 p.cells.toArray (0, 0) _ L0.out Try.underlying28 rfl size28 ?_; rfl; rfl; rfl)
    | (go_at_call 51; refine HR.out.mono ?_; rintro e w1 ⟨rfl, hb1⟩; have L1 := Lib.hid (L0.out.call hb1); have B1 := Lib.hid (B0.out.trans (hb1.mono B0.out.size)))
    | (refine wpList_load_rowC (o := ⟨some 41, _, _, _, _, _⟩) ?_ 28 (.tmp 8) ?_ w.heap.size ?_ 28 p.cells.toArray (0, 0) _ L1.out Try.underlying28 rfl size28 ?_; kernel_rfl; rfl; rfl)
    | (go_at_call 42; refine (HC.out _ B1.out).mono ?_; rintro e w3 ⟨rfl, hb3⟩; have L3 := Lib.hid (L1.out.call hb3); have B3 := Lib.hid (B1.out.trans (hb3.mono B1.out.size)); have r0 : w3.cell? ⟨w.heap.size, 0, none⟩ = some (.slice p.s.A p.s.l.length p.s.c) := L3.out.at_ 0))
  go_upto_region 4 with (fail)
  simp only [HS.out, HN.out]
  clear r0 L1 B1 hb1 hb3 L0 B0 HR HC hlz hqz hn0
  go_upto_region 5 with (first
    | (refine wpList_load_row (o := ⟨some 62, _, _, _, _, _⟩) ?_ 28 (.tmp 8) ?_ w.heap.size ?_ 28 p.cells.toArray (0, 0) _ L3.out Try.underlying28 rfl size28 ?_; rfl; rfl; rfl)
    | (go_at_call 21; refine (HPL.out _ B3.out).mono ?_; rintro e w4 ⟨pq, rfl, hqd, hqa, hb4⟩; have B4 := Lib.hid (B3.out.trans (hb4.mono B3.out.size)))
    | (go_at_call 39; refine (HCL.out l.A l.c l.l _ HL4.out ((HA.out.below B4.out).more B4.out.size)).mono ?_; rintro e w5 ⟨A5, c5, rfl, hs5, hb5⟩)
    | (go_at_call 41; refine (HCH.out pq A5 c5 l.l N w5 hqd (hqa.below hb5 hb5.size) hs5.sl HO.out (by omega) (by omega)).mono ?_; rintro e w6 ⟨v6, rfl, hz6, hb6⟩))
  rw [HZZ.out] at hz6 ⊢
  have hd6 : Below w3.heap.size w3 w6 := hb4.trans ((hb5.trans (hb6.mono hb5.size)).mono hb4.size)
  have L6 := Lib.hid (L3.out.call hd6)
  have B6 := Lib.hid (B3.out.trans (hd6.mono B3.out.size))
  have HZ6 := Lib.hid hz6
  clear hd6 hz6 hb4 hb5 hb6 hqd hqa hs5 B4 L3 B3
  go_upto_if 85 with (first
    | (refine wpList_load_row (o := ⟨some 73, _, _, _, _, _⟩) ?_ 28 (.tmp 8) ?_ w.heap.size ?_ 28 p.cells.toArray (0, 0) _ L6.out Try.underlying28 rfl size28 ?_; rfl; rfl; rfl)
    | (go_at_call 21; refine (HPL.out _ B6.out).mono ?_; rintro e w7 ⟨pq, rfl, hqd, hqa, hb7⟩; have B7 := Lib.hid (B6.out.trans (hb7.mono B6.out.size)))
    | (go_at_call 39; refine (HCL.out l.A l.c l.l _ HL4.out ((HA.out.below B7.out).more B7.out.size)).mono ?_; rintro e w8 ⟨A8, c8, rfl, hs8, hb8⟩; have B8 := Lib.hid (B7.out.trans (hb8.mono B7.out.size)))
    | (go_at_call 40; refine (HLI.out q.A q.c q.l _ HQ8.out ((HQ.out.below B8.out).more B8.out.size) HNQ.out).mono ?_; rintro e w9 ⟨A9, c9, rfl, hs9, hb9⟩)
    | (go_at_call 38; refine (HEQ.out pq A8 A9 c8 c9 w9 hqd ((hqa.below hb8 hb8.size).below hb9 hb9.size) (hs8.call hb9).sl hs9).mono ?_; rintro e w10 ⟨fe, rfl, hf0, hf2, hb10⟩))
  have hd10 : Below w6.heap.size w6 w10 := hb7.trans ((hb8.trans ((hb9.trans (hb10.mono hb9.size)).mono hb8.size)).mono hb7.size)
  have L10 := Lib.hid (L6.out.call hd10)
  have B10 := Lib.hid (B6.out.trans (hd10.mono B6.out.size))
  have HZ10 := Lib.hid (HZ6.out.call hd10)
  have HF0 := Lib.hid hf0
  have HF2 := Lib.hid hf2
  clear hd10 hb7 hb8 hb9 hb10 hqd hqa hs8 hs9 B7 B8 L6 B6 HZ6 HEQ hf0 hf2
  go_cut [24, 25] from 86 to 116 (fun _ _ wx => Aside (Below w10.heap.size w10 wx))
  case first =>
    cases z with
    | none =>
      simp only [errZ, prZ, Option.isSome_none, Bool.false_eq_true, if_false]
      go_wp2
      go_meet
      case rel => exact Below.refl _ _
    | some z0 =>
      simp only [errZ, prZ, Option.isSome_some, if_true]
      obtain ⟨A6, c6, rfl, hnil, hw6⟩ := HZ10.out
      have HNZ := Lib.hid hnil
      have HW6 := Lib.hid hw6.sl
      have H8 := Lib.hid (HZF.out z0 rfl)
      clear hnil hw6
      go_wp2_with (first
        | (refine wpList_load_row (o := ⟨some 87, _, _, _, _, _⟩) ?_ 28 (.tmp 8) ?_ w.heap.size ?_ 28 p.cells.toArray (0, 0) _ L10.out Try.underlying28 rfl size28 ?_; rfl; rfl; rfl)
        | (go_at_call 21; refine (HPL.out _ B10.out).mono ?_; rintro e w11 ⟨pq, rfl, hqd, hqa, hb11⟩; have B11 := Lib.hid (B10.out.trans (hb11.mono B10.out.size)))
        | (go_at_call 39; refine (HCL.out l.A l.c l.l _ HL4.out ((HA.out.below B11.out).more B11.out.size)).mono ?_; rintro e w12 ⟨A12, c12, rfl, hs12, hb12⟩; have B12 := Lib.hid (B11.out.trans (hb12.mono B11.out.size)))
        | (go_at_call 40; refine (HLI.out A6 c6 z0 _ H8.out.2.2 ((HW6.out.below (hb11.trans (hb12.mono hb11.size))).more (Nat.le_trans hb11.size hb12.size)) HNZ.out).mono ?_; rintro e w13 ⟨A13, c13, rfl, hs13, hb13⟩)
        | (go_at_call 38; refine (HEZ.out z0 rfl pq A12 A13 c12 c13 w13 hqd ((hqa.below hb12 hb12.size).below hb13 hb13.size) (hs12.call hb13).sl hs13).mono ?_; rintro e w14 ⟨rfl, hb14⟩; have HD14 := Lib.hid (hb11.trans ((hb12.trans ((hb13.trans (hb14.mono hb13.size)).mono hb12.size)).mono hb11.size)); have B14 := Lib.hid (B10.out.trans (HD14.out.mono B10.out.size)); have HW14 := Lib.hid ((HW6.out.below HD14.out).more HD14.out.size))
        | (go_at_call 43; refine (HIP.out z0 rfl l.A A6 l.c c6 _ ((HA.out.below B14.out).more B14.out.size) HW14.out).mono ?_; rintro e w15 ⟨rfl, hb15⟩; have B15 := Lib.hid (B14.out.trans (hb15.mono B14.out.size)))
        | (go_at_call 47; refine (HPR.out l.A A6 l.c c6 z0 _ ((HA.out.below B15.out).more B15.out.size) ((HW14.out.below hb15).more hb15.size) H8.out.1).mono ?_; rintro e w16 ⟨rfl, hb16⟩))
      go_meet
      case rel => exact HD14.out.trans ((hb15.trans (hb16.mono hb15.size)).mono HD14.out.size)
  case rest =>
    have hc0 := hcut.out
    have LC := Lib.hid (L10.out.call hc0)
    have BC := Lib.hid (B10.out.trans (hc0.mono B10.out.size))
    clear hc0 hcut L10 B10 HZ10 HEZ HIP
    go_upto_region 10 with (fail)
    go_cut [148] from 117 to 147 (fun s148 wx => s148 = .bool false ∧ Aside (Below wc.heap.size wc wx))
    case first =>
      cases pb with
      | false =>
        obtain rfl := HF2.out rfl
        simp only [Bool.false_and]
        cases z
        all_goals
          simp only [errZ, prZ, Option.isSome_none, Option.isSome_some, Bool.false_eq_true, if_false, if_true]
          go_wp2
          go_meet
        · exact ⟨rfl, Below.refl _ _⟩
        · exact ⟨rfl, Below.refl _ _⟩
      | true =>
        obtain rfl := HF0.out rfl
        cases eb with
        | false =>
          simp only [Bool.and_false]
          cases z
          all_goals
            simp only [errZ, prZ, Option.isSome_none, Option.isSome_some, Bool.false_eq_true, if_false, if_true]
            go_wp2
            go_meet
          · exact ⟨rfl, Below.refl _ _⟩
          · exact ⟨rfl, Below.refl _ _⟩
        | true =>
          obtain ⟨z0, rfl, hle⟩ := HQZ.out rfl rfl
          simp only [errZ, prZ, Option.isSome_some, if_true, Bool.and_self]
          have hdl : decide (costP l.l q.l l.l.length < costP l.l z0 l.l.length) = false := decide_eq_false (by omega)
          have HD := Lib.hid hdl
          clear hle hdl
          have hpr := HPR.out l.A q.A l.c q.c q.l wc ((HA.out.below BC.out).more BC.out.size) ((HQ.out.below BC.out).more BC.out.size) HPB.out
          have hdl := HD.out
          have HPX := Lib.hid hpr
          clear hpr
          go_wp2_with (go_at_call 47; refine HPX.out.mono ?_; rintro e w16 ⟨rfl, hb16⟩)
          go_meet
          case rel => exact ⟨rfl, hb16⟩
    case rest =>
      obtain ⟨rfl, hcd⟩ := hcut
      have LD := Lib.hid (LC.out.call hcd.out)
      have BD := Lib.hid (BC.out.trans (hcd.out.mono BC.out.size))
      clear hcd LC BC HPR HQZ HPB HF0 HF2 HQ HNQ HQ8 HLI HZF
      have hown : (wc.alloc (.cells #[] 85)).ownsRow wc.heap.size 85 4 (.slice (some ⟨wc.heap.size, 0, none⟩) 0 0) 0 [] := World.ownsRow_made wc #[] 0 (Nat.le_refl _) (by unfold maxLen; omega) rfl
      have hbb : Below w.heap.size w (wc.alloc (.cells #[] 85)) := BD.out.alloc BD.out.size _
      have hnews := (HA.out.below hbb).news (enc := encCr) (fun _ => rfl)
      have hln : (l.l.flatMap encCr).length = l.l.length * 4 := flat_len (enc := encCr) (fun _ => rfl) _
      have h1c : ∀ u ∈ l.l.flatMap encCr, u.oneCell' = true := fun u hu => by
        obtain ⟨x, _, hx⟩ := List.mem_flatMap.1 hu
        exact encCr_one x u hx
      obtain ⟨i0, hi, hp0⟩ := Option.map_eq_some_iff.1 infoRC
      have hz0 : i0.zero = some (.agg #[.int .i64 0, .int .i64 0, .int .i64 0, .int .i64 0]) := congrArg (·.1) hp0
      have hz1 : i0.size = 4 := congrArg (·.2.1) hp0
      have hz2 : i0.bytes = 32 := congrArg (·.2.2) hp0
      have HOW := Lib.hid hown
      have HNW := Lib.hid hnews
      have HLN := Lib.hid hln
      have H1C := Lib.hid h1c
      have HI := Lib.hid hi
      have Hz0 := Lib.hid hz0
      have Hz1 := Lib.hid hz1
      have Hz2 := Lib.hid hz2
      have HBB := Lib.hid hbb
      clear hown hbb hnews hln h1c hp0 hi hz0 hz1 hz2
      go_upto_region 13 with (at_builtin; go_loud (refine wpList_append_sl ?_ (.tmp 149) (.tmp 150) 73 ?_ wc.heap.size 85 i0 _ 4 32 Try.underlying73 HI.out Hz0.out Hz1.out Hz2.out rfl (by decide) (.slice (some ⟨wc.heap.size, 0, none⟩) 0 0) 0 [] ?_ HOW.out l.A l.l.length l.c (l.l.flatMap encCr) ?_ HLN.out HNA.out HNW.out H1C.out (by unfold maxLen; have := HL4.out; omega) (by have := HL4.out; omega) (by simp) ?_); rfl; rfl; rfl; rfl; intro v12 w12 hown12 hg12 hnil12)
      have hown : w12.ownsRow wc.heap.size 85 4 v12 l.l.length (l.l.flatMap encCr) := by simpa using hown12
      have heq : ∀ k, some k = (Value.slice (some ⟨wc.heap.size, 0, none⟩) 0 0).ownBlock → k = wc.heap.size := fun k e => by simpa [Value.ownBlock] using e
      have hwz := BD.out.size
      have hlw := LD.out.in_
      have hb12 : Below w.heap.size w w12 := HBB.out.grown hg12 (by simp; omega) (fun k e => by have := heq k e.symm; omega)
      have hl12 : Lies w12 w.heap.size 28 p.cells.toArray := (LD.out.alloc _).to_ (hg12.block w.heap.size (by simp; omega) (fun e => by have := heq _ e; omega))
      have HLG := Lib.hid hlw
      have B12 := Lib.hid hb12
      have L12 := Lib.hid hl12
      have HOWN := Lib.hid hown
      have HLO := Lib.hid BD.out.size
      clear hown12 hg12 hnil12 hown hb12 hl12 heq hwz hlw LD BD HBB HOW HNW HLN H1C HI Hz0 Hz1 Hz2
      by_cases h0 : l.l.length = 0
      · have e0 : ((l.l.length : Int) == 0) = true := by rw [h0]; rfl
        clear h0
        obtain ⟨AX, cX, e12, _, hsx⟩ := Sl.of_own (enc := encCr) (l := l.l) (fun _ => rfl) HOWN.out rfl
        subst e12
        obtain ⟨x, hx⟩ : ∃ x, x = l.l := ⟨_, rfl⟩
        obtain ⟨m, hm⟩ : ∃ m, m = min 10000000 ((N : Int) + (by_ : Int)) := ⟨_, rfl⟩
        have HXS := Lib.hid (show Sl w12 w12.heap.size 4 encCr AX x by rw [hx]; exact hsx)
        have HXO := Lib.hid (show offB p.s.l.length x = 0 by rw [hx]; exact HO.out)
        have HXN := Lib.hid (show x.length = l.l.length by rw [hx])
        have HXW := Lib.hid (show Worse l.l x by rw [hx]; exact Worse.refl _)
        have HM := Lib.hid (show 0 ≤ m ∧ m ≤ 10000000 ∧ (N : Int) ≤ m by rw [hm]; omega)
        have LX := L12
        have BX := B12
        clear hx hsx
        go_upto_region 19 with (fail)
        rw [← hm]
        clear hm
        clear HOWN B12 L12
        go_upto_region 20 with (first
          | (refine wpList_load_row (o := ⟨some 200, _, _, _, _, _⟩) ?_ 28 (.tmp 8) ?_ w.heap.size ?_ 28 p.cells.toArray (0, 0) _ LX.out Try.underlying28 rfl size28 ?_; rfl; rfl; rfl)
          | (go_at_call 21; refine (HPL.out _ BX.out).mono ?_; rintro e w21 ⟨pq, rfl, hqd, hqa, hb21⟩; have B21 := Lib.hid (BX.out.trans (hb21.mono BX.out.size)))
          | (go_at_call 39; have hcx := HCL.out AX cX x w21 (by have := HL4.out; have := HXN.out; omega) ((HXS.out.below hb21).more hb21.size); rw [HXN.out] at hcx; refine hcx.mono ?_; clear hcx; rintro e w22 ⟨A22, c22, rfl, hs22, hb22⟩)
          | (go_at_call 41; have hcx := HCH.out pq A22 c22 x m w22 hqd (hqa.below hb22 hb22.size) hs22.sl HXO.out HM.out.1 HM.out.2.1; rw [HXN.out] at hcx; refine hcx.mono ?_; clear hcx; rintro e w23 ⟨v23, rfl, _, hb23⟩))
        have B23 := Lib.hid (B21.out.trans ((hb22.trans (hb23.mono hb22.size)).mono B21.out.size))
        have hzw := fun y => HBW.out x m y HXW.out HM.out.2.2
        clear hb21 hb22 hb23 hqd hqa hs22 B21 LX BX HPL HCL HCH HXS HXO HA
        generalize bestP p x S Y m = zx at *
        cases zx with
        | none =>
          clear hzw
          simp only [errZ_none, prZ_none]
          go_wp2_with (go_at_call 19; refine (awake_any _).mono ?_; rintro e w24 ⟨rfl, hb24⟩)
          go_ret
          exact ⟨rfl, B23.out.trans (hb24.mono B23.out.size)⟩
        | some y =>
          obtain ⟨z0, rfl, hle⟩ := hzw y rfl
          simp only [errZ, prZ, Option.isSome_some, if_true]
          have hdl : decide (costP l.l z0 l.l.length ≤ costP x y x.length) = true := decide_eq_true hle
          clear hle hzw
          go_wp2_with (go_at_call 19; refine (awake_any _).mono ?_; rintro e w24 ⟨rfl, hb24⟩)
          go_ret
          exact ⟨rfl, B23.out.trans (hb24.mono B23.out.size)⟩
      · have e0 : ((l.l.length : Int) == 0) = false := by simpa using h0
        have hlp : (0 : Int) < (l.l.length : Int) := by omega
        obtain ⟨r, hr, hr3⟩ : ∃ r : Nat, (wh : Int) % 3 = (r : Int) ∧ r < 3 := ⟨wh % 3, by omega, by omega⟩
        rcases (show r = 0 ∨ r = 1 ∨ r = 2 by omega) with rfl | rfl | rfl
        · clear h0 hr3
          have hr' : (wh : Int) % 3 = 0 := hr
          clear hr
          obtain ⟨AX, cX, e12, _, hsx⟩ := Sl.of_own (enc := encCr) (l := l.l) (fun _ => rfl) HOWN.out rfl
          subst e12
          obtain ⟨x, hx⟩ : ∃ x, x = l.l := ⟨_, rfl⟩
          obtain ⟨m, hm⟩ : ∃ m, m = min 10000000 ((N : Int) + (by_ : Int)) := ⟨_, rfl⟩
          have HXS := Lib.hid (show Sl w12 w12.heap.size 4 encCr AX x by rw [hx]; exact hsx)
          have HXO := Lib.hid (show offB p.s.l.length x = 0 by rw [hx]; exact HO.out)
          have HXN := Lib.hid (show x.length = l.l.length by rw [hx])
          have HXW := Lib.hid (show Worse l.l x by rw [hx]; exact Worse.refl _)
          have HM := Lib.hid (show 0 ≤ m ∧ m ≤ 10000000 ∧ (N : Int) ≤ m by rw [hm]; omega)
          have LX := L12
          have BX := B12
          clear hx hsx
          go_upto_region 19 with (fail)
          rw [← hm]
          clear hm
          clear HOWN B12 L12
          go_upto_region 20 with (first
            | (refine wpList_load_row (o := ⟨some 200, _, _, _, _, _⟩) ?_ 28 (.tmp 8) ?_ w.heap.size ?_ 28 p.cells.toArray (0, 0) _ LX.out Try.underlying28 rfl size28 ?_; rfl; rfl; rfl)
            | (go_at_call 21; refine (HPL.out _ BX.out).mono ?_; rintro e w21 ⟨pq, rfl, hqd, hqa, hb21⟩; have B21 := Lib.hid (BX.out.trans (hb21.mono BX.out.size)))
            | (go_at_call 39; have hcx := HCL.out AX cX x w21 (by have := HL4.out; have := HXN.out; omega) ((HXS.out.below hb21).more hb21.size); rw [HXN.out] at hcx; refine hcx.mono ?_; clear hcx; rintro e w22 ⟨A22, c22, rfl, hs22, hb22⟩)
            | (go_at_call 41; have hcx := HCH.out pq A22 c22 x m w22 hqd (hqa.below hb22 hb22.size) hs22.sl HXO.out HM.out.1 HM.out.2.1; rw [HXN.out] at hcx; refine hcx.mono ?_; clear hcx; rintro e w23 ⟨v23, rfl, _, hb23⟩))
          have B23 := Lib.hid (B21.out.trans ((hb22.trans (hb23.mono hb22.size)).mono B21.out.size))
          have hzw := fun y => HBW.out x m y HXW.out HM.out.2.2
          clear hb21 hb22 hb23 hqd hqa hs22 B21 LX BX HPL HCL HCH HXS HXO HA
          generalize bestP p x S Y m = zx at *
          cases zx with
          | none =>
            clear hzw
            simp only [errZ_none, prZ_none]
            go_wp2_with (go_at_call 19; refine (awake_any _).mono ?_; rintro e w24 ⟨rfl, hb24⟩)
            go_ret
            exact ⟨rfl, B23.out.trans (hb24.mono B23.out.size)⟩
          | some y =>
            obtain ⟨z0, rfl, hle⟩ := hzw y rfl
            simp only [errZ, prZ, Option.isSome_some, if_true]
            have hdl : decide (costP l.l z0 l.l.length ≤ costP x y x.length) = true := decide_eq_true hle
            clear hle hzw
            go_wp2_with (go_at_call 19; refine (awake_any _).mono ?_; rintro e w24 ⟨rfl, hb24⟩)
            go_ret
            exact ⟨rfl, B23.out.trans (hb24.mono B23.out.size)⟩
        · have hr' : (wh : Int) % 3 = 1 := hr
          clear hr hr3 h0
          obtain ⟨i, hi, hil⟩ : ∃ i : Nat, (at_ : Int) % (l.l.length : Int) = (i : Int) ∧ i < l.l.length := ⟨at_ % l.l.length, by rw [Int.natCast_emod], Nat.mod_lt _ (by omega)⟩
          obtain ⟨cr, hcr⟩ : ∃ cr, l.l[i]? = some cr := ⟨l.l[i], by simp [hil]⟩
          obtain ⟨g, cX, cs, rfl, hgl, hlg, hcp, hcm, hset⟩ := own_crate HOWN.out hcr
          have hok := Cr.ok_iff.1 ((offB_zero HO.out).2 cr (List.mem_of_getElem? hcr))
          obtain ⟨sz, bu, pr, mo⟩ := cr
          simp only at hcp hcm hok
          have hil' : (i : Int) < (l.l.length : Int) := by omega
          have hi0 : (0 : Int) ≤ (i : Int) := by omega
          have fz : ∀ k, w12.frozen? ⟨g, k, none⟩ = false := fun k => hlg.free k
          have fz3 := fz (i * 4 + 3)
          clear fz
          obtain ⟨by4, hby4, hb4⟩ : ∃ k : Nat, (by_ : Int) % 4 = (k : Int) ∧ k < 4 := ⟨by_ % 4, by omega, by omega⟩
          have hp0 := hok.2.2.1.1
          have hp1 := hok.2.2.1.2
          have hm0 := hok.2.2.2.1
          have hm1 := hok.2.2.2.2
          obtain ⟨nv, hnv⟩ : ∃ nv, nv = max 0 (mo - (by4 : Int)) := ⟨_, rfl⟩
          obtain ⟨x, hx⟩ : ∃ x, x = l.l.set i ⟨sz, bu, pr, nv⟩ := ⟨_, rfl⟩
          obtain ⟨AX, hAX⟩ : ∃ AX : Option Addr, AX = some ⟨g, 0, none⟩ := ⟨_, rfl⟩
          obtain ⟨m, hm⟩ : ∃ m : Int, m = (N : Int) := ⟨_, rfl⟩
          have hO := Only.set g (i * 4 + 3) w12 (.int .i64 nv)
          have HXS := Lib.hid (show Sl (w12.setCell ⟨g, i * 4 + 3, none⟩ (.int .i64 nv)) (w12.setCell ⟨g, i * 4 + 3, none⟩ (.int .i64 nv)).heap.size 4 encCr AX x by rw [hx, hAX, hO.size]; exact hset 3 _ _ (by omega) rfl)
          have HXO := Lib.hid (show offB p.s.l.length x = 0 by rw [hx]; exact offB_set HO.out (Cr.ok_iff.2 ⟨hok.1, hok.2.1, by simp only; omega, by simp only; omega⟩))
          have HXN := Lib.hid (show x.length = l.l.length by rw [hx]; simp)
          have HXW := Lib.hid (show Worse l.l x by rw [hx]; exact Worse.set hcr ⟨rfl, rfl, by simp only; omega, by simp only; omega⟩)
          have HM := Lib.hid (show 0 ≤ m ∧ m ≤ 10000000 ∧ (N : Int) ≤ m by rw [hm]; omega)
          have LX := Lib.hid (hO.lies L12.out (by have := L12.out.in_; have := HLO.out; have := HLG.out; omega))
          have BX := Lib.hid (hO.below B12.out (by have := HLO.out; omega))
          clear hset hlg hcr hok hO hx
          go_upto_region 19 with (fail)
          rw [← hAX, ← hnv, ← hm]
          clear hnv hm hAX
          clear HOWN B12 L12
          go_upto_region 20 with (first
            | (refine wpList_load_row (o := ⟨some 200, _, _, _, _, _⟩) ?_ 28 (.tmp 8) ?_ w.heap.size ?_ 28 p.cells.toArray (0, 0) _ LX.out Try.underlying28 rfl size28 ?_; rfl; rfl; rfl)
            | (go_at_call 21; refine (HPL.out _ BX.out).mono ?_; rintro e w21 ⟨pq, rfl, hqd, hqa, hb21⟩; have B21 := Lib.hid (BX.out.trans (hb21.mono BX.out.size)))
            | (go_at_call 39; have hcx := HCL.out AX cX x w21 (by have := HL4.out; have := HXN.out; omega) ((HXS.out.below hb21).more hb21.size); rw [HXN.out] at hcx; refine hcx.mono ?_; clear hcx; rintro e w22 ⟨A22, c22, rfl, hs22, hb22⟩)
            | (go_at_call 41; have hcx := HCH.out pq A22 c22 x m w22 hqd (hqa.below hb22 hb22.size) hs22.sl HXO.out HM.out.1 HM.out.2.1; rw [HXN.out] at hcx; refine hcx.mono ?_; clear hcx; rintro e w23 ⟨v23, rfl, _, hb23⟩))
          have B23 := Lib.hid (B21.out.trans ((hb22.trans (hb23.mono hb22.size)).mono B21.out.size))
          have hzw := fun y => HBW.out x m y HXW.out HM.out.2.2
          clear hb21 hb22 hb23 hqd hqa hs22 B21 LX BX HPL HCL HCH HXS HXO HA
          generalize bestP p x S Y m = zx at *
          cases zx with
          | none =>
            clear hzw
            simp only [errZ_none, prZ_none]
            go_wp2_with (go_at_call 19; refine (awake_any _).mono ?_; rintro e w24 ⟨rfl, hb24⟩)
            go_ret
            exact ⟨rfl, B23.out.trans (hb24.mono B23.out.size)⟩
          | some y =>
            obtain ⟨z0, rfl, hle⟩ := hzw y rfl
            simp only [errZ, prZ, Option.isSome_some, if_true]
            have hdl : decide (costP l.l z0 l.l.length ≤ costP x y x.length) = true := decide_eq_true hle
            clear hle hzw
            go_wp2_with (go_at_call 19; refine (awake_any _).mono ?_; rintro e w24 ⟨rfl, hb24⟩)
            go_ret
            exact ⟨rfl, B23.out.trans (hb24.mono B23.out.size)⟩
        · have hr' : (wh : Int) % 3 = 2 := hr
          clear hr hr3 h0
          obtain ⟨i, hi, hil⟩ : ∃ i : Nat, (at_ : Int) % (l.l.length : Int) = (i : Int) ∧ i < l.l.length := ⟨at_ % l.l.length, by rw [Int.natCast_emod], Nat.mod_lt _ (by omega)⟩
          obtain ⟨cr, hcr⟩ : ∃ cr, l.l[i]? = some cr := ⟨l.l[i], by simp [hil]⟩
          obtain ⟨g, cX, cs, rfl, hgl, hlg, hcp, hcm, hset⟩ := own_crate HOWN.out hcr
          have hok := Cr.ok_iff.1 ((offB_zero HO.out).2 cr (List.mem_of_getElem? hcr))
          obtain ⟨sz, bu, pr, mo⟩ := cr
          simp only at hcp hcm hok
          have hil' : (i : Int) < (l.l.length : Int) := by omega
          have hi0 : (0 : Int) ≤ (i : Int) := by omega
          have fz : ∀ k, w12.frozen? ⟨g, k, none⟩ = false := fun k => hlg.free k
          have fz3 := fz (i * 4 + 2)
          clear fz
          obtain ⟨by4, hby4, hb4⟩ : ∃ k : Nat, (by_ : Int) % 4 = (k : Int) ∧ k < 4 := ⟨by_ % 4, by omega, by omega⟩
          have hp0 := hok.2.2.1.1
          have hp1 := hok.2.2.1.2
          have hm0 := hok.2.2.2.1
          have hm1 := hok.2.2.2.2
          obtain ⟨nv, hnv⟩ : ∃ nv, nv = min 1000000 (pr + (by_ : Int)) := ⟨_, rfl⟩
          obtain ⟨x, hx⟩ : ∃ x, x = l.l.set i ⟨sz, bu, nv, mo⟩ := ⟨_, rfl⟩
          obtain ⟨AX, hAX⟩ : ∃ AX : Option Addr, AX = some ⟨g, 0, none⟩ := ⟨_, rfl⟩
          obtain ⟨m, hm⟩ : ∃ m : Int, m = (N : Int) := ⟨_, rfl⟩
          have hO := Only.set g (i * 4 + 2) w12 (.int .i64 nv)
          have HXS := Lib.hid (show Sl (w12.setCell ⟨g, i * 4 + 2, none⟩ (.int .i64 nv)) (w12.setCell ⟨g, i * 4 + 2, none⟩ (.int .i64 nv)).heap.size 4 encCr AX x by rw [hx, hAX, hO.size]; exact hset 2 _ _ (by omega) rfl)
          have HXO := Lib.hid (show offB p.s.l.length x = 0 by rw [hx]; exact offB_set HO.out (Cr.ok_iff.2 ⟨hok.1, hok.2.1, by simp only; omega, by simp only; omega⟩))
          have HXN := Lib.hid (show x.length = l.l.length by rw [hx]; simp)
          have HXW := Lib.hid (show Worse l.l x by rw [hx]; exact Worse.set hcr ⟨rfl, rfl, by simp only; omega, by simp only; omega⟩)
          have HM := Lib.hid (show 0 ≤ m ∧ m ≤ 10000000 ∧ (N : Int) ≤ m by rw [hm]; omega)
          have LX := Lib.hid (hO.lies L12.out (by have := L12.out.in_; have := HLO.out; have := HLG.out; omega))
          have BX := Lib.hid (hO.below B12.out (by have := HLO.out; omega))
          clear hset hlg hcr hok hO hx
          go_upto_region 19 with (fail)
          rw [← hAX, ← hnv, ← hm]
          clear hnv hm hAX
          clear HOWN B12 L12
          go_upto_region 20 with (first
            | (refine wpList_load_row (o := ⟨some 200, _, _, _, _, _⟩) ?_ 28 (.tmp 8) ?_ w.heap.size ?_ 28 p.cells.toArray (0, 0) _ LX.out Try.underlying28 rfl size28 ?_; rfl; rfl; rfl)
            | (go_at_call 21; refine (HPL.out _ BX.out).mono ?_; rintro e w21 ⟨pq, rfl, hqd, hqa, hb21⟩; have B21 := Lib.hid (BX.out.trans (hb21.mono BX.out.size)))
            | (go_at_call 39; have hcx := HCL.out AX cX x w21 (by have := HL4.out; have := HXN.out; omega) ((HXS.out.below hb21).more hb21.size); rw [HXN.out] at hcx; refine hcx.mono ?_; clear hcx; rintro e w22 ⟨A22, c22, rfl, hs22, hb22⟩)
            | (go_at_call 41; have hcx := HCH.out pq A22 c22 x m w22 hqd (hqa.below hb22 hb22.size) hs22.sl HXO.out HM.out.1 HM.out.2.1; rw [HXN.out] at hcx; refine hcx.mono ?_; clear hcx; rintro e w23 ⟨v23, rfl, _, hb23⟩))
          have B23 := Lib.hid (B21.out.trans ((hb22.trans (hb23.mono hb22.size)).mono B21.out.size))
          have hzw := fun y => HBW.out x m y HXW.out HM.out.2.2
          clear hb21 hb22 hb23 hqd hqa hs22 B21 LX BX HPL HCL HCH HXS HXO HA
          generalize bestP p x S Y m = zx at *
          cases zx with
          | none =>
            clear hzw
            simp only [errZ_none, prZ_none]
            go_wp2_with (go_at_call 19; refine (awake_any _).mono ?_; rintro e w24 ⟨rfl, hb24⟩)
            go_ret
            exact ⟨rfl, B23.out.trans (hb24.mono B23.out.size)⟩
          | some y =>
            obtain ⟨z0, rfl, hle⟩ := hzw y rfl
            simp only [errZ, prZ, Option.isSome_some, if_true]
            have hdl : decide (costP l.l z0 l.l.length ≤ costP x y x.length) = true := decide_eq_true hle
            clear hle hzw
            go_wp2_with (go_at_call 19; refine (awake_any _).mono ?_; rintro e w24 ⟨rfl, hb24⟩)
            go_ret
            exact ⟨rfl, B23.out.trans (hb24.mono B23.out.size)⟩
theorem StockCrates_walk (p : PlM) (l : Sv Cr) (q : Sv Int) (s n wh at_ by_ : Nat) (w : World) (hp : p.Lay w w.heap.size) (nA : l.A = none → l.l.length = 0 ∧ l.c = 0) (hA : Sl w w.heap.size 4 encCr l.A l.l) (nQ : q.A = none → q.l.length = 0 ∧ q.c = 0) (hQ : Sl w w.heap.size 1 encI q.A q.l)
    (hs : s ≤ 255) (hn : n ≤ 4294967295) (hwh : wh ≤ 255) (hat' : at_ ≤ 255) (hby : by_ ≤ 65535) :
    Calls Try.prog 14 #[.agg p.cells.toArray, .slice l.A l.l.length l.c, .slice q.A q.l.length q.c, .int .u8 s, .int .u32 n, .int .u8 wh, .int .u8 at_, .int .u16 by_] w fun e w' => e = .returned (.bool true) ∧ Below w.heap.size w w' := by
  cases h : cratesB p l.l q.l with
  | false => exact Crates_no p l q s n wh at_ by_ w hp hA h
  | true => exact Crates_yes p l q s n wh at_ by_ w hp nA hA nQ hQ h hs hn hwh hat' hby
end Go.Proofs.Ytlkdmcdnkoiflaa

/- Crates that came in, opened. -/
namespace Go.Proofs.Ytlkdmcdnkoiflaa
open Go.ChangeShapes Go.WideShapes Go.ChangeAt Go.RowKit

theorem len4 {α : Type} : ∀ {l : List α}, l.length = 4 → ∃ a b c d, l = [a, b, c, d]
  | [a, b, c, d], _ => ⟨a, b, c, d, rfl⟩
section
variable {H : Type} {enc : TypeId × Value → H} {w : World} {fuel : Nat} {cs : List Value} {x : DataW H × List MemPlace}
theorem cCrate : Try.prog.cellsOf 85 = 4 := by kernel_rfl
theorem open_crate (h : DataW.trod enc Try.prog w 0 (fun _ => true) true fuel 85 cs = some x) : ∃ c : Cr, cs = encCr c ∧ True := by
  obtain ⟨xs, n, _, _, hl, hxs, hf⟩ := DataW.trod_struct Try.underlying85 h
  obtain ⟨c0, c1, c2, c3, rfl⟩ := len4 (hl.trans cCrate)
  clear hl
  have h0 := hf 0 _ rfl
  have h1 := hf 1 _ rfl
  have h2 := hf 2 _ rfl
  have h3 := hf 3 _ rfl
  simp only [List.getElem_toArray, List.getElem_cons_zero, List.getElem_cons_succ, cI, List.drop_zero, List.take_succ_cons, List.take_zero, List.drop_succ_cons] at h0 h1 h2 h3
  have el : ∀ i, i < 4 → ∃ z, xs[i]? = some z := fun i hi => ⟨xs[i]'(by rw [hxs]; exact hi), by simp⟩
  obtain ⟨z0, e0⟩ := el 0 (by decide)
  obtain ⟨z1, e1⟩ := el 1 (by decide)
  obtain ⟨z2, e2⟩ := el 2 (by decide)
  obtain ⟨z3, e3⟩ := el 3 (by decide)
  rw [e0] at h0
  rw [e1] at h1
  rw [e2] at h2
  rw [e3] at h3
  obtain ⟨a, ha, _⟩ := open_num Try.underlying3 h0
  obtain ⟨b, hb, _⟩ := open_num Try.underlying3 h1
  obtain ⟨c, hc, _⟩ := open_num Try.underlying3 h2
  obtain ⟨d, hd, _⟩ := open_num Try.underlying3 h3
  simp only [List.cons.injEq, and_true] at ha hb hc hd
  subst ha; subst hb; subst hc; subst hd
  exact ⟨⟨a, b, c, d⟩, rfl, trivial⟩
theorem open_crates (h : DataW.trod enc Try.prog w 0 (fun _ => true) true fuel 73 cs = some x) : ∃ s : Sv Cr, cs = encV s ∧ (s.A = none → s.l.length = 0 ∧ s.c = 0) ∧ Sl w w.heap.size 4 encCr s.A s.l := by
  obtain ⟨A, l, c, e, hn, hs, _⟩ := open_sl (en := encCr) (Q := fun _ => True) (by decide) Try.underlying73 cCrate (fun _ _ _ h => open_crate h) h
  exact ⟨⟨A, l, c⟩, e, hn, hs⟩
end
end Go.Proofs.Ytlkdmcdnkoiflaa
