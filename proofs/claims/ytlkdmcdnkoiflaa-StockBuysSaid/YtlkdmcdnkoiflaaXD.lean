/- The reference's Season. -/
import Derived.Test.YtlkdmcdnkoiflaaXC
import Derived.Test.YtlkdmcdnkoiflaaGD
import Derived.Deep.DeepCutAuto
import Derived.Test.YtlkdmcdnkoiflaaGH
import Derived.Test.YtlkdmcdnkoiflaaXA
import Derived.Test.YtlkdmcdnkoiflaaGF
import Derived.Test.YtlkdmcdnkoiflaaXB
namespace Go.Proofs.Ytlkdmcdnkoiflaa
open Go.RowKit Go.Lib

/-- What Season hands back. -/
def RetY (l : List Int × List Int × List Int × List Int) (w : World) (e : Ending) (w' : World) : Prop :=
  ∃ y : Y4, e = .returned (.agg (encY4 y).toArray) ∧ y.lists = l ∧ y.In w' w'.heap.size ∧ Below w.heap.size w w'
theorem sizeYear : (Try.prog.info? 55).map (·.size) = some 4 := by kernel_rfl
theorem SeM.len (p : PlM) (w wr : World) (v0 v1 v2 v3 : Value) (a b c d : List Int) (_M : SeM p w v0 v1 v2 v3 a b c d wr) : True := trivial
set_option maxRecDepth 100000 in
set_option maxHeartbeats 4000000 in
theorem Season_any (p : PlM) (Ap : Option Addr) (cp : Nat) (pl : List Int) (g : Sv (Sv Int)) (loss : Int) (w : World) (hp : p.At w w.heap.size) (hok : p.Ok) (hA : Sl w w.heap.size 1 encI Ap pl) (hpl : pl.length = p.s.l.length) (hg : Sl w w.heap.size 1 encV g.A g.l)
    (hgr : ∀ r, r ∈ g.l → Sl w w.heap.size 1 encI r.A r.l) (hgl : g.l.length = p.s.l.length) (hgn : ∀ r, r ∈ g.l → r.l.length = p.s.l.length) (hG : Grown5 p.s.l.length pl (g.l.map (·.l))) (h0 : 0 ≤ loss) (h1 : loss ≤ 1000) :
    Calls Try.prog 66 #[.agg p.cells.toArray, .slice Ap p.s.l.length cp, .slice g.A p.s.l.length g.c, .int .i64 loss] w (RetY (seasL p.d (g.l.map (·.l)) loss pl) w) := by
  obtain ⟨i0, hi, hz0, hz1, hz2⟩ := info_parts infoInt
  have hone := hok.one
  obtain ⟨bg, og, eg, hbg⟩ := hg.lt (by rintro e; rw [e] at hgl; simp at hgl; omega)
  obtain ⟨ba, oa, rfl, hba⟩ := hA.lt (by rintro rfl; simp at hpl; omega)
  obtain ⟨gA, gl, gc⟩ := g
  simp only at eg hgl hgn hgr hg hG ⊢
  subst eg
  clear hone
  generalize hGe : gl.map (·.l) = G at hG ⊢
  have l0 : Lies (((w.alloc (.cells p.cells.toArray 28)).alloc (.cells zyear.toArray 55)).alloc (.cells zyear.toArray 55)) w.heap.size 28 p.cells.toArray := ((Lies.fresh _ _ _).alloc _).alloc _
  have l1 : Lies (((w.alloc (.cells p.cells.toArray 28)).alloc (.cells zyear.toArray 55)).alloc (.cells zyear.toArray 55)) (w.heap.size + 1) 55 zyear.toArray := (Lies.fresh' (by simp)).alloc _
  have l2 : Lies (((w.alloc (.cells p.cells.toArray 28)).alloc (.cells zyear.toArray 55)).alloc (.cells zyear.toArray 55)) (w.heap.size + 1 + 1) 55 #[.slice none 0 0, .slice none 0 0, .slice none 0 0, .slice none 0 0] := Lies.fresh' (by simp)
  have b0 : Below w.heap.size w (((w.alloc (.cells p.cells.toArray 28)).alloc (.cells zyear.toArray 55)).alloc (.cells zyear.toArray 55)) := (by repeat (first | (with_reducible assumption) | (with_reducible exact Below.refl _ _) | (with_reducible refine Below.drew ?_) | (with_reducible refine below_drewN ?_ _) | ((with_reducible refine Below.setCell ?_ ?_ _); rotate_left; focus (first | (simp; done) | (simp; omega) | omega)) | ((with_reducible refine Below.alloc ?_ ?_ _); rotate_left; focus (first | (simp; done) | (simp; omega) | omega))))
  have hM : SeM p w (.slice none 0 0) (.slice none 0 0) (.slice none 0 0) (.slice none 0 0) [] [] [] [] (((w.alloc (.cells p.cells.toArray 28)).alloc (.cells zyear.toArray 55)).alloc (.cells zyear.toArray 55)) := by
    refine ⟨l0, l1, l2, b0, Since.start (fun i r hr => ?_) (fun i j r r' hr _ _ g hg => ?_)⟩
    · have hm := List.mem_of_getElem? hr
      simp only [seR, List.mem_cons, List.not_mem_nil, or_false] at hm
      rcases hm with rfl | rfl | rfl | rfl <;> exact World.ownsRow_nil _ _ _ _
    · have hm := List.mem_of_getElem? hr
      simp only [seR, List.mem_cons, List.not_mem_nil, or_false] at hm
      rcases hm with rfl | rfl | rfl | rfl <;> cases hg
  have HM := Lib.hid hM
  have HP := Lib.hid hp
  have HOK := Lib.hid hok
  have HA := Lib.hid hA
  have HPL := Lib.hid hpl
  have HG := Lib.hid hg
  have HGR := Lib.hid hgr
  have HGL := Lib.hid hgl
  have HGN := Lib.hid hgn
  have HGG := Lib.hid hG
  have HGE := Lib.hid hGe
  have HI := Lib.hid hi
  have Hz0 := Lib.hid hz0
  have Hz1 := Lib.hid hz1
  have Hz2 := Lib.hid hz2
  have hn5 := hok.n
  have hn1 := hok.one
  clear l0 l1 l2 b0 hM hp hok hA hpl hg hgr hgl hgn hG hGe hi hz0 hz1 hz2
  unfold PlM.cells
  go_enter Try.func66, Try.ntmps66
  go_wp2
  go_loopw [10, 11, 12, 13, 14, 15] (fun i _ _ _ _ _ wr => ∃ (k : Nat) (v0 v1 v2 v3 : Value), k ≤ p.s.l.length ∧ i = .int .i64 k ∧ Aside (SeM p w v0 v1 v2 v3 (colL (lifD p.d G pl) k) (colL (solD p.d G pl) k) (colL (losD p.d G loss pl) k) (colL (plaD p.d G loss pl) k) wr)) (fun i _ _ _ _ _ _ => p.s.l.length - (intOf i).toNat)
  case atStart => exact ⟨0, _, _, _, _, by omega, rfl, HM.out⟩
  case round =>
    obtain ⟨k, v0, v1, v2, v3, hk, rfl, M⟩ := hrel
    obtain ⟨wo, rfl⟩ : ∃ wo : World, wo = wr := ⟨_, rfl⟩
    by_cases hlt : k < p.s.l.length
    · have hltz : (k : Int) < (p.s.l.length : Int) := by omega
      have hk0 : (0 : Int) ≤ (k : Int) := by omega
      have hk5 : (k : Int) < 5 := by omega
      go_wp2
      go_loopw [11, 12] (fun s11 s12 wr => ∃ s : Nat, s ≤ p.s.l.length ∧ s12 = .int .i64 s ∧ s11 = .int .i64 (liftAt pl G k s) ∧ Aside (Below wo.heap.size wo wr)) (fun _ i _ => p.s.l.length - (intOf i).toNat)
      case atStart => exact ⟨0, by omega, rfl, rfl, Below.refl _ _⟩
      case round =>
        obtain ⟨s, hs, rfl, rfl, hb⟩ := hrel
        by_cases hls : s < p.s.l.length
        · have hlsz : (s : Int) < (p.s.l.length : Int) := by omega
          have hs0 : (0 : Int) ≤ (s : Int) := by omega
          obtain ⟨r, hr⟩ : ∃ r, gl[s]? = some r := ⟨gl[s]'(by rw [HGL.out]; exact hls), by simp⟩
          have hrm := List.mem_of_getElem? hr
          obtain ⟨x, hx⟩ : ∃ x, r.l[k]? = some x := ⟨r.l[k]'(by rw [HGN.out r hrm]; exact hlt), by simp⟩
          obtain ⟨bg', og', eg, _, cg⟩ := HG.out.cell1 hr
          cases eg
          obtain ⟨br, or', er, hbr, cr⟩ := (HGR.out r hrm).cell1 hx
          obtain ⟨ba', oa', ea, _, ca⟩ := HA.out.cell1 (getD_some (l := pl) (i := s) (by rw [HPL.out]; exact hls))
          cases ea
          have hbw : Below w.heap.size w wr := M.out.bel.trans (hb.out.mono M.out.bel.size)
          have hrl := HGN.out r hrm
          have r1 := cell_regrown (show wr.cell? ⟨ba, oa + s, none⟩ = some (.int .i64 (pl.getD s 0)) by rw [hbw.cell (p := ⟨ba, oa + s, none⟩) hba]; exact ca)
          have r2 := cell_regrown (show wr.cell? ⟨bg, og + s, none⟩ = some (.slice (some ⟨br, or', none⟩) p.s.l.length r.c) by rw [hbw.cell (p := ⟨bg, og + s, none⟩) hbg, cg, ← er, ← hrl]; rfl)
          have r3 := cell_regrown (show wr.cell? ⟨br, or' + k, none⟩ = some (.int .i64 x) by rw [hbw.cell (p := ⟨br, or' + k, none⟩) hbr]; exact cr)
          have hb1 := liftAt_bd HGG.out hlt s (by omega)
          have hgx : (G.getD s []).getD k 0 = x := by rw [← HGE.out]; simp [List.getD, hr, hx]
          have hg2 := HGG.out.gr s k hls hlt
          rw [hgx] at hg2
          have hp2 := HGG.out.pl s hls
          have hm := mul_bd2 hp2.1 hp2.2 hg2.1 hg2.2
          have hstep : liftAt pl G k (s + 1) = liftAt pl G k s + pl.getD s 0 * x / 1000 := by rw [← hgx]; rfl
          have HST := Lib.hid hstep
          have HBW := Lib.hid hb
          clear hstep hgx cg cr ca hr hx hrm hrl er hbw hb
          generalize liftAt pl G k s = lf at *
          generalize pl.getD s 0 = pf at *
          go_wp2
          refine wp_region_quiet_below (by kernel_rfl) (by kernel_rfl) ?_; (repeat (first | go_big_quiet_step ((fail)) | quiet_step ((fail)))); refine wpQuiet_nil ?_; intro wq hwq; have hbq : Below _ _ wq := (by obtain ⟨p, rfl⟩ := hwq; exact below_regrown _ _ _); clear hwq
          clear r1 r2 r3
          have w1 : IntKind.i64.wrap (pf * x) = pf * x := IntWalk.i64_in _ (by omega)
          have w2 : (pf * x).tdiv 1000 = pf * x / 1000 := Int.tdiv_eq_ediv_of_nonneg hm.1
          have w3 : IntKind.i64.wrap (pf * x / 1000) = pf * x / 1000 := IntWalk.i64_in _ (by omega)
          have w4 : IntKind.i64.wrap (lf + pf * x / 1000) = lf + pf * x / 1000 := IntWalk.i64_in _ (by omega)
          (try simp only [w1, w2, w3, w4])
          clear w1 w2 w3 w4
          rw [← HST.out]
          go_wp2
          go_roundw
          case rel => exact ⟨s + 1, by omega, by go_num, rfl, HBW.out.out.trans (hbq.mono HBW.out.out.size)⟩
          case measure => simp [intOf]; omega
        · obtain rfl : s = p.s.l.length := by omega
          have M2 := Lib.hid (M.out.call hb.out)
          clear M hb
          obtain ⟨be, oe, ee, hbe, ce⟩ := HP.out.e.cell1 (getD_some (l := p.e.l) (i := k) (by rw [HOK.out.e]; exact hlt))
          obtain ⟨bk, ok, ek, hbk, ck⟩ := HP.out.k.cell1 (getD_some (l := p.k.l) (i := k) (by rw [HOK.out.k]; exact hlt))
          obtain ⟨br, orr, er, hbr, cr⟩ := HP.out.r.cell1 (getD_some (l := p.r.l) (i := k) (by rw [HOK.out.r]; exact hlt))
          have hke : (k : Int) < (p.e.l.length : Int) := by have := HOK.out.e; omega
          have hkk : (k : Int) < (p.k.l.length : Int) := by have := HOK.out.k; omega
          have hkr : (k : Int) < (p.r.l.length : Int) := by have := HOK.out.r; omega
          have r1 := cell_regrown (show wr.cell? ⟨w.heap.size, 3, none⟩ = some (.slice (some ⟨be, oe, none⟩) p.e.l.length p.e.c) by rw [← ee]; exact M2.out.pb.at_ 3)
          have r2 := cell_regrown (show wr.cell? ⟨w.heap.size, 4, none⟩ = some (.slice (some ⟨bk, ok, none⟩) p.k.l.length p.k.c) by rw [← ek]; exact M2.out.pb.at_ 4)
          have r3 := cell_regrown (show wr.cell? ⟨be, oe + k, none⟩ = some (.int .i64 (p.e.l.getD k 0)) by rw [M2.out.bel.cell (p := ⟨be, oe + k, none⟩) hbe]; exact ce)
          have r4 := cell_regrown (show wr.cell? ⟨bk, ok + k, none⟩ = some (.int .i64 (p.k.l.getD k 0)) by rw [M2.out.bel.cell (p := ⟨bk, ok + k, none⟩) hbk]; exact ck)
          have hlf := liftAt_bd HGG.out hlt p.s.l.length (Nat.le_refl _)
          have heb := HOK.out.eb _ (List.mem_of_getElem? (getD_some (l := p.e.l) (i := k) (by rw [HOK.out.e]; exact hlt)))
          have hkb := HOK.out.kb _ (List.mem_of_getElem? (getD_some (l := p.k.l) (i := k) (by rw [HOK.out.k]; exact hlt)))
          have hrb := HOK.out.rb _ (List.mem_of_getElem? (getD_some (l := p.r.l) (i := k) (by rw [HOK.out.r]; exact hlt)))
          have e1 : lifD p.d G pl k = liftAt pl G k p.s.l.length := rfl
          have e2 : solD p.d G pl k = min (p.e.l.getD k 0) (max 0 (liftAt pl G k p.s.l.length - p.k.l.getD k 0)) := rfl
          have e3 : losD p.d G loss pl k = (liftAt pl G k p.s.l.length - solD p.d G pl k) * loss / 1000 := rfl
          have e4 : plaD p.d G loss pl k = min (liftAt pl G k p.s.l.length - solD p.d G pl k - losD p.d G loss pl k) (p.r.l.getD k 0) := rfl
          have hs0 : 0 ≤ solD p.d G pl k ∧ solD p.d G pl k ≤ liftAt pl G k p.s.l.length := by rw [e2]; omega
          have hm := mul_bd (x := liftAt pl G k p.s.l.length) (y := solD p.d G pl k) (by omega) (by omega) hs0.1 hs0.2 h0 h1
          have c0 : (colL (lifD p.d G pl) k).length = k := colL_length _ _
          have c1 : (colL (solD p.d G pl) k).length = k := colL_length _ _
          have c2 : (colL (losD p.d G loss pl) k).length = k := colL_length _ _
          have c3 : (colL (plaD p.d G loss pl) k).length = k := colL_length _ _
          have s0 := colL_succ (lifD p.d G pl) k
          have s1 := colL_succ (solD p.d G pl) k
          have s2 := colL_succ (losD p.d G loss pl) k
          have s3 := colL_succ (plaD p.d G loss pl) k
          rw [e1] at s0
          generalize liftAt pl G k p.s.l.length = lf at *
          generalize solD p.d G pl k = sd at *
          generalize losD p.d G loss pl k = ld at *
          generalize plaD p.d G loss pl k = pd at *
          generalize p.e.l.getD k 0 = ev at *
          generalize p.k.l.getD k 0 = kv at *
          generalize p.r.l.getD k 0 = rv at *
          generalize colL (lifD p.d G pl) k = la at *
          generalize colL (solD p.d G pl) k = lb at *
          generalize colL (losD p.d G loss pl) k = lc at *
          generalize colL (plaD p.d G loss pl) k = le at *
          have S0 := Lib.hid s0
          have S1 := Lib.hid s1
          have S2 := Lib.hid s2
          have S3 := Lib.hid s3
          have C0 := Lib.hid c0
          have C1 := Lib.hid c1
          have C2 := Lib.hid c2
          have C3 := Lib.hid c3
          have E2 := Lib.hid e2
          have E3 := Lib.hid e3
          have E4 := Lib.hid e4
          have ER := Lib.hid er
          have CR := Lib.hid cr
          clear e1 e2 e3 e4 s0 s1 s2 s3 c0 c1 c2 c3 ce ck cr er ee ek
          go_upto_region 10 with (fail)
          refine wp_region_quiet_below (by kernel_rfl) (by kernel_rfl) ?_; (repeat (first | go_big_quiet_step ((fail)) | quiet_step ((fail)))); refine wpQuiet_nil ?_; intro wq hwq; have hbq : Below _ _ wq := (by obtain ⟨p, rfl⟩ := hwq; exact below_regrown _ _ _); clear hwq
          clear r1 r2 r3 r4
          (try rw [← E2.out])
          have M3 := Lib.hid (M2.out.call hbq)
          clear M2 hbq
          go_upto_region 13 with (fail)
          have hr0 : (lf - sd) * loss / 1000 = ld := E3.out.symm
          rw [hr0]
          clear hr0
          obtain ⟨rt, hrt⟩ : ∃ rt, rt = lf - sd := ⟨_, rfl⟩
          rw [← hrt]
          have HRT := Lib.hid hrt
          clear hrt
          go_cut [14, 15] from 16 to 95 (fun s14 s15 wx => s14 = .int .i64 rt ∧ s15 = .int .i64 ld ∧ ∃ u0 u1, Aside (SeM p w u0 u1 v2 v3 (la ++ [lf]) (lb ++ [sd]) lc le wx))
          case first =>
            as_aux_lemma =>
            have HLEN0 := C0
            have HLEN1 := C1
            have rS0 := SinceW.cell (w0 := wq) (l0 := seR (w.heap.size + 3) v0 v1 v2 v3 la lb lc le) (show wq.cell? ⟨w.heap.size + 1 + 1, 0, none⟩ = some v0 from M3.out.ob.at_ 0) (M3.out.far (k := w.heap.size + 1 + 1) (by omega))
            have rS1 := SinceW.cell (w0 := wq) (l0 := seR (w.heap.size + 3) v0 v1 v2 v3 la lb lc le) (show wq.cell? ⟨w.heap.size + 1 + 1, 1, none⟩ = some v1 from M3.out.ob.at_ 1) (M3.out.far (k := w.heap.size + 1 + 1) (by omega))
            have hold0 : ∀ g, v0.ownBlock = some g → g < wq.heap.size := fun g e => (own_at (M3.out.rows.own 0 _ rfl) e).2.1
            have HOLD0 := Lib.hid hold0
            have hold1 : ∀ g, v1.ownBlock = some g → g < wq.heap.size := fun g e => (own_at (M3.out.rows.own 1 _ rfl) e).2.1
            have HOLD1 := Lib.hid hold1
            have HSa := Lib.hid (M3.out.rows.drew)
            clear hold0 hold1
            haveI hnewq : Nonempty (SinceW wq (seR (w.heap.size + 3) v0 v1 v2 v3 la lb lc le)) := ⟨⟨_, _, HSa.out⟩⟩
            refine wp_region_ways3 11 [0, 1, 2, 5, 6, 7] (.way 3 (.way 4 (.take 10 (.way 8 (.way 9 .fin .fin) .fin)) (.way 8 (.way 4 (.take 10 (.way 9 .fin .fin)) .fin) .fin)) (.way 8 (.way 3 (.way 4 (.take 10 (.way 9 .fin .fin)) .fin) .fin) .fin)) (fun W => ∃ c : SinceW wq (seR (w.heap.size + 3) v0 v1 v2 v3 la lb lc le), W = c.val) (by kernel_rfl) (by kernel_rfl) HSa.out.here ?_
            simp only [List.filterMap_cons, List.filterMap_nil, List.take_succ_cons, List.take_zero, List.getElem?_toArray, List.getElem?_cons_zero, List.getElem?_cons_succ, List.drop_succ_cons, List.drop_zero]
            repeat (first | go_big_quiet_step (fail) | quiet_step (fail))
            refine wpQuiet_nil ?_
            have hzd : wq.heap.size ≤ wq.drew.heap.size := Nat.le_refl _
            generalize wq.drew = wd at *
            clear rS0 rS1
            rw [wpWy_way]
            refine ⟨?_, ?_⟩
            · skip
              simp only [List.getElem?_toArray, List.getElem?_cons_succ, List.getElem?_cons_zero]
              go_wp2_with (fail)
              have HS1 := Lib.hid (HSa.out.alloc (.cells #[.int .i64 lf] 3))
              have LB2 : Hid (Lies (wd.alloc (.cells #[.int .i64 lf] 3)) (wd.heap.size) 3 #[.int .i64 lf]) := Lib.hid (Lies.fresh' (by simp))
              refine Ends.intro ⟨HS1.out.here, ?_⟩
              rw [wpWy_way]
              refine ⟨?_, ?_⟩
              · skip
                simp only [List.getElem?_toArray, List.getElem?_cons_succ, List.getElem?_cons_zero]
                have HO3 : Hid (World.ownsRow (wd.alloc (.cells #[.int .i64 lf] 3)) (w.heap.size + 3) 3 1 v0 la.length (la.map (Value.int .i64))) := Lib.hid (HS1.out.own 0 _ rfl)
                have HN4 := Lib.hid (news_lies LB2.out)
                have hbase5 : w.heap.size + 3 ≤ ((wd.alloc (.cells #[.int .i64 lf] 3))).heap.size := by have h := HS1.out.size; have h2 := M3.out.ob.in_; omega
                go_wp2_with (at_builtin; refine wpList_append_lies _ rfl (.tmp 65) (.tmp 67) 23 rfl (w.heap.size + 3) 3 i0 _ 1 8 Try.underlying23 HI.out Hz0.out Hz1.out Hz2.out rfl (by decide) v0 la.length (la.map (Value.int .i64)) rfl HO3.out ⟨wd.heap.size, 0, none⟩ 1 1 [.int .i64 lf] rfl rfl HN4.out (by intro u hu; simp at hu; subst hu; rfl) Nat.one_pos (by unfold maxLen; have := HLEN0.out; omega) (by have := HLEN0.out; omega) hbase5 _ rfl ?_; intro g6 cap6 wn6 hown6 hg6 hat6 hlt6)
                have HS7 := Lib.hid (HS1.out.appI (i := 0) rfl hown6 hg6 hat6)
                clear hown6 hg6 hat6 hlt6
                refine Ends.intro ⟨HS7.out.here, ?_⟩
                rw [wpWy_take]
                simp only [List.getElem?_toArray, List.getElem?_cons_succ, List.getElem?_cons_zero]
                repeat (first | go_big_quiet_step (fail) | quiet_step (fail))
                refine wpQuiet_nil ?_
                rw [wpWy_way]
                refine ⟨?_, ?_⟩
                · skip
                  simp only [List.getElem?_toArray, List.getElem?_cons_succ, List.getElem?_cons_zero]
                  go_wp2_with (fail)
                  have HS8 := Lib.hid (HS7.out.alloc (.cells #[.int .i64 sd] 3))
                  have LB9 : Hid (Lies (wn6.alloc (.cells #[.int .i64 sd] 3)) (wn6.heap.size) 3 #[.int .i64 sd]) := Lib.hid (Lies.fresh' (by simp))
                  have LB10 := Lib.hid (LB2.out.alloc (.cells #[.int .i64 sd] 3))
                  refine Ends.intro ⟨HS8.out.here, ?_⟩
                  rw [wpWy_way]
                  refine ⟨?_, ?_⟩
                  · skip
                    simp only [List.getElem?_toArray, List.getElem?_cons_succ, List.getElem?_cons_zero]
                    have HO11 : Hid (World.ownsRow (wn6.alloc (.cells #[.int .i64 sd] 3)) (w.heap.size + 3) 3 1 v1 lb.length (lb.map (Value.int .i64))) := Lib.hid (HS8.out.own 1 _ rfl)
                    have HN12 := Lib.hid (news_lies LB9.out)
                    have hbase13 : w.heap.size + 3 ≤ ((wn6.alloc (.cells #[.int .i64 sd] 3))).heap.size := by have h := HS8.out.size; have h2 := M3.out.ob.in_; omega
                    go_wp2_with (at_builtin; refine wpList_append_lies _ rfl (.tmp 70) (.tmp 72) 23 rfl (w.heap.size + 3) 3 i0 _ 1 8 Try.underlying23 HI.out Hz0.out Hz1.out Hz2.out rfl (by decide) v1 lb.length (lb.map (Value.int .i64)) rfl HO11.out ⟨wn6.heap.size, 0, none⟩ 1 1 [.int .i64 sd] rfl rfl HN12.out (by intro u hu; simp at hu; subst hu; rfl) Nat.one_pos (by unfold maxLen; have := HLEN1.out; omega) (by have := HLEN1.out; omega) hbase13 _ rfl ?_; intro g14 cap14 wn14 hown14 hg14 hat14 hlt14)
                    have HS15 := Lib.hid (HS8.out.appI (i := 1) rfl hown14 hg14 hat14)
                    clear hown14 hg14 hat14 hlt14
                    refine Ends.intro ⟨HS15.out.here, ?_⟩
                    rw [wpWy_fin]
                    have HOB16 := Lib.hid (HS15.out.lies M3.out.ob (M3.out.far (by omega)))
                    have cS0 : wn14.cell? ⟨w.heap.size + 1 + 1, 0, none⟩ = some v0 := HOB16.out.at_ 0
                    have fS0 : wn14.frozen? ⟨w.heap.size + 1 + 1, 0, none⟩ = false := HOB16.out.free 0
                    have cS1 : wn14.cell? ⟨w.heap.size + 1 + 1, 1, none⟩ = some v1 := HOB16.out.at_ 1
                    have fS1 : wn14.frozen? ⟨w.heap.size + 1 + 1, 1, none⟩ = false := HOB16.out.free 1
                    go_wp2_with (fail)
                    go_meet
                    exact ⟨rfl, rfl, _, _, M3.out.stored HS15.out ((Only.set _ 0 _ _).trans (Only.set _ 1 _ _)) ((HOB16.out.set 0 _).set 1 _)⟩
                  exact trivial
                exact trivial
              rw [wpWy_way]
              refine ⟨?_, ?_⟩
              · skip
                simp only [List.getElem?_toArray, List.getElem?_cons_succ, List.getElem?_cons_zero]
                go_wp2_with (fail)
                have HS17 := Lib.hid (HS1.out.alloc (.cells #[.int .i64 sd] 3))
                have LB18 : Hid (Lies ((wd.alloc (.cells #[.int .i64 lf] 3)).alloc (.cells #[.int .i64 sd] 3)) (wd.heap.size + 1) 3 #[.int .i64 sd]) := Lib.hid (Lies.fresh' (by simp))
                have LB19 := Lib.hid (LB2.out.alloc (.cells #[.int .i64 sd] 3))
                refine Ends.intro ⟨HS17.out.here, ?_⟩
                rw [wpWy_way]
                refine ⟨?_, ?_⟩
                · skip
                  simp only [List.getElem?_toArray, List.getElem?_cons_succ, List.getElem?_cons_zero]
                  have HO20 : Hid (World.ownsRow ((wd.alloc (.cells #[.int .i64 lf] 3)).alloc (.cells #[.int .i64 sd] 3)) (w.heap.size + 3) 3 1 v0 la.length (la.map (Value.int .i64))) := Lib.hid (HS17.out.own 0 _ rfl)
                  have HN21 := Lib.hid (news_lies LB19.out)
                  have hbase22 : w.heap.size + 3 ≤ (((wd.alloc (.cells #[.int .i64 lf] 3)).alloc (.cells #[.int .i64 sd] 3))).heap.size := by have h := HS17.out.size; have h2 := M3.out.ob.in_; omega
                  go_wp2_with (at_builtin; refine wpList_append_lies _ rfl (.tmp 65) (.tmp 67) 23 rfl (w.heap.size + 3) 3 i0 _ 1 8 Try.underlying23 HI.out Hz0.out Hz1.out Hz2.out rfl (by decide) v0 la.length (la.map (Value.int .i64)) rfl HO20.out ⟨wd.heap.size, 0, none⟩ 1 1 [.int .i64 lf] rfl rfl HN21.out (by intro u hu; simp at hu; subst hu; rfl) Nat.one_pos (by unfold maxLen; have := HLEN0.out; omega) (by have := HLEN0.out; omega) hbase22 _ rfl ?_; intro g23 cap23 wn23 hown23 hg23 hat23 hlt23)
                  have HS24 := Lib.hid (HS17.out.appI (i := 0) rfl hown23 hg23 hat23)
                  have LB25 := Lib.hid (LB18.out.grown hg23 (fun e => by have := HOLD0.out _ e.symm; omega))
                  clear hown23 hg23 hat23 hlt23
                  refine Ends.intro ⟨HS24.out.here, ?_⟩
                  rw [wpWy_take]
                  simp only [List.getElem?_toArray, List.getElem?_cons_succ, List.getElem?_cons_zero]
                  repeat (first | go_big_quiet_step (fail) | quiet_step (fail))
                  refine wpQuiet_nil ?_
                  rw [wpWy_way]
                  refine ⟨?_, ?_⟩
                  · skip
                    simp only [List.getElem?_toArray, List.getElem?_cons_succ, List.getElem?_cons_zero]
                    have HO26 : Hid (World.ownsRow wn23 (w.heap.size + 3) 3 1 v1 lb.length (lb.map (Value.int .i64))) := Lib.hid (HS24.out.own 1 _ rfl)
                    have HN27 := Lib.hid (news_lies LB25.out)
                    have hbase28 : w.heap.size + 3 ≤ (wn23).heap.size := by have h := HS24.out.size; have h2 := M3.out.ob.in_; omega
                    go_wp2_with (at_builtin; refine wpList_append_lies _ rfl (.tmp 70) (.tmp 72) 23 rfl (w.heap.size + 3) 3 i0 _ 1 8 Try.underlying23 HI.out Hz0.out Hz1.out Hz2.out rfl (by decide) v1 lb.length (lb.map (Value.int .i64)) rfl HO26.out ⟨wd.heap.size + 1, 0, none⟩ 1 1 [.int .i64 sd] rfl rfl HN27.out (by intro u hu; simp at hu; subst hu; rfl) Nat.one_pos (by unfold maxLen; have := HLEN1.out; omega) (by have := HLEN1.out; omega) hbase28 _ rfl ?_; intro g29 cap29 wn29 hown29 hg29 hat29 hlt29)
                    have HS30 := Lib.hid (HS24.out.appI (i := 1) rfl hown29 hg29 hat29)
                    clear hown29 hg29 hat29 hlt29
                    refine Ends.intro ⟨HS30.out.here, ?_⟩
                    rw [wpWy_fin]
                    have HOB31 := Lib.hid (HS30.out.lies M3.out.ob (M3.out.far (by omega)))
                    have cS0 : wn29.cell? ⟨w.heap.size + 1 + 1, 0, none⟩ = some v0 := HOB31.out.at_ 0
                    have fS0 : wn29.frozen? ⟨w.heap.size + 1 + 1, 0, none⟩ = false := HOB31.out.free 0
                    have cS1 : wn29.cell? ⟨w.heap.size + 1 + 1, 1, none⟩ = some v1 := HOB31.out.at_ 1
                    have fS1 : wn29.frozen? ⟨w.heap.size + 1 + 1, 1, none⟩ = false := HOB31.out.free 1
                    go_wp2_with (fail)
                    go_meet
                    exact ⟨rfl, rfl, _, _, M3.out.stored HS30.out ((Only.set _ 0 _ _).trans (Only.set _ 1 _ _)) ((HOB31.out.set 0 _).set 1 _)⟩
                  exact trivial
                exact trivial
              exact trivial
            rw [wpWy_way]
            refine ⟨?_, ?_⟩
            · skip
              simp only [List.getElem?_toArray, List.getElem?_cons_succ, List.getElem?_cons_zero]
              go_wp2_with (fail)
              have HS32 := Lib.hid (HSa.out.alloc (.cells #[.int .i64 sd] 3))
              have LB33 : Hid (Lies (wd.alloc (.cells #[.int .i64 sd] 3)) (wd.heap.size) 3 #[.int .i64 sd]) := Lib.hid (Lies.fresh' (by simp))
              refine Ends.intro ⟨HS32.out.here, ?_⟩
              rw [wpWy_way]
              refine ⟨?_, ?_⟩
              · skip
                simp only [List.getElem?_toArray, List.getElem?_cons_succ, List.getElem?_cons_zero]
                go_wp2_with (fail)
                have HS34 := Lib.hid (HS32.out.alloc (.cells #[.int .i64 lf] 3))
                have LB35 : Hid (Lies ((wd.alloc (.cells #[.int .i64 sd] 3)).alloc (.cells #[.int .i64 lf] 3)) (wd.heap.size + 1) 3 #[.int .i64 lf]) := Lib.hid (Lies.fresh' (by simp))
                have LB36 := Lib.hid (LB33.out.alloc (.cells #[.int .i64 lf] 3))
                refine Ends.intro ⟨HS34.out.here, ?_⟩
                rw [wpWy_way]
                refine ⟨?_, ?_⟩
                · skip
                  simp only [List.getElem?_toArray, List.getElem?_cons_succ, List.getElem?_cons_zero]
                  have HO37 : Hid (World.ownsRow ((wd.alloc (.cells #[.int .i64 sd] 3)).alloc (.cells #[.int .i64 lf] 3)) (w.heap.size + 3) 3 1 v0 la.length (la.map (Value.int .i64))) := Lib.hid (HS34.out.own 0 _ rfl)
                  have HN38 := Lib.hid (news_lies LB35.out)
                  have hbase39 : w.heap.size + 3 ≤ (((wd.alloc (.cells #[.int .i64 sd] 3)).alloc (.cells #[.int .i64 lf] 3))).heap.size := by have h := HS34.out.size; have h2 := M3.out.ob.in_; omega
                  go_wp2_with (at_builtin; refine wpList_append_lies _ rfl (.tmp 65) (.tmp 67) 23 rfl (w.heap.size + 3) 3 i0 _ 1 8 Try.underlying23 HI.out Hz0.out Hz1.out Hz2.out rfl (by decide) v0 la.length (la.map (Value.int .i64)) rfl HO37.out ⟨wd.heap.size + 1, 0, none⟩ 1 1 [.int .i64 lf] rfl rfl HN38.out (by intro u hu; simp at hu; subst hu; rfl) Nat.one_pos (by unfold maxLen; have := HLEN0.out; omega) (by have := HLEN0.out; omega) hbase39 _ rfl ?_; intro g40 cap40 wn40 hown40 hg40 hat40 hlt40)
                  have HS41 := Lib.hid (HS34.out.appI (i := 0) rfl hown40 hg40 hat40)
                  have LB42 := Lib.hid (LB36.out.grown hg40 (fun e => by have := HOLD0.out _ e.symm; omega))
                  clear hown40 hg40 hat40 hlt40
                  refine Ends.intro ⟨HS41.out.here, ?_⟩
                  rw [wpWy_take]
                  simp only [List.getElem?_toArray, List.getElem?_cons_succ, List.getElem?_cons_zero]
                  repeat (first | go_big_quiet_step (fail) | quiet_step (fail))
                  refine wpQuiet_nil ?_
                  rw [wpWy_way]
                  refine ⟨?_, ?_⟩
                  · skip
                    simp only [List.getElem?_toArray, List.getElem?_cons_succ, List.getElem?_cons_zero]
                    have HO43 : Hid (World.ownsRow wn40 (w.heap.size + 3) 3 1 v1 lb.length (lb.map (Value.int .i64))) := Lib.hid (HS41.out.own 1 _ rfl)
                    have HN44 := Lib.hid (news_lies LB42.out)
                    have hbase45 : w.heap.size + 3 ≤ (wn40).heap.size := by have h := HS41.out.size; have h2 := M3.out.ob.in_; omega
                    go_wp2_with (at_builtin; refine wpList_append_lies _ rfl (.tmp 70) (.tmp 72) 23 rfl (w.heap.size + 3) 3 i0 _ 1 8 Try.underlying23 HI.out Hz0.out Hz1.out Hz2.out rfl (by decide) v1 lb.length (lb.map (Value.int .i64)) rfl HO43.out ⟨wd.heap.size, 0, none⟩ 1 1 [.int .i64 sd] rfl rfl HN44.out (by intro u hu; simp at hu; subst hu; rfl) Nat.one_pos (by unfold maxLen; have := HLEN1.out; omega) (by have := HLEN1.out; omega) hbase45 _ rfl ?_; intro g46 cap46 wn46 hown46 hg46 hat46 hlt46)
                    have HS47 := Lib.hid (HS41.out.appI (i := 1) rfl hown46 hg46 hat46)
                    clear hown46 hg46 hat46 hlt46
                    refine Ends.intro ⟨HS47.out.here, ?_⟩
                    rw [wpWy_fin]
                    have HOB48 := Lib.hid (HS47.out.lies M3.out.ob (M3.out.far (by omega)))
                    have cS0 : wn46.cell? ⟨w.heap.size + 1 + 1, 0, none⟩ = some v0 := HOB48.out.at_ 0
                    have fS0 : wn46.frozen? ⟨w.heap.size + 1 + 1, 0, none⟩ = false := HOB48.out.free 0
                    have cS1 : wn46.cell? ⟨w.heap.size + 1 + 1, 1, none⟩ = some v1 := HOB48.out.at_ 1
                    have fS1 : wn46.frozen? ⟨w.heap.size + 1 + 1, 1, none⟩ = false := HOB48.out.free 1
                    go_wp2_with (fail)
                    go_meet
                    exact ⟨rfl, rfl, _, _, M3.out.stored HS47.out ((Only.set _ 0 _ _).trans (Only.set _ 1 _ _)) ((HOB48.out.set 0 _).set 1 _)⟩
                  exact trivial
                exact trivial
              exact trivial
            exact trivial
          case rest =>
            obtain ⟨rfl, rfl, u0, u1, M4⟩ := hcut
            have hpd : min rv (rt - ld) = pd := by have h4 := E4.out; have h5 := HRT.out; omega
            have HPD := Lib.hid hpd
            have hrt2 : 0 ≤ rt ∧ rt ≤ 25000000 := by have h5 := HRT.out; omega
            have hld2 : 0 ≤ ld ∧ ld ≤ 30000000 := by have h5 := E3.out; omega
            have hwr : IntKind.i64.wrap (rt - ld) = rt - ld := IntWalk.i64_in _ (by omega)
            have HWR := Lib.hid hwr
            clear hpd hm hlf hs0 heb hkb hrb hwr
            as_aux_lemma =>
            go_upto_region 14 with (fail)
            have HLEN0 := C2
            have HLEN1 := C3
            have rS0 := SinceW.cell (w0 := wc) (l0 := seR (w.heap.size + 3) u0 u1 v2 v3 (la ++ [lf]) (lb ++ [sd]) lc le) (show wc.cell? ⟨w.heap.size + 1 + 1, 2, none⟩ = some v2 from M4.out.ob.at_ 2) (M4.out.far (k := w.heap.size + 1 + 1) (by omega))
            have rS1 := SinceW.cell (w0 := wc) (l0 := seR (w.heap.size + 3) u0 u1 v2 v3 (la ++ [lf]) (lb ++ [sd]) lc le) (show wc.cell? ⟨w.heap.size + 1 + 1, 3, none⟩ = some v3 from M4.out.ob.at_ 3) (M4.out.far (k := w.heap.size + 1 + 1) (by omega))
            have rX0 := SinceW.cell (w0 := wc) (l0 := seR (w.heap.size + 3) u0 u1 v2 v3 (la ++ [lf]) (lb ++ [sd]) lc le) (show wc.cell? ⟨w.heap.size, 1, none⟩ = some (.slice (some ⟨br, orr, none⟩) p.r.l.length p.r.c) by rw [← ER.out]; exact M4.out.pb.at_ 1) (M4.out.far (k := w.heap.size) (by omega))
            have rX1 := SinceW.cell (w0 := wc) (l0 := seR (w.heap.size + 3) u0 u1 v2 v3 (la ++ [lf]) (lb ++ [sd]) lc le) (show wc.cell? ⟨br, orr + k, none⟩ = some (.int .i64 rv) by rw [M4.out.bel.cell (p := ⟨br, orr + k, none⟩) hbr]; exact CR.out) (M4.out.far (k := br) (by omega))
            have hold0 : ∀ g, v2.ownBlock = some g → g < wc.heap.size := fun g e => (own_at (M4.out.rows.own 2 _ rfl) e).2.1
            have HOLD0 := Lib.hid hold0
            have hold1 : ∀ g, v3.ownBlock = some g → g < wc.heap.size := fun g e => (own_at (M4.out.rows.own 3 _ rfl) e).2.1
            have HOLD1 := Lib.hid hold1
            have HSa := Lib.hid (M4.out.rows.drew)
            clear hold0 hold1
            haveI hnewc : Nonempty (SinceW wc (seR (w.heap.size + 3) u0 u1 v2 v3 (la ++ [lf]) (lb ++ [sd]) lc le)) := ⟨⟨_, _, HSa.out⟩⟩
            refine wp_region_ways3 19 [0, 1, 2, 5, 6, 7, 8, 9, 10, 11, 12, 13, 14, 15] (.way 3 (.way 4 (.take 18 (.way 16 (.way 17 .fin .fin) .fin)) (.way 16 (.way 4 (.take 18 (.way 17 .fin .fin)) .fin) .fin)) (.way 16 (.way 3 (.way 4 (.take 18 (.way 17 .fin .fin)) .fin) .fin) .fin)) (fun W => ∃ c : SinceW wc (seR (w.heap.size + 3) u0 u1 v2 v3 (la ++ [lf]) (lb ++ [sd]) lc le), W = c.val) (by kernel_rfl) (by kernel_rfl) HSa.out.here ?_
            simp only [List.filterMap_cons, List.filterMap_nil, List.take_succ_cons, List.take_zero, List.getElem?_toArray, List.getElem?_cons_zero, List.getElem?_cons_succ, List.drop_succ_cons, List.drop_zero]
            repeat (first | go_big_quiet_step (fail) | quiet_step (fail))
            refine wpQuiet_nil ?_
            rw [HWR.out]
            rw [HPD.out]
            have hzd : wc.heap.size ≤ wc.drew.heap.size := Nat.le_refl _
            generalize wc.drew = wd at *
            clear rS0 rS1 rX0 rX1
            rw [wpWy_way]
            refine ⟨?_, ?_⟩
            · skip
              simp only [List.getElem?_toArray, List.getElem?_cons_succ, List.getElem?_cons_zero]
              go_wp2_with (fail)
              have HS1 := Lib.hid (HSa.out.alloc (.cells #[.int .i64 ld] 3))
              have LB2 : Hid (Lies (wd.alloc (.cells #[.int .i64 ld] 3)) (wd.heap.size) 3 #[.int .i64 ld]) := Lib.hid (Lies.fresh' (by simp))
              refine Ends.intro ⟨HS1.out.here, ?_⟩
              rw [wpWy_way]
              refine ⟨?_, ?_⟩
              · skip
                simp only [List.getElem?_toArray, List.getElem?_cons_succ, List.getElem?_cons_zero]
                have HO3 : Hid (World.ownsRow (wd.alloc (.cells #[.int .i64 ld] 3)) (w.heap.size + 3) 3 1 v2 lc.length (lc.map (Value.int .i64))) := Lib.hid (HS1.out.own 2 _ rfl)
                have HN4 := Lib.hid (news_lies LB2.out)
                have hbase5 : w.heap.size + 3 ≤ ((wd.alloc (.cells #[.int .i64 ld] 3))).heap.size := by have h := HS1.out.size; have h2 := M4.out.ob.in_; omega
                go_wp2_with (at_builtin; refine wpList_append_lies _ rfl (.tmp 77) (.tmp 79) 23 rfl (w.heap.size + 3) 3 i0 _ 1 8 Try.underlying23 HI.out Hz0.out Hz1.out Hz2.out rfl (by decide) v2 lc.length (lc.map (Value.int .i64)) rfl HO3.out ⟨wd.heap.size, 0, none⟩ 1 1 [.int .i64 ld] rfl rfl HN4.out (by intro u hu; simp at hu; subst hu; rfl) Nat.one_pos (by unfold maxLen; have := HLEN0.out; omega) (by have := HLEN0.out; omega) hbase5 _ rfl ?_; intro g6 cap6 wn6 hown6 hg6 hat6 hlt6)
                have HS7 := Lib.hid (HS1.out.appI (i := 2) rfl hown6 hg6 hat6)
                clear hown6 hg6 hat6 hlt6
                refine Ends.intro ⟨HS7.out.here, ?_⟩
                rw [wpWy_take]
                simp only [List.getElem?_toArray, List.getElem?_cons_succ, List.getElem?_cons_zero]
                repeat (first | go_big_quiet_step (fail) | quiet_step (fail))
                refine wpQuiet_nil ?_
                rw [wpWy_way]
                refine ⟨?_, ?_⟩
                · skip
                  simp only [List.getElem?_toArray, List.getElem?_cons_succ, List.getElem?_cons_zero]
                  go_wp2_with (fail)
                  have HS8 := Lib.hid (HS7.out.alloc (.cells #[.int .i64 pd] 3))
                  have LB9 : Hid (Lies (wn6.alloc (.cells #[.int .i64 pd] 3)) (wn6.heap.size) 3 #[.int .i64 pd]) := Lib.hid (Lies.fresh' (by simp))
                  have LB10 := Lib.hid (LB2.out.alloc (.cells #[.int .i64 pd] 3))
                  refine Ends.intro ⟨HS8.out.here, ?_⟩
                  rw [wpWy_way]
                  refine ⟨?_, ?_⟩
                  · skip
                    simp only [List.getElem?_toArray, List.getElem?_cons_succ, List.getElem?_cons_zero]
                    have HO11 : Hid (World.ownsRow (wn6.alloc (.cells #[.int .i64 pd] 3)) (w.heap.size + 3) 3 1 v3 le.length (le.map (Value.int .i64))) := Lib.hid (HS8.out.own 3 _ rfl)
                    have HN12 := Lib.hid (news_lies LB9.out)
                    have hbase13 : w.heap.size + 3 ≤ ((wn6.alloc (.cells #[.int .i64 pd] 3))).heap.size := by have h := HS8.out.size; have h2 := M4.out.ob.in_; omega
                    go_wp2_with (at_builtin; refine wpList_append_lies _ rfl (.tmp 82) (.tmp 92) 23 rfl (w.heap.size + 3) 3 i0 _ 1 8 Try.underlying23 HI.out Hz0.out Hz1.out Hz2.out rfl (by decide) v3 le.length (le.map (Value.int .i64)) rfl HO11.out ⟨wn6.heap.size, 0, none⟩ 1 1 [.int .i64 pd] rfl rfl HN12.out (by intro u hu; simp at hu; subst hu; rfl) Nat.one_pos (by unfold maxLen; have := HLEN1.out; omega) (by have := HLEN1.out; omega) hbase13 _ rfl ?_; intro g14 cap14 wn14 hown14 hg14 hat14 hlt14)
                    have HS15 := Lib.hid (HS8.out.appI (i := 3) rfl hown14 hg14 hat14)
                    clear hown14 hg14 hat14 hlt14
                    refine Ends.intro ⟨HS15.out.here, ?_⟩
                    rw [wpWy_fin]
                    have HOB16 := Lib.hid (HS15.out.lies M4.out.ob (M4.out.far (by omega)))
                    have cS0 : wn14.cell? ⟨w.heap.size + 1 + 1, 2, none⟩ = some v2 := HOB16.out.at_ 2
                    have fS0 : wn14.frozen? ⟨w.heap.size + 1 + 1, 2, none⟩ = false := HOB16.out.free 2
                    have cS1 : wn14.cell? ⟨w.heap.size + 1 + 1, 3, none⟩ = some v3 := HOB16.out.at_ 3
                    have fS1 : wn14.frozen? ⟨w.heap.size + 1 + 1, 3, none⟩ = false := HOB16.out.free 3
                    go_wp2_with (fail)
                    go_roundw
                    case rel => exact ⟨k + 1, _, _, _, _, by omega, by go_num, by rw [S0.out, S1.out, S2.out, S3.out]; exact M4.out.stored HS15.out ((Only.set _ 2 _ _).trans (Only.set _ 3 _ _)) ((HOB16.out.set 2 _).set 3 _)⟩
                    case measure => simp [intOf]; omega
                  exact trivial
                exact trivial
              rw [wpWy_way]
              refine ⟨?_, ?_⟩
              · skip
                simp only [List.getElem?_toArray, List.getElem?_cons_succ, List.getElem?_cons_zero]
                go_wp2_with (fail)
                have HS17 := Lib.hid (HS1.out.alloc (.cells #[.int .i64 pd] 3))
                have LB18 : Hid (Lies ((wd.alloc (.cells #[.int .i64 ld] 3)).alloc (.cells #[.int .i64 pd] 3)) (wd.heap.size + 1) 3 #[.int .i64 pd]) := Lib.hid (Lies.fresh' (by simp))
                have LB19 := Lib.hid (LB2.out.alloc (.cells #[.int .i64 pd] 3))
                refine Ends.intro ⟨HS17.out.here, ?_⟩
                rw [wpWy_way]
                refine ⟨?_, ?_⟩
                · skip
                  simp only [List.getElem?_toArray, List.getElem?_cons_succ, List.getElem?_cons_zero]
                  have HO20 : Hid (World.ownsRow ((wd.alloc (.cells #[.int .i64 ld] 3)).alloc (.cells #[.int .i64 pd] 3)) (w.heap.size + 3) 3 1 v2 lc.length (lc.map (Value.int .i64))) := Lib.hid (HS17.out.own 2 _ rfl)
                  have HN21 := Lib.hid (news_lies LB19.out)
                  have hbase22 : w.heap.size + 3 ≤ (((wd.alloc (.cells #[.int .i64 ld] 3)).alloc (.cells #[.int .i64 pd] 3))).heap.size := by have h := HS17.out.size; have h2 := M4.out.ob.in_; omega
                  go_wp2_with (at_builtin; refine wpList_append_lies _ rfl (.tmp 77) (.tmp 79) 23 rfl (w.heap.size + 3) 3 i0 _ 1 8 Try.underlying23 HI.out Hz0.out Hz1.out Hz2.out rfl (by decide) v2 lc.length (lc.map (Value.int .i64)) rfl HO20.out ⟨wd.heap.size, 0, none⟩ 1 1 [.int .i64 ld] rfl rfl HN21.out (by intro u hu; simp at hu; subst hu; rfl) Nat.one_pos (by unfold maxLen; have := HLEN0.out; omega) (by have := HLEN0.out; omega) hbase22 _ rfl ?_; intro g23 cap23 wn23 hown23 hg23 hat23 hlt23)
                  have HS24 := Lib.hid (HS17.out.appI (i := 2) rfl hown23 hg23 hat23)
                  have LB25 := Lib.hid (LB18.out.grown hg23 (fun e => by have := HOLD0.out _ e.symm; omega))
                  clear hown23 hg23 hat23 hlt23
                  refine Ends.intro ⟨HS24.out.here, ?_⟩
                  rw [wpWy_take]
                  simp only [List.getElem?_toArray, List.getElem?_cons_succ, List.getElem?_cons_zero]
                  repeat (first | go_big_quiet_step (fail) | quiet_step (fail))
                  refine wpQuiet_nil ?_
                  rw [wpWy_way]
                  refine ⟨?_, ?_⟩
                  · skip
                    simp only [List.getElem?_toArray, List.getElem?_cons_succ, List.getElem?_cons_zero]
                    have HO26 : Hid (World.ownsRow wn23 (w.heap.size + 3) 3 1 v3 le.length (le.map (Value.int .i64))) := Lib.hid (HS24.out.own 3 _ rfl)
                    have HN27 := Lib.hid (news_lies LB25.out)
                    have hbase28 : w.heap.size + 3 ≤ (wn23).heap.size := by have h := HS24.out.size; have h2 := M4.out.ob.in_; omega
                    go_wp2_with (at_builtin; refine wpList_append_lies _ rfl (.tmp 82) (.tmp 92) 23 rfl (w.heap.size + 3) 3 i0 _ 1 8 Try.underlying23 HI.out Hz0.out Hz1.out Hz2.out rfl (by decide) v3 le.length (le.map (Value.int .i64)) rfl HO26.out ⟨wd.heap.size + 1, 0, none⟩ 1 1 [.int .i64 pd] rfl rfl HN27.out (by intro u hu; simp at hu; subst hu; rfl) Nat.one_pos (by unfold maxLen; have := HLEN1.out; omega) (by have := HLEN1.out; omega) hbase28 _ rfl ?_; intro g29 cap29 wn29 hown29 hg29 hat29 hlt29)
                    have HS30 := Lib.hid (HS24.out.appI (i := 3) rfl hown29 hg29 hat29)
                    clear hown29 hg29 hat29 hlt29
                    refine Ends.intro ⟨HS30.out.here, ?_⟩
                    rw [wpWy_fin]
                    have HOB31 := Lib.hid (HS30.out.lies M4.out.ob (M4.out.far (by omega)))
                    have cS0 : wn29.cell? ⟨w.heap.size + 1 + 1, 2, none⟩ = some v2 := HOB31.out.at_ 2
                    have fS0 : wn29.frozen? ⟨w.heap.size + 1 + 1, 2, none⟩ = false := HOB31.out.free 2
                    have cS1 : wn29.cell? ⟨w.heap.size + 1 + 1, 3, none⟩ = some v3 := HOB31.out.at_ 3
                    have fS1 : wn29.frozen? ⟨w.heap.size + 1 + 1, 3, none⟩ = false := HOB31.out.free 3
                    go_wp2_with (fail)
                    go_roundw
                    case rel => exact ⟨k + 1, _, _, _, _, by omega, by go_num, by rw [S0.out, S1.out, S2.out, S3.out]; exact M4.out.stored HS30.out ((Only.set _ 2 _ _).trans (Only.set _ 3 _ _)) ((HOB31.out.set 2 _).set 3 _)⟩
                    case measure => simp [intOf]; omega
                  exact trivial
                exact trivial
              exact trivial
            rw [wpWy_way]
            refine ⟨?_, ?_⟩
            · skip
              simp only [List.getElem?_toArray, List.getElem?_cons_succ, List.getElem?_cons_zero]
              go_wp2_with (fail)
              have HS32 := Lib.hid (HSa.out.alloc (.cells #[.int .i64 pd] 3))
              have LB33 : Hid (Lies (wd.alloc (.cells #[.int .i64 pd] 3)) (wd.heap.size) 3 #[.int .i64 pd]) := Lib.hid (Lies.fresh' (by simp))
              refine Ends.intro ⟨HS32.out.here, ?_⟩
              rw [wpWy_way]
              refine ⟨?_, ?_⟩
              · skip
                simp only [List.getElem?_toArray, List.getElem?_cons_succ, List.getElem?_cons_zero]
                go_wp2_with (fail)
                have HS34 := Lib.hid (HS32.out.alloc (.cells #[.int .i64 ld] 3))
                have LB35 : Hid (Lies ((wd.alloc (.cells #[.int .i64 pd] 3)).alloc (.cells #[.int .i64 ld] 3)) (wd.heap.size + 1) 3 #[.int .i64 ld]) := Lib.hid (Lies.fresh' (by simp))
                have LB36 := Lib.hid (LB33.out.alloc (.cells #[.int .i64 ld] 3))
                refine Ends.intro ⟨HS34.out.here, ?_⟩
                rw [wpWy_way]
                refine ⟨?_, ?_⟩
                · skip
                  simp only [List.getElem?_toArray, List.getElem?_cons_succ, List.getElem?_cons_zero]
                  have HO37 : Hid (World.ownsRow ((wd.alloc (.cells #[.int .i64 pd] 3)).alloc (.cells #[.int .i64 ld] 3)) (w.heap.size + 3) 3 1 v2 lc.length (lc.map (Value.int .i64))) := Lib.hid (HS34.out.own 2 _ rfl)
                  have HN38 := Lib.hid (news_lies LB35.out)
                  have hbase39 : w.heap.size + 3 ≤ (((wd.alloc (.cells #[.int .i64 pd] 3)).alloc (.cells #[.int .i64 ld] 3))).heap.size := by have h := HS34.out.size; have h2 := M4.out.ob.in_; omega
                  go_wp2_with (at_builtin; refine wpList_append_lies _ rfl (.tmp 77) (.tmp 79) 23 rfl (w.heap.size + 3) 3 i0 _ 1 8 Try.underlying23 HI.out Hz0.out Hz1.out Hz2.out rfl (by decide) v2 lc.length (lc.map (Value.int .i64)) rfl HO37.out ⟨wd.heap.size + 1, 0, none⟩ 1 1 [.int .i64 ld] rfl rfl HN38.out (by intro u hu; simp at hu; subst hu; rfl) Nat.one_pos (by unfold maxLen; have := HLEN0.out; omega) (by have := HLEN0.out; omega) hbase39 _ rfl ?_; intro g40 cap40 wn40 hown40 hg40 hat40 hlt40)
                  have HS41 := Lib.hid (HS34.out.appI (i := 2) rfl hown40 hg40 hat40)
                  have LB42 := Lib.hid (LB36.out.grown hg40 (fun e => by have := HOLD0.out _ e.symm; omega))
                  clear hown40 hg40 hat40 hlt40
                  refine Ends.intro ⟨HS41.out.here, ?_⟩
                  rw [wpWy_take]
                  simp only [List.getElem?_toArray, List.getElem?_cons_succ, List.getElem?_cons_zero]
                  repeat (first | go_big_quiet_step (fail) | quiet_step (fail))
                  refine wpQuiet_nil ?_
                  rw [wpWy_way]
                  refine ⟨?_, ?_⟩
                  · skip
                    simp only [List.getElem?_toArray, List.getElem?_cons_succ, List.getElem?_cons_zero]
                    have HO43 : Hid (World.ownsRow wn40 (w.heap.size + 3) 3 1 v3 le.length (le.map (Value.int .i64))) := Lib.hid (HS41.out.own 3 _ rfl)
                    have HN44 := Lib.hid (news_lies LB42.out)
                    have hbase45 : w.heap.size + 3 ≤ (wn40).heap.size := by have h := HS41.out.size; have h2 := M4.out.ob.in_; omega
                    go_wp2_with (at_builtin; refine wpList_append_lies _ rfl (.tmp 82) (.tmp 92) 23 rfl (w.heap.size + 3) 3 i0 _ 1 8 Try.underlying23 HI.out Hz0.out Hz1.out Hz2.out rfl (by decide) v3 le.length (le.map (Value.int .i64)) rfl HO43.out ⟨wd.heap.size, 0, none⟩ 1 1 [.int .i64 pd] rfl rfl HN44.out (by intro u hu; simp at hu; subst hu; rfl) Nat.one_pos (by unfold maxLen; have := HLEN1.out; omega) (by have := HLEN1.out; omega) hbase45 _ rfl ?_; intro g46 cap46 wn46 hown46 hg46 hat46 hlt46)
                    have HS47 := Lib.hid (HS41.out.appI (i := 3) rfl hown46 hg46 hat46)
                    clear hown46 hg46 hat46 hlt46
                    refine Ends.intro ⟨HS47.out.here, ?_⟩
                    rw [wpWy_fin]
                    have HOB48 := Lib.hid (HS47.out.lies M4.out.ob (M4.out.far (by omega)))
                    have cS0 : wn46.cell? ⟨w.heap.size + 1 + 1, 2, none⟩ = some v2 := HOB48.out.at_ 2
                    have fS0 : wn46.frozen? ⟨w.heap.size + 1 + 1, 2, none⟩ = false := HOB48.out.free 2
                    have cS1 : wn46.cell? ⟨w.heap.size + 1 + 1, 3, none⟩ = some v3 := HOB48.out.at_ 3
                    have fS1 : wn46.frozen? ⟨w.heap.size + 1 + 1, 3, none⟩ = false := HOB48.out.free 3
                    go_wp2_with (fail)
                    go_roundw
                    case rel => exact ⟨k + 1, _, _, _, _, by omega, by go_num, by rw [S0.out, S1.out, S2.out, S3.out]; exact M4.out.stored HS47.out ((Only.set _ 2 _ _).trans (Only.set _ 3 _ _)) ((HOB48.out.set 2 _).set 3 _)⟩
                    case measure => simp [intOf]; omega
                  exact trivial
                exact trivial
              exact trivial
            exact trivial
    · obtain rfl : k = p.s.l.length := by omega
      obtain ⟨xa, ea, la, sa, _⟩ := own_done (enc := encI) (l := colL (lifD p.d G pl) p.s.l.length) (fun _ => rfl) (by rw [flat_ints]; exact M.out.rows.own 0 _ rfl)
      obtain ⟨xb, eb, lb, sb, _⟩ := own_done (enc := encI) (l := colL (solD p.d G pl) p.s.l.length) (fun _ => rfl) (by rw [flat_ints]; exact M.out.rows.own 1 _ rfl)
      obtain ⟨xc, ec, lc, sc, _⟩ := own_done (enc := encI) (l := colL (losD p.d G loss pl) p.s.l.length) (fun _ => rfl) (by rw [flat_ints]; exact M.out.rows.own 2 _ rfl)
      obtain ⟨xd, ed, ld, sd, _⟩ := own_done (enc := encI) (l := colL (plaD p.d G loss pl) p.s.l.length) (fun _ => rfl) (by rw [flat_ints]; exact M.out.rows.own 3 _ rfl)
      have hob := M.out.ob
      subst ea eb ec ed
      have ZB := Lib.hid M.out.zb
      have TB := Lib.hid hob
      have HB := Lib.hid M.out.bel
      have HIN := Lib.hid (show (⟨xa, xb, xc, xd⟩ : Y4).In wo wo.heap.size from ⟨la ▸ sa, lb ▸ sb, lc ▸ sc, ld ▸ sd⟩)
      have HLS := Lib.hid (show (⟨xa, xb, xc, xd⟩ : Y4).lists = seasL p.d G loss pl by unfold Y4.lists seasL; rw [la, lb, lc, ld]; rfl)
      have HLN := Lib.hid (And.intro la (And.intro lb (And.intro lc ld)))
      clear sa sb sc sd la lb lc ld hob M
      as_aux_lemma =>
      go_upto_region 15 with (fail)
      apply wp_region_lit
      refine wpList_load_row (o := ⟨some 96, _, _, _, _, _⟩) ?_ 55 (.tmp 9) ?_ (w.heap.size + 1 + 1) ?_ 55 #[.slice xa.A (colL (lifD p.d G pl) p.s.l.length).length xa.c, .slice xb.A (colL (solD p.d G pl) p.s.l.length).length xb.c, .slice xc.A (colL (losD p.d G loss pl) p.s.l.length).length xc.c, .slice xd.A (colL (plaD p.d G loss pl) p.s.l.length).length xd.c] (0, 0) _ TB.out Try.underlying55 rfl sizeYear ?_
      rfl; rfl; rfl
      simp only [Act.put, List.setIfInBounds_toArray, List.set_cons_zero, List.set_cons_succ]
      refine wpList_store_cells (o := ⟨none, .store 55 (.tmp 8) _, _, _, _, _⟩) ?_ 55 (.tmp 8) (.tmp 96) ?_ (w.heap.size + 1) 0 ?_ 55 zyear [.slice xa.A (colL (lifD p.d G pl) p.s.l.length).length xa.c, .slice xb.A (colL (solD p.d G pl) p.s.l.length).length xb.c, .slice xc.A (colL (losD p.d G loss pl) p.s.l.length).length xc.c, .slice xd.A (colL (plaD p.d G loss pl) p.s.l.length).length xd.c] ?_ ZB.out (Nat.le_refl 4) sizeYear (by simp [Value.oneCell']) ?_
      rfl; rfl; rfl; rfl
      intro w9 HS9 HO9
      refine wpList_nil ?_
      have hs9 : Lies w9 (w.heap.size + 1) 55 #[.slice xa.A (colL (lifD p.d G pl) p.s.l.length).length xa.c, .slice xb.A (colL (solD p.d G pl) p.s.l.length).length xb.c, .slice xc.A (colL (losD p.d G loss pl) p.s.l.length).length xc.c, .slice xd.A (colL (plaD p.d G loss pl) p.s.l.length).length xd.c] := HS9.out
      have hk9 : ∀ {α : Type} {k : Nat} {T : TypeId} {enc : α → List Value} {A : Option Addr} {l : List α}, T ≠ 55 → SlT wo wo.heap.size k T enc A l → SlT w9 w9.heap.size k T enc A l := fun hT h => by
        rw [HO9.out.size]
        exact h.only HO9.out ZB.out hT
      have hres : RetY (seasL p.d G loss pl) w (.returned (.agg #[.slice xa.A (colL (lifD p.d G pl) p.s.l.length).length xa.c, .slice xb.A (colL (solD p.d G pl) p.s.l.length).length xb.c, .slice xc.A (colL (losD p.d G loss pl) p.s.l.length).length xc.c, .slice xd.A (colL (plaD p.d G loss pl) p.s.l.length).length xd.c])) w9 :=
        ⟨⟨xa, xb, xc, xd⟩, by rw [← HLN.out.1, ← HLN.out.2.1, ← HLN.out.2.2.1, ← HLN.out.2.2.2]; rfl, HLS.out, ⟨hk9 (by decide) HIN.out.a, hk9 (by decide) HIN.out.b, hk9 (by decide) HIN.out.c, hk9 (by decide) HIN.out.d⟩, HO9.out.below HB.out (by omega)⟩
      have HRES := Lib.hid hres
      have HS := Lib.hid hs9
      clear hres hs9 HS9 HO9 hk9
      go_wp2
      exact bodyPost_ret (results_cell_row rfl _ _ (w.heap.size + 1) 55 #[.slice xa.A (colL (lifD p.d G pl) p.s.l.length).length xa.c, .slice xb.A (colL (solD p.d G pl) p.s.l.length).length xb.c, .slice xc.A (colL (losD p.d G loss pl) p.s.l.length).length xc.c, .slice xd.A (colL (plaD p.d G loss pl) p.s.l.length).length xd.c] (0, 0) _ rfl HS.out Try.underlying55 rfl sizeYear) rfl HRES.out
end Go.Proofs.Ytlkdmcdnkoiflaa

namespace Go.Proofs.Ytlkdmcdnkoiflaa
open Go.RowKit Go.Lib

/-- What the reference plants, list by list. -/
def plS (d : PD) (T : TD) : Nat → List Int
  | 0 => T.s
  | k + 1 => (toldL d.s.length (yrT d T k)).2.2.2
theorem liftAt_congr {pl pl' : List Int} {gr : List (List Int)} {j : Nat} : ∀ f : Nat, (∀ i, i < f → pl.getD i 0 = pl'.getD i 0) → liftAt pl gr j f = liftAt pl' gr j f
  | 0, _ => rfl
  | f + 1, h => by
    simp only [liftAt]
    rw [liftAt_congr f (fun i hi => h i (by omega)), h f (by omega)]
theorem plS_length {d : PD} {T : TD} (hn : d.s.length ≤ 5) (hs : T.s.length = d.s.length) : ∀ k, (plS d T k).length = d.s.length
  | 0 => hs
  | _ + 1 => (told_lens hn).2.2.2
theorem plS_at {d : PD} {T : TD} (hn : d.s.length ≤ 5) (hs : T.s.length = d.s.length) (k : Nat) {i : Nat} (hi : i < d.s.length) :
    (plS d T k).getD i 0 = (plD d (fun k => T.g.getD k []) (fun k => T.l.getD k 0) (pad5 T.s) k).getD i 0 := by
  cases k with
  | zero => show T.s.getD i 0 = (pad5 T.s).getD i 0; rw [pad5_getD (by omega) i (by omega)]
  | succ k =>
    have h := (told_at (d := d) (t := T) (k := k) (i := i) hi hn).2.2.2
    show (toldL d.s.length (yrT d T k)).2.2.2.getD i 0 = ((yearD d (T.g.getD k []) (T.l.getD k 0) (plD d (fun k => T.g.getD k []) (fun k => T.l.getD k 0) (pad5 T.s) k)).drop 15).getD i 0
    have hy := (yearD_at d (T.g.getD k []) (T.l.getD k 0) (plD d (fun k => T.g.getD k []) (fun k => T.l.getD k 0) (pad5 T.s) k) hi hn).2.2.2
    have h1 : (toldL d.s.length (yrT d T k)).2.2.2.getD i 0 = plaD d (T.g.getD k []) (T.l.getD k 0) (plD d (fun k => T.g.getD k []) (fun k => T.l.getD k 0) (pad5 T.s) k) i := by
      simp only [List.getD, h, Option.getD_some]
    rw [h1, ← hy]
    simp only [List.getD, List.getElem?_drop]
theorem seas_told {d : PD} {T : TD} (hn : d.s.length ≤ 5) (hs : T.s.length = d.s.length) (k : Nat) :
    seasL d (T.g.getD k []) (T.l.getD k 0) (plS d T k) = toldL d.s.length (yrT d T k) := by
  have hl : ∀ j, lifD d (T.g.getD k []) (plS d T k) j = lifD d (T.g.getD k []) (plD d (fun k => T.g.getD k []) (fun k => T.l.getD k 0) (pad5 T.s) k) j := fun j => liftAt_congr _ fun i hi => plS_at hn hs k hi
  have hso : ∀ j, solD d (T.g.getD k []) (plS d T k) j = solD d (T.g.getD k []) (plD d (fun k => T.g.getD k []) (fun k => T.l.getD k 0) (pad5 T.s) k) j := fun j => by unfold solD; rw [hl]
  have hlo : ∀ j, losD d (T.g.getD k []) (T.l.getD k 0) (plS d T k) j = losD d (T.g.getD k []) (T.l.getD k 0) (plD d (fun k => T.g.getD k []) (fun k => T.l.getD k 0) (pad5 T.s) k) j := fun j => by unfold losD; rw [hl, hso]
  have hpl : ∀ j, plaD d (T.g.getD k []) (T.l.getD k 0) (plS d T k) j = plaD d (T.g.getD k []) (T.l.getD k 0) (plD d (fun k => T.g.getD k []) (fun k => T.l.getD k 0) (pad5 T.s) k) j := fun j => by unfold plaD; rw [hl, hso, hlo]
  have tl := told_lens (d := d) (t := T) (k := k) hn
  have ext : ∀ (f : Nat → Int) (l : List Int), l.length = d.s.length → (∀ i, i < d.s.length → l[i]? = some (f i)) → colL f d.s.length = l := fun f l h1 h2 => by
    apply List.ext_getElem?
    intro i
    by_cases hi : i < d.s.length
    · rw [colL_at f hi, h2 i hi]
    · rw [List.getElem?_eq_none (by rw [colL_length]; omega), List.getElem?_eq_none (by omega)]
  unfold seasL
  rw [ext _ _ tl.1 (fun i hi => by rw [hl]; exact (told_at hi hn).1), ext _ _ tl.2.1 (fun i hi => by rw [hso]; exact (told_at hi hn).2.1),
    ext _ _ tl.2.2.1 (fun i hi => by rw [hlo]; exact (told_at hi hn).2.2.1), ext _ _ tl.2.2.2 (fun i hi => by rw [hpl]; exact (told_at hi hn).2.2.2)]
/-- The numbers of what is planted, and of what grows. -/
theorem plS_grown {p : PlM} {t : TrM} (h : PT p t) (hs : t.s.l.length = p.s.l.length) {k : Nat} (hk : k < t.g.l.length) : Grown5 p.s.l.length (plS p.d t.d k) (t.d.g.getD k []) := by
  have hn : p.d.s.length ≤ 5 := h.ok.n
  have h5 := plK_five h.ok h.fit (start_five h) k (by omega)
  have e : grT t = fun k => t.d.g.getD k [] := by
    funext k
    simp only [grT, TrM.d, List.getD, List.getElem?_map]
    cases t.g.l[k]? <;> rfl
  refine ⟨fun i hi => ?_, fun i j hi hj => ?_⟩
  · rw [plS_at (T := t.d) hn (show t.d.s.length = p.d.s.length from hs) k hi]
    have := h5.b i hi
    rw [plK_d, e] at this
    exact this
  · have hy : t.g.l[k]? = some t.g.l[k] := by simp [hk]
    have hm := List.getElem_mem hk
    have hyl := h.fit.gy _ hm
    have hr : i < t.g.l[k].l.length := by omega
    have hrl := h.fit.gr _ hm _ (List.getElem_mem hr)
    have hb := h.fit.gb _ hm _ (List.getElem_mem hr) (t.g.l[k].l[i].l[j]'(by omega)) (List.getElem_mem _)
    have e2 : ((t.d.g.getD k []).getD i []).getD j 0 = t.g.l[k].l[i].l[j]'(by omega) := by
      simp [TrM.d, List.getD, hk, hr, show j < t.g.l[k].l[i].l.length by omega]
    rw [e2]; exact hb
end Go.Proofs.Ytlkdmcdnkoiflaa

namespace Go.Proofs.Ytlkdmcdnkoiflaa
open Go.RowKit Go.Lib
attribute [local go_sem] Oper.semAt_some

/-- What the reference's Run hands back of Y years. -/
def RetQ (f : Nat → List Int × List Int × List Int × List Int) (Y : Nat) (w : World) (e : Ending) (w' : World) : Prop :=
  ∃ (A : Option Addr) (c : Nat) (ys : List Y4), e = .returned (.slice A Y c) ∧ SlT w' w'.heap.size 4 55 encY4 A ys ∧ ys.map Y4.lists = (List.range Y).map f ∧ (∀ y, y ∈ ys → y.In w' w'.heap.size) ∧ Below w.heap.size w w'
theorem infoRY : (Try.prog.info? 55).map (fun i => (i.zero, i.size, i.bytes)) = some (some (.agg #[.slice none 0 0, .slice none 0 0, .slice none 0 0, .slice none 0 0]), 4, 96) := by kernel_rfl
theorem alloc_ryear (w : World) : (Instr.alloc 55 true (.tuple #[])).run Try.prog w = .ok (.pointer (some ⟨w.heap.size, 0, none⟩)) (w.alloc (.cells zyear.toArray 55)) := by kernel_rfl
/-- The memory of Run between two rounds; v: the years so far; A5, l: what is planted. -/
structure QM (p : PlM) (t : TrM) (w : World) (f : Nat → List Int × List Int × List Int × List Int) (v : Value) (k : Nat) (A5 : Option Addr) (l : List Int) (A : World) : Prop where
  pb : Lies A w.heap.size 28 p.cells.toArray
  tb : Lies A (w.heap.size + 1) 31 t.cells.toArray
  own : ∃ ys : List Y4, A.ownsRow (w.heap.size + 1 + 1) 55 4 v k (ys.flatMap encY4) ∧ ys.map Y4.lists = (List.range k).map f ∧ ∀ y, y ∈ ys → y.In A A.heap.size
  pl : Sl w w.heap.size 1 encI A5 l ∨ SlT A A.heap.size 1 3 encI A5 l
  b : Below w.heap.size w A
section
variable {p : PlM} {t : TrM} {f : Nat → List Int × List Int × List Int × List Int} {w : World} {v : Value} {k : Nat} {A5 : Option Addr} {l : List Int} {A A' : World}
theorem QM.call (h : QM p t w f v k A5 l A) (hb : Below A.heap.size A A') : QM p t w f v k A5 l A' := by
  obtain ⟨ys, h1, h2, h3⟩ := h.own
  exact ⟨h.pb.call hb, h.tb.call hb, ⟨ys, ownsRow_call h1 hb, h2, fun y hy => (h3 y hy).call hb⟩, h.pl.imp id (fun h => h.call hb), h.b.trans (hb.mono h.b.size)⟩
theorem QM.start (h : QM p t w f v k A5 l A) : Sl A A.heap.size 1 encI A5 l := by
  rcases h.pl with h1 | h1
  · exact (h1.below h.b).more h.b.size
  · exact h1.sl
theorem QM.append {v' : Value} {y : Y4} {ys : List Y4} {A5' : Option Addr} {l' : List Int} (h : QM p t w f v k A5 l A) (h1 : A.ownsRow (w.heap.size + 1 + 1) 55 4 v k (ys.flatMap encY4)) (h2 : ys.map Y4.lists = (List.range k).map f) (h3 : ∀ y, y ∈ ys → y.In A A.heap.size)
    (hy : y.In A A.heap.size) (hl : y.lists = f k) (hg : A.grownBy A' v.ownBlock) (hown : A'.ownsRow (w.heap.size + 1 + 1) 55 4 v' (k + 1) (ys.flatMap encY4 ++ encY4 y)) (hA : A5' = y.d.A) (hl' : l' = y.d.l) :
    QM p t w f v' (k + 1) A5' l' A' := by
  have hne : ∀ j, j < w.heap.size + 1 + 1 → some j ≠ v.ownBlock := fun j hj e => by have := (own_at h1 e.symm).1; omega
  have hin : ∀ z : Y4, z.In A A.heap.size → z.In A' A'.heap.size := fun z hz =>
    (hz.keep fun b cs _ hcs => hg.block b hcs.in_ (fun e => by
        obtain ⟨_, _, cs', hl'⟩ := own_at h1 e.symm
        exact lies_ne hcs hl' (by decide) rfl)).more hg.size
  refine ⟨h.pb.grown hg (hne _ (by omega)), h.tb.grown hg (hne _ (by omega)), ⟨ys ++ [y], ?_, ?_, fun z hz => ?_⟩, .inr ?_, h.b.grown hg h.b.size (fun j e => by have := (own_at h1 e).1; omega)⟩
  · rw [List.flatMap_append]; simpa using hown
  · rw [List.map_append, h2, List.range_succ, List.map_append]; simp [hl]
  · rcases List.mem_append.1 hz with hz | hz
    · exact hin z (h3 z hz)
    · obtain rfl : z = y := by simpa using hz
      exact hin z hy
  · subst hA hl'; exact (hin y hy).d
end
set_option maxRecDepth 100000 in
set_option maxHeartbeats 4000000 in
theorem refRun_any (p : PlM) (t : TrM) (Y : Nat) (w : World) (hp : p.At w w.heap.size) (ht : t.At w w.heap.size) (hpt : PT p t) (hY : t.g.l.length = Y) :
    Calls Try.prog 26 #[.agg p.cells.toArray, .agg t.cells.toArray] w (RetQ (fun k => toldL p.d.s.length (yrT p.d t.d k)) Y w) := by
  subst hY
  have hn5 : p.s.l.length ≤ 5 := hpt.ok.n
  have hsl : t.s.l.length = p.s.l.length := hpt.fit.s
  obtain ⟨i0, hi0, hz00, hz01, hz02⟩ := info_parts infoRY
  have hSE : ∀ (k : Nat) (y : Sv (Sv Int)) (loss : Int) (A5 : Option Addr) (c5 : Nat) (W : World), t.g.l[k]? = some y → t.l.l[k]? = some loss → Below w.heap.size w W → Sl W W.heap.size 1 encI A5 (plS p.d t.d k) →
      Calls Try.prog 66 #[.agg p.cells.toArray, .slice A5 p.s.l.length c5, .slice y.A p.s.l.length y.c, .int .i64 loss] W (RetY (toldL p.d.s.length (yrT p.d t.d k)) W) := fun k y loss A5 c5 W hy hlo hb hA => by
    have hk : k < t.g.l.length := (List.getElem?_eq_some_iff.1 hy).1
    have hym := List.mem_of_getElem? hy
    have e1 : t.d.g.getD k [] = y.l.map (·.l) := by simp [TrM.d, List.getD, hy]
    have e2 : t.d.l.getD k 0 = loss := by simp [TrM.d, List.getD, hlo]
    have hG := plS_grown hpt hsl hk
    rw [e1] at hG
    have hlb := hpt.fit.lb _ (List.mem_of_getElem? hlo)
    have h := Season_any p A5 c5 (plS p.d t.d k) y loss W (hp.below hb hb.size) hpt.ok hA (plS_length (d := p.d) hn5 hsl k) ((ht.ys y hym).below hb |>.more hb.size) (fun r hr => ((ht.rs y hym r hr).below hb).more hb.size)
      (hpt.fit.gy y hym) (hpt.fit.gr y hym) hG hlb.1 hlb.2
    rw [← e1, ← e2, seas_told (d := p.d) hn5 hsl k, e2] at h
    exact h
  have l0 : Lies ((w.alloc (.cells p.cells.toArray 28)).alloc (.cells t.cells.toArray 31)) w.heap.size 28 p.cells.toArray := (Lies.fresh _ _ _).alloc _
  have l1 : Lies ((w.alloc (.cells p.cells.toArray 28)).alloc (.cells t.cells.toArray 31)) (w.heap.size + 1) 31 t.cells.toArray := Lies.fresh' (by simp)
  have b0 : Below w.heap.size w ((w.alloc (.cells p.cells.toArray 28)).alloc (.cells t.cells.toArray 31)) := (by repeat (first | (with_reducible assumption) | (with_reducible exact Below.refl _ _) | (with_reducible refine Below.drew ?_) | (with_reducible refine below_drewN ?_ _) | ((with_reducible refine Below.setCell ?_ ?_ _); rotate_left; focus (first | (simp; done) | (simp; omega) | omega)) | ((with_reducible refine Below.alloc ?_ ?_ _); rotate_left; focus (first | (simp; done) | (simp; omega) | omega))))
  have d0 : ((w.alloc (.cells p.cells.toArray 28)).alloc (.cells t.cells.toArray 31)).cell? ⟨w.heap.size + 1, 0, none⟩ = some (.slice t.s.A t.s.l.length t.s.c) := l1.at_ 0
  have hM : QM p t w (fun k => toldL p.d.s.length (yrT p.d t.d k)) (.slice none 0 0) 0 t.s.A (plS p.d t.d 0) ((w.alloc (.cells p.cells.toArray 28)).alloc (.cells t.cells.toArray 31)) :=
    ⟨l0, l1, ⟨[], by simpa using World.ownsRow_nil _ _ _ _, rfl, fun y hy => by cases hy⟩, .inl ht.s, b0⟩
  have HM := Lib.hid hM
  have HSE := Lib.hid hSE
  have HT := Lib.hid ht
  have HPT := Lib.hid hpt
  have HYR := Lib.hid (show p.years = (t.g.l.length : Int) from hpt.years)
  have H6 : (t.g.l.length : Int) ≤ 6 := by have := hpt.six; omega
  have HSL := Lib.hid hsl
  have HI0 := Lib.hid hi0
  have Hz00 := Lib.hid hz00
  have Hz01 := Lib.hid hz01
  have Hz02 := Lib.hid hz02
  rw [hsl] at d0
  clear l0 l1 b0 hM hSE hp ht hpt hsl hi0 hz00 hz01 hz02
  unfold PlM.cells TrM.cells at d0 ⊢
  go_enter Try.func26, Try.ntmps26
  go_wp2
  clear d0
  go_loopw [5, 6, 7, 8] (fun s5 v i _ wr => ∃ (k : Nat) (A5 : Option Addr) (c5 : Nat), k ≤ t.g.l.length ∧ i = .int .i64 k ∧ s5 = .slice A5 p.s.l.length c5 ∧ Aside (QM p t w (fun k => toldL p.d.s.length (yrT p.d t.d k)) v k A5 (plS p.d t.d k) wr)) (fun _ _ i _ _ => t.g.l.length - (intOf i).toNat)
  case atStart => exact ⟨0, _, _, Nat.zero_le _, rfl, rfl, HM.out⟩
  case round =>
    obtain ⟨k, A5, c5, hk, rfl, rfl, M⟩ := hrel
    have d7 : wr.cell? ⟨w.heap.size, 7, none⟩ = some (.int .i64 (t.g.l.length : Int)) := by rw [← HYR.out]; exact M.out.pb.at_ 7
    by_cases hlt : k < t.g.l.length
    · have hltz : (k : Int) < (t.g.l.length : Int) := by omega
      have hk0 : (0 : Int) ≤ (k : Int) := by omega
      obtain ⟨y, hy⟩ : ∃ y, t.g.l[k]? = some y := ⟨t.g.l[k], by simp [hlt]⟩
      obtain ⟨loss, hlo⟩ : ∃ loss, t.l.l[k]? = some loss := ⟨t.l.l[k]'(by rw [HPT.out.fit.l]; exact hlt), by have := HPT.out.fit.l; simp [this, hlt]⟩
      obtain ⟨bg, og, eg, hbg, cg⟩ := HT.out.g.cell1 hy
      obtain ⟨bl, ol, el, hbl, cl⟩ := HT.out.l.cell1 hlo
      have hyl : y.l.length = p.s.l.length := HPT.out.fit.gy y (List.mem_of_getElem? hy)
      have hll : t.l.l.length = t.g.l.length := HPT.out.fit.l
      have r1 := cell_regrown (show wr.cell? ⟨w.heap.size + 1, 1, none⟩ = some (.slice (some ⟨bg, og, none⟩) t.g.l.length t.g.c) by rw [← eg]; exact M.out.tb.at_ 1)
      have r2 := cell_regrown (show wr.cell? ⟨w.heap.size + 1, 2, none⟩ = some (.slice (some ⟨bl, ol, none⟩) t.g.l.length t.l.c) by rw [← el, ← hll]; exact M.out.tb.at_ 2)
      have r3 := cell_regrown (show wr.cell? ⟨bg, og + k, none⟩ = some (.slice y.A p.s.l.length y.c) by rw [M.out.b.cell (p := ⟨bg, og + k, none⟩) hbg, ← hyl]; exact cg)
      have r4 := cell_regrown (show wr.cell? ⟨bl, ol + k, none⟩ = some (.int .i64 loss) by rw [M.out.b.cell (p := ⟨bl, ol + k, none⟩) hbl]; exact cl)
      have hrp : ∀ W, (∃ q : Regrown, W = Go.Sort.grow (redrawn wr q.d) q.os) → W.rangeAt w.heap.size 0 p.cells := by
        rintro W ⟨q, rfl⟩
        exact Lies.range (cs := p.cells) (M.out.pb.call (below_regrown wr q.d q.os)) (fun j v hj => by simpa using hj)
      have hse : ∀ W, Below wr.heap.size wr W → Calls Try.prog 66 #[.agg p.cells.toArray, .slice A5 p.s.l.length c5, .slice y.A p.s.l.length y.c, .int .i64 loss] W (RetY (toldL p.d.s.length (yrT p.d t.d k)) W) := fun W hb =>
        HSE.out k y loss A5 c5 W hy hlo (M.out.b.trans (hb.mono M.out.b.size)) ((M.out.start.below hb).more hb.size)
      have HRP := Lib.hid hrp
      have HSK := Lib.hid hse
      have HM2 := Lib.hid M.out
      clear hrp hse M hy hlo cg cl eg el hyl hll
      go_upto_region 6 with (fail)
      clear d7
      refine wp_region_float 14 [0, 1, 2, 3, 4, 5, 6, 7, 8, 9, 10, 11] [12] 13 8 55 zyear.toArray (by kernel_rfl) (by kernel_rfl) (by simp) alloc_ryear ?_
      simp only [List.filterMap_cons, List.filterMap_nil, List.take_succ_cons, List.take_zero, List.getElem?_toArray, List.getElem?_cons_zero, List.getElem?_cons_succ, List.drop_succ_cons, List.drop_zero]
      refine wpQuiet_load_whole (o := ⟨some 17, _, _, _, _, _⟩) ?_ 28 (.tmp 2) ?_ w.heap.size 0 ?_ p.cells _ HRP.out Try.underlying28 rfl size28 ?_
      rfl; rfl; rfl
      simp only [Act.put, List.setIfInBounds_toArray, List.set_cons_zero, List.set_cons_succ]
      repeat (first | go_big_quiet_step (fail) | quiet_step (fail))
      refine wpQuiet_nil ?_
      refine ⟨by simp, ?_⟩
      intro vf0 w0 hx0
      simp only [List.setIfInBounds_toArray, List.set_cons_zero, List.set_cons_succ]
      clear r1 r2 r3 r4 HRP
      simp only [wpFloat]
      go_wp2_with (go_at_call 66; refine (HSK.out _ hx0).mono ?_; rintro e u1 ⟨z, rfl, hzl, hzi, hb1⟩)
      obtain ⟨la, lb, lc, ld⟩ := told_lens (d := p.d) (t := t.d) (k := k) hn5
      rw [← hzl] at la lb lc ld
      have hel : encY4 z = [.slice z.a.A p.s.l.length z.a.c, .slice z.b.A p.s.l.length z.b.c, .slice z.c.A p.s.l.length z.c.c, .slice z.d.A p.s.l.length z.d.c] := by
        show [z.a.val, z.b.val, z.c.val, z.d.val] = _
        unfold Sv.val
        rw [show z.a.l.length = p.s.l.length from la, show z.b.l.length = p.s.l.length from lb, show z.c.l.length = p.s.l.length from lc, show z.d.l.length = p.s.l.length from ld]
      rw [hel]
      refine Ends.intro ⟨hb1, ?_⟩
      intro vf1 w1 hx1
      simp only [Act.put, List.setIfInBounds_toArray, List.set_cons_zero, List.set_cons_succ]
      have hd1 := hx0.trans ((hb1.trans (hx1.mono hb1.size)).mono hx0.size)
      have hz1 := hzi.call hx1
      intro G w7 hx7 hG hlG
      simp only [Act.put, List.setIfInBounds_toArray, List.set_cons_zero, List.set_cons_succ]
      have hd7 := hd1.trans (hx7.mono hd1.size)
      have hz7 := hz1.call hx7
      refine wpList_store_cells (o := ⟨none, .store 55 (.tmp 8) _, _, _, _, _⟩) ?_ 55 (.tmp 8) (.tmp 29) ?_ G 0 ?_ 55 zyear [.slice z.a.A p.s.l.length z.a.c, .slice z.b.A p.s.l.length z.b.c, .slice z.c.A p.s.l.length z.c.c, .slice z.d.A p.s.l.length z.d.c] ?_ hlG (Nat.le_refl 4) sizeYear (by simp [Value.oneCell']) ?_
      rfl; rfl; rfl; rfl
      intro w8 HS8 HO8
      refine wpList_nil ?_
      have hs8 : Lies w8 G 55 #[.slice z.a.A p.s.l.length z.a.c, .slice z.b.A p.s.l.length z.b.c, .slice z.c.A p.s.l.length z.c.c, .slice z.d.A p.s.l.length z.d.c] := HS8.out
      have hd8 : Below wr.heap.size wr w8 := HO8.out.below hd7 hG
      have hz8 : z.In w8 w8.heap.size := by
        rw [HO8.out.size]
        exact ⟨hz7.a.only HO8.out hlG (by decide), hz7.b.only HO8.out hlG (by decide), hz7.c.only HO8.out hlG (by decide), hz7.d.only HO8.out hlG (by decide)⟩
      have hold : ∀ g, u6.ownBlock = some g → g < wr.heap.size := fun g e => by
        obtain ⟨ys, h1, _⟩ := HM2.out.own
        exact (own_at h1 e).2.1
      have M8 := Lib.hid (HM2.out.call hd8)
      have HS := Lib.hid hs8
      have HZ8 := Lib.hid hz8
      have HOLD := Lib.hid hold
      have HZL := Lib.hid hzl
      have HEL := Lib.hid hel
      clear hs8 hd8 hz8 hold HS8 HO8 hlG hd7 hz7 hz1 hd1 hx0 hx1 hx7 hb1 hzl hzi hel la lb lc ld HM2 HSK
      go_upto_region 7 with (fail)
      have hb9 : Below w8.heap.size w8 (w8.alloc (.cells #[.slice z.a.A p.s.l.length z.a.c, .slice z.b.A p.s.l.length z.b.c, .slice z.c.A p.s.l.length z.c.c, .slice z.d.A p.s.l.length z.d.c] 55)) := (Below.refl _ _).alloc (Nat.le_refl _) _
      have hn9 : ∀ (j : Nat) (u : Value), (encY4 z)[j]? = some u → (w8.alloc (.cells #[.slice z.a.A p.s.l.length z.a.c, .slice z.b.A p.s.l.length z.b.c, .slice z.c.A p.s.l.length z.c.c, .slice z.d.A p.s.l.length z.d.c] 55)).cell? ((⟨w8.heap.size, 0, none⟩ : Addr).add j) = some u := by
        rw [HEL.out]
        exact news_alloc w8 [.slice z.a.A p.s.l.length z.a.c, .slice z.b.A p.s.l.length z.b.c, .slice z.c.A p.s.l.length z.c.c, .slice z.d.A p.s.l.length z.d.c] 55
      have hm9 := M8.out.call hb9
      have hs9 := HS.out.call hb9
      have hz9 := HZ8.out.call hb9
      obtain ⟨ys, hown, hys, hyo⟩ := hm9.own
      have hbs9 : w.heap.size + 1 + 1 ≤ (w8.alloc (.cells #[.slice z.a.A p.s.l.length z.a.c, .slice z.b.A p.s.l.length z.b.c, .slice z.c.A p.s.l.length z.c.c, .slice z.d.A p.s.l.length z.d.c] 55)).heap.size := by have h1 := hm9.tb.in_; have := hs9.in_; have := hb9.size; have := hm9.b.size; omega
      have HM9 := Lib.hid hm9
      have HS9 := Lib.hid hs9
      have HZ9 := Lib.hid hz9
      have HOWN := Lib.hid hown
      have HYS := Lib.hid hys
      have HYO := Lib.hid hyo
      have HNW := Lib.hid hn9
      clear hm9 hs9 hz9 hown hys hyo hn9 hb9 M8 HZ8
      go_wp2_with (first
        | (refine wpList_load_row (o := ⟨some 31, _, _, _, _, _⟩) ?_ 55 (.tmp 8) ?_ G ?_ 55 #[.slice z.a.A p.s.l.length z.a.c, .slice z.b.A p.s.l.length z.b.c, .slice z.c.A p.s.l.length z.c.c, .slice z.d.A p.s.l.length z.d.c] (0, 0) _ HS.out Try.underlying55 rfl sizeYear ?_; rfl; rfl; rfl)
        | (at_builtin; go_must (refine wpList_append_lies _ rfl (.tmp 30) (.tmp 32) 50 rfl (w.heap.size + 1 + 1) 55 i0 _ 4 96 Try.underlying50 HI0.out Hz00.out Hz01.out Hz02.out rfl (by decide) u6 k (ys.flatMap encY4) rfl HOWN.out ⟨w8.heap.size, 0, none⟩ 1 1 (encY4 z) rfl rfl HNW.out (by intro u hu; simp [encY4, Sv.val] at hu; rcases hu with rfl | rfl | rfl | rfl <;> rfl) Nat.one_pos (by unfold maxLen; omega) (by omega) hbs9 _ rfl ?_); intro g7 cap7 w10 hown7 hg7 hat7 hlt7; have hN := HM9.out.append HOWN.out HYS.out HYO.out HZ9.out HZL.out hg7 hown7 (show z.d.A = z.d.A from rfl) (show (plS p.d t.d (k + 1)) = z.d.l from (congrArg (·.2.2.2) HZL.out).symm); have c3 : w10.cell? ⟨G, 3, none⟩ = some (.slice z.d.A p.s.l.length z.d.c) := (HS9.out.grown hg7 (fun e => by have := HOLD.out _ e.symm; omega)).at_ 3; have HN := Lib.hid hN; clear hN hown7 hg7 hat7 hlt7))
      go_roundw
      case rel => exact ⟨k + 1, _, _, by omega, by go_num, rfl, HN.out⟩
      case measure => simp [intOf]; omega
    · obtain rfl : k = t.g.l.length := by omega
      go_wp2
      go_ret
      obtain ⟨ys, h1, h2, h3⟩ := M.out.own
      have hlen : ys.length = t.g.l.length := by have := congrArg List.length h2; simpa using this
      rw [← hlen] at h1
      obtain ⟨A', c', e1, _, _⟩ := Sl.of_own (enc := encY4) (l := ys) encY4_length h1 rfl
      subst e1
      exact ⟨A', c', ys, by rw [← hlen]; rfl, SlT.of_own encY4_length h1, h2, h3, M.out.b⟩
end Go.Proofs.Ytlkdmcdnkoiflaa

namespace Go.Proofs.Ytlkdmcdnkoiflaa
open Go.RowKit Go.Lib
attribute [local go_sem] Oper.semAt_some

/-- What is sold of a size up to each of these years: f. -/
structure SoldF (ys : List Y4) (size : Nat) (f : Nat → Int) (w : World) : Prop where
  h0 : f 0 = 0
  len : ys.length ≤ 6
  s5 : size < 5
  step : ∀ k y, ys[k]? = some y → ∃ b : Int, y.b.l[size]? = some b ∧ f (k + 1) = f k + b ∧ 0 ≤ b ∧ b ≤ 30000000
  in_ : ∀ y, y ∈ ys → y.In w w.heap.size
theorem SoldF.bd {ys : List Y4} {size : Nat} {f : Nat → Int} {w : World} (h : SoldF ys size f w) : ∀ k, k ≤ ys.length → 0 ≤ f k ∧ f k ≤ 30000000 * (k : Int) := by
  intro k
  induction k with
  | zero => intro _; have := h.h0; omega
  | succ k ih =>
    intro hk
    have hkl : k < ys.length := by omega
    obtain ⟨b, _, e, b0, b1⟩ := h.step k ys[k] (by simp [hkl])
    have := ih (by omega)
    omega
def soldS (f : Nat → Int) (k : Nat) : List Int := (List.range k).map fun j => f (j + 1)
theorem soldS_succ (f : Nat → Int) (k : Nat) : soldS f (k + 1) = soldS f k ++ [f (k + 1)] := by simp [soldS, List.range_succ]
theorem soldS_length (f : Nat → Int) (k : Nat) : (soldS f k).length = k := by simp [soldS]
theorem soldS_at (f : Nat → Int) {k j : Nat} (h : j < k) : (soldS f k)[j]? = some (f (j + 1)) := by simp [soldS, h]
set_option maxRecDepth 100000 in
set_option maxHeartbeats 4000000 in
theorem Sold_any (A : Option Addr) (c : Nat) (ys : List Y4) (Y size : Nat) (f : Nat → Int) (w : World) (hA : Sl w w.heap.size 4 encY4 A ys) (hY : ys.length = Y) (hf : SoldF ys size f w) :
    Calls Try.prog 74 #[.slice A Y c, .int .i64 size] w fun e w' => ∃ A' c', e = .returned (.slice A' Y c') ∧ Sl w' w'.heap.size 1 encI A' (soldS f Y) ∧ Below w.heap.size w w' := by
  subst hY
  obtain ⟨i0, hi0, hz00, hz01, hz02⟩ := info_parts infoInt
  have HI0 := Lib.hid hi0
  have Hz00 := Lib.hid hz00
  have Hz01 := Lib.hid hz01
  have Hz02 := Lib.hid hz02
  have h6 : (ys.length : Int) ≤ 6 := by have := hf.len; omega
  have hs5 : (size : Int) < 5 := by have := hf.s5; omega
  have hs0 : (0 : Int) ≤ (size : Int) := by omega
  have hf0 := hf.h0
  have HA := Lib.hid hA
  have HF := Lib.hid hf
  have HBD := Lib.hid hf.bd
  have HF0 := Lib.hid hf0
  clear hi0 hz00 hz01 hz02 hf hA hf0
  go_enter Try.func74, Try.ntmps74
  go_wp2
  go_loopw [5, 6, 7] (fun v n i wr => ∃ k : Nat, k ≤ ys.length ∧ i = .int .i64 k ∧ n = .int .i64 (f k) ∧ Aside (wr.ownsRow w.heap.size 3 1 v k ((soldS f k).map (Value.int .i64))) ∧ Aside (Below w.heap.size w wr)) (fun _ _ i _ => ys.length - (intOf i).toNat)
  case atStart => exact ⟨0, Nat.zero_le _, rfl, by rw [HF0.out], World.ownsRow_nil _ _ _ _, Below.refl _ _⟩
  case round =>
    obtain ⟨k, hk, rfl, rfl, hown, hb⟩ := hrel
    by_cases hlt : k < ys.length
    · have hltz : (k : Int) < (ys.length : Int) := by omega
      have hk0 : (0 : Int) ≤ (k : Int) := by omega
      obtain ⟨y, hy⟩ : ∃ y, ys[k]? = some y := ⟨ys[k]'(by omega), by simp⟩
      obtain ⟨b, hyb, hfk, hb0, hb1⟩ := HF.out.step k y hy
      obtain ⟨b1, o1, rfl, hbb, q1⟩ := HA.out.at_ hy
      obtain ⟨mb, yb, ib, jb, pb⟩ := (HF.out.in_ y (List.mem_of_getElem? hy)).b.sl.cell1 hyb
      have hsl : size < y.b.l.length := (List.getElem?_eq_some_iff.1 hyb).1
      have hslz : (size : Int) < (y.b.l.length : Int) := by omega
      have c1 : wr.cell? ⟨b1, o1 + k * 4 + 1, none⟩ = some (.slice (some ⟨mb, yb, none⟩) y.b.l.length y.b.c) := by
        rw [← ib]; exact (hb.out.cell (p := ⟨b1, o1 + k * 4 + 1, none⟩) hbb).trans (q1 1 _ rfl)
      have c2 : wr.cell? ⟨mb, yb + size, none⟩ = some (.int .i64 b) := (hb.out.cell (p := ⟨mb, yb + size, none⟩) jb).trans pb
      have fb := HBD.out k hk
      have fbz : f k ≤ 180000000 := by omega
      have fb0 := fb.1
      have hst := soldS_succ f k
      have hln := soldS_length f k
      have hba : w.heap.size ≤ wr.heap.size := hb.out.size
      have HFK := Lib.hid hfk
      have HST := Lib.hid hst
      have HLN := Lib.hid hln
      have HOWN := Lib.hid hown
      have HB := Lib.hid hb
      clear q1 pb ib hyb hfk fb hy hst hln hown hb
      generalize y.b.l.length = yl at *
      go_wp2_with (at_builtin; refine wpList_append_own _ rfl (.tmp 24) (.tmp 26) 23 rfl w.heap.size 3 i0 _ 1 8 Try.underlying23 HI0.out Hz00.out Hz01.out Hz02.out rfl (by decide) _ _ _ rfl (World.ownsRow.alloc HOWN.out.out _) ⟨wr.heap.size, 0, none⟩ 1 1 [.int .i64 (f k + b)] rfl rfl (news_alloc wr [.int .i64 (f k + b)] _) (by intro u hu; simp at hu; subst hu; rfl) (by unfold maxLen; omega) (by omega) (by simp; omega) ?_; intro v4 w4 hown4 hg4 hnil4; clear hnil4)
      go_roundw
      case rel =>
        refine ⟨k + 1, by omega, by go_num, by rw [HFK.out], ?_, (HB.out.out.alloc hba _).grown hg4 (by simp; omega) (fun j hj => (HOWN.out.out.lt j hj).1)⟩
        show w4.ownsRow w.heap.size 3 1 v4 (k + 1) _
        rw [HST.out, List.map_append, HFK.out]
        simpa using hown4
      case measure => simp [intOf]; omega
    · obtain rfl : k = ys.length := by omega
      have hown2 : wr.ownsRow w.heap.size 3 1 u5 (soldS f ys.length).length ((soldS f ys.length).flatMap encI) := by rw [soldS_length, flat_ints]; exact hown
      obtain ⟨A', c', e1, e2, e3⟩ := Sl.of_own (enc := encI) (l := soldS f ys.length) (fun _ => rfl) hown2 rfl
      rw [soldS_length] at e1
      subst e1
      have HE3 := Lib.hid e3
      clear hown hown2 e2 e3
      go_wp2
      go_ret
      exact ⟨_, ⟨_, rfl⟩, HE3.out, hb.out⟩
/-- The years of a truth, as what is sold in them. -/
theorem soldF_of {d : PD} {t : TD} {ys : List Y4} {Y size : Nat} {w : World} (hm : ys.map Y4.lists = (List.range Y).map fun k => toldL d.s.length (yrT d t k)) (hin : ∀ y, y ∈ ys → y.In w w.heap.size) (hn : d.s.length ≤ 5) (hs : size < d.s.length) (hY : Y ≤ 6)
    (hb : ∀ k b, k < Y → (toldL d.s.length (yrT d t k)).2.1[size]? = some b → 0 ≤ b ∧ b ≤ 30000000) : SoldF ys size (soldT d t size) w := by
  have hl : ys.length = Y := by have := congrArg List.length hm; simpa using this
  refine ⟨by unfold soldT; rfl, by omega, by omega, fun k y hy => ?_, hin⟩
  have hk : k < Y := by rw [← hl]; exact (List.getElem?_eq_some_iff.1 hy).1
  have ey : y.lists = toldL d.s.length (yrT d t k) := by
    have h := congrArg (·[k]?) hm
    simp only [List.getElem?_map, hy, Option.map_some, List.getElem?_range hk] at h
    exact Option.some.inj h
  obtain ⟨b, h1, h2⟩ := soldT_step (d := d) (t := t) (size := size) (k := k) hs hn
  have hbb := hb k b hk h1
  rw [← ey] at h1
  exact ⟨b, h1, h2, hbb⟩
end Go.Proofs.Ytlkdmcdnkoiflaa

namespace Go.Proofs.Ytlkdmcdnkoiflaa
open Go.RowKit Go.Lib
attribute [local go_sem] Oper.semAt_some

set_option maxRecDepth 100000 in
set_option maxHeartbeats 2000000 in
theorem asked_any (p : PlM) (number : Int) (A : Option Addr) (c : Nat) (zs : List Int) (w : World) (hp : p.At w w.heap.size) (hA : Sl w w.heap.size 1 (fun x => [Value.int .i64 x]) A zs) (hl : zs.length ≤ 1000000) :
    Calls Try.prog 32 #[.agg p.cells.toArray, .int .i64 number, .slice A zs.length c] w fun e w' => e = .returned (.int .i64 (askedL p number zs)) ∧ Below w.heap.size w w' := by
  have l0 : Lies (w.alloc (.cells p.cells.toArray 28)) w.heap.size 28 p.cells.toArray := Lies.fresh _ _ _
  have b0 : Below w.heap.size w (w.alloc (.cells p.cells.toArray 28)) := (Below.refl _ _).alloc (Nat.le_refl _) _
  have hF := Fault_any p _ (hp.below b0 b0.size)
  have L0 := Lib.hid l0
  have B0 := Lib.hid b0
  have HF := Lib.hid hF
  have HA := Lib.hid hA
  have hls := hp.ls
  have hls0 : (p.s.l.length : Int) ≤ 1000000 := by omega
  have hlz : (zs.length : Int) ≤ 1000000 := by omega
  by_cases hf : p.fault = 0
  case neg =>
    have e : askedL p number zs = p.fault := by unfold askedL; rw [if_pos hf]
    rw [e]
    clear l0 b0 hF hA hp e
    unfold PlM.cells at HF ⊢
    go_enter Try.func32, Try.ntmps32
    go_wp2_with (first
      | (refine wpList_load_row (o := ⟨some 9, _, _, _, _, _⟩) ?_ 28 (.tmp 3) ?_ w.heap.size ?_ 28 p.cells.toArray (0, 0) _ L0.out Try.underlying28 rfl size28 ?_; rfl; rfl; rfl)
      | (go_at_call 24; refine HF.out.mono ?_; rintro e w1 ⟨rfl, hb1⟩))
    go_ret
    exact ⟨rfl, B0.out.trans (hb1.mono B0.out.size)⟩
  case pos =>
    have e : askedL p number zs = if zs.all (fun x => inB x 0 ((p.s.l.length : Int) - 1)) && inB number 0 10000000 then 0 else 2 := by unfold askedL; rw [if_neg (by simpa using hf)]
    have h2 : ∀ x, x ∈ zs → inB x 0 ((p.s.l.length : Int) - 1) = false → askedL p number zs = 2 := fun x hx hi => by
      rw [e, show (zs.all fun x => inB x 0 ((p.s.l.length : Int) - 1)) = false from List.all_eq_false.2 ⟨x, hx, by rw [hi]; simp⟩]; rfl
    have h3 : (∀ x, x ∈ zs → inB x 0 ((p.s.l.length : Int) - 1) = true) → askedL p number zs = if inB number 0 10000000 then 0 else 2 := fun h => by
      rw [e, show (zs.all fun x => inB x 0 ((p.s.l.length : Int) - 1)) = true from List.all_eq_true.2 h]; rfl
    have H2 := Lib.hid h2
    have H3 := Lib.hid h3
    rw [hf] at hF
    have HF := Lib.hid hF
    clear l0 b0 hF hA hp e h2 h3
    generalize askedL p number zs = q at *
    unfold PlM.cells at HF ⊢
    go_enter Try.func32, Try.ntmps32
    go_wp2_with (first
      | (refine wpList_load_row (o := ⟨some 9, _, _, _, _, _⟩) ?_ 28 (.tmp 3) ?_ w.heap.size ?_ 28 p.cells.toArray (0, 0) _ L0.out Try.underlying28 rfl size28 ?_; rfl; rfl; rfl)
      | (go_at_call 24; refine HF.out.mono ?_; rintro e w1 ⟨rfl, hb1⟩))
    have L1 := Lib.hid (L0.out.call hb1)
    have B1 := Lib.hid (B0.out.trans (hb1.mono B0.out.size))
    clear hb1 L0 B0 HF
    go_loopw [8] (fun i wr => ∃ k : Nat, k ≤ zs.length ∧ i = .int .i64 k ∧ Aside (∀ j x, j < k → zs[j]? = some x → inB x 0 ((p.s.l.length : Int) - 1) = true) ∧ Aside (Below w1.heap.size w1 wr)) (fun i _ => zs.length - (intOf i).toNat)
    case atStart => exact ⟨0, by omega, rfl, fun j x hj => by omega, Below.refl _ _⟩
    case round =>
      obtain ⟨k, hk, rfl, hj, hb⟩ := hrel
      have hbw := B1.out.trans (hb.out.mono B1.out.size)
      by_cases hlt : k < zs.length
      · have hltz : (k : Int) < (zs.length : Int) := by omega
        have hk0 : (0 : Int) ≤ (k : Int) := by omega
        obtain ⟨x, hx⟩ : ∃ x, zs[k]? = some x := ⟨zs[k], by simp [hlt]⟩
        obtain ⟨bz, oz, rfl, hbz, cz⟩ := HA.out.cell1 hx
        have r1 := cell_regrown (show wr.cell? ⟨w.heap.size, 0, none⟩ = some (.slice p.s.A p.s.l.length p.s.c) from (L1.out.call hb.out).at_ 0)
        have r2 := cell_regrown (show wr.cell? ⟨bz, oz + k, none⟩ = some (.int .i64 x) by rw [hbw.cell (p := ⟨bz, oz + k, none⟩) hbz]; exact cz)
        have HJ := Lib.hid hj.out
        have HB := Lib.hid hb.out
        have HX := Lib.hid hx
        clear hj hb hbw cz hx
        go_wp2
        refine wp_region_quiet_below (by kernel_rfl) (by kernel_rfl) ?_; (repeat (first | go_big_quiet_step ((go_at_call 37; refine Calls.regrown_of (In_below _ _ _ _))) | quiet_step ((go_at_call 37; refine Calls.regrown_of (In_below _ _ _ _))))); refine wpQuiet_nil ?_; intro wq hwq; have hbq : Below _ _ wq := (by obtain ⟨p, rfl⟩ := hwq; exact below_regrown _ _ _); clear hwq
        clear r1 r2
        obtain ⟨bb, hbb⟩ : ∃ bb, inB x 0 ((p.s.l.length : Int) - 1) = bb := ⟨_, rfl⟩
        rw [hbb]
        have HBB := Lib.hid hbb
        clear hbb
        cases bb with
        | true =>
          go_wp2
          go_roundw
          case rel => exact ⟨k + 1, by omega, by go_num, (fun j y hjk hy => by
            by_cases e : j = k
            · subst e; cases HX.out.symm.trans hy; exact HBB.out
            · exact HJ.out j y (by omega) hy), HB.out.trans (hbq.mono HB.out.size)⟩
          case measure => simp [intOf]; omega
        | false =>
          obtain rfl := H2.out x (List.mem_of_getElem? HX.out) HBB.out
          go_wp2
          go_ret
          have hbz2 := HB.out.trans (hbq.mono HB.out.size)
          exact ⟨rfl, B1.out.trans (hbz2.mono B1.out.size)⟩
      · obtain rfl : k = zs.length := by omega
        have hz := H3.out fun x hx => by
          obtain ⟨j, hjl⟩ := List.getElem?_of_mem hx
          exact hj.out j x (List.getElem?_eq_some_iff.1 hjl).1 hjl
        have HBW := Lib.hid hbw
        obtain ⟨bb, hbb⟩ : ∃ bb, inB number 0 10000000 = bb := ⟨_, rfl⟩
        rw [hbb] at hz
        have hI : ∀ W, Calls Try.prog 37 #[.int .i64 number, .int .i64 0, .int .i64 10000000] W fun e w' => e = .returned (.bool bb) ∧ Below W.heap.size W w' := fun W => by have := In_below number 0 10000000 W; rwa [hbb] at this
        have HI := Lib.hid hI
        clear hj hbw hb hbb hI
        cases bb with
        | true =>
          obtain rfl : q = 0 := hz
          go_wp2_with (go_at_call 37; refine (HI.out _).mono ?_; rintro e w2 ⟨rfl, hb2⟩)
          go_ret
          exact ⟨rfl, HBW.out.trans (hb2.mono HBW.out.size)⟩
        | false =>
          obtain rfl : q = 2 := hz
          go_wp2_with (go_at_call 37; refine (HI.out _).mono ?_; rintro e w2 ⟨rfl, hb2⟩)
          go_ret
          exact ⟨rfl, HBW.out.trans (hb2.mono HBW.out.size)⟩
end Go.Proofs.Ytlkdmcdnkoiflaa

namespace Go.Proofs.Ytlkdmcdnkoiflaa
open Go.RowKit Go.Lib
attribute [local go_sem] Oper.semAt_some

/-- What is sold in the truth of the ends. -/
theorem soldT_endsB {p : PlM} (hv : p.Valid) {Y : Nat} (hg : Bool) (S : Nat) {k : Nat} (hk : k ≤ Y) : soldT p.d (endsD p.d Y hg (Y : Int)) S k = soldE p.d hg S k := by
  obtain ⟨e1, e2⟩ := ends_parts hv Y hg (Y : Int)
  cases hg with
  | true =>
    unfold soldT soldE
    rw [e1]
    refine soldUpD_congr rfl rfl rfl rfl k fun j hj => ⟨(e2 j (by omega)).1, ?_⟩
    rw [(e2 j (by omega)).2, decide_eq_true (show (j : Int) < (Y : Int) by omega)]; rfl
  | false => exact soldT_ends hv S hk
theorem ReachP.one {f : Nat → Int} {Y : Nat} {number r s : Int} (h1 : ReachP f Y number r) (h2 : ReachP f Y number s) : r = s := by
  rcases h1 with ⟨a1, a2⟩ | ⟨k, a1, a2, a3, a4⟩ <;> rcases h2 with ⟨b1, b2⟩ | ⟨j, b1, b2, b3, b4⟩
  · omega
  · have := a2 j b1; omega
  · have := b2 k a1; omega
  · rcases Nat.lt_trichotomy k j with h | h | h
    · have := b4 k h; omega
    · omega
    · have := a4 j h; omega
theorem ReachP.congr {f g : Nat → Int} {Y : Nat} {number r : Int} (h : ReachP f Y number r) (e : ∀ k, k ≤ Y → f k = g k) : ReachP g Y number r := by
  rcases h with ⟨a1, a2⟩ | ⟨k, a1, a2, a3, a4⟩
  · exact .inl ⟨a1, fun j hj => by rw [← e (j + 1) (by omega)]; exact a2 j hj⟩
  · exact .inr ⟨k, a1, a2, by rw [← e (k + 1) (by omega)]; exact a3, fun j hj => by rw [← e (j + 1) (by omega)]; exact a4 j hj⟩
/-- Run of the reference for a law. -/
theorem refRun_law (q : PlM) (u : TrM) (d : PD) (T : TD) (Y : Nat) (W : World) (hd : q.d = d) (hT : u.d = T) (hq : q.At W W.heap.size) (hu : u.At W W.heap.size) (hf : q.fault = 0) (hfit : fitD d T = true) (hY : q.years = (Y : Int)) :
    Calls Try.prog 26 #[.agg q.cells.toArray, .agg u.cells.toArray] W (RetQ (fun k => toldL d.s.length (yrT d T k)) Y W) := by
  subst hd hT
  have h1 : u.fitB q = true := by rw [fit_d]; exact hfit
  have hpt := pt_of_fit (fault_zero hf) h1
  exact refRun_any q u Y W hq hu hpt (by have := hpt.years; omega)
end Go.Proofs.Ytlkdmcdnkoiflaa

namespace Go.Proofs.Ytlkdmcdnkoiflaa
open Go.RowKit Go.Lib
attribute [local go_sem] Oper.semAt_some

/-- What the calls of the laws about ends answer. -/
structure EC (p : PlM) (Y : Nat) (w : World) : Prop where
  plan : ∀ W, Below w.heap.size w W → Calls Try.prog 21 #[.agg p.cells.toArray] W (RetP p W)
  ends : ∀ (hg : Bool) (year : Int) (W : World), Below w.heap.size w W → Calls Try.prog 29 #[.agg p.cells.toArray, .bool hg, .int .i64 year] W (RetT (endsD p.d Y hg year) W)
  run : ∀ (hg : Bool) (year : Int) (u : TrM) (W : World), Below w.heap.size w W → u.d = endsD p.d Y hg year → u.At W W.heap.size → Calls Try.prog 26 #[.agg p.cells.toArray, .agg u.cells.toArray] W (RetQ (fun k => toldL p.d.s.length (yrT p.d (endsD p.d Y hg year) k)) Y W)
end Go.Proofs.Ytlkdmcdnkoiflaa

namespace Go.Proofs.Ytlkdmcdnkoiflaa
open Go.RowKit Go.Lib
attribute [local go_sem] Oper.semAt_some

theorem Sold_law (A : Option Addr) (c : Nat) (ys : List Y4) (d : PD) (T : TD) (p : PlM) (Y S : Nat) (w : World) (hd : p.d = d) (hv : p.Valid) (hY : p.years = (Y : Int)) (hf : fitD d T = true) (hS : S < d.s.length) (hA : Sl w w.heap.size 4 encY4 A ys) (hm : ys.map Y4.lists = (List.range Y).map fun k => toldL d.s.length (yrT d T k)) (hin : ∀ y, y ∈ ys → y.In w w.heap.size) :
    Calls Try.prog 74 #[.slice A Y c, .int .i64 S] w fun e w' => ∃ A' c', e = .returned (.slice A' Y c') ∧ Sl w' w'.heap.size 1 encI A' (soldS (soldT d T S) Y) ∧ Below w.heap.size w w' := by
  subst hd
  have hl : ys.length = Y := by have := congrArg List.length hm; simpa using this
  have hY6 : Y ≤ 6 := by have := hv.y; omega
  refine Sold_any A c ys Y S (soldT p.d T S) w hA hl (soldF_of hm hin hv.ok.n hS hY6 fun k b hk hb => ?_)
  obtain ⟨a', b', c', d', _, h4, _, _, K⟩ := law_kept hv hY hf hk (show S < p.s.l.length from hS)
  obtain rfl := Option.some.inj (h4.symm.trans hb)
  have := K.a1; have := K.b0; have := K.b1
  omega
set_option maxRecDepth 100000 in
set_option maxHeartbeats 4000000 in
theorem Surely_any (p : PlM) (Y S : Nat) (number : Int) (w : World) (hp : p.At w w.heap.size) (hf : p.fault = 0) (hY : p.years = (Y : Int)) (hS : S < p.s.l.length) :
    Calls Try.prog 35 #[.agg p.cells.toArray, .int .i64 S, .int .i64 number] w fun e w' => e = .returned (.bool (decide (number ≤ soldE p.d false S Y))) ∧ Below w.heap.size w w' := by
  have hv := fault_zero hf
  have hY6 : Y ≤ 6 := by have := hv.y; omega
  have l0 : Lies (w.alloc (.cells p.cells.toArray 28)) w.heap.size 28 p.cells.toArray := Lies.fresh _ _ _
  have b0 : Below w.heap.size w (w.alloc (.cells p.cells.toArray 28)) := (Below.refl _ _).alloc (Nat.le_refl _) _
  have hE : ∀ W, Below w.heap.size w W → Calls Try.prog 29 #[.agg p.cells.toArray, .bool false, .int .i64 Y] W (RetT (endsD p.d Y false (Y : Int)) W) := fun W hb => Ends_any p Y false Y W (hp.below hb hb.size) hv hY
  have hR : ∀ (u : TrM) (W : World), Below w.heap.size w W → u.d = endsD p.d Y false (Y : Int) → u.At W W.heap.size → Calls Try.prog 26 #[.agg p.cells.toArray, .agg u.cells.toArray] W (RetQ (fun k => toldL p.d.s.length (yrT p.d (endsD p.d Y false (Y : Int)) k)) Y W) := fun u W hb h1 h2 =>
    refRun_law p u p.d _ Y W rfl h1 (hp.below hb hb.size) h2 hf (ends_fits hv hY false Y) hY
  have hSo : ∀ (A : Option Addr) (c : Nat) (ys : List Y4) (W : World), Sl W W.heap.size 4 encY4 A ys → ys.map Y4.lists = (List.range Y).map (fun k => toldL p.d.s.length (yrT p.d (endsD p.d Y false (Y : Int)) k)) → (∀ y, y ∈ ys → y.In W W.heap.size) →
      Calls Try.prog 74 #[.slice A Y c, .int .i64 S] W fun e w' => ∃ A' c', e = .returned (.slice A' Y c') ∧ Sl w' w'.heap.size 1 encI A' (soldS (soldT p.d (endsD p.d Y false (Y : Int)) S) Y) ∧ Below W.heap.size W w' := fun A c ys W h1 h2 h3 =>
    Sold_law A c ys p.d _ p Y S W rfl hv hY (ends_fits hv hY false (Y : Int)) hS h1 h2 h3
  have hlast : ∀ M, Y = M + 1 → (soldS (soldT p.d (endsD p.d Y false (Y : Int)) S) Y)[M]? = some (soldE p.d false S Y) := fun M h => by
    rw [soldS_at _ (by omega), soldT_endsB hv false S (by omega), ← h]
  have hzero : Y = 0 → soldE p.d false S Y = 0 := fun h => by subst h; rfl
  have L0 := Lib.hid l0
  have B0 := Lib.hid b0
  have HE := Lib.hid hE
  have HR := Lib.hid hR
  have HSO := Lib.hid hSo
  have HLA := Lib.hid hlast
  have HZE := Lib.hid hzero
  have HY := Lib.hid hY
  have hYz : (Y : Int) ≤ 6 := by omega
  have hY0 : (0 : Int) ≤ (Y : Int) := by omega
  clear l0 b0 hE hR hSo hlast hzero hp hf hY hv hS
  generalize soldT p.d (endsD p.d Y false (Y : Int)) S = f at *
  generalize soldE p.d false S Y = sE at *
  unfold PlM.cells
  go_enter Try.func35, Try.ntmps35
  go_upto_region 1 with (fail)
  change Code.wp _ _ _ _ (w.alloc (.cells p.cells.toArray 28))
  generalize w.alloc (.cells p.cells.toArray 28) = w0 at *
  have hrg : ∀ W, (∃ c : Cls (fun W => Below w0.heap.size w0 W), W = c.val) → W.rangeAt w.heap.size 0 p.cells := by
    rintro W ⟨c, rfl⟩
    exact Lies.range (cs := p.cells) (L0.out.call c.h) (fun j v hj => by simpa using hj)
  have r7 : ∀ c : Cls (fun W => Below w0.heap.size w0 W), c.val.cell? ⟨w.heap.size, 6 + 1, none⟩ = some (.int .i64 (Y : Int)) := fun c => by rw [← HY.out]; exact (L0.out.call c.h).at_ 7
  have HRG := Lib.hid hrg
  haveI hne4 : Nonempty (Cls (fun W => Below w0.heap.size w0 W)) := ⟨⟨w0, Below.refl _ _⟩⟩
  clear hrg
  refine wp_region_whole [([0, 1, 2, 3, 6], [4, 5, 7]), ([8], [])] (fun W => ∃ c : Cls (fun W => Below w0.heap.size w0 W), W = c.val) (Cls.here (Below.refl _ _).drew) (by kernel_rfl) (by kernel_rfl) ?_
  simp only [wpPhases, List.filterMap_cons, List.filterMap_nil, List.getElem?_toArray, List.getElem?_cons_zero, List.getElem?_cons_succ]
  repeat (first
    | (refine wpQuiet_load_whole (o := ⟨some 9, _, _, _, _, _⟩) ?_ 28 (.tmp 3) ?_ w.heap.size 0 ?_ p.cells _ HRG.out Try.underlying28 rfl size28 ?_; rfl; rfl; rfl; simp only [Act.put, List.setIfInBounds_toArray, List.set_cons_zero, List.set_cons_succ])
    | (refine wpQuiet_load_whole (o := ⟨some 10, _, _, _, _, _⟩) ?_ 28 (.tmp 3) ?_ w.heap.size 0 ?_ p.cells _ HRG.out Try.underlying28 rfl size28 ?_; rfl; rfl; rfl; simp only [Act.put, List.setIfInBounds_toArray, List.set_cons_zero, List.set_cons_succ])
    | go_big_quiet_step (rfl) | quiet_step (rfl))
  refine wpQuiet_nil ?_
  (try simp only [wpForce])
  have hd1 : Below w0.heap.size w0 w0.drew := (Below.refl _ _).drew
  generalize w0.drew = v1 at *
  go_wp2_with (go_at_call 29; refine (HE.out _ (B0.out.trans (hd1.mono B0.out.size))).mono ?_; rintro e v2 ⟨u1, rfl, hud, hua, _, hb⟩)
  have hd2 := hd1.trans (hb.mono hd1.size)
  refine Ends.intro ⟨Cls.here hd2, ?_⟩
  clear hb
  go_wp2_with (go_at_call 26; refine (HR.out u1 _ (B0.out.trans (hd2.mono B0.out.size)) hud hua).mono ?_; rintro e v3 ⟨Al, cl, yl, rfl, hsl, hml, hil, hb⟩)
  have hd3 := hd2.trans (hb.mono hd2.size)
  refine Ends.intro ⟨Cls.here hd3, ?_⟩
  clear hb hud hua
  go_wp2_with (go_at_call 74; refine (HSO.out Al cl yl _ hsl.sl hml hil).mono ?_; rintro e v4 ⟨As, cs, rfl, hss, hb⟩)
  have hd4 := hd3.trans (hb.mono hd3.size)
  refine Ends.intro ⟨Cls.here hd4, ?_⟩
  clear hb hsl hml hil r7 HRG
  repeat (first | go_big_quiet_step (rfl) | quiet_step (rfl))
  refine wpQuiet_nil ?_
  have B4 := Lib.hid (B0.out.trans (hd4.mono B0.out.size))
  have HSS := Lib.hid hss
  clear hd1 hd2 hd3 hd4 hss B0 L0
  by_cases hpos : Y = 0
  · have hz := HZE.out hpos
    subst hpos
    obtain rfl : sE = 0 := hz
    clear HLA HSS HZE
    go_wp2
    all_goals (go_ret; exact ⟨rfl, B4.out⟩)
  · obtain ⟨M, hM⟩ : ∃ M, Y = M + 1 := ⟨Y - 1, by omega⟩
    obtain ⟨bs, os, rfl, hbs, cs0⟩ := HSS.out.cell1 (HLA.out M hM)
    have hY1 : (Y : Int) - 1 = (M : Int) := by omega
    have hMl : (M : Int) < (Y : Int) := by omega
    have hM0 : (0 : Int) ≤ (M : Int) := by omega
    have hYp : (0 : Int) < (Y : Int) := by omega
    clear HLA HSS HZE hM hpos
    go_wp2
    all_goals (go_ret; exact ⟨rfl, B4.out⟩)
end Go.Proofs.Ytlkdmcdnkoiflaa
