/- every at its types. -/
import Derived.Test.YteognijlgalahaaPI
namespace Go.Proofs.Yteognijlgalahaa
open Go.RowKit Go.Lib
theorem wpList_load_rowG {P : Program} {ops : Array Oper} {rest : List Oper} {o : Oper} {a : Act} {w : World} {Q : Exit → Act → World → Prop} (hw : Region.wanted o (yielded ops a.tmps) = true) (ty : TypeId) (x : Operand) (ho : o.op = .load ty x)
    (g : Nat) (hx : a.eval x = .pointer (some ⟨g, 0, none⟩)) (t : TypeId) (cs : Array Value) (fr : Nat × Nat) (d : TypeDesc) (hg : w.heap[g]? = some (.cells cs t fr))
    (hu : P.underlying ty = some d) (hd : (match d with | .struct _ | .array _ _ => true | _ => false) = true) (hi : (P.info? ty).map (·.size) = some cs.size)
    (h : wpList P ops Q rest (a.put o.dst (.agg cs)) w) : wpList P ops Q (o :: rest) a w :=
  wpList_step fun K hK => by
    rw [if_pos hw]
    exact wp_load_row ty x ho g hx t cs fr d hg hu hd hi (hK _ _ h)
section
set_option maxHeartbeats 1000000
theorem everyInt_any (g : Nat) (ft lb : Array Value) (p : Int → Bool) (A : Option Addr) (c : Nat) (zs : List Int) (w : World) (hA : Sl w w.heap.size 1 (fun x => [Value.int .i64 x]) A zs)
    (hp : Ask Try.prog (Value.int .i64) g ft lb p (· ∈ zs) w) (hl : zs.length ≤ 1000000) :
    Calls Try.prog 65 #[.slice A zs.length c, .func (.func g) ft lb] w fun e w' => e = .returned (.bool (zs.all p)) ∧ Below w.heap.size w w' := by
  have eg := hp.eg
  have HP := Lib.hid hp
  have HA := Lib.hid hA
  clear hp hA
  go_enter Try.func65, Try.ntmps65
  go_wp2
  go_loopg [6, 9] zs.length (fun gg _ s9 wr => ∃ kk : Nat, kk ≤ zs.length ∧ zs.length - kk ≤ gg ∧ s9 = .int .i64 kk ∧ Aside (Below w.heap.size w wr) ∧ Aside (∀ j x, j < kk → zs[j]? = some x → p x = true))
  case atStart => exact ⟨0, Nat.zero_le _, by omega, rfl, Below.refl _ w, fun j x hj => absurd hj (Nat.not_lt_zero _)⟩
  case round =>
    obtain ⟨kk, hkk, hg, rfl, BW, HH⟩ := hrel
    by_cases hlt : kk < zs.length
    · have hltz : (kk : Int) < (zs.length : Int) := by omega
      obtain ⟨x, hx⟩ : ∃ x, zs[kk]? = some x := ⟨zs[kk], by simp [hlt]⟩
      obtain ⟨b, off, rfl, hb, hc⟩ := HA.out.cell1 hx
      have l2 : wr.cell? ⟨b, off + kk, none⟩ = some (.int .i64 x) := by rw [BW.out.cell (p := ⟨b, off + kk, none⟩) hb]; exact hc
      have hcall := HP.out.call wr x (List.mem_of_getElem? hx) BW.out
      clear hc
      have HX := Lib.hid hx
      clear hx
      cases hq : p x with
      | false =>
        rw [hq] at hcall
        have HQ := Lib.hid hq
        clear hq
        go_wp2_with (go_at_fn g; refine hcall.mono ?_; rintro e w' ⟨rfl, hb'⟩)
        go_ret
        exact ⟨ret_bool (all_hit HX.out HQ.out).symm, BW.out.trans (hb'.mono BW.out.size)⟩
      | true =>
        rw [hq] at hcall
        have HQ := Lib.hid hq
        clear hq
        go_wp2_with (go_at_fn g; refine hcall.mono ?_; rintro e w' ⟨rfl, hb'⟩)
        go_roundg (zs.length - (kk + 1))
        case measure => omega
        case rel =>
          refine ⟨kk + 1, by omega, by omega, by go_num, BW.out.trans (hb'.mono BW.out.size), (show Aside _ from fun j y hj hy => ?_)⟩
          by_cases e : j = kk
          · subst e
            rw [HX.out] at hy; cases hy; exact HQ.out
          · exact HH.out j y (by omega) hy
    · have hltz : ¬ (kk : Int) < (zs.length : Int) := by omega
      have he : kk = zs.length := by omega
      have HE := Lib.hid he
      clear he
      go_wp2
      go_ret
      exact ⟨ret_bool (all_miss (by rw [← HE.out]; exact HH.out)).symm, BW.out⟩
theorem everyDy_any (g : Nat) (ft lb : Array Value) (p : Dy → Bool) (A : Option Addr) (c : Nat) (zs : List (Dy)) (w : World) (hA : Sl w w.heap.size 5 encD A zs)
    (hp : Ask Try.prog (fun x => .agg (encD x).toArray) g ft lb p (· ∈ zs) w) (hl : zs.length ≤ 1000000) :
    Calls Try.prog 68 #[.slice A zs.length c, .func (.func g) ft lb] w fun e w' => e = .returned (.bool (zs.all p)) ∧ Below w.heap.size w w' := by
  have eg := hp.eg
  have HP := Lib.hid hp
  have HA := Lib.hid hA
  clear hp hA
  go_enter Try.func68, Try.ntmps68
  go_wp2
  go_loopg [6, 9] zs.length (fun gg _ s9 wr => ∃ kk : Nat, kk ≤ zs.length ∧ zs.length - kk ≤ gg ∧ s9 = .int .i64 kk ∧ Aside (Below w.heap.size w wr) ∧ Aside (∀ j x, j < kk → zs[j]? = some x → p x = true))
  case atStart => exact ⟨0, Nat.zero_le _, by omega, rfl, Below.refl _ w, fun j x hj => absurd hj (Nat.not_lt_zero _)⟩
  case round =>
    obtain ⟨kk, hkk, hg, rfl, BW, HH⟩ := hrel
    by_cases hlt : kk < zs.length
    · have hltz : (kk : Int) < (zs.length : Int) := by omega
      obtain ⟨x, hx⟩ : ∃ x, zs[kk]? = some x := ⟨zs[kk], by simp [hlt]⟩
      obtain ⟨b, off, rfl, hb, hrg⟩ := HA.out.cellD hx
      have l2 : wr.cell? ⟨b, off + kk * 5, none⟩ = some (.int .i64 x.lo) := by rw [BW.out.cell (p := ⟨b, off + kk * 5, none⟩) hb]; exact hrg 0 _ rfl
      have l3 : wr.cell? ⟨b, off + kk * 5 + 1, none⟩ = some (.int .i64 x.hi) := by rw [BW.out.cell (p := ⟨b, off + kk * 5 + 1, none⟩) hb]; exact hrg 1 _ rfl
      have l4 : wr.cell? ⟨b, off + kk * 5 + 2, none⟩ = some (.int .i64 x.sp) := by rw [BW.out.cell (p := ⟨b, off + kk * 5 + 2, none⟩) hb]; exact hrg 2 _ rfl
      have l5 : wr.cell? ⟨b, off + kk * 5 + 3, none⟩ = some (.int .i64 x.ou) := by rw [BW.out.cell (p := ⟨b, off + kk * 5 + 3, none⟩) hb]; exact hrg 3 _ rfl
      have l6 : wr.cell? ⟨b, off + kk * 5 + 4, none⟩ = some (.int .i64 x.inn) := by rw [BW.out.cell (p := ⟨b, off + kk * 5 + 4, none⟩) hb]; exact hrg 4 _ rfl
      have hcall := HP.out.call (wr.alloc (.cells (encD x).toArray 72)) x (List.mem_of_getElem? hx) (BW.out.alloc BW.out.size _)
      dsimp only [encD] at hcall
      clear hrg
      have HX := Lib.hid hx
      clear hx
      cases hq : p x with
      | false =>
        rw [hq] at hcall
        have HQ := Lib.hid hq
        clear hq
        go_wp2_with (go_at_fn g; refine hcall.mono ?_; rintro e w' ⟨rfl, hb'⟩)
        go_ret
        exact ⟨ret_bool (all_hit HX.out HQ.out).symm, (BW.out.alloc BW.out.size _).trans (hb'.mono (BW.out.alloc BW.out.size _).size)⟩
      | true =>
        rw [hq] at hcall
        have HQ := Lib.hid hq
        clear hq
        go_wp2_with (go_at_fn g; refine hcall.mono ?_; rintro e w' ⟨rfl, hb'⟩)
        go_roundg (zs.length - (kk + 1))
        case measure => omega
        case rel =>
          refine ⟨kk + 1, by omega, by omega, by go_num, (BW.out.alloc BW.out.size _).trans (hb'.mono (BW.out.alloc BW.out.size _).size), (show Aside _ from fun j y hj hy => ?_)⟩
          by_cases e : j = kk
          · subst e
            rw [HX.out] at hy; cases hy; exact HQ.out
          · exact HH.out j y (by omega) hy
    · have hltz : ¬ (kk : Int) < (zs.length : Int) := by omega
      have he : kk = zs.length := by omega
      have HE := Lib.hid he
      clear he
      go_wp2
      go_ret
      exact ⟨ret_bool (all_miss (by rw [← HE.out]; exact HH.out)).symm, BW.out⟩
end
end Go.Proofs.Yteognijlgalahaa
