/- The reference's With: a plan with another start of a size. -/
import Derived.Test.YtlkdmcdnkoiflaaYA
import Derived.Laws.OwnMore
namespace Go.Proofs.Ytlkdmcdnkoiflaa
open Go.RowKit Go.Lib

/-- The plan with another start of a size, at A. -/
def PlM.withS (p : PlM) (A : Option Addr) (c size : Nat) (r : Int × Int) : PlM := { p with s := ⟨A, p.s.l.set size r, c⟩ }
def RetW (p : PlM) (size : Nat) (r : Int × Int) (w : World) (e : Ending) (w' : World) : Prop :=
  ∃ (A : Option Addr) (c : Nat), e = .returned (.agg (p.withS A c size r).cells.toArray) ∧ SlT w' w'.heap.size 2 26 encR A (p.s.l.set size r) ∧ Below w.heap.size w w'
end Go.Proofs.Ytlkdmcdnkoiflaa

namespace Go.Proofs.Ytlkdmcdnkoiflaa
open Go.RowKit Go.Lib

def PD.withS (d : PD) (size : Nat) (r : Int × Int) : PD := { d with s := d.s.set size r }
end Go.Proofs.Ytlkdmcdnkoiflaa

namespace Go.Proofs.Ytlkdmcdnkoiflaa
open Go.RowKit Go.Lib
attribute [local go_sem] Oper.semAt_some

/-- What the calls answer for the plan x, which has so much planted of a size. -/
structure XC (p : PlM) (Y Q S : Nat) (N : Int) (ws : Sv Nat) (w : World) (h : Int) : Prop where
  plan : ∀ A c W, (p.withS A c Q (h, h)).At W W.heap.size → Calls Try.prog 21 #[.agg (p.withS A c Q (h, h)).cells.toArray] W (RetP (p.withS A c Q (h, h)) W)
  ends : ∀ A c W, (p.withS A c Q (h, h)).At W W.heap.size → Calls Try.prog 29 #[.agg (p.withS A c Q (h, h)).cells.toArray, .bool false, .int .i64 Y] W (RetT (endsD (p.d.withS Q (h, h)) Y false (Y : Int)) W)
  pick : ∀ A c W, (p.withS A c Q (h, h)).At W W.heap.size → Below w.heap.size w W → Calls Try.prog 52 #[.agg (p.withS A c Q (h, h)).cells.toArray, .slice ws.A ws.l.length ws.c] W (RetT (pickD (p.d.withS Q (h, h)) Y ws.l) W)
  truth : ∀ (T : TD) (u : TrM) (W : World), (T = endsD (p.d.withS Q (h, h)) Y false (Y : Int) ∨ T = pickD (p.d.withS Q (h, h)) Y ws.l) → u.d = T → u.At W W.heap.size → u.Nil → Calls Try.prog 23 #[.agg u.cells.toArray] W (RetT T W)
  run : ∀ (T : TD) (q : PlM) (u : TrM) (W : World), (T = endsD (p.d.withS Q (h, h)) Y false (Y : Int) ∨ T = pickD (p.d.withS Q (h, h)) Y ws.l) → q.d = p.d.withS Q (h, h) → u.d = T → q.At W W.heap.size → u.At W W.heap.size →
    Calls Try.prog 22 #[.agg q.cells.toArray, .agg u.cells.toArray] W (RetR (fun k => toldL p.s.l.length (yrT (p.d.withS Q (h, h)) T k)) Y W)
  first : ∀ (T : TD) (A : Option Addr) (c : Nat) (ys : List Y4) (r : Nat) (W : World), (T = endsD (p.d.withS Q (h, h)) Y false (Y : Int) ∨ T = pickD (p.d.withS Q (h, h)) Y ws.l) → Sl W W.heap.size 4 encY4 A ys → ys.map Y4.lists = ((List.range Y).map fun k => toldL p.s.l.length (yrT (p.d.withS Q (h, h)) T k)) → (∀ y, y ∈ ys → y.In W W.heap.size) →
    FirstP (soldT (p.d.withS Q (h, h)) T S) Y N r → Calls Try.prog 56 #[.slice A Y c, .int .i64 S, .int .i64 N] W fun e w' => e = .returned (.int .i64 r) ∧ Below W.heap.size W w'
  low : ∀ k, k ≤ Y → soldT (p.d.withS Q (h, h)) (endsD (p.d.withS Q (h, h)) Y false (Y : Int)) S k = soldE (p.d.withS Q (h, h)) false S k
  up : ∀ T, (T = endsD (p.d.withS Q (h, h)) Y false (Y : Int) ∨ T = pickD (p.d.withS Q (h, h)) Y ws.l) → ∀ k, k ≤ Y → 0 ≤ soldT (p.d.withS Q (h, h)) T S k ∧ soldE (p.d.withS Q (h, h)) false S k ≤ soldT (p.d.withS Q (h, h)) T S k ∧ ∀ j, j ≤ k → soldT (p.d.withS Q (h, h)) T S j ≤ soldT (p.d.withS Q (h, h)) T S k
  en : enoughD p.d Y Q S N h = decide (N ≤ soldE (p.d.withS Q (h, h)) false S Y)
end Go.Proofs.Ytlkdmcdnkoiflaa

namespace Go.Proofs.Ytlkdmcdnkoiflaa
open Go.RowKit Go.Lib
attribute [local go_sem] Oper.semAt_some

end Go.Proofs.Ytlkdmcdnkoiflaa

namespace Go.Proofs.Ytlkdmcdnkoiflaa
open Go.RowKit Go.Lib

end Go.Proofs.Ytlkdmcdnkoiflaa
