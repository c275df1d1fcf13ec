/- stands: what lies in memory meanwhile. -/
import Derived.Test.YtfhbcigeoagedaaRefList
import Derived.Test.YtfhbcigeoagedaaStepsW
namespace Go.Proofs.Ytfhbcigeoagedaa
open Go.RowKit Go.Shelf

/-- The law's boxes (when to leave, the answer, what is wanted), both lists. -/
structure Bx (w W : World) (rb qb s a5 a6 a7 : Nat) (L : Ls) (X : List (Nat × Nat)) (leave : Int) (ao : Option Addr) (cp : Nat) : Prop where
  b5 : W.heap[a5]? = some (.cells #[.int .i64 leave] 3 (0, 0))
  b6 : W.heap[a6]? = some (.cells #[.bool false] 4 (0, 0))
  b7 : W.heap[a7]? = some (.cells #[.slice ao X.length cp] 61 (0, 0))
  rd : Rd W rb L s
  rq : Rq W qb L
  ps : Ps W w.heap.size (.slice ao X.length cp) X
  kp : Kp w W [rb]
section
variable {w W W' : World} {rb qb s a5 a6 a7 : Nat} {L : Ls} {X : List (Nat × Nat)} {leave : Int} {ao : Option Addr} {cp : Nat}
theorem Bx.keep (h : Bx w W rb qb s a5 a6 a7 L X leave ao cp) (hk : Kp W W' []) : Bx w W' rb qb s a5 a6 a7 L X leave ao cp :=
  ⟨(hk.block a5 (lt_of_block h.b5) (by simp)).trans h.b5, (hk.block a6 (lt_of_block h.b6) (by simp)).trans h.b6, (hk.block a7 (lt_of_block h.b7) (by simp)).trans h.b7, h.rd.keep hk (by simp), h.rq.keep hk, h.ps.keep hk, h.kp.trans hk.nil⟩
end

theorem wp_only {P : Program} {c : Code} {Q : Exit → Act → World → Prop} {a : Act} {w : World} (h : c.wp P (fun e a' w' => match e with | .normal => Q .normal a' w' | _ => False) a w) : c.wp P Q a w :=
  wp_mono h fun e _ _ h => by
    cases e with
    | normal => exact h
    | _ => exact h.elim
end Go.Proofs.Ytfhbcigeoagedaa
