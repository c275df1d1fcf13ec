/- do: one step. -/
import Derived.Test.YtoenipaccnpihaaDo0
import Derived.Test.YtoenipaccnpihaaDo1
import Derived.Test.YtoenipaccnpihaaDo2
import Derived.Test.YtoenipaccnpihaaDo3
import Derived.Test.YtoenipaccnpihaaDo4
import Derived.Test.YtoenipaccnpihaaDo5
namespace Go.Proofs.Ytoenipaccnpihaa
open Go.RowKit Go.Shelf Go.Sort Go.Maps
open Go.Lib hiding intOf
attribute [local go_sem] Oper.semAt_some

theorem do_any (P : ClearOk) (w : World) (sb rb : Nat) (R Q : List Nat) (T S : Nat) (M : Nat → Nat) (L : El) (k t n v : Int) (x : Nat) (hx : x < 4294967296) (hl : L.length ≤ 600) (h : Pa w sb rb R Q T S M L) : Calls Try.prog 11 #[.pointer (some ⟨sb, 0, none⟩), .pointer (some ⟨rb, 0, none⟩), .agg #[.int .i64 k, .int .i64 t, .int .i64 n, .int .i64 v, .int .u32 x]] w fun e w' => Did w w' rb R Q T S (stM T M k t x) (stL T S L k t n v x) e := by
  by_cases k1 : k = 1
  · subst k1; exact do1 w sb rb R Q T S M L t n v x hx hl h
  by_cases k2 : k = 2
  · subst k2; exact do2 w sb rb R Q T S M L t n v x hx hl h
  by_cases k3 : k = 3
  · subst k3; exact do3 w sb rb R Q T S M L t n v x hx hl h
  by_cases k4 : k = 4
  · subst k4; exact do4 w sb rb R Q T S M L t n v x hx hl P h
  by_cases k5 : k = 5
  · subst k5; exact do5 w sb rb R Q T S M L t n v x hx hl h
  rw [show stM T M k t x = M by simp [stM, k2, k4], show stL T S L k t n v x = L by simp [stL, k1, k3, k4]]
  exact do0 w sb rb R Q T S M L k t n v x hx hl k1 k2 k3 k4 k5 h
end Go.Proofs.Ytoenipaccnpihaa
