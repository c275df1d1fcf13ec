/- All: an iterator over what the wheel holds when it is called. -/
import Derived.Test.YtoaceeddcnijoaaCalls
import Derived.Test.YtoaceeddcnijoaaZero
import Derived.Test.YtoaceeddcnijoaaRange
namespace Go.Proofs.Ytoaceeddcnijoaa
open Go.RowKit Go.Shelf Go.Lib Go.Sort
attribute [local go_sem] Oper.semAt_some

/-- An iterator's memory: the variable that it has caught, and the deadlines in order. -/
structure It (w : World) (base x : Nat) (Z : List Dl) : Prop where
  ge : base ≤ x
  ex : ∃ v, w.heap[x]? = some (.cells #[v] 47 (0, 0)) ∧ Dr w base v Z
abbrev itv (x : Nat) : Value := .func (.func 34) #[] #[.pointer (some ⟨x, 0, none⟩)]
set_option maxRecDepth 100000 in
theorem all_any (w : World) (wb : Nat) (F : Nat → Value) (D : Nat → List Dl) (h : Wh w wb F D) (hl : (cat D 64).length ≤ 100000) :
    Calls Try.prog 19 #[.pointer (some ⟨wb, 0, none⟩)] w fun e w' => (∃ x, e = .returned (itv x) ∧ ∃ Z, St (cat D 64) Z ∧ It w' w.heap.size x Z) ∧ Kp w w' [] := by
  have H := hid (list_any w wb F D h hl)
  clear h hl
  go_enter Try.func19, Try.ntmps19
  go_wp2_with fail
  refine H.out.mono ?_
  rintro e w1 ⟨v, Z, rfl, hZ, hd, hk⟩
  obtain ⟨ao, cap, hv⟩ := hd.slice
  obtain ⟨n, hn⟩ : ∃ n, Z.length = n := ⟨_, rfl⟩
  rw [hn] at hv
  subst hv
  have R := hid (And.intro hZ (And.intro hd hk))
  clear hZ hd hk hn
  go_wp2
  go_ret
  have ka := Kp.alloc w1 (.cells #[.slice ao n cap] 47) []
  exact ⟨⟨_, rfl, Z, R.out.1, R.out.2.2.size, _, heap_alloc_new w1 _, R.out.2.1.keep ka⟩, R.out.2.2.trans ka⟩
set_option maxRecDepth 100000 in
theorem zall (w : World) (p : Option Addr) (h : Zw w p) : Calls Try.prog 19 #[.pointer p] w fun e w' => (∃ x, e = .returned (itv x) ∧ It w' w.heap.size x []) ∧ Kp w w' [] := by
  have H := hid (zlist w p h)
  clear h
  go_enter Try.func19, Try.ntmps19
  go_wp2_with fail
  refine H.out.mono ?_
  rintro e w1 ⟨rfl, hw⟩
  rw [hw]
  clear hw
  go_wp2
  go_ret
  exact ⟨⟨_, rfl, Nat.le_refl _, _, heap_alloc_new w _, Dr.nil _ _⟩, Kp.alloc _ _ _⟩
theorem It.keep {w w' : World} {base x : Nat} {Z : List Dl} (h : It w base x Z) (hk : Kp w w' []) : It w' base x Z := by
  obtain ⟨v, h1, h2⟩ := h.ex
  exact ⟨h.ge, v, (hk.block x (lt_of_block h1) (by simp)).trans h1, h2.keep hk⟩
end Go.Proofs.Ytoaceeddcnijoaa
