/- A queue plainly, and the order of its messages. -/
import Derived.Test.YtllkopekfanfaaaMs
import Derived.Test.YtllkopekfanfaaaWr
namespace Go.Proofs.Ytllkopekfanfaaa
open Go.RowKit Go.Shelf Go.Lib Go.Sort Go.Maps
attribute [local go_sem] Oper.semAt_some

/-- Priorities that messages may have. -/
def mayM (p : Int) : Bool := decide (0 ≤ p) && decide (p ≤ 31)
def okM (L : Ml) : Prop := ∀ x ∈ L, 0 ≤ x.2 ∧ x.2 ≤ 31
theorem okM.nil : okM [] := by simp [okM]
/-- Behind all of its priority or a greater one. -/
def putM (L : Ml) (m : Int × Int) : Ml := L.takeWhile (fun o => decide (m.2 ≤ o.2)) ++ m :: L.dropWhile (fun o => decide (m.2 ≤ o.2))
theorem putM_nil (m : Int × Int) : putM [] m = [m] := rfl
theorem putM_len (L : Ml) (m : Int × Int) : (putM L m).length = L.length + 1 := by
  unfold putM
  rw [List.length_append, List.length_cons, ← Nat.add_assoc, ← List.length_append, List.takeWhile_append_dropWhile]
theorem putM_mem {L : Ml} {m x : Int × Int} : x ∈ putM L m ↔ x = m ∨ x ∈ L := by
  unfold putM
  rw [List.mem_append, List.mem_cons]
  conv => rhs; rw [← List.takeWhile_append_dropWhile (p := fun o : Int × Int => decide (m.2 ≤ o.2)) (l := L), List.mem_append]
  grind
theorem ordM_ex (L : Ml) : ∃ z, z = ordK L 32 := ⟨_, rfl⟩
/-- The messages in their order, of those as they came. -/
noncomputable def ordM (L : Ml) : Ml := Classical.choose (ordM_ex L)
theorem ordM_eq (L : Ml) : ordM L = ordK L 32 := Classical.choose_spec (ordM_ex L)
theorem ordM_st {L : Ml} (h : okM L) : St L (ordM L) := by
  rw [ordM_eq, show ordK L 32 = ordK L 31 ++ fk (31 - (31 : Nat)) L from rfl]
  refine ⟨List.pairwise_append.2 ⟨asc_ordK L 31 (Nat.le_refl _), ?_, ?_⟩, fun t => ?_⟩
  · refine List.pairwise_of_forall_mem_list (fun a ha b hb => ?_)
    simp [fk] at ha hb
    omega
  · intro a ha b hb
    have h1 := (mem_ordK 31 (Nat.le_refl _) ha).2
    simp [fk] at hb
    have e : ((31 : Nat) : Int) = 31 := rfl
    rw [e] at h1
    omega
  · rw [fk_append, fk_ordK L t 31 (Nat.le_refl _), fk_fk]
    by_cases ht : t = 0
    · subst ht
      simp
    · by_cases h1 : 0 < t ∧ t ≤ 31
      · rw [if_pos (by omega), if_neg (by omega), List.append_nil]
      · rw [if_neg (by omega), if_neg (by omega), List.append_nil]
        refine (fk_none (fun x hx => ?_)).symm
        have := h x hx
        omega
theorem ordM_len {L : Ml} (h : okM L) : (ordM L).length = L.length := (ordM_st h).length
theorem ordM_mem {L : Ml} (h : okM L) {x : Int × Int} : x ∈ ordM L ↔ x ∈ L := (ordM_st h).mem
theorem ordM_nil : ordM [] = [] := List.eq_nil_of_length_eq_zero (ordM_len okM.nil)
theorem okM.ord {L : Ml} (h : okM L) : okM (ordM L) := fun x hx => h x ((ordM_mem h).1 hx)
theorem okM.snoc {L : Ml} (h : okM L) {m : Int × Int} (hm : mayM m.2 = true) : okM (L ++ [m]) := by
  intro x hx
  simp [mayM] at hm
  rcases List.mem_append.1 hx with hx | hx
  · exact h x hx
  · simp at hx
    subst hx
    exact hm
theorem take_all {α : Type} {p : α → Bool} : ∀ {L : List α} {x : α}, x ∈ L.takeWhile p → p x = true
  | [], _, h => by simp at h
  | y :: r, x, h => by
    rw [List.takeWhile_cons] at h
    split at h
    · rcases List.mem_cons.1 h with rfl | h
      · assumption
      · exact take_all h
    · simp at h
theorem drop_asc {m : Int} : ∀ {L : Ml}, Asc L → ∀ x ∈ L.dropWhile (fun o => decide (m ≤ o.2)), x.2 < m
  | [], _, x, h => by simp at h
  | y :: r, hA, x, h => by
    rw [List.dropWhile_cons] at h
    have hA' := List.pairwise_cons.1 hA
    split at h
    · exact drop_asc hA'.2 x h
    · rename_i hy
      simp at hy
      rcases List.mem_cons.1 h with rfl | h
      · exact hy
      · have := hA'.1 x h
        omega
theorem put_st {R Z : Ml} (h : St R Z) (m : Int × Int) : St (R ++ [m]) (putM Z m) := by
  have hs : Z.takeWhile (fun o => decide (m.2 ≤ o.2)) ++ Z.dropWhile (fun o => decide (m.2 ≤ o.2)) = Z := List.takeWhile_append_dropWhile
  have h1 := h.1
  have hd : ∀ x ∈ Z.dropWhile (fun o => decide (m.2 ≤ o.2)), x.2 < m.2 := drop_asc h1
  have ht : ∀ x ∈ Z.takeWhile (fun o => decide (m.2 ≤ o.2)), m.2 ≤ x.2 := fun x hx => of_decide_eq_true (take_all (p := fun o : Int × Int => decide (m.2 ≤ o.2)) hx)
  unfold putM
  generalize Z.takeWhile (fun o => decide (m.2 ≤ o.2)) = A at hs ht ⊢
  generalize Z.dropWhile (fun o => decide (m.2 ≤ o.2)) = B at hs hd ⊢
  subst hs
  refine ⟨List.pairwise_append.2 ⟨h1.left, List.pairwise_cons.2 ⟨fun y hy => ?_, h1.right⟩, fun a ha b hb => ?_⟩, fun t => ?_⟩
  · have := hd y hy
    omega
  · rcases List.mem_cons.1 hb with rfl | hb
    · exact ht a ha
    · exact h1.cross a ha b hb
  · rw [fk_append, fk_append, ← h.2 t, fk_append, fk_cons, fk_cons]
    by_cases e : m.2 = t
    · rw [if_pos e, if_pos e]
      have : fk t B = [] := fk_none (fun x hx => by have := hd x hx; omega)
      rw [this]
      simp [fk]
    · rw [if_neg e, if_neg e]
      simp [fk]
/-- A message comes. -/
theorem ordM_put {R : Ml} (h : okM R) {m : Int × Int} (hm : mayM m.2 = true) : ordM (R ++ [m]) = putM (ordM R) m := (ordM_st (h.snoc hm)).unique (put_st (ordM_st h) m)
/-- The first one goes. -/
theorem ordM_take {A B Z : Ml} {x y : Int × Int} (h : okM (A ++ y :: B)) (e : ordM (A ++ y :: B) = x :: Z) (hy : y.2 = x.2) (hA : ∀ a ∈ A, a.2 ≠ x.2) : y = x ∧ ordM (A ++ B) = Z := by
  have hs := ordM_st h
  rw [e] at hs
  have h2 := hs.2 x.2
  rw [fk_append, fk_none hA, fk_cons, fk_cons, if_pos rfl, if_pos hy, List.nil_append] at h2
  simp only [List.cons.injEq] at h2
  have hk : okM (A ++ B) := fun z hz => h z (by
    rcases List.mem_append.1 hz with hz | hz
    · simp [hz]
    · simp [hz])
  refine ⟨h2.1.symm, (ordM_st hk).unique ⟨(List.pairwise_cons.1 hs.1).2, fun t => ?_⟩⟩
  have h3 := hs.2 t
  rw [fk_append, fk_cons, fk_cons] at h3
  by_cases ht : x.2 = t
  · subst ht
    rw [fk_append, fk_none hA, h2.2]
    rfl
  · rw [if_neg ht, if_neg (by rw [hy]; exact ht)] at h3
    rw [h3, fk_append]
abbrev MF := Int → Option (Int × Int)
def setF (F : MF) (t : Int) (v : Option (Int × Int)) : MF := fun t' => if t' = t then v else F t'
/-- A queue: its room, its messages in order, who waits to send and with what, who waits to receive. -/
structure Qs where
  n : Int
  L : Ml
  f : MF
  s : List Dl
  r : List Dl
def Qs.full (M : Qs) : Bool := decide ((M.L.length : Int) = M.n)
def newQ (n : Int) : Qs := ⟨n, [], fun _ => none, [], []⟩
def wSend (M : Qs) (t : Int) : Bool := hasP M.s t
def wAny (M : Qs) (t : Int) : Bool := hasP M.s t || hasP M.r t
/-- Why a thread may neither send nor receive. -/
def refE (M : Qs) (t : Int) (may : Bool) : Int := if may && mayT t then (if wAny M t then 7 else 0) else 2
/-- What passed: done, the message, the other one. -/
def passed (d : Bool) (m : Int × Int) (o : Int) : Value := .agg #[.bool d, .int .i64 m.1, .int .i64 m.2, .int .i64 o]
def zeroMsg : Int × Int := (0, 0)
noncomputable def sendV (M : Qs) (m : Int × Int) : Value := if fstB M.r then passed true m (fstT M.r) else if M.full then passed false m (-1) else passed true m (-1)
noncomputable def sendM (M : Qs) (t p : Int) (m : Int × Int) : Qs := if fstB M.r then { M with r := takeL M.r } else if M.full then { M with s := putL M.s t p, f := setF M.f t (some m) } else { M with L := putM M.L m }
def sendE (M : Qs) (t p : Int) (m : Int × Int) : Int := refE M t (mayP p && mayM m.2)
/-- The first one that waits to send lets its message in. -/
noncomputable def letM (M : Qs) : Qs := if fstB M.s then { M with L := putM M.L ((M.f (fstT M.s)).getD (0, 0)), s := takeL M.s, f := setF M.f (fstT M.s) none } else M
noncomputable def letT (M : Qs) : Int := if fstB M.s then fstT M.s else -1
noncomputable def recV (M : Qs) : Value := match M.L with
  | [] => passed false zeroMsg (-1)
  | x :: _ => passed true x (letT M)
noncomputable def recM (M : Qs) (t p : Int) : Qs := match M.L with
  | [] => { M with r := putL M.r t p }
  | _ :: Z => letM { M with L := Z }
def recE (M : Qs) (t p : Int) : Int := refE M t (mayP p)
def leE (M : Qs) (t : Int) : Int := if hasP M.s t then lvE M.s t else lvE M.r t
def leM (M : Qs) (t : Int) : Qs := if hasP M.s t then { M with s := lvL M.s t, f := if lvE M.s t = 0 then setF M.f t none else M.f } else { M with r := lvL M.r t, f := if lvE M.r t = 0 then setF M.f t none else M.f }
def chE (M : Qs) (t p : Int) : Int := if hasP M.s t then chgE M.s t p else chgE M.r t p
def chM (M : Qs) (t p : Int) : Qs := if hasP M.s t then { M with s := chgL M.s t p } else { M with r := chgL M.r t p }
/-- What holds of each. -/
structure Qok (M : Qs) : Prop where
  lo : 1 ≤ M.n
  hi : M.n ≤ 32
  len : (M.L.length : Int) ≤ M.n
  msg : okM M.L
  s : okL M.s
  r : okL M.r
  ap : ∀ t, hasP M.s t = true → hasP M.r t = false
  noR : M.L ≠ [] → M.r = []
  noS : (M.L.length : Int) < M.n → M.s = []
  fs : ∀ t, (M.f t).isSome = hasP M.s t
  fm : ∀ t m, M.f t = some m → mayM m.2 = true
end Go.Proofs.Ytllkopekfanfaaa
