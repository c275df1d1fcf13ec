/- maps.Clone and maps.Equal at a map of messages. -/
import Derived.Shelf.SlMaps.Clone
import Derived.Maps.RangeWalk
import Derived.Test.YtllkopekfanfaaaLc
namespace Go.Proofs.Ytllkopekfanfaaa
open Go.RowKit Go.Shelf Go.Lib Go.Sort Go.Maps
attribute [local go_sem] Oper.semAt_some

def Try.lMq_ren : Go.Shelf.Ren := ⟨fun | 5 => 57 | 7 => 79 | n => n, fun | 23 => 61 | 25 => 3 | 3 => 34 | 4 => 4 | 20 => 20 | n => n, fun | n => n⟩
theorem Try.lMq : Go.Proofs.SlLaysW.n5 Try.prog Try.lMq_ren := {
  mixed := by kernel_rfl
  f5 := ⟨Try.f57.name, by decide, Try.func57.trans (congrArg some (by kernel_rfl))⟩
  f7 := Try.func79.trans (congrArg some (by kernel_rfl))
  t4 := Try.underlying4
  a4 := Try.isAgg4
  z4 := Try.sizeOf4
  v4 := Try.zeroValue4
  t20 := Try.underlying20
  a20 := Try.isAgg20
  z20 := Try.sizeOf20
  v20 := Try.zeroValue20
  t23 := Try.underlying61
  a23 := Try.isAgg61
  z23 := Try.sizeOf61
  v23 := Try.zeroValue61 }
theorem mmclone_any (w : World) (b : Nat) (F : MF) (h : Mm w b F) : Calls Try.prog 57 #[.map (some b)] w fun e w' => e = .returned (.map (some w.heap.size)) ∧ Mm w' w.heap.size F ∧ Kp w w' [] := by
  obtain ⟨D, ho, hd⟩ := h
  refine (AnyW.maps_Clone_owns Try.lMq 3 _ b _ _ w ho).mono ?_
  rintro e w' ⟨rfl, h1, -, h2⟩
  exact ⟨rfl, ⟨D, h1, hd⟩, Kp.of_below h2⟩
/-- The same ones? -/
def eqF (F G : MF) : Bool := ks.all fun k => decide (F k = G k)
def cntF (F : MF) : Nat := (ks.filter fun k => (F k).isSome).length
theorem count_sub {p p' : Int → Bool} : ∀ {l : List Int}, (∀ k ∈ l, p k = true → p' k = true) → (l.filter p).length ≤ (l.filter p').length ∧ ((l.filter p).length = (l.filter p').length → ∀ k ∈ l, p' k = true → p k = true)
  | [], _ => by simp
  | k :: l, h => by
    obtain ⟨i1, i2⟩ := count_sub (l := l) (fun j hj => h j (by simp [hj]))
    have hk := h k (by simp)
    cases hp : p k with
    | true =>
      have hp' := hk hp
      rw [List.filter_cons_of_pos hp, List.filter_cons_of_pos hp']
      refine ⟨by simp; omega, fun e j hj hpj => ?_⟩
      rcases List.mem_cons.1 hj with rfl | hj
      · exact hp
      · exact i2 (by simp at e; omega) j hj hpj
    | false =>
      rw [List.filter_cons_of_neg (by simp [hp])]
      cases hp' : p' k with
      | true =>
        rw [List.filter_cons_of_pos hp']
        refine ⟨by simp; omega, fun e => ?_⟩
        simp at e
        omega
      | false =>
        rw [List.filter_cons_of_neg (by simp [hp'])]
        refine ⟨i1, fun e j hj hpj => ?_⟩
        rcases List.mem_cons.1 hj with rfl | hj
        · rw [hp'] at hpj; cases hpj
        · exact i2 e j hj hpj
theorem eqF_cnt {F G : MF} (h : eqF F G = true) : cntF F = cntF G := by
  unfold cntF
  congr 1
  apply List.filter_congr
  intro k hk
  have := List.all_eq_true.1 h k hk
  rw [of_decide_eq_true this]
theorem eqF_all {F G : MF} (hc : cntF F = cntF G) (h : ∀ t, 0 ≤ t ∧ t < 16 → (F t).isSome = true → F t = G t) : eqF F G = true := by
  refine List.all_eq_true.2 fun k hk => ?_
  have hk' := mem_ks.1 hk
  have := (count_sub (p := fun k => (F k).isSome) (p' := fun k => (G k).isSome) (l := ks) (fun j hj hp => by
    rw [← h j (mem_ks.1 hj) hp]
    exact hp)).2 hc k hk
  refine decide_eq_true ?_
  cases hF : (F k).isSome with
  | true => exact h k hk' hF
  | false =>
    cases hG : (G k).isSome with
    | true =>
      have := this hG
      rw [hF] at this
      cases this
    | false =>
      rw [Option.isSome_eq_false_iff, Option.isNone_iff_eq_none] at hF hG
      rw [hF, hG]
theorem eqF_no {F G : MF} {t : Int} (ht : 0 ≤ t ∧ t < 16) (h : F t ≠ G t) : eqF F G = false := by
  cases he : eqF F G with
  | false => rfl
  | true => exact absurd (of_decide_eq_true (List.all_eq_true.1 he t (mem_ks.2 ht))) h
theorem HD.came {D : DataW Value} {F : MF} (h : HD D F) {x c : Value} {l : Lit} {y : DataW Value × List MemPlace} (hk : keyOf Try.prog 3 x = some l) (hR : RM c = some y) (hat : ∀ z, D.atKey l z = y.1) : ∃ t m, (0 ≤ t ∧ t < 16) ∧ l = kt t ∧ x = .int .i64 t ∧ F t = some m ∧ c = mv m := by
  obtain ⟨t, ht, rfl⟩ := h.key l (has_true_of_atKey hat)
  have h1 := h.has t ht
  rw [has_true_of_atKey hat] at h1
  obtain ⟨m, hm⟩ := Option.isSome_iff_exists.1 h1.symm
  refine ⟨t, m, ht, rfl, keyed3.inj hk (kt_eq ht), hm, ?_⟩
  have h2 := h.at_ t m ht hm (.held c)
  rw [hat] at h2
  unfold RM at hR
  simp only [Option.some.injEq] at hR
  subst hR
  injection h2 with h2
theorem wpList_look2 {w : World} {ops : Array Oper} {rest : List Oper} {o : Oper} {a : Act} {Q : Exit → Act → World → Prop} (hg : o.guard = none) (m x : Operand) (hop : o.op = Op.lookup 61 m x true)
    (b : Nat) (kv v : Value) (hm : a.eval m = .map (some b)) (hx : a.eval x = kv) (h : (Instr.lookup 61 (.map (some b)) kv true).run Try.prog w = .ok v w)
    (hK : wpList Try.prog ops Q rest (a.put o.dst v) w) : wpList Try.prog ops Q (o :: rest) a w := by
  refine wpList_plain hg fun K' hK' => ?_
  unfold Oper.wp
  simp [execOp, hop, hm, hx, h, Result.andThen]
  exact hK' _ _ hK
set_option maxRecDepth 100000 in
set_option maxHeartbeats 2000000 in
/-- maps.Equal. -/
theorem mmequal_any (w : World) (b1 b2 : Nat) (F G : MF) (h1 : Mm w b1 F) (h2 : Mm w b2 G) :
    Calls Try.prog 41 #[.map (some b1), .map (some b2)] w fun e w' => e = .returned (.bool (eqF F G)) ∧ Kp w w' [] := by
  have l1 := h1.len 3
  have l2 := h2.len 3
  rw [show (ks.filter fun k => (F k).isSome).length = cntF F from rfl] at l1
  rw [show (ks.filter fun k => (G k).isSome).length = cntF G from rfl] at l2
  have H2 := hid h2
  obtain ⟨D, ho, hd⟩ := h1
  have HDD := hid hd
  obtain ⟨E, hE⟩ : ∃ E, eqF F G = E := ⟨_, rfl⟩
  rw [hE]
  have HE := hid hE
  by_cases hc : cntF F = cntF G
  · have hne : ((cntF F : Int) != (cntF G : Int)) = false := by simp [hc]
    have HC := hid hc
    clear h2 hd hE hc
    go_enter Try.func41, Try.ntmps41
    go_wp2_with (first | (at_range; refine wpList_range_own _ rfl _ 61 rfl 3 34 keyed3 Try.underlying61 RM b1 16 D rfl ho ?_; intro w0 hrg0 hg0 hs0) | fail)
    go_frame
    have HR0 := hid (show w0.ranges Try.prog 3 RM b1 w.heap.size 16 D (Maps.has D) (Maps.size D) ∧ Kp w w0 [] from ⟨hrg0, Kp.ofGrown hg0 (by simp)⟩)
    clear hrg0 hg0 hs0 ho l1 l2 hne
    go_loopw [] (fun wr => ∃ left cnt, Hid (wr.ranges Try.prog 3 RM b1 w.heap.size 16 D left cnt ∧ Kp w wr [] ∧ ∀ t, 0 ≤ t ∧ t < 16 → (F t).isSome = true → left (kt t) = false → F t = G t)) (fun wr => wr.rangeLeft b1 w.heap.size)
    case atStart => exact ⟨_, _, hid ⟨HR0.out.1, HR0.out.2, fun t ht hq hl => by
      rw [HDD.out.has t ht, hq] at hl
      cases hl⟩⟩
    case round =>
      obtain ⟨left, cnt, hR⟩ := hrel
      have hrg := hR.out.1
      clear HR0
      go_wp2_with (first | (at_next; refine wpList_next_ranges _ rfl _ rfl 3 keyed3 RM (fun v => v) (fun v => v) (fun key kl h => ⟨key, rfl⟩) (fun v y h => ⟨v, rfl⟩) b1 w.heap.size 16 D left cnt rfl hrg ?_ ?_) | fail)
      · intro hc0 hl0
        have F := hid (show E = true from by rw [← HE.out]; exact eqF_all HC.out fun t ht hq => hR.out.2.2 t ht hq (hl0 _))
        clear hrg hc0 hl0
        go_wp2
        go_ret
        exact ⟨by rw [F.out]; rfl, hR.out.2.1⟩
      · intro x c l y1 y2 w2 cnt2 hkx hlx hRy hat hrg2 hlt2 hg2 hs2 hen
        obtain ⟨t, m, ht, rfl, rfl, hF, rfl⟩ := HDD.out.came hkx hRy hat
        have hk2 : Kp w w2 [] := hR.out.2.1.past (Kp.ofGrown hg2 (rows := [w.heap.size]) (by simp)) (by intro j hj hl; simp at hj; omega)
        simp only [mv] at hen ⊢
        have kA := Kp.alloc w2 (.cells #[.int .i64 m.1, .int .i64 m.2] 34) []
        have hlk := (H2.out.keep (hk2.trans kA) (by simp)).look_ok ht
        have hr3 : (w2.alloc (.cells #[.int .i64 m.1, .int .i64 m.2] 34)).ranges Try.prog 3 RM b1 w.heap.size 16 D (fun z => left z && !z.sameKey (kt t)) cnt2 := hrg2.alloc _
        have HG := hid (And.intro hr3 (And.intro hlt2 (And.intro (hk2.trans kA) hrg)))
        have HT := hid ht
        have HFm := hid hF
        obtain ⟨m1, m2⟩ := m
        cases hG : G t with
        | none =>
          rw [hG, show mv ((none : Option (Int × Int)).getD (0, 0)) = .agg #[.int .i64 0, .int .i64 0] from rfl] at hlk
          simp only [Option.isSome_none] at hlk
          have F := hid (show E = false from by rw [← HE.out]; exact eqF_no ht (by rw [hF, hG]; simp))
          clear hrg2 hlt2 hg2 hs2 hr3 hk2 kA hkx hRy hat hF hR hrg ht hG
          go_wp2_with fail
          go_ret
          exact ⟨by rw [F.out]; rfl, HG.out.2.2.1.trans (Kp.alloc _ _ _)⟩
        | some m' =>
          obtain ⟨n1, n2⟩ := m'
          rw [hG, show mv ((some (n1, n2) : Option (Int × Int)).getD (0, 0)) = .agg #[.int .i64 n1, .int .i64 n2] from rfl] at hlk
          simp only [Option.isSome_some] at hlk
          have hnq := neq34 m1 m2 n1 n2
          cases hq : (m1 == n1 && m2 == n2) with
          | true =>
            rw [hq] at hnq
            have hmn : (m1, m2) = (n1, n2) := by
              simp at hq
              rw [hq.1, hq.2]
            have F := hid (show ∀ t', 0 ≤ t' ∧ t' < 16 → (F t').isSome = true → (left (kt t') && !(kt t').sameKey (kt t)) = false → F t' = G t' from fun t' a d e => by
              by_cases e' : t' = t
              · subst e'
                rw [hF, hG, hmn]
              · rw [sameKey_ne (kt_ne e')] at e
                exact hR.out.2.2 t' a d (by simpa using e))
            clear hrg2 hlt2 hg2 hs2 hr3 hk2 kA hkx hRy hat hF hR hrg ht hG hq hmn
            go_wp2_with fail
            have hr := HG.out.1.alloc (.cells #[.int .i64 n1, .int .i64 n2] 34)
            exact ⟨⟨_, cnt2, hid ⟨hr, HG.out.2.2.1.trans (Kp.alloc _ _ _), F.out⟩⟩, by rw [hr.left_eq, HG.out.2.2.2.left_eq]; exact HG.out.2.1⟩
          | false =>
            rw [hq] at hnq
            have F := hid (show E = false from by
              rw [← HE.out]
              refine eqF_no ht ?_
              rw [hF, hG]
              intro e
              simp at e
              simp [e.1, e.2] at hq)
            clear hrg2 hlt2 hg2 hs2 hr3 hk2 kA hkx hRy hat hF hR hrg ht hG hq
            go_wp2_with fail
            go_ret
            exact ⟨by rw [F.out]; rfl, HG.out.2.2.1.trans (Kp.alloc _ _ _)⟩
  · have hne : ((cntF F : Int) != (cntF G : Int)) = true := by simp; omega
    have HF := hid (show E = false from by
      cases hx : E with
      | false => rfl
      | true => rw [← HE.out] at hx; exact (hc (eqF_cnt hx)).elim)
    clear h2 hd hE hc ho
    go_enter Try.func41, Try.ntmps41
    go_wp2
    go_ret
    exact ⟨by rw [HF.out]; rfl, Kp.refl _ _⟩
end Go.Proofs.Ytllkopekfanfaaa
