/- The reference reader: Bytes. -/
import Derived.Test.YtnnjfhgdimcieaaRefFlag
import Derived.Laws.AppendOwnNone
import Derived.Deep.RegionHeldLaw
namespace Go.Proofs.Ytnnjfhgdimcieaa
open Go.RowKit

theorem bs_mid {w : World} {a : Addr} {cap K n : Nat} {l : List Int} (h : Bs w (.slice (some a) l.length cap) l) (hn : K + n ≤ l.length) : Bs w (.slice (some (a.add K)) n (cap - K)) ((l.drop K).take n) := by
  have h1 := bs_drop_any (n := K) h (by omega)
  rw [show l.length - K = (l.drop K).length by simp] at h1
  exact bs_take h1 (by simp; omega)

/-- An append of bytes that are read, wherever they lie, at a step of a region that draws its order. -/
theorem step_append_bs {w : World} {ops : Array Oper} {o : Oper} {a : Act} {K : Act → World → Prop} {Q : Exit → Act → World → Prop} {E : Prop} (hgd : o.guard = none) (s x : Operand)
    (ho : o.op = .call { callee := .builtin .append, args := #[s, x], argTypes := #[23, 23] }) (D : Nat) (hD : o.dst = some D)
    (base : Nat) (v : Value) (n : Nat) (xs : List Value) (hs : a.eval s = v) (hown : w.ownsRow base 5 1 v n xs)
    (vx : Value) (l : List Int) (hx : a.eval x = vx) (hb : Bs w vx l) (hm : n + l.length ≤ 140737488355328) (hbase : base ≤ w.heap.size)
    (h : ∀ v' w', w'.ownsRow base 5 1 v' (n + l.length) (xs ++ ub l) → w.grownBy w' v.ownBlock → K (a.put (some D) v') w') :
    if Region.wanted o (yielded ops a.tmps) = true then Oper.wp Try.prog o a w K Q else E := by
  have hw : Region.wanted o (yielded ops a.tmps) = true := by simp [Region.wanted, hgd]
  rw [if_pos hw]
  rw [← hD] at h
  obtain ⟨i0, hi, hz0, hz1, hz2⟩ := info_parts Try.info5
  have hb' := hb
  obtain ⟨ao, cap, rfl, hl, hn, -⟩ := hb
  cases ao with
  | none =>
    obtain rfl : cap = 0 := hn rfl
    have hl0 : l = [] := List.eq_nil_of_length_eq_zero (by omega)
    subst hl0
    have hrun := run_append_owned_none (P := Try.prog) (w := w) base 23 o.type 5 i0 1 Try.underlying23 hi v n xs hown
    unfold Oper.wp
    simp only [List.length_nil] at hx
    simp [execOp, ho, resolve, invoke, builtin, hs, hx, hrun, Result.andThen]
    exact h v w (by simpa [ub] using hown) (World.grownBy.refl _ _)
  | some ad =>
    exact wp_append_own w s x 23 ho base 5 i0 (.int .u8 0) 1 1 Try.underlying23 hi hz0 hz1 hz2 rfl (by decide) v n xs hs hown ad l.length cap (ub l) hx (by simp [ub]) (hb'.cells rfl fun _ _ => rfl) (ub_one l) (by unfold maxLen; omega) (by omega) hbase fun v' w' a1 a2 _ => h v' w' a1 a2

theorem two_keep {w w' : World} {b : Nat} {x y : Value} (h : w.cell? ⟨b, 0, none⟩ = some x ∧ w.cell? ⟨b, 1, none⟩ = some y) (hg : w.grownBy w' none) : w'.cell? ⟨b, 0, none⟩ = some x ∧ w'.cell? ⟨b, 1, none⟩ = some y := by
  have hb : w'.heap[b]? = w.heap[b]? := hg.block b (World.block_lt_of_cell? w _ h.1) (by simp)
  exact ⟨(World.cell?_of_block (a := ⟨b, 0, none⟩) hb).trans h.1, (World.cell?_of_block (a := ⟨b, 1, none⟩) hb).trans h.2⟩

set_option maxRecDepth 100000 in
set_option maxHeartbeats 1000000 in
theorem fBytes_err (w : World) (db : Nat) (vb : Value) (at0 : Nat) (b : List Int) (most e : Int) (h : Rf w db vb at0 b) (hby : Byt b) (hm : b.length ≤ 140737488351232) (hm0 : 0 ≤ most) (hm1 : most ≤ 9223372036854775807) (hq : rbytes most (b.drop at0) = .error e) :
    Calls Try.prog 42 #[.pointer (some ⟨db, 0, none⟩), .int .i64 most] w fun en w' => en = .returned (.tuple #[.slice none 0 0, .int .i64 e]) ∧ w.grownBy w' (some db) ∧ Rf w' db vb at0 b := by
  have H := hid h
  have Hm := hid hm
  have Hby := hid hby
  have k1 := cell_two1 h.1
  have hat := h.2.2.2
  unfold rbytes rcnt at hq
  rw [if_neg (by omega)] at hq
  clear h hby hm
  cases hn : rnum 0 0 (b.drop at0) with
  | none =>
    have Hn := hid hn
    rw [hn] at hq
    simp only at hq
    cases hq
    clear hn
    go_enter Try.func42, Try.ntmps42
    go_wp2_with (go_at_call 39; refine (fNumber_no _ db _ at0 b H.out Hby.out Hm.out Hn.out).mono ?_; rintro e w1 ⟨rfl, hg1, hr1⟩; have HG := hid hg1; have HR := hid hr1; have q1 := cell_two1 hr1.1; have qf := free_two (i := 1) hr1.1; clear hg1 hr1)
    go_ret2
    exact ⟨rfl, grownBy_trans HG.out (grownBy_setCell _ ⟨db, 1, none⟩ _), HR.out.set hat⟩
  | some p =>
    obtain ⟨n, r⟩ := p
    have Hn := hid hn
    have HNB := hid (rnum_bound (fun x hx => Hby.out x (List.mem_of_mem_drop hx)) (by omega) Nat.zero_lt_one hn)
    rw [hn] at hq
    simp only at hq
    clear hn
    by_cases hgt : most < (n : Int)
    · rw [if_pos hgt] at hq
      simp only at hq
      cases hq
      go_enter Try.func42, Try.ntmps42
      go_wp2_with (go_at_call 39; refine (fNumber_yes _ db _ at0 b n r H.out Hby.out Hm.out Hn.out).mono ?_; rintro e w1 ⟨rfl, hg1, at1, hr1, hd1⟩; have HG := hid hg1; have HR := hid hr1; have q1 := cell_two1 hr1.1; have qf := free_two (i := 1) hr1.1; clear hg1 hr1 hd1)
      go_ret2
      exact ⟨rfl, grownBy_trans HG.out (grownBy_setCell _ ⟨db, 1, none⟩ _), HR.out.set hat⟩
    · rw [if_neg hgt] at hq
      simp only at hq
      split at hq
      · rename_i hlt
        cases hq
        have hle : (n : Int) ≤ most := by omega
        have hltI : (r.length : Int) < (n : Int) := by omega
        go_enter Try.func42, Try.ntmps42
        go_wp2_with fail
        refine (fNumber_yes _ db _ at0 b n r H.out Hby.out Hm.out Hn.out).mono ?_
        rintro e w1 ⟨rfl, hg1, at1, hr1, hd1⟩
        have HG := hid hg1
        have HR := hid hr1
        have HL := hid (fLeft_any _ db _ at1 b hr1 Hm.out)
        rw [hd1] at HL
        clear hg1 hr1 hd1
        go_wp2_with (go_at_call 22; refine HL.out.mono ?_; rintro e w2 ⟨rfl, m, hw2⟩; have q1 := cell_two1 (HR.out.keep (grownBy_drewN w1 m) (by simp) (.inl rfl)).1; have qf := free_two (i := 1) (HR.out.keep (grownBy_drewN w1 m) (by simp) (.inl rfl)).1; subst hw2)
        go_ret2
        exact ⟨rfl, grownBy_trans (grownBy_trans HG.out (grownBy_mono (grownBy_drewN _ _))) (grownBy_setCell _ ⟨db, 1, none⟩ _), (HR.out.keep (grownBy_drewN _ _) (by simp) (.inl rfl)).set hat⟩
      · cases hq

set_option maxRecDepth 100000 in
set_option maxHeartbeats 1000000 in
theorem fBytes_ok (w : World) (db : Nat) (vb : Value) (at0 : Nat) (b : List Int) (most : Int) (d r : List Int) (h : Rf w db vb at0 b) (hby : Byt b) (hm : b.length ≤ 140737488351232) (hm0 : 0 ≤ most) (hm1 : most ≤ 9223372036854775807) (hq : rbytes most (b.drop at0) = .ok (d, r)) :
    Calls Try.prog 42 #[.pointer (some ⟨db, 0, none⟩), .int .i64 most] w fun en w' => ∃ v', en = .returned (.tuple #[v', .int .i64 0]) ∧ w'.ownsRow w.heap.size 5 1 v' d.length (ub d) ∧ w.grownBy w' (some db) ∧ ∃ at1, Rf w' db vb at1 b ∧ b.drop at1 = r := by
  have H := hid h
  have Hm := hid hm
  have Hby := hid hby
  have hat := h.2.2.2
  have k1 := cell_two1 h.1
  unfold rbytes at hq
  clear h hby hm
  split at hq
  · cases hq
  · rename_i n r0 he
    split at hq
    · cases hq
    · rename_i hlt
      simp only [Except.ok.injEq, Prod.mk.injEq] at hq
      have Hd := hid hq.1
      have Hr := hid hq.2
      obtain ⟨-, hnm, hn⟩ := rcnt_ok he
      have Hn := hid hn
      have hnl : (n : Int) ≤ (r0.length : Int) := by omega
      clear hq he hn hlt
      go_enter Try.func42, Try.ntmps42
      go_wp2_with fail
      refine (fNumber_yes _ db _ at0 b n r0 H.out Hby.out Hm.out Hn.out).mono ?_
      rintro e w1 ⟨rfl, hg1, at1, hr1, hd1⟩
      have HG := hid hg1
      have HR := hid hr1
      have HL := hid (fLeft_any _ db _ at1 b hr1 Hm.out)
      rw [hd1] at HL
      have hr0 : r0.length = b.length - at1 := by rw [← hd1]; simp
      have hat1 := hr1.2.2.2
      have hI1 : (at1 : Int) + (n : Int) ≤ (b.length : Int) := by omega
      have hI2 : (b.length : Int) ≤ 140737488351232 := by have := Hm.out; omega
      have hI3 : (r0.length : Int) ≤ 140737488351232 := by have := Hm.out; omega
      obtain ⟨ao, cap, rfl, hcap⟩ := hr1.shape
      have HD := hid hd1
      clear hg1 hr1 hd1 hr0
      go_wp2_with (go_at_call 22; refine HL.out.mono ?_; rintro e w2 ⟨rfl, m, hw2⟩; have q1 := cell_two1 (HR.out.keep (grownBy_drewN w1 m) (by simp) (.inl rfl)).1; have qf := free_two (i := 1) (HR.out.keep (grownBy_drewN w1 m) (by simp) (.inl rfl)).1; subst hw2)
      have HR2 := hid ((HR.out.keep (grownBy_drewN w1 m) (by simp) (.inl rfl)).set (at1 := at1 + n) (by omega))
      have ecast : ((at1 + n : Nat) : Int) = (at1 : Int) + (n : Int) := by omega
      rw [ecast] at HR2
      have HG2 := hid (grownBy_trans (grownBy_trans HG.out (grownBy_mono (grownBy_drewN w1 m))) (grownBy_setCell _ ⟨db, 1, none⟩ (.int .i64 ((at1 : Int) + (n : Int)))))
      obtain ⟨W2, hW2⟩ : ∃ W2, W2 = (w1.drewN m).setCell ⟨db, 1, none⟩ (.int .i64 ((at1 : Int) + (n : Int))) := ⟨_, rfl⟩
      rw [← hW2] at HR2 HG2 ⊢
      have q0 := cell_two0 HR2.out.1
      have q1' := cell_two1 HR2.out.1
      rw [ecast] at q1'
      clear hW2 ecast
      have hcI : (at1 : Int) + (n : Int) ≤ (cap : Int) := by omega
      have h0I : (0 : Int) ≤ (at1 : Int) := by omega
      have h0J : (0 : Int) ≤ (at1 : Int) + (n : Int) := by omega
      have hat1I : (at1 : Int) ≤ (at1 : Int) + (n : Int) := by omega
      have hsw : IntKind.i64.wrap ((at1 : Int) + (n : Int) - (n : Int)) = (at1 : Int) := by rw [show (at1 : Int) + (n : Int) - (n : Int) = (at1 : Int) by omega]; exact IntWalk.i64_in _ ⟨by omega, by omega⟩
      have hsw2 : IntKind.i64.wrap (at1 : Int) = (at1 : Int) := IntWalk.i64_in _ ⟨by omega, by omega⟩
      have htn : ((at1 : Int) + (n : Int)).toNat = at1 + n := by omega
      by_cases hc : cap = at1
      · have hn0 : n = 0 := by omega
        have hd0 : d = [] := by rw [← Hd.out, hn0]; simp
        subst hd0
        have HN0 := hid hn0
        have e0 : (at1 : Int) + (n : Int) = (at1 : Int) := by omega
        have q1'' : W2.cell? ⟨db, 1, none⟩ = some (.int .i64 (at1 : Int)) := by rw [← e0]; exact q1'
        have HBs : Hid (∀ ao', Bs W2 (.slice ao' 0 0) []) := fun ao' => ⟨ao', 0, rfl, by simp, fun _ => rfl, fun h => absurd rfl h⟩
        have hst := And.intro q0 q1''
        have HR2' := hid HR2.out
        have hwn : IntKind.i64.wrap (0 : Int) = 0 := by decide
        subst hn0
        subst hc
        clear hnm k1 HL q1' hsw hsw2 htn hcI h0J hat1I hI1 hnl e0 HR2 hcap
        clear hI2 hI3
        have hsw2 : IntKind.i64.wrap (cap : Int) = (cap : Int) := IntWalk.i64_in _ ⟨by omega, by have := Hm.out; omega⟩
        go_region_held_law (fun w' => w'.cell? ⟨db, 0, none⟩ = some (.slice ao b.length cap) ∧ w'.cell? ⟨db, 1, none⟩ = some (.int .i64 (cap : Int)))
          (first
            | exact two_keep hst (grownBy_drew _ _)
            | exact two_keep (by assumption) (by assumption))
          ((refine step_append_bs (by rfl) _ _ (by rfl) 68 (by rfl) W2.heap.size _ 0 [] (by rfl) (World.ownsRow_nil _ _ _ _) _ [] (by rfl) ((HBs.out _).grown (grownBy_drew _ _)) (by simp) (by simp) ?_; intro v' w4 hown4 hg4; have hg4' : W2.drew.grownBy w4 none := hg4))
        have HO4 := hid hown4
        have HG4 := hid (grownBy_trans (grownBy_drew W2 none) hg4')
        clear hown4 hg4 hg4'
        go_wp2
        go_ret2
        refine ⟨_, rfl, ?_, grownBy_trans HG2.out (grownBy_mono HG4.out), cap, ?_, ?_⟩
        · have := HO4.out
          simp only [List.length_nil, Nat.add_zero, List.nil_append] at this
          exact owns_base this HG2.out.size
        · have := HR2'.out.keep HG4.out (by simp) (.inl rfl)
          simpa using this
        · rw [← Hr.out, ← HD.out]; simp
      · obtain ⟨a, rfl⟩ : ∃ a, ao = some a := by
          cases ao with
          | none => obtain ⟨-, ⟨_, _, hv, hl, hn, -⟩, -⟩ := HR2.out; cases hv; have := hn rfl; omega
          | some a => exact ⟨a, rfl⟩
        have HBs : Hid (Bs W2 (.slice (some (a.add at1)) n (cap - at1)) d) := by
          have h1 := bs_mid (K := at1) (n := n) HR2.out.2.1 (by omega)
          rw [HD.out, Hd.out] at h1
          exact h1
        have hdl := hid (show d.length = n by rw [← Hd.out]; simp; omega)
        have hst := And.intro q0 q1'
        have hwn : IntKind.i64.wrap (n : Int) = (n : Int) := IntWalk.i64_in _ ⟨by omega, by omega⟩
        clear hnm k1 HL
        go_region_held_law (fun w' => w'.cell? ⟨db, 0, none⟩ = some (.slice (some a) b.length cap) ∧ w'.cell? ⟨db, 1, none⟩ = some (.int .i64 ((at1 : Int) + (n : Int))))
          (first
            | exact two_keep hst (grownBy_drew _ _)
            | exact two_keep (by assumption) (by assumption))
          ((refine step_append_bs (by rfl) _ _ (by rfl) 68 (by rfl) W2.heap.size _ 0 [] (by rfl) (World.ownsRow_nil _ _ _ _) _ d (by rfl) (HBs.out.grown (grownBy_drew _ _)) (by have := hdl.out; omega) (by simp) ?_; intro v' w4 hown4 hg4; have hg4' : W2.drew.grownBy w4 none := hg4))
        have HO4 := hid hown4
        have HG4 := hid (grownBy_trans (grownBy_drew W2 none) hg4')
        clear hown4 hg4 hg4'
        go_wp2
        go_ret2
        refine ⟨_, rfl, ?_, grownBy_trans HG2.out (grownBy_mono HG4.out), at1 + n, HR2.out.keep HG4.out (by simp) (.inl rfl), ?_⟩
        · have := HO4.out
          simp only [Nat.zero_add, List.nil_append] at this
          exact owns_base this HG2.out.size
        · rw [← Hr.out, ← HD.out, List.drop_drop]
end Go.Proofs.Ytnnjfhgdimcieaa
