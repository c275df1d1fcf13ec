/- Send. -/
import Derived.Test.YtoenipaccnpihaaNx
namespace Go.Proofs.Ytoenipaccnpihaa
open Go.RowKit Go.Shelf Go.Sort Go.Maps
open Go.Lib hiding intOf
attribute [local go_sem] Oper.semAt_some

theorem act_eq {P : Program} {c : Code} {Q : Exit → Act → World → Prop} {a a' : Act} {w : World} (h : a = a') (hw : Code.wp P c Q a' w) : Code.wp P c Q a w := h ▸ hw
/-- What Send answers, and leaves. -/
def sendE (T S : Nat) (L : El) (t n : Int) : Int := if inT T t && maySig n then (if 15 < n ∧ used L = S then 5 else 0) else 2
def sendL (T S : Nat) (L : El) (t n v : Int) : El := if inT T t && maySig n then (if 15 < n then (if used L = S then L else L ++ [(t.toNat, n.toNat, v)]) else (if q L t.toNat n.toNat = [] then L ++ [(t.toNat, n.toNat, 0)] else L)) else L
set_option maxRecDepth 100000 in
theorem send_zero (w : World) (p : Option Addr) (t n v : Int) (h : Zs w p) : Calls Try.prog 15 #[.pointer p, .int .i64 t, .int .i64 n, .int .i64 v] w fun e w' => e = .returned (.int .i64 1) ∧ Kp w w' [] := by
  have H := hid (zero_yes w p h)
  clear h
  go_enter Try.func15, Try.ntmps15
  go_wp2_with fail
  refine H.out.mono ?_
  rintro e w1 ⟨rfl, hw⟩; obtain rfl := hw.symm
  go_wp2
  go_ret
  exact ⟨rfl, Kp.refl _ _⟩
set_option maxRecDepth 100000 in
theorem send_arg (w : World) (sb : Nat) (R : List Nat) (T S : Nat) (M : Nat → Nat) (L : El) (t n v : Int) (h : Sg w sb R T S M L) (ha : (inT T t && maySig n) = false) : Calls Try.prog 15 #[.pointer (some ⟨sb, 0, none⟩), .int .i64 t, .int .i64 n, .int .i64 v] w fun e w' => e = .returned (.int .i64 2) ∧ Kp w w' [] := by
  have H := hid (zero_no w sb R T S M L h)
  have K := has_any w sb R T S M L t h
  have MS := maysig_any w n
  clear h
  cases ht : inT T t with
  | false =>
    rw [ht] at K
    have K := hid K
    clear ht ha MS
    go_enter Try.func15, Try.ntmps15
    go_wp2_with fail
    refine H.out.mono ?_
    rintro e w1 ⟨rfl, hw⟩; obtain rfl := hw.symm
    go_wp2_with fail
    refine K.out.mono ?_
    rintro e w1 ⟨rfl, hw⟩; obtain rfl := hw.symm
    go_wp2
    go_ret
    exact ⟨rfl, Kp.refl _ _⟩
  | true =>
    rw [ht] at K ha
    rw [Bool.true_and] at ha
    rw [ha] at MS
    have K := hid K
    have MS := hid MS
    clear ht ha
    go_enter Try.func15, Try.ntmps15
    go_wp2_with fail
    refine H.out.mono ?_
    rintro e w1 ⟨rfl, hw⟩; obtain rfl := hw.symm
    go_wp2_with fail
    refine K.out.mono ?_
    rintro e w1 ⟨rfl, hw⟩; obtain rfl := hw.symm
    go_wp2_with fail
    refine MS.out.mono ?_
    rintro e w1 ⟨rfl, hw⟩; obtain rfl := hw.symm
    go_wp2
    go_ret
    exact ⟨rfl, Kp.refl _ _⟩
set_option maxRecDepth 100000 in
set_option maxHeartbeats 1000000 in
theorem send_full (w : World) (sb : Nat) (R : List Nat) (T S : Nat) (M : Nat → Nat) (L : El) (t n : Nat) (v : Int) (h : Sg w sb R T S M L) (ht : t < T) (h16 : 16 ≤ n) (h31 : n ≤ 31) (hu : used L = S) : Calls Try.prog 15 #[.pointer (some ⟨sb, 0, none⟩), .int .i64 t, .int .i64 n, .int .i64 v] w fun e w' => e = .returned (.int .i64 5) ∧ Kp w w' [] := by
  have H := hid (zero_no w sb R T S M L h)
  have K := has_any w sb R T S M L t h
  rw [inT_nat, decide_eq_true ht] at K
  have K := hid K
  have MS := maysig_any w n
  rw [show maySig n = true by simp [maySig]; omega] at MS
  have MS := hid MS
  have DQ := hid (fun w => queues_any w n)
  have hd : decide (15 < (n : Int)) = true := by simp; omega
  rw [hd] at DQ
  have HU := hid (fun (z : World) (hk : Kp w z []) => used_any z sb R T S M L (h.same hk))
  have CS := hid (fun (z : World) (hk : Kp w z []) => hk.cell (show w.cell? ⟨sb, 1, none⟩ = some (.int .i64 (S : Nat)) from by obtain ⟨mb, g, cap, h⟩ := h; exact h.c.slt) (by simp))
  rw [hu] at HU
  have he : ((S : Int) == S) = true := by simp
  clear h ht h16 h31 hu hd
  go_enter Try.func15, Try.ntmps15
  go_wp2_with fail
  refine H.out.mono ?_
  rintro e w1 ⟨rfl, hw⟩; obtain rfl := hw.symm
  go_wp2_with fail
  refine K.out.mono ?_
  rintro e w1 ⟨rfl, hw⟩; obtain rfl := hw.symm
  go_wp2_with fail
  refine MS.out.mono ?_
  rintro e w1 ⟨rfl, hw⟩; obtain rfl := hw.symm
  clear H K MS
  go_wp2_with fail
  go_region_held_law (fun w1 => w1.cell? ⟨sb, 1, none⟩ = some (.int .i64 (S : Nat)))
    (first | exact CS.out _ (Kp.drew _ _) | exact CS.out _ ((Kp.drew _ _).trans hk1))
    (first | (go_at_call 41; refine (DQ.out _).mono ?_; rintro e wr ⟨rfl, hw⟩; obtain rfl := hw.symm) | (go_at_call 17; refine (HU.out _ (Kp.drew _ _)).mono ?_; rintro e z1 ⟨rfl, hk1⟩) | fail)
  have KU := hid ((Kp.drew w []).trans hk1)
  clear hk1
  go_wp2
  go_ret
  exact ⟨rfl, KU.out⟩
/-- One more is pending. -/
theorem Sp.mark {w : World} {sb : Nat} {R : List Nat} {T S : Nat} {M : Nat → Nat} {L L' : El} {mb : Nat} {g cap : Nat → Nat → Nat} (h : Sp w sb R T S M L mb g cap) {t x : Nat} (ht : t < 16) (hp : upd (pend L) t x = pend L') (hq : ∀ t' n', 16 ≤ n' → q L' t' n' = q L t' n') (hok : Ok T S L') : Sp (w.setCell ⟨sb, 18 + t, none⟩ (.int .u32 (x : Nat))) sb R T S M L' mb g cap := by
  have hne := h.ne
  have hk := Kp.setCell w ⟨sb, 18 + t, none⟩ (.int .u32 (x : Nat))
  refine ⟨hp ▸ h.c.setP ht x, (h.m.keep hk (by simp; exact fun e => hne.1 e.symm)).congr (fun t' n' _ _ => ?_), fun t' n' hn' hq' => ?_, fun t1 n1 t2 n2 a1 a2 a3 a4 e => ?_, h.sR, h.mR, fun j hj => by simpa using h.lt j hj, hok, h.t1, h.t2, h.s1, h.s2, h.mm⟩
  · unfold Fq
    by_cases h16 : 16 ≤ n'
    · rw [hq t' n' h16]
    · rw [if_neg (by omega), if_neg (by omega)]
  · rw [hq t' n' hn'] at hq' ⊢
    refine ⟨(h.row t' n' hn' hq').1.kp hk (fun g' hg => ?_), (h.row t' n' hn' hq').2⟩
    simp [Value.ownBlock] at hg
    subst hg
    simp
    exact (hne.2 t' n' hn' hq').1
  · rw [hq t1 n1 a1] at a2
    rw [hq t2 n2 a3] at a4
    exact h.inj t1 n1 t2 n2 a1 a2 a3 a4 e
theorem pend_has {L : El} {t n : Nat} (hq : q L t n ≠ []) : pend L t ||| 2 ^ n = pend L t := Nat.eq_of_testBit_eq fun k => by
  rw [Nat.testBit_or, Nat.testBit_two_pow, pend_bit]
  by_cases e : n = k
  · subst e
    simp [hq]
  · simp [e]
theorem upd_send (L : El) (t n : Nat) (v : Int) : upd (pend L) t (pend L t ||| 2 ^ n) = pend (L ++ [(t, n, v)]) := by
  funext t'
  unfold upd
  split
  · rename_i e
    subst e
    rw [pend_send]
  · rename_i e
    rw [pend_other L t n t' v e]
theorem upd_same (L : El) (t : Nat) : upd (pend L) t (pend L t) = pend L := by
  funext t'
  unfold upd
  split
  · rename_i e
    rw [e]
  · rfl
set_option maxRecDepth 100000 in
set_option maxHeartbeats 1000000 in
theorem send_plain (w : World) (sb : Nat) (R : List Nat) (T S : Nat) (M : Nat → Nat) (L : El) (t n : Nat) (v : Int) (h : Sg w sb R T S M L) (ht : t < T) (h1 : 1 ≤ n) (h15 : n < 16) : Calls Try.prog 15 #[.pointer (some ⟨sb, 0, none⟩), .int .i64 t, .int .i64 n, .int .i64 v] w fun e w' => e = .returned (.int .i64 0) ∧ To w w' sb R T S M (if q L t n = [] then L ++ [(t, n, 0)] else L) := by
  have H := hid (zero_no w sb R T S M L h)
  have K := has_any w sb R T S M L t h
  rw [inT_nat, decide_eq_true ht] at K
  have K := hid K
  have MS := maysig_any w n
  rw [show maySig n = true by simp [maySig]; omega] at MS
  have MS := hid MS
  have DQ := hid (fun w => queues_any w n)
  have hd : decide (15 < (n : Int)) = false := by simp; omega
  rw [hd] at DQ
  have t2 := h.bd.1.2
  have hok := h.ok
  have hpp := h.pp t
  have hb := or_bits hpp (bit_lt (k := n) (by omega))
  rw [← pow_cast] at hb
  have KB := hid (fun w => bit_any w n (by omega))
  obtain ⟨mb, g, cap, h⟩ := h
  have cp := h.c.ps (t := t) (by omega)
  have hfz := h.c.free (18 + t)
  have ht16 : t < 16 := by omega
  have ht16i : (t : Int) < 16 := by omega
  have HT := hid (show To w (w.setCell ⟨sb, 18 + t, none⟩ (.int .u32 ((pend L t ||| 2 ^ n : Nat) : Int))) sb R T S M (if q L t n = [] then L ++ [(t, n, 0)] else L) from by
    refine ⟨R, ⟨mb, g, cap, ?_⟩, Nw.refl _ _, (Kp.setCell w _ _).mono fun k hk _ => by
      simp at hk
      subst hk
      exact h.sR⟩
    by_cases hq : q L t n = []
    · rw [if_pos hq]
      exact h.mark ht16 (upd_send L t n 0) (fun t' n' hn' => by rw [q_send, if_neg (by omega)]) (hok.send ht h1 (by omega) (fun _ => ⟨hq, rfl⟩) (by omega))
    · rw [if_neg hq]
      exact h.mark ht16 (by rw [pend_has hq, upd_same]) (fun _ _ _ => rfl) hok)
  clear h ht h1 h15 hok hd hpp
  generalize pend L t ||| 2 ^ n = z at hb HT
  generalize pend L t = x at hb cp
  generalize (if q L t n = [] then L ++ [(t, n, 0)] else L) = L' at HT ⊢
  go_enter Try.func15, Try.ntmps15
  go_wp2_with fail
  refine H.out.mono ?_
  rintro e w1 ⟨rfl, hw⟩; obtain rfl := hw.symm
  go_wp2_with fail
  refine K.out.mono ?_
  rintro e w1 ⟨rfl, hw⟩; obtain rfl := hw.symm
  go_wp2_with fail
  refine MS.out.mono ?_
  rintro e w1 ⟨rfl, hw⟩; obtain rfl := hw.symm
  clear H K MS
  go_wp2_with fail
  rename_i QQ KK hKK
  refine wp_region_held_drew (S := fun W : World => True) (by kernel_rfl) (trivial) (fun hHeld => ?_)
  refine wpAnyH_take (i := 0) (v := .int .i64 (n : Nat)) rfl (by kernel_rfl) (by kernel_rfl) (by kernel_rfl) (fun _ _ _ h => h) (Or.inl ⟨by kernel_rfl, fun w _ => by kernel_rfl⟩) hHeld ?_
  refine wpAnyH_ready (rs := [1]) (by kernel_rfl) (by simp) ?_
  refine AllReadyH.cons rfl (fun K hK => ?_) AllReadyH.nil
  go_simp
  refine (DQ.out _).mono ?_
  rintro e wr ⟨rfl, hw⟩; obtain rfl := hw.symm
  go_simp
  refine hK.out _ _ trivial (fun hHeld => ?_)
  refine wpAnyH_take (i := 2) (v := .bool false) rfl (by kernel_rfl) (by kernel_rfl) (by kernel_rfl) (fun _ _ _ h => h) (Or.inl ⟨by kernel_rfl, fun w _ => by kernel_rfl⟩) hHeld ?_
  refine wpAnyH_take (i := 3) (v := undef) rfl (by kernel_rfl) (by kernel_rfl) (by kernel_rfl) (fun _ _ _ h => h) (Or.inr ⟨by kernel_rfl, rfl⟩) hHeld ?_
  refine wpAnyH_take (i := 4) (v := undef) rfl (by kernel_rfl) (by kernel_rfl) (by kernel_rfl) (fun _ _ _ h => h) (Or.inr ⟨by kernel_rfl, rfl⟩) hHeld ?_
  refine wpAnyH_take (i := 5) (v := undef) rfl (by kernel_rfl) (by kernel_rfl) (by kernel_rfl) (fun _ _ _ h => h) (Or.inr ⟨by kernel_rfl, rfl⟩) hHeld ?_
  refine wpAnyH_take (i := 6) (v := undef) rfl (by kernel_rfl) (by kernel_rfl) (by kernel_rfl) (fun _ _ _ h => h) (Or.inr ⟨by kernel_rfl, rfl⟩) hHeld ?_
  refine wpAnyH_take (i := 7) (v := undef) rfl (by kernel_rfl) (by kernel_rfl) (by kernel_rfl) (fun _ _ _ h => h) (Or.inr ⟨by kernel_rfl, rfl⟩) hHeld ?_
  refine wpAnyH_take (i := 8) (v := undef) rfl (by kernel_rfl) (by kernel_rfl) (by kernel_rfl) (fun _ _ _ h => h) (Or.inr ⟨by kernel_rfl, rfl⟩) hHeld ?_
  refine wpAnyH_take (i := 9) (v := undef) rfl (by kernel_rfl) (by kernel_rfl) (by kernel_rfl) (fun _ _ _ h => h) (Or.inr ⟨by kernel_rfl, rfl⟩) hHeld ?_
  refine wpAnyH_take (i := 10) (v := .bool false) rfl (by kernel_rfl) (by kernel_rfl) (by kernel_rfl) (fun _ _ _ h => h) (Or.inl ⟨by kernel_rfl, fun w _ => by kernel_rfl⟩) hHeld ?_
  refine wpAnyH_take (i := 11) (v := .bool false) rfl (by kernel_rfl) (by kernel_rfl) (by kernel_rfl) (fun _ _ _ h => h) (Or.inl ⟨by kernel_rfl, fun w _ => by kernel_rfl⟩) hHeld ?_
  refine wpAnyH_done (by kernel_rfl) ?_ _
  refine hKK _ _ ?_
  refine act_eq (a' := ⟨#[.pointer (some ⟨sb, 0, none⟩), .int .i64 (t : Nat), .int .i64 (n : Nat), .int .i64 v, undef, undef, undef, undef, .int .i64 0, undef, .bool false, .pointer (some ⟨sb, 0, none⟩), .bool false, .bool false, .pointer (some ⟨sb, 0, none⟩), .int .i64 (t : Nat), .bool true, .bool false, .bool false, .int .i64 (n : Nat), .bool true, .bool false, .bool false, .bool false, .int .i64 (n : Nat), .bool false, .bool false, undef, undef, undef, undef, undef, undef, undef, .bool false, undef, undef, undef, undef, undef, undef, undef, undef, undef, undef, undef, undef, undef, undef, undef, undef, undef, undef, undef, undef, undef, undef, undef, undef, undef, undef, undef, undef], []⟩) (by kernel_rfl) ?_
  go_wp2_with fail
  refine (DQ.out _).mono ?_
  rintro e wr ⟨rfl, hw⟩; obtain rfl := hw.symm
  go_wp2_with fail
  go_region_with (go_at_call 42; refine (KB.out _).mono ?_; rintro e wr ⟨rfl, hw⟩; obtain rfl := hw.symm)
  all_goals go_wp2
  all_goals go_ret
  all_goals first | exact ⟨rfl, HT.out.drew.drew⟩ | exact ⟨rfl, HT.out.drew⟩
def upd2 (f : Nat → Nat → Nat) (t n v : Nat) : Nat → Nat → Nat := fun t' n' => if t' = t ∧ n' = n then v else f t' n'
/-- One more queues. -/
theorem Sp.push {w w1 w2 w3 : World} {sb : Nat} {R : List Nat} {T S : Nat} {M : Nat → Nat} {L : El} {mb : Nat} {g cap : Nat → Nat → Nat} (h : Sp w sb R T S M L mb g cap) {t n : Nat} {v : Int} {V V' : Value} (ht : t < T) (h16 : 16 ≤ n) (h31 : n ≤ 31) (hu : used L < S)
    (hV : (Fq L g cap t n).getD (.slice none 0 0) = V) (k1 : Kp w w1 [mb]) (hns : Ns w2 0 V' (q L t n ++ [v])) (hg : w1.grownBy w2 V.ownBlock) (hat : V'.ownBlock = V.ownBlock ∨ V'.ownBlock = some w1.heap.size)
    (hm : Mq w3 mb (setF (Fq L g cap) t n (some V'))) (k3 : Kp w2 w3 [mb]) :
    To w (w3.setCell ⟨sb, 18 + t, none⟩ (.int .u32 ((pend L t ||| 2 ^ n : Nat) : Int))) sb R T S M (L ++ [(t, n, v)]) := by
  have hne := h.ne
  obtain ⟨ao, c', hVs⟩ := hns.slice
  have hlen : (q L t n ++ [v]).length = (q L t n).length + 1 := by simp
  obtain ⟨gb, hgb⟩ : ∃ gb, ao = some ⟨gb, 0, none⟩ := by
    cases ao with
    | none =>
      rw [hVs] at hns
      have := hns.none_of.1
      simp at this
    | some ad =>
      rw [hVs] at hns
      obtain ⟨gb, rfl⟩ := hns.some_of
      exact ⟨gb, rfl⟩
  subst hgb
  subst hVs
  -- where the row lies
  have hVb : V.ownBlock = none ∨ (q L t n ≠ [] ∧ V.ownBlock = some (g t n)) := by
    by_cases hq : q L t n = []
    · left
      rw [← hV]
      unfold Fq
      rw [if_neg (by simp [hq])]
      rfl
    · right
      rw [← hV, Fq_yes h16 hq]
      exact ⟨hq, rfl⟩
  have hgbx : gb = w1.heap.size ∨ (q L t n ≠ [] ∧ gb = g t n) := by
    rcases hat with e | e
    · rcases hVb with e2 | ⟨hq, e2⟩
      · rw [e2] at e
        simp [Value.ownBlock] at e
      · rw [e2] at e
        simp [Value.ownBlock] at e
        exact .inr ⟨hq, e⟩
    · simp [Value.ownBlock] at e
      exact .inl e
  -- what stays
  have kg : Kp w1 w2 V.ownBlock.toList := Kp.ofGrown hg (by intro g' hg'; simp [hg'])
  have hrow : ∀ t' n', 16 ≤ n' → q L t' n' ≠ [] → ¬ (t' = t ∧ n' = n) → g t' n' ≠ gb ∧ g t' n' ∉ V.ownBlock.toList := fun t' n' hn' hq' hne' => by
    have hl := h.lt _ (h.row t' n' hn' hq').2
    have hne2 : q L t n ≠ [] → g t' n' ≠ g t n := fun hq e => hne' (h.inj t n t' n' h16 hq hn' hq' e.symm)
    refine ⟨?_, ?_⟩
    · rcases hgbx with e | ⟨hq, e⟩
      · have := k1.size
        omega
      · rw [e]
        exact hne2 hq
    · rcases hVb with e | ⟨hq, e⟩
      · simp [e]
      · simp [e]
        exact fun e' => hne2 hq e'
  have hsV : sb ∉ V.ownBlock.toList ∧ mb ∉ V.ownBlock.toList := by
    rcases hVb with e | ⟨hq, e⟩
    · simp [e]
    · simp [e]
      have := hne.2 t n h16 hq
      exact ⟨fun e' => this.1 e'.symm, fun e' => this.2 e'.symm⟩
  have hgs : gb ≠ sb ∧ gb ≠ mb := by
    rcases hgbx with e | ⟨hq, e⟩
    · have := k1.size
      have a := h.lt _ h.sR
      have b := h.lt _ h.mR
      omega
    · rw [e]
      exact hne.2 t n h16 hq
  have hz12 := k1.size
  have hz2 := hg.size
  have hz3 := k3.size
  have hz4 : (w3.setCell ⟨sb, 18 + t, none⟩ (.int .u32 ((pend L t ||| 2 ^ n : Nat) : Int))).heap.size = w3.heap.size := by simp
  have kall : Kp w w3 R := by
    refine ((k1.mono (r2 := R) (by simp; exact fun _ => h.mR)).past kg (fun k hk hl => ?_)).past k3 (fun k hk hl => by simp at hk; subst hk; exact h.mR)
    rcases hVb with e | ⟨hq, e⟩
    · simp [e] at hk
    · simp [e] at hk
      subst hk
      exact (h.row t n h16 hq).2
  have c3 : Sc w3 sb T S M (pend L) mb := ((h.c.keep k1 (by simp; exact hne.1)).keep kg hsV.1).keep k3 (by simp; exact hne.1)
  have kset := Kp.setCell w3 ⟨sb, 18 + t, none⟩ (.int .u32 ((pend L t ||| 2 ^ n : Nat) : Int))
  have hgl : gb < w3.heap.size := Nat.lt_of_lt_of_le (lt_of_block (owns_block hns rfl).2.choose_spec) hz3
  refine ⟨gb :: R, ⟨mb, upd2 g t n gb, upd2 cap t n c', upd_send L t n v ▸ c3.setP (by have := h.t2; omega) _, (hm.keep kset (by simp; exact fun e => hne.1 e.symm)).congr (fun t' n' _ _ => ?_), fun t' n' hn' hq' => ?_, fun t1 n1 t2 n2 a1 a2 a3 a4 e => ?_, by simp [h.sR], by simp [h.mR], fun j hj => ?_, h.ok.send ht (by omega) h31 (by omega) (fun _ => hu), h.t1, h.t2, h.s1, h.s2, h.mm⟩, fun k hk => ?_, kall.past kset (fun k hk _ => by simp at hk; subst hk; exact h.sR)⟩
  · unfold setF Fq upd2
    rw [q_send]
    by_cases e : t' = t ∧ n' = n
    · rw [if_pos e, if_pos e, if_pos e, if_pos e, if_pos ⟨by omega, by simp⟩]
    · rw [if_neg e, if_neg e, if_neg e, if_neg e]
  · rw [q_send] at hq' ⊢
    unfold upd2
    by_cases e : t' = t ∧ n' = n
    · rw [if_pos e, if_pos e, if_pos e]
      refine ⟨(hns.kp k3 (fun g' hg' => ?_)).kp kset (fun g' hg' => ?_), by simp⟩
      · simp [Value.ownBlock] at hg'
        subst hg'
        simp
        exact hgs.2
      · simp [Value.ownBlock] at hg'
        subst hg'
        simp
        exact hgs.1
    · rw [if_neg e] at hq'
      rw [if_neg e, if_neg e, if_neg e]
      have h1 := h.row t' n' hn' hq'
      have h2 := hne.2 t' n' hn' hq'
      have h3 := hrow t' n' hn' hq' e
      have own : ∀ g', (Value.slice (some ⟨g t' n', 0, none⟩) (q L t' n').length (cap t' n')).ownBlock = some g' → g' = g t' n' := fun g' hg' => by
        simp [Value.ownBlock] at hg'
        exact hg'.symm
      refine ⟨(((h1.1.kp k1 (fun g' hg' => ?_)).kp kg (fun g' hg' => ?_)).kp k3 (fun g' hg' => ?_)).kp kset (fun g' hg' => ?_), by simp [h1.2]⟩
      · rw [own g' hg']; simp; exact h2.2
      · rw [own g' hg']; exact h3.2
      · rw [own g' hg']; simp; exact h2.2
      · rw [own g' hg']; simp; exact h2.1
  · rw [q_send] at a2 a4
    unfold upd2 at e
    by_cases e1 : t1 = t ∧ n1 = n
    · by_cases e2 : t2 = t ∧ n2 = n
      · exact ⟨e2.1.trans e1.1.symm, e2.2.trans e1.2.symm⟩
      · rw [if_pos e1, if_neg e2] at e
        rw [if_neg e2] at a4
        exact ((hrow t2 n2 a3 a4 e2).1 e.symm).elim
    · rw [if_neg e1] at e a2
      by_cases e2 : t2 = t ∧ n2 = n
      · rw [if_pos e2] at e
        exact ((hrow t1 n1 a1 a2 e1).1 e).elim
      · rw [if_neg e2] at e a4
        exact h.inj t1 n1 t2 n2 a1 a2 a3 a4 e
  · rw [hz4]
    rcases List.mem_cons.1 hj with rfl | hj
    · exact hgl
    · have := h.lt j hj
      omega
  · rcases List.mem_cons.1 hk with rfl | hk
    · rcases hgbx with e | ⟨hq, e⟩
      · right; omega
      · left
        rw [e]
        exact (h.row t n h16 hq).2
    · exact .inl hk
end Go.Proofs.Ytoenipaccnpihaa
