/- Copy, Same. -/
import Derived.Test.YtllkopekfanfaaaList
import Derived.Deep.RegionWith
namespace Go.Proofs.Ytllkopekfanfaaa
open Go.RowKit Go.Shelf Go.Lib Go.Sort Go.Maps

theorem mclone_any (w : World) (pb : Nat) (P : Pcs) (h : Mp w pb P) : Calls Try.prog 80 #[.map (some pb)] w fun e w' => e = .returned (.map (some w.heap.size)) ∧ Mp w' w.heap.size P ∧ Kp w w' [] := by
  refine (AnyW.maps_Clone_owns Try.lMc 3 _ pb _ _ w h).mono ?_
  rintro e w' ⟨rfl, h1, -, h2⟩
  exact ⟨rfl, h1, Kp.of_below h2⟩
set_option maxRecDepth 100000 in
set_option maxHeartbeats 1000000 in
theorem copy_any (w : World) (wb pb : Nat) (V : Value) (L : List Dl) (h : Wt w wb pb V L) :
    Calls Try.prog 58 #[.pointer (some ⟨wb, 0, none⟩)] w fun e w' => ∃ wb' pb' V', e = .returned (.pointer (some ⟨wb', 0, none⟩)) ∧ Wt w' wb' pb' V' L ∧ (∀ k ∈ rows wb' pb' V', w.heap.size ≤ k) ∧ Kp w w' [] := by
  have H := hid h
  obtain ⟨ao, cap, hV⟩ := h.ns.slice
  obtain ⟨N, hN⟩ : ∃ N, (L.map (·.1)).length = N := ⟨_, rfl⟩
  rw [hN] at hV
  subst hV
  have hst : w.cell? ⟨wb, 0, none⟩ = some (.map (some pb)) ∧ w.cell? ⟨wb, 1, none⟩ = some (.slice ao N cap) := ⟨cell_two0 h.hh, cell_two1 h.hh⟩
  have HST := hid (show ∀ W, Kp w W [] → W.cell? ⟨wb, 0, none⟩ = some (.map (some pb)) ∧ W.cell? ⟨wb, 1, none⟩ = some (.slice ao N cap) from fun W hk => ⟨hk.cell hst.1 (by simp), hk.cell hst.2 (by simp)⟩)
  have C47 := hid (fun (W : World) (hk : Kp w W []) => clone_any W _ _ ((h.ns).keep hk) (by rw [hN]; have := h.ok.len; rw [List.length_map] at hN; omega))
  obtain ⟨P, hm, hp⟩ := h.mp
  have C46 := hid (fun (W : World) (hk : Kp w W []) => mclone_any W pb P (hm.keep hk (by simp)))
  have HP := hid hp
  have HN := hid hN
  clear h hN hst hm hp
  go_enter Try.func58, Try.ntmps58
  go_wp2_with (go_at_call 68; refine (zero_no w wb pb _ L H.out).mono ?_; rintro e w1 ⟨rfl, rfl⟩)
  go_region_held_law (fun w' => w'.cell? ⟨wb, 0, none⟩ = some (.map (some pb)) ∧ w'.cell? ⟨wb, 1, none⟩ = some (.slice ao N cap))
    (first | exact HST.out _ (Kp.drew _ _) | exact HST.out _ K4.out | exact HST.out _ K5.out | exact HST.out _ (K5.out.trans (Kp.alloc _ _ _)))
    (first | (go_at_call 80; refine (C46.out _ (Kp.drew _ _)).mono ?_; rintro e w4 ⟨rfl, hm4, hk4⟩; have K4 := hid ((Kp.drew w1 []).trans hk4); have M4 := hid hm4; clear hm4 hk4) | (go_at_call 81; refine (C47.out _ K4.out).mono ?_; rintro e w5 ⟨v5, rfl, hn5, hk5⟩; obtain ⟨a5, c5, hv5⟩ := hn5.slice; have K5 := hid (K4.out.trans hk5); have KK5 := hid hk5; have N5 := hid hn5; obtain ⟨n5, hl5⟩ : ∃ n5, (L.map (·.1)).length = n5 := ⟨_, rfl⟩; rw [hl5] at hv5; subst hv5; clear hn5 hk5 hl5))
  go_wp2
  go_ret
  have ka := Kp.alloc w5 (.cells #[.map (some w1.heap.size), .slice a5 n5 c5] 100) []
  have hb5 : ∀ g, Value.ownBlock (.slice a5 n5 c5) = some g → w4.heap.size ≤ g := fun g hg => (owns_block N5.out hg).1
  refine ⟨_, w1.heap.size, .slice a5 n5 c5, rfl, ⟨heap_alloc_new w5 _, ⟨P, ?_, HP.out⟩, (N5.out.keep ka).low (Nat.zero_le _), H.out.ok⟩, ?_, K5.out.trans ka⟩
  · exact ((M4.out.keep KK5.out (by simp)).keep ka (by simp))
  · intro k hk
    have h4 := K4.out.size
    have h5 := K5.out.size
    simp only [rows, List.mem_cons, Option.mem_toList] at hk
    rcases hk with rfl | rfl | hk
    · exact h5
    · exact Nat.le_refl _
    · have := hb5 k hk
      omega
set_option maxRecDepth 100000 in
theorem zcopy (w : World) (p : Option Addr) (h : Zw w p) : Calls Try.prog 58 #[.pointer p] w fun e w' => e = .returned (.pointer none) ∧ w' = w := by
  have H := hid h
  clear h
  go_enter Try.func58, Try.ntmps58
  go_wp2_with (go_at_call 68; refine (zero_yes w p H.out).mono ?_; rintro e w1 ⟨rfl, rfl⟩)
  go_ret
  exact ⟨rfl, rfl⟩

/-! ### Same -/
def eqI : DataW Unit → DataW Unit → Bool
  | .lit (.int .i64 a), .lit (.int .i64 b) => a == b
  | _, _ => false
/-- What maps.Equal says. -/
def eqM (P Q : Pcs) : Bool := decide (P.length = Q.length) && P.all fun p => hasP Q p.1 && p.2 == getP Q p.1
theorem equal_dat (P Q : Pcs) : Lib.equalFuncD eqI (dat P) (dat Q) = eqM P Q := by
  unfold Lib.equalFuncD eqM
  rw [dat_size, dat_size]
  congr 1
  show (P.map fun p => ((.int .i64 p.1, .lit (.int .i64 p.2)) : Lit × DataW Unit)).all (Lib.goodD eqI (dat Q)) = _
  rw [List.all_map]
  apply List.all_congr rfl
  intro p
  simp only [Function.comp, Lib.goodD, dat_has]
  cases h : hasP Q p.1 with
  | false => rfl
  | true =>
    rw [atKey_indep (D := dat Q) (by rw [dat_has]; exact h) .nil (.lit (.int .i64 0)), dat_at]
    rfl
theorem same_lists {L M P Q : List Dl} (hp : P.Perm L) (hq : Q.Perm M) (hl : okL L) (hm : okL M) : (eqM P Q && decide (L.map (·.1) = M.map (·.1))) = decide (L = M) := by
  rw [Bool.eq_iff_iff, decide_eq_true_eq, Bool.and_eq_true, decide_eq_true_eq]
  unfold eqM
  rw [Bool.and_eq_true, decide_eq_true_eq, List.all_eq_true]
  constructor
  · rintro ⟨⟨-, h1⟩, h2⟩
    have e : ∀ N : List Dl, (N.map (·.1)).Nodup → N = (N.map (·.1)).map fun t => (t, getP N t) := fun N h => by
      rw [List.map_map]
      conv => lhs; rw [← List.map_id N]
      apply List.map_congr_left
      intro x hx
      simp only [Function.comp, id]
      rw [get_of_mem h hx]
    rw [e L hl.one, e M hm.one, h2]
    apply List.map_congr_left
    intro t ht
    rw [← h2] at ht
    obtain ⟨x, hx, rfl⟩ := List.mem_map.1 ht
    have := h1 x (hp.mem_iff.2 hx)
    rw [Bool.and_eq_true, beq_iff_eq] at this
    rw [get_of_mem hl.one hx, this.2, perm_get hq hm.one]
  · rintro rfl
    refine ⟨⟨by rw [hp.length_eq, hq.length_eq], fun x hx => ?_⟩, rfl⟩
    have hxl := hp.mem_iff.1 hx
    rw [Bool.and_eq_true, beq_iff_eq, perm_has hq, perm_get hq hm.one, get_of_mem hl.one hxl]
    exact ⟨mem_has.2 ⟨x, hxl, rfl⟩, rfl⟩
theorem mequal_any (w : World) (b1 b2 : Nat) (P Q : Pcs) (h1 : Mp w b1 P) (h2 : Mp w b2 Q) : Calls Try.prog 69 #[.map (some b1), .map (some b2)] w fun e w' => e = .returned (.bool (eqM P Q)) ∧ Kp w w' [] := by
  refine (AnyEq.maps_Equal Try.lMe keyed3 _ _ eqI b1 b2 _ _ _ _ w h1 h2 (.int .i64 0) Try.zeroValue3 (.lit (.int .i64 0)) [] (plainElem_int Try.underlying3 (wf64 (k := 0) (by decide) (by decide))) ?_).mono ?_
  · intro W x y xd yd xp yp hx hy
    obtain ⟨a, rfl, ha, -⟩ := plainElem_int_inv Try.underlying3 hx
    obtain ⟨b, rfl, hb, -⟩ := plainElem_int_inv Try.underlying3 hy
    simp only [Prod.mk.injEq] at ha hb
    obtain ⟨rfl, -⟩ := ha
    obtain ⟨rfl, -⟩ := hb
    have N := NeqAt.int Try.prog 3 .i64
    exact ⟨N.1 a b W, fun u v => N.2 .neq u v a b W⟩
  · rintro e w' ⟨rfl, hg⟩
    exact ⟨by rw [equal_dat], ⟨hg.os, hg.tape, hg.output, hg.size, fun k hk _ => hg.block k hk (by simp)⟩⟩
theorem Vw.zero {w : World} {p : Option Addr} {L : List Dl} (h : Vw w p L) : ∃ z, Calls Try.prog 68 #[.pointer p] w (fun e w' => e = .returned (.bool z) ∧ w' = w) := by
  rcases h with ⟨wb, pb, V, rfl, h⟩ | ⟨h, -⟩
  · exact ⟨false, zero_no w wb pb V L h⟩
  · exact ⟨true, zero_yes w p h⟩
set_option maxRecDepth 100000 in
set_option maxHeartbeats 2000000 in
theorem same_any (w : World) (wb pb wb2 pb2 : Nat) (V V2 : Value) (L M : List Dl) (h1 : Wt w wb pb V L) (h2 : Wt w wb2 pb2 V2 M) :
    Calls Try.prog 42 #[.pointer (some ⟨wb, 0, none⟩), .pointer (some ⟨wb2, 0, none⟩)] w fun e w' => e = .returned (.bool (decide (L = M))) ∧ Kp w w' [] := by
  have H1 := hid h1
  have H2 := hid h2
  obtain ⟨P, hm1, hp1⟩ := h1.mp
  obtain ⟨Q, hm2, hp2⟩ := h2.mp
  rw [← same_lists hp1 hp2 h1.ok h2.ok]
  obtain ⟨a1, c1, hV1⟩ := h1.ns.slice
  obtain ⟨a2, c2, hV2⟩ := h2.ns.slice
  obtain ⟨N1, hN1⟩ : ∃ N1, (L.map (·.1)).length = N1 := ⟨_, rfl⟩
  obtain ⟨N2, hN2⟩ : ∃ N2, (M.map (·.1)).length = N2 := ⟨_, rfl⟩
  have l1 : (L.map (·.1)).length ≤ 100000 := by rw [List.length_map]; have := h1.ok.len; omega
  have l2 : (M.map (·.1)).length ≤ 100000 := by rw [List.length_map]; have := h2.ok.len; omega
  have HC := hid (fun (W : World) (hk : Kp w W []) => mequal_any W pb pb2 P Q (hm1.keep hk (by simp)) (hm2.keep hk (by simp)))
  have HE := hid (fun (W : World) (hk : Kp w W []) => eq_any (h1.ns.keep hk) (h2.ns.keep hk) l1 l2)
  rw [hV1, hV2] at HE
  rw [hN1] at hV1 HE
  rw [hN2] at hV2 HE
  have hc := And.intro (cell_two0 h1.hh) (And.intro (cell_two1 h1.hh) (And.intro (cell_two0 h2.hh) (cell_two1 h2.hh)))
  rw [hV1, hV2] at hc
  have HST := hid (show ∀ W, Kp w W [] → W.cell? ⟨wb, 0, none⟩ = some (.map (some pb)) ∧ W.cell? ⟨wb, 1, none⟩ = some (.slice a1 N1 c1) ∧ W.cell? ⟨wb2, 0, none⟩ = some (.map (some pb2)) ∧ W.cell? ⟨wb2, 1, none⟩ = some (.slice a2 N2 c2) from fun W hk => ⟨hk.cell hc.1 (by simp), hk.cell hc.2.1 (by simp), hk.cell hc.2.2.1 (by simp), hk.cell hc.2.2.2 (by simp)⟩)
  generalize decide (L.map (·.1) = M.map (·.1)) = B2 at HE ⊢
  generalize eqM P Q = B1 at HC ⊢
  clear h1 h2 hm1 hm2 hp1 hp2 hN1 hN2 hV1 hV2 hc l1 l2
  cases B1 with
  | false =>
    go_enter Try.func42, Try.ntmps42
    go_wp2_with fail
    refine (zero_no _ wb pb V L H1.out).mono ?_
    rintro e w1 ⟨rfl, rfl⟩
    go_wp2_with fail
    refine (zero_no _ wb2 pb2 V2 M H2.out).mono ?_
    rintro e w2 ⟨rfl, rfl⟩
    go_wp2_with fail
    rename_i QQ KK hKK
    refine wp_region_held_drew (S := fun W : World => W.cell? ⟨wb, 0, none⟩ = some (.map (some pb)) ∧ W.cell? ⟨wb, 1, none⟩ = some (.slice a1 N1 c1) ∧ W.cell? ⟨wb2, 0, none⟩ = some (.map (some pb2)) ∧ W.cell? ⟨wb2, 1, none⟩ = some (.slice a2 N2 c2)) (by kernel_rfl) (HST.out _ (Kp.drew _ _)) (fun hHeld => ?_)
    refine wpAnyH_take (i := 0) (v := .pointer (some ⟨wb, 0, none⟩)) rfl (by kernel_rfl) (by kernel_rfl) (by kernel_rfl) (fun _ _ _ h => h) (Or.inl ⟨by kernel_rfl, fun w _ => by kernel_rfl⟩) hHeld ?_
    refine wpAnyH_take (i := 1) (v := .pointer (some ⟨wb, 0, none⟩)) rfl (by kernel_rfl) (by kernel_rfl) (by kernel_rfl) (fun _ _ _ h => h) (Or.inl ⟨by kernel_rfl, fun w _ => by kernel_rfl⟩) hHeld ?_
    refine wpAnyH_take (i := 2) (v := .pointer (some ⟨wb, 0, none⟩)) rfl (by kernel_rfl) (by kernel_rfl) (by kernel_rfl) (fun _ _ _ h => h) (Or.inl ⟨by kernel_rfl, fun w _ => by kernel_rfl⟩) hHeld ?_
    refine wpAnyH_take (i := 3) (v := .map (some pb)) rfl (by kernel_rfl) (by kernel_rfl) (by kernel_rfl) (fun _ _ _ h => h) (Or.inl ⟨by kernel_rfl, by intro w hSw; obtain ⟨s1, s2, s3, s4⟩ := hSw; go_simp⟩) hHeld ?_
    refine wpAnyH_take (i := 4) (v := .pointer (some ⟨wb2, 0, none⟩)) rfl (by kernel_rfl) (by kernel_rfl) (by kernel_rfl) (fun _ _ _ h => h) (Or.inl ⟨by kernel_rfl, fun w _ => by kernel_rfl⟩) hHeld ?_
    refine wpAnyH_take (i := 5) (v := .pointer (some ⟨wb2, 0, none⟩)) rfl (by kernel_rfl) (by kernel_rfl) (by kernel_rfl) (fun _ _ _ h => h) (Or.inl ⟨by kernel_rfl, fun w _ => by kernel_rfl⟩) hHeld ?_
    refine wpAnyH_take (i := 6) (v := .pointer (some ⟨wb2, 0, none⟩)) rfl (by kernel_rfl) (by kernel_rfl) (by kernel_rfl) (fun _ _ _ h => h) (Or.inl ⟨by kernel_rfl, fun w _ => by kernel_rfl⟩) hHeld ?_
    refine wpAnyH_take (i := 7) (v := .map (some pb2)) rfl (by kernel_rfl) (by kernel_rfl) (by kernel_rfl) (fun _ _ _ h => h) (Or.inl ⟨by kernel_rfl, by intro w hSw; obtain ⟨s1, s2, s3, s4⟩ := hSw; go_simp⟩) hHeld ?_
    refine wpAnyH_ready (rs := [8]) (by kernel_rfl) (by simp) ?_
    refine AllReadyH.cons rfl (fun K hK => ?_) AllReadyH.nil
    go_simp
    refine (HC.out _ (Kp.drew _ _)).mono ?_
    rintro e w4 ⟨rfl, hk4⟩
    have K4 := hid ((Kp.drew w2 []).trans hk4)
    clear hk4
    go_simp
    refine hK.out _ _ (HST.out _ K4.out) (fun hHeld => ?_)
    refine wpAnyH_take (i := 9) (v := .bool false) rfl (by kernel_rfl) (by kernel_rfl) (by kernel_rfl) (fun _ _ _ h => h) (Or.inl ⟨by kernel_rfl, fun w _ => by kernel_rfl⟩) hHeld ?_
    refine wpAnyH_take (i := 10) (v := undef) rfl (by kernel_rfl) (by kernel_rfl) (by kernel_rfl) (fun _ _ _ h => h) (Or.inr ⟨by kernel_rfl, rfl⟩) hHeld ?_
    refine wpAnyH_take (i := 11) (v := undef) rfl (by kernel_rfl) (by kernel_rfl) (by kernel_rfl) (fun _ _ _ h => h) (Or.inr ⟨by kernel_rfl, rfl⟩) hHeld ?_
    refine wpAnyH_take (i := 12) (v := undef) rfl (by kernel_rfl) (by kernel_rfl) (by kernel_rfl) (fun _ _ _ h => h) (Or.inr ⟨by kernel_rfl, rfl⟩) hHeld ?_
    refine wpAnyH_take (i := 13) (v := undef) rfl (by kernel_rfl) (by kernel_rfl) (by kernel_rfl) (fun _ _ _ h => h) (Or.inr ⟨by kernel_rfl, rfl⟩) hHeld ?_
    refine wpAnyH_take (i := 14) (v := undef) rfl (by kernel_rfl) (by kernel_rfl) (by kernel_rfl) (fun _ _ _ h => h) (Or.inr ⟨by kernel_rfl, rfl⟩) hHeld ?_
    refine wpAnyH_take (i := 15) (v := undef) rfl (by kernel_rfl) (by kernel_rfl) (by kernel_rfl) (fun _ _ _ h => h) (Or.inr ⟨by kernel_rfl, rfl⟩) hHeld ?_
    refine wpAnyH_take (i := 16) (v := undef) rfl (by kernel_rfl) (by kernel_rfl) (by kernel_rfl) (fun _ _ _ h => h) (Or.inr ⟨by kernel_rfl, rfl⟩) hHeld ?_
    refine wpAnyH_take (i := 17) (v := undef) rfl (by kernel_rfl) (by kernel_rfl) (by kernel_rfl) (fun _ _ _ h => h) (Or.inr ⟨by kernel_rfl, rfl⟩) hHeld ?_
    refine wpAnyH_take (i := 18) (v := undef) rfl (by kernel_rfl) (by kernel_rfl) (by kernel_rfl) (fun _ _ _ h => h) (Or.inr ⟨by kernel_rfl, rfl⟩) hHeld ?_
    refine wpAnyH_take (i := 19) (v := .bool false) rfl (by kernel_rfl) (by kernel_rfl) (by kernel_rfl) (fun _ _ _ h => h) (Or.inl ⟨by kernel_rfl, fun w _ => by kernel_rfl⟩) hHeld ?_
    refine wpAnyH_take (i := 20) (v := .bool false) rfl (by kernel_rfl) (by kernel_rfl) (by kernel_rfl) (fun _ _ _ h => h) (Or.inl ⟨by kernel_rfl, fun w _ => by kernel_rfl⟩) hHeld ?_
    refine wpAnyH_done (by kernel_rfl) ?_ _
    refine hKK _ _ (wp_ret ?_)
    exact bodyPost_ret (v := .bool false) (by kernel_rfl) rfl ⟨rfl, K4.out⟩
  | true =>
    go_enter Try.func42, Try.ntmps42
    go_wp2_with fail
    refine (zero_no _ wb pb V L H1.out).mono ?_
    rintro e w1 ⟨rfl, rfl⟩
    go_wp2_with fail
    refine (zero_no _ wb2 pb2 V2 M H2.out).mono ?_
    rintro e w2 ⟨rfl, rfl⟩
    go_wp2_with fail
    go_region_held_law (fun w' => w'.cell? ⟨wb, 0, none⟩ = some (.map (some pb)) ∧ w'.cell? ⟨wb, 1, none⟩ = some (.slice a1 N1 c1) ∧ w'.cell? ⟨wb2, 0, none⟩ = some (.map (some pb2)) ∧ w'.cell? ⟨wb2, 1, none⟩ = some (.slice a2 N2 c2))
      (first | exact HST.out _ (Kp.drew _ _) | exact HST.out _ K4.out | exact HST.out _ K5.out)
      (first | (go_at_call 69; refine (HC.out _ (Kp.drew _ _)).mono ?_; rintro e w4 ⟨rfl, hk4⟩; have K4 := hid ((Kp.drew _ []).trans hk4); clear hk4) | (go_at_call 70; refine (HE.out _ K4.out).mono ?_; rintro e w5 ⟨rfl, hk5⟩; have K5 := hid (K4.out.trans hk5); clear hk5))
    go_wp2
    go_ret
    exact ⟨rfl, K5.out⟩
/-- Same, of a list and none. -/
theorem same_zero (w : World) (wb pb : Nat) (V : Value) (L : List Dl) (p : Option Addr) (h1 : Wt w wb pb V L) (h2 : Zw w p) :
    Calls Try.prog 42 #[.pointer (some ⟨wb, 0, none⟩), .pointer p] w fun e w' => e = .returned (.bool false) ∧ w' = w := by
  have H1 := hid h1
  have H2 := hid h2
  clear h1 h2
  go_enter Try.func42, Try.ntmps42
  go_wp2_with fail
  refine (zero_no _ wb pb V L H1.out).mono ?_
  rintro e w1 ⟨rfl, rfl⟩
  go_wp2_with fail
  refine (zero_yes _ p H2.out).mono ?_
  rintro e w2 ⟨rfl, rfl⟩
  go_wp2_with fail
  refine (zero_no _ wb pb V L H1.out).mono ?_
  rintro e w3 ⟨rfl, rfl⟩
  go_wp2
  go_ret
  exact ⟨rfl, rfl⟩
/-- Same, of none and none. -/
theorem same_zeros (w : World) (p q : Option Addr) (h1 : Zw w p) (h2 : Zw w q) :
    Calls Try.prog 42 #[.pointer p, .pointer q] w fun e w' => e = .returned (.bool true) ∧ w' = w := by
  have H1 := hid h1
  have H2 := hid h2
  clear h1 h2
  go_enter Try.func42, Try.ntmps42
  go_wp2_with fail
  refine (zero_yes _ p H1.out).mono ?_
  rintro e w1 ⟨rfl, rfl⟩
  go_wp2_with fail
  refine (zero_yes _ p H1.out).mono ?_
  rintro e w2 ⟨rfl, rfl⟩
  go_wp2_with fail
  refine (zero_yes _ q H2.out).mono ?_
  rintro e w3 ⟨rfl, rfl⟩
  go_wp2
  go_ret
  exact ⟨rfl, rfl⟩
end Go.Proofs.Ytllkopekfanfaaa
