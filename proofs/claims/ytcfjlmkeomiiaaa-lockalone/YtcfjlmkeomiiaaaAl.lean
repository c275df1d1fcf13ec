/- alone: what must hold behind each call. -/
import Derived.Test.YtcfjlmkeomiiaaaLn
import Derived.Test.YtcfjlmkeomiiaaaRk
namespace Go.Proofs.Ytcfjlmkeomiiaaa
open Go.RowKit Go.Shelf Go.Lib Go.Sort Go.Maps
attribute [local go_sem] Oper.semAt_some

/-- Numbers by thread, in a block. -/
def Pr (w : World) (pb : Nat) (F : Nat → Int) : Prop := w.heap[pb]? = some (.cells (vcl (fun i => .int .i64 (F i)) 16 0).toArray 37 (0, 0))
theorem Pr.keep {w w' : World} {pb : Nat} {F : Nat → Int} (h : Pr w pb F) {rs : List Nat} (hk : Kp w w' rs) (hr : pb ∉ rs) : Pr w' pb F := (hk.block pb (lt_of_block h) hr).trans h
theorem Pr.at {w : World} {pb : Nat} {F : Nat → Int} (h : Pr w pb F) {n : Nat} (hn : n < 16) : w.cell? ⟨pb, n, none⟩ = some (.int .i64 (F n)) := vcl_cell h n hn
/-- What alone looks at. -/
theorem alone_at {M : Lk} {F : Nat → Int} (hM : Lok M) (hF : ∀ x, x ∈ M.r ∨ x ∈ M.q → F x.1.toNat = x.2) (hw : M.w < 0) {i : Nat} (hi : i < ((ordL M.r).map (·.1)).length) : ∃ n m : Nat, ((ordL M.r).map (·.1))[i]! = n ∧ n < 16 ∧ 0 < ((ordL M.q).map (·.1)).length ∧ ((ordL M.q).map (·.1))[0]! = m ∧ m < 16 ∧ M.c n = 0 ∧ ¬ F m < F n := by
  have hm := hM.mid
  rw [List.length_map] at hi
  have e0 : ((ordL M.r).map (·.1))[i]! = (ordL M.r)[i].1 := by simp [hi]
  have hx : (ordL M.r)[i] ∈ M.r := (ord_mem hm.rk).1 (List.getElem_mem hi)
  generalize (ordL M.r)[i] = x at e0 hx
  have hr := hm.rk.rng x hx
  obtain ⟨y, hy, hle⟩ := (lset_of hM).low hw x hx
  obtain ⟨hb, hg⟩ := fst_great hm.qk hy
  have hmem := fst_mem hm.qk hb
  have hq := fst_rng hm.qk hb
  have hl : 0 < ((ordL M.q).map (·.1)).length := by
    rw [List.length_map, ord_len hm.qk]
    exact List.length_pos_of_mem hy
  have e1 : ((ordL M.q).map (·.1))[0]! = fstT M.q := by
    unfold fstT
    unfold fstB at hb
    cases hz : ordL M.q with
    | nil => rw [hz] at hb; simp at hb
    | cons y r => simp
  have f1 := hF x (.inl hx)
  have f2 := hF _ (.inr hmem)
  simp only at f2
  refine ⟨x.1.toNat, (fstT M.q).toNat, by rw [e0]; omega, by omega, hl, by rw [e1]; omega, by omega, (hm.rz x.1 (mem_has.2 ⟨x, hx, rfl⟩)).1, ?_⟩
  rw [f1, f2]
  omega
set_option maxRecDepth 100000 in
set_option maxHeartbeats 4000000 in
theorem alone_any (w : World) (lb pb : Nat) (R : List Nat) (M : Lk) (F : Nat → Int) (h : Lc w lb R M) (hM : Lok M) (hp : Pr w pb F) (hF : ∀ x, x ∈ M.r ∨ x ∈ M.q → F x.1.toNat = x.2) : Calls Try.prog 23 #[.pointer (some ⟨lb, 0, none⟩), .pointer (some ⟨pb, 0, none⟩)] w fun e w' => e = .returned (.bool true) ∧ Kp w w' [] := by
  have hm := hM.mid
  have HW := hid (lwriter w _ R M h.lv)
  have HH := hid (fun (z : World) (hk : Kp w z []) => lheld z _ R M (h.same hk).lv)
  have LR := hid (fun (z : World) (hk : Kp w z []) (n : Nat) (hn : n < 16) => (show Calls Try.prog 38 #[.pointer (some ⟨lb, 0, none⟩), .int .i64 (n : Int)] z fun e w' => e = .returned (.int .i64 (M.c n)) ∧ w' = z from by
    have := lreads z _ R M n (h.same hk).lv ⟨by omega, by omega⟩
    rw [cnt_in (by omega), Int.toNat_natCast] at this
    exact this))
  have L0 := hid (fun (z : World) (hk : Kp w z []) => lreaders z _ R M (h.same hk).lv)
  have L1 := hid (fun (z : World) (hk : Kp w z []) => lwriters z _ R M (h.same hk).lv)
  have CP := hid (fun (z : World) (hk : Kp w z []) (n : Nat) (hn : n < 16) => (hp.keep hk (by simp)).at hn)
  have n0 : ((ordL M.r).map (·.1)).length ≤ 16 := by rw [List.length_map, ord_len hm.rk]; exact hm.rk.len
  have n1 : ((ordL M.q).map (·.1)).length ≤ 16 := by rw [List.length_map, ord_len hm.qk]; exact hm.qk.len
  have AT := hid (fun (hw : M.w < 0) (i : Nat) (hi : i < ((ordL M.r).map (·.1)).length) => alone_at hM hF hw hi)
  have CASES := hid (show (wrI M = true ∧ anyC M.c 16 = false ∧ heldL M = true) ∨ (wrI M = false ∧ M.w < 0 ∧ anyC M.c 16 = true ∧ heldL M = true) ∨ (wrI M = false ∧ M.w < 0 ∧ anyC M.c 16 = false ∧ heldL M = false ∧ ((ordL M.r).map (·.1)).length = 0 ∧ ((ordL M.q).map (·.1)).length = 0) from by
    by_cases hx : 0 ≤ M.w
    · refine .inl ⟨by unfold wrI; simp [hx], ?_, by unfold heldL; simp [hx]⟩
      cases hb : anyC M.c 16
      · rfl
      · obtain ⟨t, ht, hc⟩ := (anyC_iff 16).1 hb
        have := hm.al hx t ht
        omega
    · cases hb : anyC M.c 16
      · have hh : heldL M = false := by unfold heldL; simp [hx, hb]
        obtain ⟨f1, f2⟩ := (lset_of hM).free hh
        exact .inr (.inr ⟨by unfold wrI; simp [hx], by omega, rfl, hh, by rw [f1, ord_nil]; rfl, by rw [f2, ord_nil]; rfl⟩)
      · exact .inr (.inl ⟨by unfold wrI; simp [hx], by omega, rfl, by unfold heldL; simp [hb]⟩))
  generalize (ordL M.r).map (·.1) = OR at L0 AT n0 CASES
  generalize (ordL M.q).map (·.1) = OQ at L1 AT n1 CASES
  generalize wrV M = WV at HW
  generalize wrI M = IS at HW CASES
  generalize heldL M = HB at HH CASES
  have AC := hid (show anyC M.c 0 = false from rfl)
  have AS := hid (fun n => anyC_succ M.c n)
  clear h hM hp hF hm
  go_enter Try.func23, Try.ntmps23
  go_wp2_with fail
  refine HW.out.mono ?_
  rintro e wx ⟨rfl, hw⟩; obtain rfl := hw.symm
  go_wp2_with fail
  go_loopw [7, 8] (fun vs vt wr => ∃ (t : Nat) (B : Bool), t ≤ 16 ∧ vt = .int .i64 t ∧ vs = .bool B ∧ Hid (wr = w ∧ B = anyC M.c t)) (fun _ vt _ => 16 - (intOf vt).toNat)
  case atStart => exact ⟨0, false, by omega, rfl, rfl, hid ⟨rfl, AC.out.symm⟩⟩
  case round =>
    obtain ⟨t, B, ht, rfl, rfl, hB⟩ := hrel
    have hWE := hB.out.1.symm
    subst hWE
    by_cases hlt : t < 16
    · have hltI : (t : Int) < 16 := by omega
      have h0I : (0 : Int) ≤ t := by omega
      have LRt := hid (LR.out w (Kp.refl _ _) t hlt)
      have HN := hid (show ∀ C : Bool, C = decide (0 < M.c t) → (B || C) = anyC M.c (t + 1) from fun C hC => by rw [hC, hB.out.2, AS.out])
      generalize M.c t = CT at LRt HN
      cases B with
      | false =>
        clear hB
        go_wp2_with fail
        refine LRt.out.mono ?_
        rintro e wx ⟨rfl, hw⟩; obtain rfl := hw.symm
        go_wp2
        go_roundw
        case rel => exact ⟨t + 1, _, by omega, by simp, rfl, hid ⟨by trivial, by have := HN.out _ rfl; simpa using this⟩⟩
        case measure => simp [intOf]; omega
      | true =>
        clear hB
        go_wp2
        go_roundw
        case rel => exact ⟨t + 1, true, by omega, by simp, rfl, hid ⟨by trivial, by have := HN.out _ rfl; simpa using this⟩⟩
        case measure => simp [intOf]; omega
    · have hltI : ¬ (t : Int) < 16 := by omega
      have hB2 : B = anyC M.c 16 := by rw [hB.out.2, show t = 16 by omega]
      rw [← hB2] at CASES
      clear hB hB2
      go_wp2_with fail
      refine (L0.out w (Kp.refl _ _)).mono ?_
      rintro e z1 ⟨x1, rfl, hx, hk1⟩
      obtain ⟨ao1, cap1, rfl⟩ := hx.slice
      have X1 := hid hx
      have K1 := hid hk1
      clear hx hk1
      go_wp2_with fail
      refine (L1.out z1 K1.out).mono ?_
      rintro e z2 ⟨x2, rfl, hx, hk2⟩
      obtain ⟨ao2, cap2, rfl⟩ := hx.slice
      have Y2 := hid hx
      have X2 := hid (X1.out.keep hk2)
      have K2 := hid (K1.out.trans hk2)
      clear hx hk2 X1
      have LEN := hid (And.intro n0 n1)
      obtain ⟨m1, hm1⟩ : ∃ m1, OR.length = m1 := ⟨_, rfl⟩
      obtain ⟨m2, hm2⟩ : ∃ m2, OQ.length = m2 := ⟨_, rfl⟩
      rw [hm1] at CASES X2 n0 ⊢
      rw [hm2] at CASES Y2 n1 ⊢
      have HL := hid (And.intro hm1 hm2)
      clear hm1 hm2
      have HLp := hid (HH.out z2 K2.out)
      have hcase := CASES.out
      rcases hcase with ⟨rfl, rfl, rfl⟩ | ⟨rfl, hwn, rfl, rfl⟩ | ⟨rfl, hwn, rfl, rfl, rfl, rfl⟩
      · clear CASES
        go_wp2_with fail
        refine HLp.out.mono ?_
        rintro e wx ⟨rfl, hw⟩; obtain rfl := hw.symm
        go_wp2_with fail
        refine HLp.out.mono ?_
        rintro e wx ⟨rfl, hw⟩; obtain rfl := hw.symm
        go_wp2_with fail
        go_loopw [11] (fun v wr => ∃ i : Nat, i ≤ m1 ∧ v = .int .i64 i ∧ Hid (Kp z2 wr [])) (fun v _ => m1 - (intOf v).toNat)
        case atStart => exact ⟨0, by omega, rfl, hid (Kp.refl _ _)⟩
        case round =>
          obtain ⟨i, hi, rfl, hKz⟩ := hrel
          by_cases hlt : i < m1
          · have hltI : (i : Int) < m1 := by omega
            go_wp2
            go_ret
            exact ⟨rfl, K2.out.trans hKz.out⟩
          · have hltI : ¬ (i : Int) < m1 := by omega
            go_wp2
            go_ret
            exact ⟨rfl, K2.out.trans hKz.out⟩
      · clear CASES
        go_wp2_with fail
        refine HLp.out.mono ?_
        rintro e wx ⟨rfl, hw⟩; obtain rfl := hw.symm
        go_wp2_with fail
        refine HLp.out.mono ?_
        rintro e wx ⟨rfl, hw⟩; obtain rfl := hw.symm
        go_wp2_with fail
        go_loopw [11] (fun v wr => ∃ i : Nat, i ≤ m1 ∧ v = .int .i64 i ∧ Hid (Kp z2 wr [])) (fun v _ => m1 - (intOf v).toNat)
        case atStart => exact ⟨0, by omega, rfl, hid (Kp.refl _ _)⟩
        case round =>
          obtain ⟨i, hi, rfl, hKz⟩ := hrel
          by_cases hlt : i < m1
          · have hltI : (i : Int) < m1 := by omega
            obtain ⟨n, m, e1, hn, hl, e2, hmm, hc, hlt2⟩ := AT.out hwn i (by have := HL.out.1; omega)
            have hlt3 : ¬ F m < F n := by omega
            have hcd : decide (F m < F n) = false := decide_eq_false hlt3
            have KW := hid (K2.out.trans hKz.out)
            obtain ⟨g1, rfl, x1, -⟩ := (X2.out.keep hKz.out).at (k := i) (by have := HL.out.1; omega) e1
            obtain ⟨g2, rfl, x2, -⟩ := (Y2.out.keep hKz.out).at (k := 0) hl e2
            have p1 := CP.out wr KW.out n hn
            have p2 := CP.out wr KW.out m hmm
            have LRn := hid (fun (z : World) (hk : Kp w z []) => LR.out z hk n hn)
            rw [hc] at LRn
            have l2a : (m2 : Int) ≠ 0 := by have := HL.out.2; omega
            have l2b : (0 : Int) < m2 := by have := HL.out.2; omega
            have l2c : ((m2 : Int) == 0) = false := by simp; omega
            have hn0 : (0 : Int) ≤ n := by omega
            have hn1 : (n : Int) < 16 := by omega
            have hn2 : ¬ (n : Int) < 0 := by omega
            have hn3 : decide ((n : Int) < 0) = false := decide_eq_false hn2
            have hn4 : ¬ (15 : Int) < n := by omega
            have hn5 : decide ((15 : Int) < n) = false := decide_eq_false hn4
            have hm0 : (0 : Int) ≤ m := by omega
            have hm1 : (m : Int) < 16 := by omega
            have hi0 : (0 : Int) ≤ i := by omega
            have hwi : IntKind.i64.wrap ((i : Int) + 1) = (i : Int) + 1 := IntWalk.i64_in _ ⟨by omega, by omega⟩
            clear e1 e2 hl hc hlt
            go_wp2_with fail
            go_quiet ((go_at_call 38; exact Calls.quiet_of_same (LRn.out _ (KW.out.trans (Kp.drewN _ _ _)))))
            go_wp2
            go_roundw
            case rel => exact ⟨i + 1, by omega, by simp, hid (hKz.out.trans (Kp.drewN _ _ _))⟩
            case measure => simp [intOf]; omega
          · have hltI : ¬ (i : Int) < m1 := by omega
            go_wp2
            go_ret
            exact ⟨rfl, K2.out.trans hKz.out⟩
      · clear CASES
        go_wp2_with fail
        refine HLp.out.mono ?_
        rintro e wx ⟨rfl, hw⟩; obtain rfl := hw.symm
        go_wp2_with fail
        refine HLp.out.mono ?_
        rintro e wx ⟨rfl, hw⟩; obtain rfl := hw.symm
        go_wp2_with fail
        go_loopw [11] (fun v wr => ∃ i : Nat, i ≤ 0 ∧ v = .int .i64 i ∧ Hid (Kp z2 wr [])) (fun v _ => 0 - (intOf v).toNat)
        case atStart => exact ⟨0, by omega, rfl, hid (Kp.refl _ _)⟩
        case round =>
          obtain ⟨i, hi, rfl, hKz⟩ := hrel
          have hi0 : i = 0 := by omega
          subst hi0
          go_wp2
          go_ret
          exact ⟨rfl, K2.out.trans hKz.out⟩
end Go.Proofs.Ytcfjlmkeomiiaaa
