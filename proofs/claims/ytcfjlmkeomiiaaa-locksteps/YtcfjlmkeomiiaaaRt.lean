/- The reference's let. -/
import Derived.Test.YtcfjlmkeomiiaaaRw
namespace Go.Proofs.Ytcfjlmkeomiiaaa
open Go.RowKit Go.Shelf Go.Lib Go.Sort Go.Maps
attribute [local go_sem] Oper.semAt_some

/-- What letting in keeps, under way. -/
def Rg (w : World) (lb a b : Nat) (M : Lk) (v : Value) (n : Nat) (W : World) : Prop := ∃ M1 l, l.length = n ∧ n + sizeL M1 ≤ sizeL M ∧ (letN M).1 = l ++ (letN M1).1 ∧ (letN M).2 = (letN M1).2 ∧ Lmid M1 ∧ Ns W w.heap.size v l ∧ Rkt w W lb a b M1
def lenS : Value → Nat
  | .slice _ n _ => n
  | _ => 0
theorem sz_le {M : Lk} (h : Lmid M) : sizeL M ≤ 32 := by
  have := h.rk.len
  have := h.qk.len
  unfold sizeL
  omega
theorem lok_mk {M : Lk} (h : Lmid M) (h1 : byW M = false) (h2 : byR M = false) : Lok M := ⟨h, by unfold nextL; rw [h1, h2]; rfl⟩
variable {w W z3 z4 : World} {lb a b n cap : Nat} {ao : Option Addr} {M M1 M2 : Lk} {l : List Int} {t : Int} {y : Value}
theorem Rk.old (h : Rk w lb a b M) : ∀ k ∈ [lb, a, b], k < w.heap.size := by
  have := h.lt
  intro k hk
  simp at hk
  rcases hk with rfl | rfl | rfl <;> omega
/-- One is let in. -/
theorem Rg.on (hR : ∀ k ∈ [lb, a, b], k < w.heap.size) (hl : l.length = n) (hsz : n + sizeL M1 ≤ sizeL M) (e1 : (letN M).1 = l ++ (letN M1).1) (e2 : (letN M).2 = (letN M1).2) (hk1 : Kp w W [lb, a, b]) (hns : Ns W w.heap.size (.slice ao n cap) l)
    (hm2 : Lmid M2) (hs2 : sizeL M2 < sizeL M1) (e3 : (letN M1).1 = t :: (letN M2).1) (e4 : (letN M1).2 = (letN M2).2) (hc : Rk z3 lb a b M2) (hk3 : Kp W z3 [lb, a, b]) (hy : Ns z4 w.heap.size y (l ++ [t])) (hk4 : Kp z3 z4 (Value.slice ao n cap).ownBlock.toList) : Rg w lb a b M y (n + 1) z4 := by
  have far : ∀ k ∈ (Value.slice ao n cap).ownBlock.toList, w.heap.size ≤ k ∧ ∃ cur, z3.heap[k]? = some (.cells cur 3 (0, 0)) := fun k hm => by
    simp only [Option.mem_toList] at hm
    have h0 := (owns_block hns hm).1
    have hns3 := hns.kp hk3 (fun g hg hx => by have := (owns_block hns hg).1; have := hR g hx; omega)
    exact ⟨h0, (owns_block hns3 hm).2⟩
  refine ⟨M2, l ++ [t], by simp [hl], by omega, by rw [e1, e3]; simp, by rw [e2, e4], hm2, hy, hc.keep hk4 (fun k hm hx => ?_) (fun k hm c hx => ?_), (hk1.trans hk3).past hk4 (fun k hm hl => ?_)⟩
  · have := (far k hx).1
    have := hR k hm
    omega
  · obtain ⟨-, cur, hc2⟩ := far k hm
    rw [hc2] at hx
    simp at hx
  · have := (far k hm).1
    omega
set_option maxRecDepth 100000 in
set_option maxHeartbeats 4000000 in
theorem rlet (w : World) (lb a b : Nat) (M : Lk) (h : Rk w lb a b M) (hm : Lmid M) : Calls Try.prog 64 #[.pointer (some ⟨lb, 0, none⟩)] w fun e w' => ∃ ao cap, e = .returned (.slice ao (letN M).1.length cap) ∧ Ns w' w.heap.size (.slice ao (letN M).1.length cap) (letN M).1 ∧ Rkt w w' lb a b (letN M).2 := by
  have HG := hid (show Rg w lb a b M (.slice none 0 0) 0 w from ⟨M, [], rfl, by omega, rfl, rfl, hm, Ns.nil _ _, Rkt.stay h (Kp.refl _ _)⟩)
  have HSZ := hid (sz_le hm)
  have HR := hid h.old
  clear h hm
  go_enter Try.func64, Try.ntmps64
  go_wp2
  go_loopw [3] (fun v wr => ∃ (n : Nat) (ao : Option Addr) (cap : Nat), v = .slice ao n cap ∧ Hid (Rg w lb a b M (.slice ao n cap) n wr)) (fun v _ => 33 - lenS v)
  case atStart => exact ⟨0, none, 0, rfl, HG⟩
  case round =>
    obtain ⟨n, ao, cap, rfl, hG⟩ := hrel
    clear HG
    obtain ⟨M1, l, hl, hsz, e1, e2, hm1, hns, hrk⟩ := hG.out
    have HS := hid (fun (z : World) (hk : Kp wr z []) => hrk.1.same hk)
    have CC := hid (fun (z : World) (hk : Kp wr z []) => And.intro (hrk.1.same hk).cr (hrk.1.same hk).cq)
    have HOr := hid (fun (z : World) (hk : Kp wr z []) => rorder_any z a M1.r (hrk.1.same hk).rr hm1.rk)
    have HOq := hid (fun (z : World) (hk : Kp wr z []) => rorder_any z b M1.q (hrk.1.same hk).rq hm1.qk)
    have HH := hid (fun (z : World) (hk : Kp wr z []) => rheld z lb a b M1 (hrk.1.same hk))
    have HQK := hid hm1.qk
    have HRK := hid hm1.rk
    have OFF := hid hrk.1.off
    have HZ := hid (show n ≤ 32 ∧ w.heap.size ≤ wr.heap.size from ⟨by have := HSZ.out; omega, hrk.2.size⟩)
    have HNS := hid (And.intro hl (fun (z : World) (hk : Kp wr z [lb, a, b]) => hns.kp hk (fun g hg hm => by
      have := (owns_block hns hg).1
      have := HR.out g hm
      omega)))
    have HON := hid (fun (M2 : Lk) (t : Int) (hnx : nextL M1 = some (t, M2)) (z3 z4 : World) (y : Value) (x1 : Rk z3 lb a b M2) (x3 : Kp wr z3 [lb, a, b]) (x4 : Ns z4 w.heap.size y (l ++ [t])) (x5 : Kp z3 z4 (Value.slice ao n cap).ownBlock.toList) => Rg.on HR.out hl hsz e1 e2 hrk.2 hns (next_mid hm1 hnx).1 (next_mid hm1 hnx).2.1 (by rw [let_some hm1 hnx]) (by rw [let_some hm1 hnx]) x1 x3 x4 x5)
    have HEND := hid (fun (hno : nextL M1 = none) (z : World) (hk : Kp wr z []) => (show ∃ ao' cap', Value.slice ao n cap = .slice ao' (letN M).1.length cap' ∧ Ns z w.heap.size (.slice ao' (letN M).1.length cap') (letN M).1 ∧ Rkt w z lb a b (letN M).2 from by
      have e3 : (letN M).1 = l := by rw [e1, let_none hno]; simp
      have e4 : (letN M).2 = M1 := by rw [e2, let_none hno]
      rw [e3, e4, hl]
      exact ⟨ao, cap, rfl, hns.keep hk, hrk.1.same hk, hrk.2.trans hk.nil⟩))
    have HMID := hid hm1
    clear hl hsz e1 e2 hm1 hns hrk hG HR HSZ
    cases hB : byW M1
    · cases hR : byR M1
      · have hno : nextL M1 = none := by unfold nextL; rw [hB, hR]; rfl
        have END := hid (HEND.out hno)
        clear HEND HON hno
        cases hh : heldL M1
        · rw [hh] at HH
          have hZ : ordL M1.r = [] ∧ ordL M1.q = [] := by
            obtain ⟨h1, h2⟩ := (lset_of (lok_mk HMID.out hB hR)).free hh
            rw [h1, h2]
            exact ⟨ord_nil, ord_nil⟩
          rw [hZ.1] at HOr
          rw [hZ.2] at HOq
          have hx : decide (M1.w < 0) = true := by have := (held_no hh).1; simp; omega
          have hx2 : M1.w < 0 := (held_no hh).1
          clear hB hR hh hZ
          go_wp2_with fail
          go_region_held_law (fun w1 => w1.cell? ⟨lb, 17, none⟩ = some (.pointer (some ⟨a, 0, none⟩)) ∧ w1.cell? ⟨lb, 18, none⟩ = some (.pointer (some ⟨b, 0, none⟩)))
            (first
              | exact CC.out _ (Kp.drew _ _)
              | exact CC.out _ ((Kp.drew _ _).trans hK1)
              | exact CC.out _ (((Kp.drew _ _).trans hK1).trans hK2))
            (first
              | (go_at_call 71; have _hh := hK1; refine (HOq.out _ ((Kp.drew _ _).trans hK1)).mono ?_; rintro e y2 ⟨v2, rfl, hd2, hK2⟩; obtain ⟨ao2, cap2, rfl⟩ := hd2.slice)
              | (go_at_call 71; refine (HOr.out _ (Kp.drew _ _)).mono ?_; rintro e y1 ⟨v1, rfl, hd1, hK1⟩; obtain ⟨ao1, cap1, rfl⟩ := hd1.slice)
              | fail)
          have KA := hid (((Kp.drew wr []).trans hK1).trans hK2)
          try simp only [List.length_nil]
          clear hd1
          try simp only [List.length_nil]
          clear hd2
          clear hK1 hK2
          have XX := hid (fun (z : World) (hk : Kp y2 z []) => (show _ from And.intro ((HS.out z (KA.out.trans hk)).cw) (And.intro ((HS.out z (KA.out.trans hk)).cr) (And.intro ((HS.out z (KA.out.trans hk)).cq) ((HS.out z (KA.out.trans hk)).free 0)))))
          go_wp2_with fail
          go_quiet ((go_at_call 35; exact Calls.quiet_of_same (HH.out _ (KA.out.trans (Kp.drewN _ _ _)))))
          have kz := Kp.drewN y2 nq []
          generalize y2.drewN nq = y at kz
          have KB := hid (KA.out.trans kz)
          obtain ⟨c0, c17, c18, f0⟩ := XX.out y kz
          clear kz
          go_wp2_with fail
          go_quiet (fail)
          have K7 := hid (KB.out.trans (Kp.drewN y nq []))
          go_wp2
          go_ret
          obtain ⟨ao', cap', ee, h1, h2⟩ := END.out _ K7.out
          exact ⟨ao', cap', by simpa using ee, h1, h2⟩
        · rw [hh] at HH
          by_cases hx : M1.w < 0
          · have hxd : decide (M1.w < 0) = true := decide_eq_true hx
            cases hZr : ordL M1.r with
            | nil =>
              rw [hZr] at HOr
              clear hB hR hh hZr
              go_wp2_with fail
              go_region_held_law (fun w1 => w1.cell? ⟨lb, 17, none⟩ = some (.pointer (some ⟨a, 0, none⟩)) ∧ w1.cell? ⟨lb, 18, none⟩ = some (.pointer (some ⟨b, 0, none⟩)))
                (first
                  | exact CC.out _ (Kp.drew _ _)
                  | exact CC.out _ ((Kp.drew _ _).trans hK1)
                  | exact CC.out _ (((Kp.drew _ _).trans hK1).trans hK2))
                (first
                  | (go_at_call 71; have _hh := hK1; refine (HOq.out _ ((Kp.drew _ _).trans hK1)).mono ?_; rintro e y2 ⟨v2, rfl, hd2, hK2⟩; obtain ⟨ao2, cap2, rfl⟩ := hd2.slice)
                  | (go_at_call 71; refine (HOr.out _ (Kp.drew _ _)).mono ?_; rintro e y1 ⟨v1, rfl, hd1, hK1⟩; obtain ⟨ao1, cap1, rfl⟩ := hd1.slice)
                  | fail)
              have KA := hid (((Kp.drew wr []).trans hK1).trans hK2)
              try simp only [List.length_nil]
              clear hd1
              generalize (ordL M1.q).length = m2 at hd2 ⊢
              clear hd2
              clear hK1 hK2
              have XX := hid (fun (z : World) (hk : Kp y2 z []) => (show _ from And.intro ((HS.out z (KA.out.trans hk)).cw) (And.intro ((HS.out z (KA.out.trans hk)).cr) (And.intro ((HS.out z (KA.out.trans hk)).cq) ((HS.out z (KA.out.trans hk)).free 0)))))
              go_wp2_with fail
              go_quiet ((go_at_call 35; exact Calls.quiet_of_same (HH.out _ (KA.out.trans (Kp.drewN _ _ _)))))
              have kz := Kp.drewN y2 nq []
              generalize y2.drewN nq = y at kz
              have KB := hid (KA.out.trans kz)
              obtain ⟨c0, c17, c18, f0⟩ := XX.out y kz
              clear kz
              go_wp2_with fail
              go_quiet (fail)
              have K7 := hid (KB.out.trans (Kp.drewN y nq []))
              go_wp2
              go_ret
              obtain ⟨ao', cap', ee, h1, h2⟩ := END.out _ K7.out
              exact ⟨ao', cap', by simpa using ee, h1, h2⟩
            | cons r0 rr =>
              obtain ⟨r1, r2⟩ := r0
              have hbr : fstB M1.r = true := by unfold fstB; rw [hZr]; rfl
              have et : fstT M1.r = r1 := by unfold fstT; rw [hZr]; rfl
              have ep : fstP M1.r = r2 := by unfold fstP; rw [hZr]; rfl
              have hrg := (fst_rng HMID.out.rk hbr).1
              have hmay : mayR M1 r1 r2 = false := by
                unfold byR at hR
                rw [hxd, hbr, et, ep] at hR
                simpa using hR
              rw [et] at hrg
              have HM := hid (fun (z : World) (hk : Kp wr z []) => rmayR z lb a b M1 r1 r2 (HS.out z hk) HQK.out hrg.1 hrg.2)
              rw [hmay] at HM
              rw [hZr] at HOr
              clear hB hR hh hZr hbr et ep hrg hmay
              go_wp2_with fail
              go_region_held_law (fun w1 => w1.cell? ⟨lb, 17, none⟩ = some (.pointer (some ⟨a, 0, none⟩)) ∧ w1.cell? ⟨lb, 18, none⟩ = some (.pointer (some ⟨b, 0, none⟩)))
                (first
                  | exact CC.out _ (Kp.drew _ _)
                  | exact CC.out _ ((Kp.drew _ _).trans hK1)
                  | exact CC.out _ (((Kp.drew _ _).trans hK1).trans hK2))
                (first
                  | (go_at_call 71; have _hh := hK1; refine (HOq.out _ ((Kp.drew _ _).trans hK1)).mono ?_; rintro e y2 ⟨v2, rfl, hd2, hK2⟩; obtain ⟨ao2, cap2, rfl⟩ := hd2.slice)
                  | (go_at_call 71; refine (HOr.out _ (Kp.drew _ _)).mono ?_; rintro e y1 ⟨v1, rfl, hd1, hK1⟩; obtain ⟨ao1, cap1, rfl⟩ := hd1.slice)
                  | fail)
              have KA := hid (((Kp.drew wr []).trans hK1).trans hK2)
              obtain ⟨g1, rfl, x1, u1, -, -⟩ := (hd1.keep hK2).at (k := 0) (by simp) (x1 := r1) (x2 := r2) rfl
              have l1a : ((((r1, r2) :: rr).length : Nat) : Int) ≠ 0 := by rw [List.length_cons]; omega
              have l1b : (0 : Int) < ((((r1, r2) :: rr).length : Nat) : Int) := by rw [List.length_cons]; omega
              generalize ((r1, r2) :: rr).length = m1 at l1a l1b hd1 ⊢
              have l1c : ((m1 : Int) == 0) = false := by simp; omega
              have NE := hid (show lb ≠ g1 ∧ a ≠ g1 from by
                obtain ⟨-, cur, hcur⟩ := owns_block (hd1.keep hK2) (g := g1) (by simp [Value.ownBlock])
                obtain ⟨ca, hca⟩ := (HS.out y2 KA.out).rr.has
                exact ⟨block_ne (HS.out y2 KA.out).hh hcur (by decide), block_ne hca hcur (by decide)⟩)
              clear hd1
              generalize (ordL M1.q).length = m2 at hd2 ⊢
              clear hd2
              clear hK1 hK2
              have XX := hid (fun (z : World) (hk : Kp y2 z []) => (show _ from And.intro ((HS.out z (KA.out.trans hk)).cw) (And.intro ((HS.out z (KA.out.trans hk)).cr) (And.intro ((HS.out z (KA.out.trans hk)).cq) (And.intro ((HS.out z (KA.out.trans hk)).free 0) (And.intro (hk.cell x1 (by simp)) (hk.cell u1 (by simp))))))))
              go_wp2_with fail
              go_quiet ((go_at_call 35; exact Calls.quiet_of_same (HH.out _ (KA.out.trans (Kp.drewN _ _ _)))))
              have kz := Kp.drewN y2 nq []
              generalize y2.drewN nq = y at kz
              have KB := hid (KA.out.trans kz)
              clear x1 u1
              obtain ⟨c0, c17, c18, f0, x1, u1⟩ := XX.out y kz
              clear kz
              go_wp2_with fail
              have CV := hid (fun (z : World) (hk : Kp y z []) => And.intro (hk.cell c0 (by simp)) (And.intro (hk.cell x1 (by simp)) (hk.cell u1 (by simp))))
              go_region_held_law (fun w1 => w1.cell? ⟨lb, 0, none⟩ = some (.int .i64 M1.w) ∧ w1.cell? ⟨g1, 0, none⟩ = some (.int .i64 r1) ∧ w1.cell? ⟨g1, 1, none⟩ = some (.int .i64 r2))
                (first
                  | exact CV.out _ (Kp.drew _ _)
                  | exact CV.out _ ((Kp.drew _ _).trans hK6))
                (first
                  | (go_at_call 62; refine (HM.out _ (KB.out.trans (Kp.drew _ _))).mono ?_; rintro e y6 ⟨rfl, hK6⟩)
                  | fail)
              have K6 := hid ((KB.out.trans (Kp.drew _ _)).trans hK6)
              clear hK6 c0 c17 c18 f0 x1 u1 CV
              go_wp2
              go_ret
              obtain ⟨ao', cap', ee, h1, h2⟩ := END.out _ K6.out
              exact ⟨ao', cap', by simpa using ee, h1, h2⟩
          · have hxd : decide (M1.w < 0) = false := decide_eq_false hx
            clear hB hR hh
            go_wp2_with fail
            go_region_held_law (fun w1 => w1.cell? ⟨lb, 17, none⟩ = some (.pointer (some ⟨a, 0, none⟩)) ∧ w1.cell? ⟨lb, 18, none⟩ = some (.pointer (some ⟨b, 0, none⟩)))
              (first
                | exact CC.out _ (Kp.drew _ _)
                | exact CC.out _ ((Kp.drew _ _).trans hK1)
                | exact CC.out _ (((Kp.drew _ _).trans hK1).trans hK2))
              (first
                | (go_at_call 71; have _hh := hK1; refine (HOq.out _ ((Kp.drew _ _).trans hK1)).mono ?_; rintro e y2 ⟨v2, rfl, hd2, hK2⟩; obtain ⟨ao2, cap2, rfl⟩ := hd2.slice)
                | (go_at_call 71; refine (HOr.out _ (Kp.drew _ _)).mono ?_; rintro e y1 ⟨v1, rfl, hd1, hK1⟩; obtain ⟨ao1, cap1, rfl⟩ := hd1.slice)
                | fail)
            have KA := hid (((Kp.drew wr []).trans hK1).trans hK2)
            generalize (ordL M1.r).length = m1 at hd1 ⊢
            clear hd1
            generalize (ordL M1.q).length = m2 at hd2 ⊢
            clear hd2
            clear hK1 hK2
            have XX := hid (fun (z : World) (hk : Kp y2 z []) => (show _ from And.intro ((HS.out z (KA.out.trans hk)).cw) (And.intro ((HS.out z (KA.out.trans hk)).cr) (And.intro ((HS.out z (KA.out.trans hk)).cq) ((HS.out z (KA.out.trans hk)).free 0)))))
            go_wp2_with fail
            go_quiet ((go_at_call 35; exact Calls.quiet_of_same (HH.out _ (KA.out.trans (Kp.drewN _ _ _)))))
            have kz := Kp.drewN y2 nq []
            generalize y2.drewN nq = y at kz
            have KB := hid (KA.out.trans kz)
            obtain ⟨c0, c17, c18, f0⟩ := XX.out y kz
            clear kz
            go_wp2_with fail
            go_quiet (fail)
            have K7 := hid (KB.out.trans (Kp.drewN y nq []))
            go_wp2
            go_ret
            obtain ⟨ao', cap', ee, h1, h2⟩ := END.out _ K7.out
            exact ⟨ao', cap', by simpa using ee, h1, h2⟩
      · have hnx : nextL M1 = some (fstT M1.r, inR M1) := by unfold nextL; rw [hB, hR]; rfl
        obtain ⟨hx, hbr, hmay⟩ := byR_r hR
        have hxd : decide (M1.w < 0) = true := decide_eq_true hx
        have ON := hid (HON.out _ _ hnx)
        have EQ := hid (show inR M1 = { M1 with c := updC M1.c (fstT M1.r) (M1.c (fstT M1.r).toNat + 1), r := lvL M1.r (fstT M1.r) } from rfl)
        have hrg := (fst_rng HMID.out.rk hbr).1
        cases hZr : ordL M1.r with
        | nil => unfold fstB at hbr; rw [hZr] at hbr; simp at hbr
        | cons r00 rr =>
          obtain ⟨r1, r2⟩ := r00
          have et : fstT M1.r = r1 := by unfold fstT; rw [hZr]; rfl
          have ep : fstP M1.r = r2 := by unfold fstP; rw [hZr]; rfl
          rw [et] at hrg ON EQ hmay
          rw [ep] at hmay
          obtain ⟨r0, rfl⟩ := int_nat hrg.1
          have hn : r0 < 16 := by omega
          have hn0 : (0 : Int) ≤ r0 := by omega
          have hn1 : (r0 : Int) < 16 := by omega
          have HCS := hid (HMID.out.cs r0 hn)
          have HM := hid (fun (z : World) (hk : Kp wr z []) => rmayR z lb a b M1 r0 r2 (HS.out z hk) HQK.out hrg.1 hrg.2)
          rw [hmay] at HM
          rw [hZr] at HOr
          cases hh : heldL M1
          · rw [hh] at HH
            cases hZq : ordL M1.q with
            | nil =>
              rw [hZq] at HOq
              clear hB hR hh hZr hZq hbr et ep hrg hmay HEND HON hnx
              go_wp2_with fail
              go_region_held_law (fun w1 => w1.cell? ⟨lb, 17, none⟩ = some (.pointer (some ⟨a, 0, none⟩)) ∧ w1.cell? ⟨lb, 18, none⟩ = some (.pointer (some ⟨b, 0, none⟩)))
                (first
                  | exact CC.out _ (Kp.drew _ _)
                  | exact CC.out _ ((Kp.drew _ _).trans hK1)
                  | exact CC.out _ (((Kp.drew _ _).trans hK1).trans hK2))
                (first
                  | (go_at_call 71; have _hh := hK1; refine (HOq.out _ ((Kp.drew _ _).trans hK1)).mono ?_; rintro e y2 ⟨v2, rfl, hd2, hK2⟩; obtain ⟨ao2, cap2, rfl⟩ := hd2.slice)
                  | (go_at_call 71; refine (HOr.out _ (Kp.drew _ _)).mono ?_; rintro e y1 ⟨v1, rfl, hd1, hK1⟩; obtain ⟨ao1, cap1, rfl⟩ := hd1.slice)
                  | fail)
              have KA := hid (((Kp.drew wr []).trans hK1).trans hK2)
              obtain ⟨g1, rfl, x1, u1, -, -⟩ := (hd1.keep hK2).at (k := 0) (by simp) (x1 := (r0 : Int)) (x2 := r2) rfl
              have l1a : (((((r0 : Int), r2) :: rr).length : Nat) : Int) ≠ 0 := by rw [List.length_cons]; omega
              have l1b : (0 : Int) < (((((r0 : Int), r2) :: rr).length : Nat) : Int) := by rw [List.length_cons]; omega
              generalize (((r0 : Int), r2) :: rr).length = m1 at l1a l1b hd1 ⊢
              have l1c : ((m1 : Int) == 0) = false := by simp; omega
              have NE := hid (show lb ≠ g1 ∧ a ≠ g1 from by
                obtain ⟨-, cur, hcur⟩ := owns_block (hd1.keep hK2) (g := g1) (by simp [Value.ownBlock])
                obtain ⟨ca, hca⟩ := (HS.out y2 KA.out).rr.has
                exact ⟨block_ne (HS.out y2 KA.out).hh hcur (by decide), block_ne hca hcur (by decide)⟩)
              clear hd1
              try simp only [List.length_nil]
              clear hd2
              clear hK1 hK2
              have XX := hid (fun (z : World) (hk : Kp y2 z []) => (show _ from And.intro ((HS.out z (KA.out.trans hk)).cw) (And.intro ((HS.out z (KA.out.trans hk)).cr) (And.intro ((HS.out z (KA.out.trans hk)).cq) (And.intro ((HS.out z (KA.out.trans hk)).free 0) (And.intro (hk.cell x1 (by simp)) (hk.cell u1 (by simp))))))))
              go_wp2_with fail
              go_quiet ((go_at_call 35; exact Calls.quiet_of_same (HH.out _ (KA.out.trans (Kp.drewN _ _ _)))))
              have kz := Kp.drewN y2 nq []
              generalize y2.drewN nq = y at kz
              have KB := hid (KA.out.trans kz)
              clear x1 u1
              obtain ⟨c0, c17, c18, f0, x1, u1⟩ := XX.out y kz
              clear kz
              go_wp2_with fail
              have CV := hid (fun (z : World) (hk : Kp y z []) => And.intro (hk.cell c0 (by simp)) (And.intro (hk.cell x1 (by simp)) (hk.cell u1 (by simp))))
              go_region_held_law (fun w1 => w1.cell? ⟨lb, 0, none⟩ = some (.int .i64 M1.w) ∧ w1.cell? ⟨g1, 0, none⟩ = some (.int .i64 r0) ∧ w1.cell? ⟨g1, 1, none⟩ = some (.int .i64 r2))
                (first
                  | exact CV.out _ (Kp.drew _ _)
                  | exact CV.out _ ((Kp.drew _ _).trans hK6))
                (first
                  | (go_at_call 62; refine (HM.out _ (KB.out.trans (Kp.drew _ _))).mono ?_; rintro e y6 ⟨rfl, hK6⟩)
                  | fail)
              have K6 := hid ((KB.out.trans (Kp.drew _ _)).trans hK6)
              have x6 := (CV.out _ ((Kp.drew _ _).trans hK6)).2.1
              clear hK6 c0 c17 c18 f0 x1 u1 CV
              have X6 := hid x6
              obtain ⟨C, hC⟩ : ∃ C, M1.c r0 = C := ⟨_, rfl⟩
              have hcs := HCS.out
              rw [hC] at hcs
              have hwr : IntKind.i64.wrap (C + 1) = C + 1 := IntWalk.i64_in _ ⟨by omega, by omega⟩
              have cc : y6.drew.cell? ⟨lb, 1 + r0, none⟩ = some (.int .i64 C) := by rw [← hC]; exact (HS.out _ (K6.out.trans (Kp.drew _ _))).ci hn
              have fc : y6.drew.frozen? ⟨lb, 1 + r0, none⟩ = false := (HS.out _ (K6.out.trans (Kp.drew _ _))).free _
              have U0 := hid (show Rkt y6 (y6.setCell ⟨lb, 1 + r0, none⟩ (.int .i64 (C + 1))).drew lb a b { M1 with c := updC M1.c r0 (M1.c (r0 : Int).toNat + 1) } from by
                have := (HS.out _ K6.out).setC hn0 hn1 (C + 1)
                rw [Int.toNat_natCast, hC]
                exact ⟨this.1.same (Kp.drew _ []), this.2.trans (Kp.drew _ _)⟩)
              have x7 : y6.drew.cell? ⟨g1, 0, none⟩ = some (.int .i64 r0) := x6
              clear hC hcs x6
              go_wp2_with fail
              go_region
              have x8 := ((Kp.setCell y6 ⟨lb, 1 + r0, none⟩ (.int .i64 (C + 1))).trans (Kp.drew _ _)).cell X6.out (by simp; exact fun e => NE.out.1 e.symm)
              obtain ⟨u, hu⟩ : ∃ u, (y6.setCell ⟨lb, 1 + r0, none⟩ (.int .i64 (C + 1))).drew = u := ⟨_, rfl⟩
              rw [hu] at U0 x8 ⊢
              clear hu cc fc x7
              have c17 := U0.out.1.cr
              have CU := hid (fun (z : World) (rs : List Nat) (hk : Kp u z rs) (h0 : lb ∉ rs) (h1 : g1 ∉ rs) => And.intro (hk.cell c17 h0) (hk.cell x8 h1))
              go_wp2_with fail
              go_region_held_law (fun w1 => w1.cell? ⟨lb, 17, none⟩ = some (.pointer (some ⟨a, 0, none⟩)) ∧ w1.cell? ⟨g1, 0, none⟩ = some (.int .i64 r0))
                (first
                  | exact CU.out _ [] (Kp.drew _ _) (by simp) (by simp)
                  | exact CU.out _ [a] ((Kp.drew _ _).trans hT5.2) (by simp; exact OFF.out.1) (by simp; exact fun e => NE.out.2 e.symm))
                (first
                  | (go_at_call 65; refine (rlv_any _ a M1.r r0 (U0.out.1.same (Kp.drew u [])).rr HRK.out).mono ?_; rintro e y5 ⟨rfl, hT5⟩)
                  | fail)
              have U5 := hid (show Rkt wr y5 lb a b (inR M1) from by
                have h1 := (U0.out.1.same (Kp.drew u [])).setR hT5
                rw [EQ.out]
                exact ⟨h1.1, ((K6.out.nil.trans U0.out.2).trans (Kp.drew u _)).trans h1.2⟩)
              have x9 := (CU.out _ [a] ((Kp.drew _ _).trans hT5.2) (by simp; exact OFF.out.1) (by simp; exact fun e => NE.out.2 e.symm)).2
              clear c17 x8 hT5
              have ka := Kp.alloc y5 (.cells #[.int .i64 r0] 3) []
              have S4 := hid (U5.out.1.same ka)
              have K4 := hid (U5.out.2.trans ka.nil)
              have NX := hid ((HNS.out.2 y5 U5.out.2).keep ka)
              have HB4 := hid (show w.heap.size ≤ (y5.alloc (.cells #[.int .i64 r0] 3)).heap.size by have := U5.out.2.size; have := HZ.out.2; simp; omega)
              have HC := hid (show (y5.alloc (.cells #[.int .i64 r0] 3)).cell? ⟨y5.heap.size, 0, none⟩ = some (.int .i64 r0) by simp)
              have hlen : l.length ≤ 100000 := by have := HNS.out.1; have := HZ.out.1; omega
              clear ka
              go_wp2_with (refine wpList_pushI rfl (.tmp 107) (.tmp 112) rfl w.heap.size (.slice ao n cap) l (r0 : Int) _ rfl NX.out rfl HC.out hlen HB4.out ?_; intro y9 w9 h1 h2; have hs := h1.slice; obtain ⟨ao', cap', hy⟩ := hs; rw [show (l ++ [(r0 : Int)]).length = n + 1 by rw [List.length_append, HNS.out.1]; rfl] at hy; subst hy; have L9 := hid (ON.out _ w9 _ S4.out K4.out h1 (Kp.ofGrown (rows := (Value.slice ao n cap).ownBlock.toList) h2 (by intro g hg; have hg' : (Value.slice ao n cap).ownBlock = some g := hg; simp [hg']))); clear h1 h2)
              go_roundw
              case rel => exact ⟨n + 1, ao', cap', rfl, L9⟩
              case measure => simp [lenS]; have := HZ.out.1; omega
            | cons q0 qr =>
              obtain ⟨q1, q2⟩ := q0
              have hgt : ¬ r2 ≤ q2 := fun hle => by
                have h1 : byW M1 = true := by
                  unfold byW fstB fstP
                  rw [hh, hZq, hZr]
                  simp [hle]
                rw [h1] at hB
                cases hB
              have hgd : decide (r2 ≤ q2) = false := decide_eq_false hgt
              rw [hZq] at HOq
              clear hB hR hh hZr hZq hbr et ep hrg hmay HEND HON hnx
              go_wp2_with fail
              go_region_held_law (fun w1 => w1.cell? ⟨lb, 17, none⟩ = some (.pointer (some ⟨a, 0, none⟩)) ∧ w1.cell? ⟨lb, 18, none⟩ = some (.pointer (some ⟨b, 0, none⟩)))
                (first
                  | exact CC.out _ (Kp.drew _ _)
                  | exact CC.out _ ((Kp.drew _ _).trans hK1)
                  | exact CC.out _ (((Kp.drew _ _).trans hK1).trans hK2))
                (first
                  | (go_at_call 71; have _hh := hK1; refine (HOq.out _ ((Kp.drew _ _).trans hK1)).mono ?_; rintro e y2 ⟨v2, rfl, hd2, hK2⟩; obtain ⟨ao2, cap2, rfl⟩ := hd2.slice)
                  | (go_at_call 71; refine (HOr.out _ (Kp.drew _ _)).mono ?_; rintro e y1 ⟨v1, rfl, hd1, hK1⟩; obtain ⟨ao1, cap1, rfl⟩ := hd1.slice)
                  | fail)
              have KA := hid (((Kp.drew wr []).trans hK1).trans hK2)
              obtain ⟨g1, rfl, x1, u1, -, -⟩ := (hd1.keep hK2).at (k := 0) (by simp) (x1 := (r0 : Int)) (x2 := r2) rfl
              have l1a : (((((r0 : Int), r2) :: rr).length : Nat) : Int) ≠ 0 := by rw [List.length_cons]; omega
              have l1b : (0 : Int) < (((((r0 : Int), r2) :: rr).length : Nat) : Int) := by rw [List.length_cons]; omega
              generalize (((r0 : Int), r2) :: rr).length = m1 at l1a l1b hd1 ⊢
              have l1c : ((m1 : Int) == 0) = false := by simp; omega
              have NE := hid (show lb ≠ g1 ∧ a ≠ g1 from by
                obtain ⟨-, cur, hcur⟩ := owns_block (hd1.keep hK2) (g := g1) (by simp [Value.ownBlock])
                obtain ⟨ca, hca⟩ := (HS.out y2 KA.out).rr.has
                exact ⟨block_ne (HS.out y2 KA.out).hh hcur (by decide), block_ne hca hcur (by decide)⟩)
              clear hd1
              obtain ⟨g2, rfl, x2, u2, -, -⟩ := (hd2).at (k := 0) (by simp) (x1 := q1) (x2 := q2) rfl
              have l2a : ((((q1, q2) :: qr).length : Nat) : Int) ≠ 0 := by rw [List.length_cons]; omega
              have l2b : (0 : Int) < ((((q1, q2) :: qr).length : Nat) : Int) := by rw [List.length_cons]; omega
              generalize ((q1, q2) :: qr).length = m2 at l2a l2b hd2 ⊢
              have l2c : ((m2 : Int) == 0) = false := by simp; omega
              clear hd2
              clear hK1 hK2
              have XX := hid (fun (z : World) (hk : Kp y2 z []) => (show _ from And.intro ((HS.out z (KA.out.trans hk)).cw) (And.intro ((HS.out z (KA.out.trans hk)).cr) (And.intro ((HS.out z (KA.out.trans hk)).cq) (And.intro ((HS.out z (KA.out.trans hk)).free 0) (And.intro (hk.cell x1 (by simp)) (And.intro (hk.cell u1 (by simp)) (And.intro (hk.cell x2 (by simp)) (hk.cell u2 (by simp))))))))))
              go_wp2_with fail
              go_quiet ((go_at_call 35; exact Calls.quiet_of_same (HH.out _ (KA.out.trans (Kp.drewN _ _ _)))))
              have kz := Kp.drewN y2 nq []
              generalize y2.drewN nq = y at kz
              have KB := hid (KA.out.trans kz)
              clear x1 u1 x2 u2
              obtain ⟨c0, c17, c18, f0, x1, u1, x2, u2⟩ := XX.out y kz
              clear kz
              go_wp2_with fail
              have CV := hid (fun (z : World) (hk : Kp y z []) => And.intro (hk.cell c0 (by simp)) (And.intro (hk.cell x1 (by simp)) (hk.cell u1 (by simp))))
              go_region_held_law (fun w1 => w1.cell? ⟨lb, 0, none⟩ = some (.int .i64 M1.w) ∧ w1.cell? ⟨g1, 0, none⟩ = some (.int .i64 r0) ∧ w1.cell? ⟨g1, 1, none⟩ = some (.int .i64 r2))
                (first
                  | exact CV.out _ (Kp.drew _ _)
                  | exact CV.out _ ((Kp.drew _ _).trans hK6))
                (first
                  | (go_at_call 62; refine (HM.out _ (KB.out.trans (Kp.drew _ _))).mono ?_; rintro e y6 ⟨rfl, hK6⟩)
                  | fail)
              have K6 := hid ((KB.out.trans (Kp.drew _ _)).trans hK6)
              have x6 := (CV.out _ ((Kp.drew _ _).trans hK6)).2.1
              clear hK6 c0 c17 c18 f0 x1 u1 CV x2 u2
              have X6 := hid x6
              obtain ⟨C, hC⟩ : ∃ C, M1.c r0 = C := ⟨_, rfl⟩
              have hcs := HCS.out
              rw [hC] at hcs
              have hwr : IntKind.i64.wrap (C + 1) = C + 1 := IntWalk.i64_in _ ⟨by omega, by omega⟩
              have cc : y6.drew.cell? ⟨lb, 1 + r0, none⟩ = some (.int .i64 C) := by rw [← hC]; exact (HS.out _ (K6.out.trans (Kp.drew _ _))).ci hn
              have fc : y6.drew.frozen? ⟨lb, 1 + r0, none⟩ = false := (HS.out _ (K6.out.trans (Kp.drew _ _))).free _
              have U0 := hid (show Rkt y6 (y6.setCell ⟨lb, 1 + r0, none⟩ (.int .i64 (C + 1))).drew lb a b { M1 with c := updC M1.c r0 (M1.c (r0 : Int).toNat + 1) } from by
                have := (HS.out _ K6.out).setC hn0 hn1 (C + 1)
                rw [Int.toNat_natCast, hC]
                exact ⟨this.1.same (Kp.drew _ []), this.2.trans (Kp.drew _ _)⟩)
              have x7 : y6.drew.cell? ⟨g1, 0, none⟩ = some (.int .i64 r0) := x6
              clear hC hcs x6
              go_wp2_with fail
              go_region
              have x8 := ((Kp.setCell y6 ⟨lb, 1 + r0, none⟩ (.int .i64 (C + 1))).trans (Kp.drew _ _)).cell X6.out (by simp; exact fun e => NE.out.1 e.symm)
              obtain ⟨u, hu⟩ : ∃ u, (y6.setCell ⟨lb, 1 + r0, none⟩ (.int .i64 (C + 1))).drew = u := ⟨_, rfl⟩
              rw [hu] at U0 x8 ⊢
              clear hu cc fc x7
              have c17 := U0.out.1.cr
              have CU := hid (fun (z : World) (rs : List Nat) (hk : Kp u z rs) (h0 : lb ∉ rs) (h1 : g1 ∉ rs) => And.intro (hk.cell c17 h0) (hk.cell x8 h1))
              go_wp2_with fail
              go_region_held_law (fun w1 => w1.cell? ⟨lb, 17, none⟩ = some (.pointer (some ⟨a, 0, none⟩)) ∧ w1.cell? ⟨g1, 0, none⟩ = some (.int .i64 r0))
                (first
                  | exact CU.out _ [] (Kp.drew _ _) (by simp) (by simp)
                  | exact CU.out _ [a] ((Kp.drew _ _).trans hT5.2) (by simp; exact OFF.out.1) (by simp; exact fun e => NE.out.2 e.symm))
                (first
                  | (go_at_call 65; refine (rlv_any _ a M1.r r0 (U0.out.1.same (Kp.drew u [])).rr HRK.out).mono ?_; rintro e y5 ⟨rfl, hT5⟩)
                  | fail)
              have U5 := hid (show Rkt wr y5 lb a b (inR M1) from by
                have h1 := (U0.out.1.same (Kp.drew u [])).setR hT5
                rw [EQ.out]
                exact ⟨h1.1, ((K6.out.nil.trans U0.out.2).trans (Kp.drew u _)).trans h1.2⟩)
              have x9 := (CU.out _ [a] ((Kp.drew _ _).trans hT5.2) (by simp; exact OFF.out.1) (by simp; exact fun e => NE.out.2 e.symm)).2
              clear c17 x8 hT5
              have ka := Kp.alloc y5 (.cells #[.int .i64 r0] 3) []
              have S4 := hid (U5.out.1.same ka)
              have K4 := hid (U5.out.2.trans ka.nil)
              have NX := hid ((HNS.out.2 y5 U5.out.2).keep ka)
              have HB4 := hid (show w.heap.size ≤ (y5.alloc (.cells #[.int .i64 r0] 3)).heap.size by have := U5.out.2.size; have := HZ.out.2; simp; omega)
              have HC := hid (show (y5.alloc (.cells #[.int .i64 r0] 3)).cell? ⟨y5.heap.size, 0, none⟩ = some (.int .i64 r0) by simp)
              have hlen : l.length ≤ 100000 := by have := HNS.out.1; have := HZ.out.1; omega
              clear ka
              go_wp2_with (refine wpList_pushI rfl (.tmp 107) (.tmp 112) rfl w.heap.size (.slice ao n cap) l (r0 : Int) _ rfl NX.out rfl HC.out hlen HB4.out ?_; intro y9 w9 h1 h2; have hs := h1.slice; obtain ⟨ao', cap', hy⟩ := hs; rw [show (l ++ [(r0 : Int)]).length = n + 1 by rw [List.length_append, HNS.out.1]; rfl] at hy; subst hy; have L9 := hid (ON.out _ w9 _ S4.out K4.out h1 (Kp.ofGrown (rows := (Value.slice ao n cap).ownBlock.toList) h2 (by intro g hg; have hg' : (Value.slice ao n cap).ownBlock = some g := hg; simp [hg']))); clear h1 h2)
              go_roundw
              case rel => exact ⟨n + 1, ao', cap', rfl, L9⟩
              case measure => simp [lenS]; have := HZ.out.1; omega
          · rw [hh] at HH
            clear hB hR hh hZr hbr et ep hrg hmay HEND HON hnx
            go_wp2_with fail
            go_region_held_law (fun w1 => w1.cell? ⟨lb, 17, none⟩ = some (.pointer (some ⟨a, 0, none⟩)) ∧ w1.cell? ⟨lb, 18, none⟩ = some (.pointer (some ⟨b, 0, none⟩)))
              (first
                | exact CC.out _ (Kp.drew _ _)
                | exact CC.out _ ((Kp.drew _ _).trans hK1)
                | exact CC.out _ (((Kp.drew _ _).trans hK1).trans hK2))
              (first
                | (go_at_call 71; have _hh := hK1; refine (HOq.out _ ((Kp.drew _ _).trans hK1)).mono ?_; rintro e y2 ⟨v2, rfl, hd2, hK2⟩; obtain ⟨ao2, cap2, rfl⟩ := hd2.slice)
                | (go_at_call 71; refine (HOr.out _ (Kp.drew _ _)).mono ?_; rintro e y1 ⟨v1, rfl, hd1, hK1⟩; obtain ⟨ao1, cap1, rfl⟩ := hd1.slice)
                | fail)
            have KA := hid (((Kp.drew wr []).trans hK1).trans hK2)
            obtain ⟨g1, rfl, x1, u1, -, -⟩ := (hd1.keep hK2).at (k := 0) (by simp) (x1 := (r0 : Int)) (x2 := r2) rfl
            have l1a : (((((r0 : Int), r2) :: rr).length : Nat) : Int) ≠ 0 := by rw [List.length_cons]; omega
            have l1b : (0 : Int) < (((((r0 : Int), r2) :: rr).length : Nat) : Int) := by rw [List.length_cons]; omega
            generalize (((r0 : Int), r2) :: rr).length = m1 at l1a l1b hd1 ⊢
            have l1c : ((m1 : Int) == 0) = false := by simp; omega
            have NE := hid (show lb ≠ g1 ∧ a ≠ g1 from by
              obtain ⟨-, cur, hcur⟩ := owns_block (hd1.keep hK2) (g := g1) (by simp [Value.ownBlock])
              obtain ⟨ca, hca⟩ := (HS.out y2 KA.out).rr.has
              exact ⟨block_ne (HS.out y2 KA.out).hh hcur (by decide), block_ne hca hcur (by decide)⟩)
            clear hd1
            generalize (ordL M1.q).length = m2 at hd2 ⊢
            clear hd2
            clear hK1 hK2
            have XX := hid (fun (z : World) (hk : Kp y2 z []) => (show _ from And.intro ((HS.out z (KA.out.trans hk)).cw) (And.intro ((HS.out z (KA.out.trans hk)).cr) (And.intro ((HS.out z (KA.out.trans hk)).cq) (And.intro ((HS.out z (KA.out.trans hk)).free 0) (And.intro (hk.cell x1 (by simp)) (hk.cell u1 (by simp))))))))
            go_wp2_with fail
            go_quiet ((go_at_call 35; exact Calls.quiet_of_same (HH.out _ (KA.out.trans (Kp.drewN _ _ _)))))
            have kz := Kp.drewN y2 nq []
            generalize y2.drewN nq = y at kz
            have KB := hid (KA.out.trans kz)
            clear x1 u1
            obtain ⟨c0, c17, c18, f0, x1, u1⟩ := XX.out y kz
            clear kz
            go_wp2_with fail
            have CV := hid (fun (z : World) (hk : Kp y z []) => And.intro (hk.cell c0 (by simp)) (And.intro (hk.cell x1 (by simp)) (hk.cell u1 (by simp))))
            go_region_held_law (fun w1 => w1.cell? ⟨lb, 0, none⟩ = some (.int .i64 M1.w) ∧ w1.cell? ⟨g1, 0, none⟩ = some (.int .i64 r0) ∧ w1.cell? ⟨g1, 1, none⟩ = some (.int .i64 r2))
              (first
                | exact CV.out _ (Kp.drew _ _)
                | exact CV.out _ ((Kp.drew _ _).trans hK6))
              (first
                | (go_at_call 62; refine (HM.out _ (KB.out.trans (Kp.drew _ _))).mono ?_; rintro e y6 ⟨rfl, hK6⟩)
                | fail)
            have K6 := hid ((KB.out.trans (Kp.drew _ _)).trans hK6)
            have x6 := (CV.out _ ((Kp.drew _ _).trans hK6)).2.1
            clear hK6 c0 c17 c18 f0 x1 u1 CV
            have X6 := hid x6
            obtain ⟨C, hC⟩ : ∃ C, M1.c r0 = C := ⟨_, rfl⟩
            have hcs := HCS.out
            rw [hC] at hcs
            have hwr : IntKind.i64.wrap (C + 1) = C + 1 := IntWalk.i64_in _ ⟨by omega, by omega⟩
            have cc : y6.drew.cell? ⟨lb, 1 + r0, none⟩ = some (.int .i64 C) := by rw [← hC]; exact (HS.out _ (K6.out.trans (Kp.drew _ _))).ci hn
            have fc : y6.drew.frozen? ⟨lb, 1 + r0, none⟩ = false := (HS.out _ (K6.out.trans (Kp.drew _ _))).free _
            have U0 := hid (show Rkt y6 (y6.setCell ⟨lb, 1 + r0, none⟩ (.int .i64 (C + 1))).drew lb a b { M1 with c := updC M1.c r0 (M1.c (r0 : Int).toNat + 1) } from by
              have := (HS.out _ K6.out).setC hn0 hn1 (C + 1)
              rw [Int.toNat_natCast, hC]
              exact ⟨this.1.same (Kp.drew _ []), this.2.trans (Kp.drew _ _)⟩)
            have x7 : y6.drew.cell? ⟨g1, 0, none⟩ = some (.int .i64 r0) := x6
            clear hC hcs x6
            go_wp2_with fail
            go_region
            have x8 := ((Kp.setCell y6 ⟨lb, 1 + r0, none⟩ (.int .i64 (C + 1))).trans (Kp.drew _ _)).cell X6.out (by simp; exact fun e => NE.out.1 e.symm)
            obtain ⟨u, hu⟩ : ∃ u, (y6.setCell ⟨lb, 1 + r0, none⟩ (.int .i64 (C + 1))).drew = u := ⟨_, rfl⟩
            rw [hu] at U0 x8 ⊢
            clear hu cc fc x7
            have c17 := U0.out.1.cr
            have CU := hid (fun (z : World) (rs : List Nat) (hk : Kp u z rs) (h0 : lb ∉ rs) (h1 : g1 ∉ rs) => And.intro (hk.cell c17 h0) (hk.cell x8 h1))
            go_wp2_with fail
            go_region_held_law (fun w1 => w1.cell? ⟨lb, 17, none⟩ = some (.pointer (some ⟨a, 0, none⟩)) ∧ w1.cell? ⟨g1, 0, none⟩ = some (.int .i64 r0))
              (first
                | exact CU.out _ [] (Kp.drew _ _) (by simp) (by simp)
                | exact CU.out _ [a] ((Kp.drew _ _).trans hT5.2) (by simp; exact OFF.out.1) (by simp; exact fun e => NE.out.2 e.symm))
              (first
                | (go_at_call 65; refine (rlv_any _ a M1.r r0 (U0.out.1.same (Kp.drew u [])).rr HRK.out).mono ?_; rintro e y5 ⟨rfl, hT5⟩)
                | fail)
            have U5 := hid (show Rkt wr y5 lb a b (inR M1) from by
              have h1 := (U0.out.1.same (Kp.drew u [])).setR hT5
              rw [EQ.out]
              exact ⟨h1.1, ((K6.out.nil.trans U0.out.2).trans (Kp.drew u _)).trans h1.2⟩)
            have x9 := (CU.out _ [a] ((Kp.drew _ _).trans hT5.2) (by simp; exact OFF.out.1) (by simp; exact fun e => NE.out.2 e.symm)).2
            clear c17 x8 hT5
            have ka := Kp.alloc y5 (.cells #[.int .i64 r0] 3) []
            have S4 := hid (U5.out.1.same ka)
            have K4 := hid (U5.out.2.trans ka.nil)
            have NX := hid ((HNS.out.2 y5 U5.out.2).keep ka)
            have HB4 := hid (show w.heap.size ≤ (y5.alloc (.cells #[.int .i64 r0] 3)).heap.size by have := U5.out.2.size; have := HZ.out.2; simp; omega)
            have HC := hid (show (y5.alloc (.cells #[.int .i64 r0] 3)).cell? ⟨y5.heap.size, 0, none⟩ = some (.int .i64 r0) by simp)
            have hlen : l.length ≤ 100000 := by have := HNS.out.1; have := HZ.out.1; omega
            clear ka
            go_wp2_with (refine wpList_pushI rfl (.tmp 107) (.tmp 112) rfl w.heap.size (.slice ao n cap) l (r0 : Int) _ rfl NX.out rfl HC.out hlen HB4.out ?_; intro y9 w9 h1 h2; have hs := h1.slice; obtain ⟨ao', cap', hy⟩ := hs; rw [show (l ++ [(r0 : Int)]).length = n + 1 by rw [List.length_append, HNS.out.1]; rfl] at hy; subst hy; have L9 := hid (ON.out _ w9 _ S4.out K4.out h1 (Kp.ofGrown (rows := (Value.slice ao n cap).ownBlock.toList) h2 (by intro g hg; have hg' : (Value.slice ao n cap).ownBlock = some g := hg; simp [hg']))); clear h1 h2)
            go_roundw
            case rel => exact ⟨n + 1, ao', cap', rfl, L9⟩
            case measure => simp [lenS]; have := HZ.out.1; omega
    · have hnx : nextL M1 = some (fstT M1.q, inW M1) := by unfold nextL; rw [hB]; rfl
      obtain ⟨hf, hq, hrq⟩ := byW_q hB
      have ON := hid (HON.out _ _ hnx)
      have EQ := hid (show inW M1 = { M1 with w := fstT M1.q, q := lvL M1.q (fstT M1.q) } from rfl)
      rw [hf] at HH
      clear HEND HON hnx hB hf
      unfold fstB at hq
      unfold fstT at ON EQ
      have hrq2 : ∀ x r, ordL M1.r = x :: r → x.2 ≤ ((ordL M1.q).headD (0, 0)).2 := fun x r he => by
        have := hrq (by unfold fstB; rw [he]; rfl)
        unfold fstP at this
        rw [he] at this
        exact this
      clear hrq
      cases hZq : ordL M1.q with
      | nil => rw [hZq] at hq; simp at hq
      | cons q0 qr =>
        obtain ⟨q1, q2⟩ := q0
        rw [hZq] at HOq ON EQ hrq2
        simp only [List.headD_cons] at ON EQ hrq2
        cases hZr : ordL M1.r with
        | nil =>
          rw [hZr] at HOr
          clear hq hrq2 hZq hZr
          go_wp2_with fail
          go_region_held_law (fun w1 => w1.cell? ⟨lb, 17, none⟩ = some (.pointer (some ⟨a, 0, none⟩)) ∧ w1.cell? ⟨lb, 18, none⟩ = some (.pointer (some ⟨b, 0, none⟩)))
            (first
              | exact CC.out _ (Kp.drew _ _)
              | exact CC.out _ ((Kp.drew _ _).trans hK1)
              | exact CC.out _ (((Kp.drew _ _).trans hK1).trans hK2))
            (first
              | (go_at_call 71; have _hh := hK1; refine (HOq.out _ ((Kp.drew _ _).trans hK1)).mono ?_; rintro e y2 ⟨v2, rfl, hd2, hK2⟩; obtain ⟨ao2, cap2, rfl⟩ := hd2.slice)
              | (go_at_call 71; refine (HOr.out _ (Kp.drew _ _)).mono ?_; rintro e y1 ⟨v1, rfl, hd1, hK1⟩; obtain ⟨ao1, cap1, rfl⟩ := hd1.slice)
              | fail)
          have KA := hid (((Kp.drew wr []).trans hK1).trans hK2)
          try simp only [List.length_nil]
          clear hd1
          obtain ⟨g2, rfl, x2, u2, -, -⟩ := (hd2).at (k := 0) (by simp) (x1 := q1) (x2 := q2) rfl
          have l2a : ((((q1, q2) :: qr).length : Nat) : Int) ≠ 0 := by rw [List.length_cons]; omega
          have l2b : (0 : Int) < ((((q1, q2) :: qr).length : Nat) : Int) := by rw [List.length_cons]; omega
          generalize ((q1, q2) :: qr).length = m2 at l2a l2b hd2 ⊢
          have l2c : ((m2 : Int) == 0) = false := by simp; omega
          clear hd2
          clear hK1 hK2
          have XX := hid (fun (z : World) (hk : Kp y2 z []) => (show _ from And.intro ((HS.out z (KA.out.trans hk)).cw) (And.intro ((HS.out z (KA.out.trans hk)).cr) (And.intro ((HS.out z (KA.out.trans hk)).cq) (And.intro ((HS.out z (KA.out.trans hk)).free 0) (And.intro (hk.cell x2 (by simp)) (hk.cell u2 (by simp))))))))
          go_wp2_with fail
          go_quiet ((go_at_call 35; exact Calls.quiet_of_same (HH.out _ (KA.out.trans (Kp.drewN _ _ _)))))
          have kz := Kp.drewN y2 nq []
          generalize y2.drewN nq = y at kz
          have KB := hid (KA.out.trans kz)
          clear x2 u2
          obtain ⟨c0, c17, c18, f0, x2, u2⟩ := XX.out y kz
          clear kz
          have U0 := hid ((HS.out y KB.out).setW q1)
          go_wp2_with fail
          obtain ⟨u, hu⟩ : ∃ u, y.setCell ⟨lb, 0, none⟩ (.int .i64 q1) = u := ⟨_, rfl⟩
          rw [hu] at U0 ⊢
          clear hu c0 c17 c18 f0
          have c0 := U0.out.1.cw
          have c18 := U0.out.1.cq
          have CU := hid (fun (z : World) (rs : List Nat) (hk : Kp u z rs) (h0 : lb ∉ rs) => And.intro (hk.cell c18 h0) (hk.cell c0 h0))
          go_region_held_law (fun w1 => w1.cell? ⟨lb, 18, none⟩ = some (.pointer (some ⟨b, 0, none⟩)) ∧ w1.cell? ⟨lb, 0, none⟩ = some (.int .i64 q1))
            (first
              | exact CU.out _ [] (Kp.drew _ _) (by simp)
              | exact CU.out _ [b] ((Kp.drew _ _).trans hT5.2) (by simp; exact OFF.out.2))
            (first
              | (go_at_call 65; refine (rlv_any _ b M1.q q1 (U0.out.1.same (Kp.drew u [])).rq HQK.out).mono ?_; rintro e y5 ⟨rfl, hT5⟩)
              | fail)
          have U5 := hid (show Rkt wr y5 lb a b (inW M1) from by
            have h1 := (U0.out.1.same (Kp.drew u [])).setQ hT5
            rw [EQ.out]
            exact ⟨h1.1, ((KB.out.nil.trans U0.out.2).trans (Kp.drew u _)).trans h1.2⟩)
          clear c0 c18
          have c0 : y5.cell? ⟨lb, 0, none⟩ = some (.int .i64 q1) := by
            have := U5.out.1.cw
            rw [EQ.out] at this
            exact this
          clear hT5
          have ka := Kp.alloc y5 (.cells #[.int .i64 q1] 3) []
          have S4 := hid (U5.out.1.same ka)
          have K4 := hid (U5.out.2.trans ka.nil)
          have NX := hid ((HNS.out.2 y5 U5.out.2).keep ka)
          have HB4 := hid (show w.heap.size ≤ (y5.alloc (.cells #[.int .i64 q1] 3)).heap.size by have := U5.out.2.size; have := HZ.out.2; simp; omega)
          have HC := hid (show (y5.alloc (.cells #[.int .i64 q1] 3)).cell? ⟨y5.heap.size, 0, none⟩ = some (.int .i64 q1) by simp)
          have hlen : l.length ≤ 100000 := by have := HNS.out.1; have := HZ.out.1; omega
          clear ka
          go_wp2_with (refine wpList_pushI rfl (.tmp 56) (.tmp 61) rfl w.heap.size (.slice ao n cap) l q1 _ rfl NX.out rfl HC.out hlen HB4.out ?_; intro y9 w9 h1 h2; have hs := h1.slice; obtain ⟨ao', cap', hy⟩ := hs; rw [show (l ++ [q1]).length = n + 1 by rw [List.length_append, HNS.out.1]; rfl] at hy; subst hy; have L9 := hid (ON.out _ w9 _ S4.out K4.out h1 (Kp.ofGrown (rows := (Value.slice ao n cap).ownBlock.toList) h2 (by intro g hg; have hg' : (Value.slice ao n cap).ownBlock = some g := hg; simp [hg']))); clear h1 h2)
          go_roundw
          case rel => exact ⟨n + 1, ao', cap', rfl, L9⟩
          case measure => simp [lenS]; have := HZ.out.1; omega
        | cons r0 rr =>
          obtain ⟨r1, r2⟩ := r0
          have hle := hrq2 _ _ hZr
          simp only at hle
          rw [hZr] at HOr
          clear hq hrq2 hZq hZr
          go_wp2_with fail
          go_region_held_law (fun w1 => w1.cell? ⟨lb, 17, none⟩ = some (.pointer (some ⟨a, 0, none⟩)) ∧ w1.cell? ⟨lb, 18, none⟩ = some (.pointer (some ⟨b, 0, none⟩)))
            (first
              | exact CC.out _ (Kp.drew _ _)
              | exact CC.out _ ((Kp.drew _ _).trans hK1)
              | exact CC.out _ (((Kp.drew _ _).trans hK1).trans hK2))
            (first
              | (go_at_call 71; have _hh := hK1; refine (HOq.out _ ((Kp.drew _ _).trans hK1)).mono ?_; rintro e y2 ⟨v2, rfl, hd2, hK2⟩; obtain ⟨ao2, cap2, rfl⟩ := hd2.slice)
              | (go_at_call 71; refine (HOr.out _ (Kp.drew _ _)).mono ?_; rintro e y1 ⟨v1, rfl, hd1, hK1⟩; obtain ⟨ao1, cap1, rfl⟩ := hd1.slice)
              | fail)
          have KA := hid (((Kp.drew wr []).trans hK1).trans hK2)
          obtain ⟨g1, rfl, x1, u1, -, -⟩ := (hd1.keep hK2).at (k := 0) (by simp) (x1 := r1) (x2 := r2) rfl
          have l1a : ((((r1, r2) :: rr).length : Nat) : Int) ≠ 0 := by rw [List.length_cons]; omega
          have l1b : (0 : Int) < ((((r1, r2) :: rr).length : Nat) : Int) := by rw [List.length_cons]; omega
          generalize ((r1, r2) :: rr).length = m1 at l1a l1b hd1 ⊢
          have l1c : ((m1 : Int) == 0) = false := by simp; omega
          have NE := hid (show lb ≠ g1 ∧ a ≠ g1 from by
            obtain ⟨-, cur, hcur⟩ := owns_block (hd1.keep hK2) (g := g1) (by simp [Value.ownBlock])
            obtain ⟨ca, hca⟩ := (HS.out y2 KA.out).rr.has
            exact ⟨block_ne (HS.out y2 KA.out).hh hcur (by decide), block_ne hca hcur (by decide)⟩)
          clear hd1
          obtain ⟨g2, rfl, x2, u2, -, -⟩ := (hd2).at (k := 0) (by simp) (x1 := q1) (x2 := q2) rfl
          have l2a : ((((q1, q2) :: qr).length : Nat) : Int) ≠ 0 := by rw [List.length_cons]; omega
          have l2b : (0 : Int) < ((((q1, q2) :: qr).length : Nat) : Int) := by rw [List.length_cons]; omega
          generalize ((q1, q2) :: qr).length = m2 at l2a l2b hd2 ⊢
          have l2c : ((m2 : Int) == 0) = false := by simp; omega
          clear hd2
          clear hK1 hK2
          have XX := hid (fun (z : World) (hk : Kp y2 z []) => (show _ from And.intro ((HS.out z (KA.out.trans hk)).cw) (And.intro ((HS.out z (KA.out.trans hk)).cr) (And.intro ((HS.out z (KA.out.trans hk)).cq) (And.intro ((HS.out z (KA.out.trans hk)).free 0) (And.intro (hk.cell x1 (by simp)) (And.intro (hk.cell u1 (by simp)) (And.intro (hk.cell x2 (by simp)) (hk.cell u2 (by simp))))))))))
          go_wp2_with fail
          go_quiet ((go_at_call 35; exact Calls.quiet_of_same (HH.out _ (KA.out.trans (Kp.drewN _ _ _)))))
          have kz := Kp.drewN y2 nq []
          generalize y2.drewN nq = y at kz
          have KB := hid (KA.out.trans kz)
          clear x1 u1 x2 u2
          obtain ⟨c0, c17, c18, f0, x1, u1, x2, u2⟩ := XX.out y kz
          clear kz
          have U0 := hid ((HS.out y KB.out).setW q1)
          go_wp2_with fail
          obtain ⟨u, hu⟩ : ∃ u, y.setCell ⟨lb, 0, none⟩ (.int .i64 q1) = u := ⟨_, rfl⟩
          rw [hu] at U0 ⊢
          clear hu c0 c17 c18 f0
          have c0 := U0.out.1.cw
          have c18 := U0.out.1.cq
          have CU := hid (fun (z : World) (rs : List Nat) (hk : Kp u z rs) (h0 : lb ∉ rs) => And.intro (hk.cell c18 h0) (hk.cell c0 h0))
          go_region_held_law (fun w1 => w1.cell? ⟨lb, 18, none⟩ = some (.pointer (some ⟨b, 0, none⟩)) ∧ w1.cell? ⟨lb, 0, none⟩ = some (.int .i64 q1))
            (first
              | exact CU.out _ [] (Kp.drew _ _) (by simp)
              | exact CU.out _ [b] ((Kp.drew _ _).trans hT5.2) (by simp; exact OFF.out.2))
            (first
              | (go_at_call 65; refine (rlv_any _ b M1.q q1 (U0.out.1.same (Kp.drew u [])).rq HQK.out).mono ?_; rintro e y5 ⟨rfl, hT5⟩)
              | fail)
          have U5 := hid (show Rkt wr y5 lb a b (inW M1) from by
            have h1 := (U0.out.1.same (Kp.drew u [])).setQ hT5
            rw [EQ.out]
            exact ⟨h1.1, ((KB.out.nil.trans U0.out.2).trans (Kp.drew u _)).trans h1.2⟩)
          clear c0 c18
          have c0 : y5.cell? ⟨lb, 0, none⟩ = some (.int .i64 q1) := by
            have := U5.out.1.cw
            rw [EQ.out] at this
            exact this
          clear hT5
          have ka := Kp.alloc y5 (.cells #[.int .i64 q1] 3) []
          have S4 := hid (U5.out.1.same ka)
          have K4 := hid (U5.out.2.trans ka.nil)
          have NX := hid ((HNS.out.2 y5 U5.out.2).keep ka)
          have HB4 := hid (show w.heap.size ≤ (y5.alloc (.cells #[.int .i64 q1] 3)).heap.size by have := U5.out.2.size; have := HZ.out.2; simp; omega)
          have HC := hid (show (y5.alloc (.cells #[.int .i64 q1] 3)).cell? ⟨y5.heap.size, 0, none⟩ = some (.int .i64 q1) by simp)
          have hlen : l.length ≤ 100000 := by have := HNS.out.1; have := HZ.out.1; omega
          clear ka
          go_wp2_with (refine wpList_pushI rfl (.tmp 56) (.tmp 61) rfl w.heap.size (.slice ao n cap) l q1 _ rfl NX.out rfl HC.out hlen HB4.out ?_; intro y9 w9 h1 h2; have hs := h1.slice; obtain ⟨ao', cap', hy⟩ := hs; rw [show (l ++ [q1]).length = n + 1 by rw [List.length_append, HNS.out.1]; rfl] at hy; subst hy; have L9 := hid (ON.out _ w9 _ S4.out K4.out h1 (Kp.ofGrown (rows := (Value.slice ao n cap).ownBlock.toList) h2 (by intro g hg; have hg' : (Value.slice ao n cap).ownBlock = some g := hg; simp [hg']))); clear h1 h2)
          go_roundw
          case rel => exact ⟨n + 1, ao', cap', rfl, L9⟩
          case measure => simp [lenS]; have := HZ.out.1; omega
end Go.Proofs.Ytcfjlmkeomiiaaa
