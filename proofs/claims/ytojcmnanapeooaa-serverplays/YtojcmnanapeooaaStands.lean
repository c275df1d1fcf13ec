/- stands: all that may be looked at. -/
import Derived.Test.YtojcmnanapeooaaKnown
namespace Go.Proofs.Ytojcmnanapeooaa
open Go.RowKit Go.Shelf

/-- A row of pieces that may be written. -/
def Ow (w : World) (g n : Nat) : Prop := ∃ cur : Array Value, w.heap[g]? = some (.cells cur 45 (0, 0)) ∧ n * 2 ≤ cur.size
theorem Ow.put {w : World} {g n : Nat} (h : Ow w g n) (i : Nat) (v : Value) : Ow (w.setCell ⟨g, i, none⟩ v) g n := by
  obtain ⟨cur, h1, h2⟩ := h
  exact ⟨_, heap_setCell_same w g i _ 45 _ h1, by simpa using h2⟩
theorem Ow.cell {w : World} {g n i : Nat} (h : Ow w g n) (hi : i < n * 2) : (∃ v, w.cell? ⟨g, i, none⟩ = some v) ∧ w.frozen? ⟨g, i, none⟩ = false := by
  obtain ⟨cur, h1, h2⟩ := h
  refine ⟨⟨cur[i]'(by omega), ?_⟩, by simp [World.frozen?, h1]⟩
  rw [cell_of_row w g i _ _ _ h1]
  exact Array.getElem?_eq_getElem (by omega)
theorem Dr.ow {w : World} {base g m cap : Nat} {l : List Dl} (h : Dr w base (.slice (some ⟨g, 0, none⟩) m cap) l) : Ow w g l.length ∧ base ≤ g := by
  obtain ⟨cur, -, hb, h2, h3, -, h5, -⟩ := h.open
  exact ⟨⟨cur, h2, by omega⟩, hb⟩
set_option maxRecDepth 100000 in
set_option maxHeartbeats 4000000 in
theorem stands_any (w : World) (sb rb : Nat) (rs : List Nat) (s : Sv) (hB : Bo w sb rb rs s) : Calls Try.prog 13 #[.pointer (some ⟨sb, 0, none⟩), .pointer (some ⟨rb, 0, none⟩)] w fun e w' => e = .returned (.bool true) ∧ Kp w w' [] := by
  obtain ⟨v, u, h, -⟩ := hB
  have H := hid h
  clear h
  go_enter Try.func13, Try.ntmps13
  go_wp2_with fail
  refine (active_any w sb v s H.out.a).mono ?_
  rintro e w1 ⟨rfl, n1, hw1⟩
  have K1 := hid (show Kp w w1 [] by rw [hw1]; exact Kp.drewN _ _ _)
  clear hw1
  go_wp2_with fail
  refine (pieces_any w1 sb v s (H.out.same K1.out).a).mono ?_
  rintro e w2 ⟨v2, rfl, hd, hk2⟩
  have K2 := hid (K1.out.trans hk2)
  have HD := hid hd
  have HP := hid (H.out.same (K1.out.trans hk2))
  have CH := hid (fun n => high_any (w2.drewN n) sb v s (HP.out.same (Kp.drewN _ _ _)).a)
  have CR := hid (fun n => rhigh_any (w2.drewN n) rb u s (HP.out.same (Kp.drewN _ _ _)).b)
  have CL := hid (fun n => left_any (w2.drewN n) sb v s (HP.out.same (Kp.drewN _ _ _)).a)
  have CP := hid (fun n => pcs_any (w2.drewN n) _ _ v2 u s.pcs s.pcs (hd.keep (Kp.drewN _ _ _)) (HP.out.same (Kp.drewN _ _ _)).b.row (by have := HP.out.a.ok.plen; omega))
  obtain ⟨-, -, c3, c4, c5, c6, c7⟩ := HP.out.b.c.c
  obtain ⟨ar, cr, hu⟩ := HP.out.b.row.slice
  obtain ⟨a5, cp5, hv5⟩ := hd.slice
  have hNl := HP.out.a.ok.plen
  have HSZ := hid K1.out.size
  obtain ⟨N, hN⟩ : ∃ N, s.pcs.length = N := ⟨_, rfl⟩
  rw [hN] at hu hv5 hNl
  rw [hv5] at CP HD
  rw [hu] at CP c7
  rw [hv5]
  have HN := hid hN
  obtain ⟨hB, hhB⟩ : ∃ hB, highB s = hB := ⟨_, rfl⟩
  rw [hhB] at CH CR
  obtain ⟨l, hl⟩ : ∃ l, s.left = l := ⟨_, rfl⟩
  rw [hl] at CL c3
  obtain ⟨a, ha⟩ : ∃ a, s.act = a := ⟨_, rfl⟩
  obtain ⟨si, hsi⟩ : ∃ si, s.since = si := ⟨_, rfl⟩
  obtain ⟨us, hus⟩ : ∃ us, s.used = us := ⟨_, rfl⟩
  rw [ha] at c4 ⊢
  rw [hsi] at c5 ⊢
  rw [hus] at c6 ⊢
  rw [show decide (s.pcs = s.pcs) = true from decide_eq_true rfl] at CP
  have b1 : (hB == hB) = true := by simp
  have b2 : (l == l) = true := by simp
  have b3 : (a == a) = true := by simp
  have b4 : (si == si) = true := by simp
  have b5 : (us == us) = true := by simp
  clear hd hk2 hu hv5 hN hhB hl ha hsi hus K1 H
  go_wp2_with fail
  go_quiet (first | (go_at_call 21; exact Calls.quiet_of (CH.out _)) | (go_at_call 29; exact Calls.quiet_of (CR.out _)) | (go_at_call 19; exact Calls.quiet_of_same (CL.out _)) | (go_at_call 24; exact Calls.quiet_of (CP.out _)))
  clear c3 c4 c5 c6 c7 CH CR CL CP b1 b2 b3 b4 b5
  go_wp2_with fail
  go_loopw [10] (fun vi wr => ∃ i : Nat, i ≤ N ∧ vi = .int .i64 i ∧ Hid ((∀ g, a5 = some ⟨g, 0, none⟩ → Ow wr g N ∧ w.heap.size ≤ g) ∧ Kp w wr [])) (fun vi _ => N - (intOf vi).toNat)
  case atStart =>
    refine ⟨0, by omega, rfl, hid ⟨fun g hg => ?_, K2.out.trans (Kp.drewN _ _ _)⟩⟩
    have h1 := HD.out.keep (Kp.drewN w2 nq [])
    rw [hg] at h1
    have h2 := h1.ow
    rw [HN.out] at h2
    exact ⟨h2.1, Nat.le_trans HSZ.out h2.2⟩
  case round =>
    obtain ⟨i, hi, rfl, hR⟩ := hrel
    by_cases hlt : i < N
    · have hltI : (i : Int) < N := by omega
      have hil : i < s.pcs.length := by have := HN.out; omega
      obtain ⟨gg, hgg, -⟩ := HD.out.at hil (show s.pcs[i]! = (s.pcs[i]!.1, s.pcs[i]!.2) from rfl)
      subst hgg
      obtain ⟨ho, hge⟩ := hR.out.1 gg rfl
      obtain ⟨⟨y, hy⟩, hf⟩ := ho.cell (i := i * 2 + 1) (by omega)
      have HF := hid (show (∀ g, some (⟨gg, 0, none⟩ : Addr) = some ⟨g, 0, none⟩ → Ow (wr.setCell ⟨gg, i * 2 + 1, none⟩ (.int .i64 99)) g N ∧ w.heap.size ≤ g) ∧ Kp w (wr.setCell ⟨gg, i * 2 + 1, none⟩ (.int .i64 99)) [] by
        refine ⟨fun g hg => ?_, hR.out.2.past (Kp.setCell wr ⟨gg, i * 2 + 1, none⟩ _) (by intro k hk hl; simp at hk; omega)⟩
        simp only [Option.some.injEq, Addr.mk.injEq, and_true] at hg
        subst hg
        exact ⟨ho.put _ _, hge⟩)
      clear hR ho
      go_wp2_with fail
      go_roundw
      case rel => exact ⟨i + 1, by omega, by simp, HF⟩
      case measure => simp [intOf]; omega
    · have hltI : ¬ (i : Int) < N := by omega
      have HF := hid hR.out.2
      clear hR
      go_wp2
      go_ret
      exact ⟨rfl, HF.out⟩
end Go.Proofs.Ytojcmnanapeooaa
