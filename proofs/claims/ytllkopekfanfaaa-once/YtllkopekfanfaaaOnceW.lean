/- QueueOnce's walk. -/
import Derived.BigQuiet
import Derived.Deep.CutRange
import Derived.Deep.DeepCutAuto
import Derived.Deep.CutBlock
import Derived.Test.YtllkopekfanfaaaHb
import Derived.Test.YtllkopekfanfaaaKn
import Derived.Test.YtllkopekfanfaaaTp
import Derived.Test.YtllkopekfanfaaaArgs
namespace Go.Proofs.Ytllkopekfanfaaa
open Go.RowKit Go.Shelf Go.Lib Go.Sort Go.Maps
attribute [local go_sem] Oper.semAt_some

section
variable {w0 W : World} {qb : Nat} {M : Qs} {B : Bx}
theorem Kq.put2 {b : Nat × Array Value × Nat} (h : Kq w0 W qb M (b :: B)) (c : Array Value) (t : Nat) : Kq w0 (W.alloc (.cells c t)) qb M (b :: (W.heap.size, c, t) :: B) :=
  (h.alloc c t).perm (by intro x hx; simp only [List.mem_cons] at hx ⊢; rcases hx with h | h | h <;> simp [h])
theorem Kq.rcvs (h : Kq w0 W qb M B) (hr : M.r = []) : Calls Try.prog 21 #[.pointer (some ⟨qb, 0, none⟩)] W fun e w' => ∃ ao cap, e = .returned (.slice ao 0 cap) ∧ Kq w0 w' qb M B := by
  obtain ⟨R, hs, -⟩ := id h
  refine (receivers_yes hs).mono ?_
  rintro e w' ⟨x, rfl, hn, hk⟩
  rw [hr, List.eq_nil_of_length_eq_zero (ord_len okL.nil)] at hn
  obtain ⟨ao, cap, rfl⟩ := hn.slice
  exact ⟨ao, cap, rfl, h.go hk⟩
theorem Kq.snds (h : Kq w0 W qb M B) (hr : M.s = []) : Calls Try.prog 22 #[.pointer (some ⟨qb, 0, none⟩)] W fun e w' => ∃ ao cap, e = .returned (.slice ao 0 cap) ∧ Kq w0 w' qb M B := by
  obtain ⟨R, hs, -⟩ := id h
  refine (senders_yes hs).mono ?_
  rintro e w' ⟨x, rfl, hn, hk⟩
  rw [hr, List.eq_nil_of_length_eq_zero (ord_len okL.nil)] at hn
  obtain ⟨ao, cap, rfl⟩ := hn.slice
  exact ⟨ao, cap, rfl, h.go hk⟩
theorem Kq.top (h : Kq w0 W qb M B) : Calls Try.prog 16 #[.pointer (some ⟨qb, 0, none⟩)] W fun e w' => e = .returned (.tuple #[mv (M.L.headD (0, 0)), .bool (!M.L.isEmpty)]) ∧ Kq w0 w' qb M B := by
  obtain ⟨R, hs, -⟩ := id h
  refine (top_any W _ M.L (.inl ⟨qb, R, M, rfl, hs, rfl⟩)).mono ?_
  rintro e w' ⟨rfl, hk⟩
  exact ⟨rfl, h.go hk⟩
theorem Kq.c4 {x : Nat} {a b c d : Value} {t : Nat} (h : Kq w0 W qb M B) (hm : (x, #[a, b, c, d], t) ∈ B) : W.cell? ⟨x, 0, none⟩ = some a ∧ W.cell? ⟨x, 1, none⟩ = some b ∧ W.cell? ⟨x, 2, none⟩ = some c ∧ W.cell? ⟨x, 3, none⟩ = some d := by
  have := h.box hm
  refine ⟨?_, ?_, ?_, ?_⟩ <;> simp [World.cell?, this]
theorem Kq.c2 {x : Nat} {a b : Value} {t : Nat} (h : Kq w0 W qb M B) (hm : (x, #[a, b], t) ∈ B) : W.cell? ⟨x, 0, none⟩ = some a ∧ W.cell? ⟨x, 1, none⟩ = some b := by
  have := h.box hm
  refine ⟨?_, ?_⟩ <;> simp [World.cell?, this]
theorem Kq.c5 {x : Nat} {a b c d e : Value} {t : Nat} (h : Kq w0 W qb M B) (hm : (x, #[a, b, c, d, e], t) ∈ B) : W.cell? ⟨x, 0, none⟩ = some a ∧ W.cell? ⟨x, 1, none⟩ = some b ∧ W.cell? ⟨x, 2, none⟩ = some c ∧ W.cell? ⟨x, 3, none⟩ = some d ∧ W.cell? ⟨x, 4, none⟩ = some e := by
  have := h.box hm
  refine ⟨?_, ?_, ?_, ?_, ?_⟩ <;> simp [World.cell?, this]
end
/-- So many are sent and handed over; who waits to send is held. -/
structure On (w0 W : World) (qb hb : Nat) (n a b : Int) (i : Nat) (M : Qs) (H : Nat → Bool) (B : Bx) : Prop where
  kq : Kq w0 W qb M ((hb, hbc H, 43) :: B)
  ok : Qok M
  fh : Fh M.s H
  n : M.n = n
  len : (M.L.length : Int) = a - b
  ab : 0 ≤ b ∧ b ≤ i ∧ 0 ≤ a ∧ a ≤ i
set_option maxRecDepth 100000 in
set_option maxHeartbeats 16000000 in
theorem once_walk (w : World) (room : Int) (V : Value) (N : Nat) (F : Nat → Stp) (hV : Scr w V N F) : Calls Try.prog 5 #[.int .i64 room, V] w fun e w' => e = .returned (.bool true) ∧ Kp w w' [] := by
  obtain ⟨so, sc, rfl⟩ := hV.shape
  have HV := hid hV
  clear hV
  go_enter Try.func5, Try.ntmps5
  go_wp2_with fail
  refine (known_any w).mono ?_
  rintro e w1 ⟨rfl, k1⟩
  have K1 := hid k1
  clear k1
  by_cases hn : 1 ≤ room ∧ room ≤ 32
  · have HRM := hid hn
    clear hn
    go_wp2_with fail
    refine (kq_new w w1 room HRM.out.1 HRM.out.2 K1.out).mono ?_
    rintro e w2 ⟨qb, rfl, h2⟩
    have H2 := hid (h2.alloc (hbc fun _ => false) 43)
    rw [hb_nil] at H2
    clear h2 K1
    go_wp2_with fail
    refine (num_any _ _).mono ?_
    rintro e wx ⟨rfl, hw⟩; obtain rfl := hw.symm
    go_wp2_with fail
    rw [← hb_nil] at H2 ⊢
    generalize w2.heap.size = hb at H2 ⊢
    generalize w2.alloc (.cells (hbc fun _ => false) 43) = v2 at H2 ⊢
    go_loopw [7, 8, 10] (fun va vb vi W => ∃ (i : Nat) (a b : Int), i ≤ 200 ∧ vi = .int .i64 i ∧ va = .int .i64 a ∧ vb = .int .i64 b ∧ Hid (∃ M H, On w W qb hb room a b i M H [])) (fun _ _ vi _ => 200 - (intOf vi).toNat)
    case atStart => exact ⟨0, 0, 0, by omega, rfl, rfl, rfl, hid ⟨newQ room, fun _ => false, H2.out, Qok.new HRM.out.1 HRM.out.2, Fh.nil _, rfl, rfl, by omega⟩⟩
    case round =>
      obtain ⟨i, a, b, hi, rfl, rfl, rfl, hT⟩ := hrel
      clear H2
      by_cases hin : i < N ∧ i < 200
      · have h1 : (i : Int) < N := by omega
        have h2 : (i : Int) < 200 := by omega
        obtain ⟨M, H, hon⟩ := hT.out
        obtain ⟨sb, off, rfl, y0, y1, y2, y3, y4⟩ := (HV.out.keep hon.kq.kp).at hin.1
        have HU := hid (HV.out.i64t hin.1)
        have HLI := hid hin.2
        clear hin hT
        generalize (F i).k = k at y0
        generalize (F i).t = t at y1 HU
        generalize (F i).n = p at y2
        generalize (F i).v = v at y3
        generalize (F i).x = y at y4
        have HT := hid (hon.kq.put2 #[.int .i64 k, .int .i64 t, .int .i64 p, .int .i64 v, .int .i64 y] 36)
        have HOK := hid hon.ok
        have HFH := hid hon.fh
        have HN := hid hon.n
        have HLN := hid hon.len
        have HAB := hid hon.ab
        clear hon
        obtain ⟨W0, hW0⟩ : ∃ W0, wr.alloc (.cells #[.int .i64 k, .int .i64 t, .int .i64 p, .int .i64 v, .int .i64 y] 36) = W0 := ⟨_, rfl⟩
        obtain ⟨xb, hxb⟩ : ∃ xb, wr.heap.size = xb := ⟨_, rfl⟩
        rw [hW0, hxb] at HT
        obtain ⟨c0, c1, c2, c3, c4⟩ := HT.out.c5 (x := xb) (List.mem_cons_of_mem _ (List.mem_cons_self ..))
        have HWX := hid (And.intro hW0 hxb)
        clear hW0 hxb
        go_upto_block 2 with fail
        rw [HWX.out.1, HWX.out.2]
        clear y0 y1 y2 y3 y4 HWX
        go_cut [7, 8, 12, 13, 14, 15, 16, 17] (fun va vb _ _ _ _ _ _ wx => ∃ (a2 b2 : Int) (M2 : Qs) (H2 : Nat → Bool), va = .int .i64 a2 ∧ vb = .int .i64 b2 ∧ Hid (On w wx qb hb room a2 b2 (i + 1) M2 H2 []))
        case first =>
          by_cases k1 : k = 1
          · have kt : (k == 1) = true := by simp [k1]
            clear k1
            as_aux_lemma =>
              go_wp2_with fail
              clear c0 c1 c2 c3 c4
              by_cases hE : sendE M t p ((i : Int), y) = 0
              · obtain ⟨ht, hh⟩ := once_send HOK.out hE HFH.out
                rcases hh with ⟨o, ho, hv, hl, hf⟩ | ⟨hv, hl, hf⟩ | ⟨hv, hl, hf⟩
                · as_aux_lemma =>
                    have HS := hid (HT.out.send t p (i : Int) y HU.out (V := .agg #[.bool true, .int .i64 i, .int .i64 y, .int .i64 o]) (E := 0) (M' := sendMM M t p ((i : Int), y)) hE ⟨hv, rfl⟩)
                    replace HOK := hid (HOK.out.sendMM t p ((i : Int), y))
                    replace HN := hid (sendMM_n.trans HN.out : (sendMM M t p ((i : Int), y)).n = room)
                    replace HLN := hid (show ((sendMM M t p ((i : Int), y)).L.length : Int) = (a + 1) - (b + 1) by have := HLN.out; omega)
                    replace HAB := hid (show 0 ≤ (b + 1) ∧ (b + 1) ≤ (i : Int) + 1 ∧ 0 ≤ (a + 1) ∧ (a + 1) ≤ (i : Int) + 1 by have := HAB.out; omega)
                    replace HFH := hid hf
                    clear hv hl hf hE HT
                    generalize sendMM M t p ((i : Int), y) = M1 at HS HOK HN HLN HFH
                    clear ht
                    have ho2 : ¬ o < 0 := by omega
                    refine HS.out.mono ?_
                    rintro e z1 ⟨rfl, hk⟩
                    have HT := hid hk
                    clear hk HS
                    go_wp2_with fail
                    have ha := HT.out.put2 #[.bool true, .int .i64 i, .int .i64 y, .int .i64 o] 45
                    generalize z1.heap.size = ab at ha ⊢
                    generalize z1.alloc (.cells #[.bool true, .int .i64 i, .int .i64 y, .int .i64 o] 45) = vab at ha ⊢
                    replace HT := hid ha
                    clear ha
                    obtain ⟨d0, d1, d2, d3⟩ := HT.out.c4 (x := ab) (t := 45) (List.mem_cons_of_mem _ (List.mem_cons_self ..))
                    go_wp2_with fail
                    refine (num_any _ _).mono ?_
                    rintro e wx ⟨rfl, hw⟩; obtain rfl := hw.symm
                    have hwa : IntKind.i64.wrap (a + 1) = a + 1 := IntWalk.i64_in _ ⟨by have := HAB.out; omega, by have := HAB.out; have := HLI.out; omega⟩
                    have hwb : IntKind.i64.wrap (b + 1) = b + 1 := IntWalk.i64_in _ ⟨by have := HAB.out; omega, by have := HAB.out; have := HLI.out; omega⟩
                    go_wp2
                    go_meet
                    case rel => exact ⟨(a + 1), (b + 1), _, _, rfl, rfl, hid ⟨HT.out.perm (by simp), HOK.out, HFH.out, HN.out, HLN.out, by have := HAB.out; omega⟩⟩
                · as_aux_lemma =>
                    have HS := hid (HT.out.send t p (i : Int) y HU.out (V := .agg #[.bool true, .int .i64 i, .int .i64 y, .int .i64 (-1)]) (E := 0) (M' := sendMM M t p ((i : Int), y)) hE ⟨hv, rfl⟩)
                    replace HOK := hid (HOK.out.sendMM t p ((i : Int), y))
                    replace HN := hid (sendMM_n.trans HN.out : (sendMM M t p ((i : Int), y)).n = room)
                    replace HLN := hid (show ((sendMM M t p ((i : Int), y)).L.length : Int) = (a + 1) - b by have := HLN.out; omega)
                    replace HAB := hid (show 0 ≤ b ∧ b ≤ (i : Int) + 1 ∧ 0 ≤ (a + 1) ∧ (a + 1) ≤ (i : Int) + 1 by have := HAB.out; omega)
                    replace HFH := hid hf
                    clear hv hl hf hE HT
                    generalize sendMM M t p ((i : Int), y) = M1 at HS HOK HN HLN HFH
                    clear ht
                    refine HS.out.mono ?_
                    rintro e z1 ⟨rfl, hk⟩
                    have HT := hid hk
                    clear hk HS
                    go_wp2_with fail
                    have ha := HT.out.put2 #[.bool true, .int .i64 i, .int .i64 y, .int .i64 (-1)] 45
                    generalize z1.heap.size = ab at ha ⊢
                    generalize z1.alloc (.cells #[.bool true, .int .i64 i, .int .i64 y, .int .i64 (-1)] 45) = vab at ha ⊢
                    replace HT := hid ha
                    clear ha
                    obtain ⟨d0, d1, d2, d3⟩ := HT.out.c4 (x := ab) (t := 45) (List.mem_cons_of_mem _ (List.mem_cons_self ..))
                    go_wp2_with fail
                    refine (num_any _ _).mono ?_
                    rintro e wx ⟨rfl, hw⟩; obtain rfl := hw.symm
                    have hwa : IntKind.i64.wrap (a + 1) = a + 1 := IntWalk.i64_in _ ⟨by have := HAB.out; omega, by have := HAB.out; have := HLI.out; omega⟩
                    go_wp2
                    go_meet
                    case rel => exact ⟨(a + 1), b, _, _, rfl, rfl, hid ⟨HT.out.perm (by simp), HOK.out, HFH.out, HN.out, HLN.out, by have := HAB.out; omega⟩⟩
                · as_aux_lemma =>
                    have HS := hid (HT.out.send t p (i : Int) y HU.out (V := .agg #[.bool false, .int .i64 i, .int .i64 y, .int .i64 (-1)]) (E := 0) (M' := sendMM M t p ((i : Int), y)) hE ⟨hv, rfl⟩)
                    replace HOK := hid (HOK.out.sendMM t p ((i : Int), y))
                    replace HN := hid (sendMM_n.trans HN.out : (sendMM M t p ((i : Int), y)).n = room)
                    replace HLN := hid (show ((sendMM M t p ((i : Int), y)).L.length : Int) = a - b by have := HLN.out; omega)
                    replace HAB := hid (show 0 ≤ b ∧ b ≤ (i : Int) + 1 ∧ 0 ≤ a ∧ a ≤ (i : Int) + 1 by have := HAB.out; omega)
                    replace HFH := hid hf
                    clear hv hl hf hE HT
                    generalize sendMM M t p ((i : Int), y) = M1 at HS HOK HN HLN HFH
                    obtain ⟨n, rfl⟩ : ∃ n : Nat, t = n := ⟨t.toNat, by omega⟩
                    have hn0 : (0 : Int) ≤ n := by omega
                    have hn1 : (n : Int) < 16 := ht.2
                    have HNT := hid ht
                    clear ht
                    refine HS.out.mono ?_
                    rintro e z1 ⟨rfl, hk⟩
                    have HT := hid hk
                    clear hk HS
                    go_wp2_with fail
                    have ha := HT.out.put2 #[.bool false, .int .i64 i, .int .i64 y, .int .i64 (-1)] 45
                    generalize z1.heap.size = ab at ha ⊢
                    generalize z1.alloc (.cells #[.bool false, .int .i64 i, .int .i64 y, .int .i64 (-1)] 45) = vab at ha ⊢
                    replace HT := hid ha
                    clear ha
                    obtain ⟨d0, d1, d2, d3⟩ := HT.out.c4 (x := ab) (t := 45) (List.mem_cons_of_mem _ (List.mem_cons_self ..))
                    go_wp2_with fail
                    refine (num_any _ _).mono ?_
                    rintro e wx ⟨rfl, hw⟩; obtain rfl := hw.symm
                    have hfz : vab.frozen? ⟨hb, n, none⟩ = false := HT.out.free (x := (hb, hbc H, 43)) (List.mem_cons_self ..) n
                    have hcl := HT.out.held (hb := hb) (H := H) (List.mem_cons_self ..) HNT.out
                    rw [Int.toNat_natCast] at hcl
                    obtain ⟨e0, e1, e2, e3, e4⟩ := HT.out.c5 (x := xb) (t := 36) (List.mem_cons_of_mem _ (List.mem_cons_of_mem _ (List.mem_cons_self ..)))
                    have hst := HT.out.hold (by simp) HNT.out true
                    rw [Int.toNat_natCast] at hst HFH
                    have HST := hid hst
                    clear hst
                    go_wp2_with fail
                    replace HT := HST
                    clear HST hfz hcl e0 e1 e2 e3 e4 d0 d1 d2 d3
                    go_wp2
                    go_meet
                    case rel => exact ⟨a, b, _, _, rfl, rfl, hid ⟨HT.out.perm (by simp), HOK.out, HFH.out, HN.out, HLN.out, by have := HAB.out; omega⟩⟩
              · have hM := send_not hE
                have HS := hid (HT.out.send t p (i : Int) y HU.out (V := .agg #[.bool false, .int .i64 0, .int .i64 0, .int .i64 0]) (E := sendE M t p ((i : Int), y)) (M' := M) rfl (st_sendx hE))
                have hz : (sendE M t p ((i : Int), y) == 0) = false := by simp [hE]
                have hz2 : (sendE M t p ((i : Int), y) != 0) = true := by simp [hE]
                generalize sendE M t p ((i : Int), y) = E at HS hz hz2
                clear hE hM HT
                refine HS.out.mono ?_
                rintro e z1 ⟨rfl, hk⟩
                have HT := hid hk
                clear hk HS
                go_wp2_with fail
                have ha := HT.out.put2 #[.bool false, .int .i64 0, .int .i64 0, .int .i64 0] 45
                generalize z1.heap.size = ab at ha ⊢
                generalize z1.alloc (.cells #[.bool false, .int .i64 0, .int .i64 0, .int .i64 0] 45) = vab at ha ⊢
                replace HT := hid ha
                clear ha
                go_wp2_with fail
                refine (num_any _ _).mono ?_
                rintro e wx ⟨rfl, hw⟩; obtain rfl := hw.symm
                replace HAB := hid (show 0 ≤ b ∧ b ≤ (i : Int) + 1 ∧ 0 ≤ a ∧ a ≤ (i : Int) + 1 by have := HAB.out; omega)
                go_wp2
                go_meet
                case rel => exact ⟨a, b, _, _, rfl, rfl, hid ⟨HT.out.perm (by simp), HOK.out, HFH.out, HN.out, HLN.out, by have := HAB.out; omega⟩⟩
          by_cases k2 : k = 2
          · have kt : (k == 2) = true := by simp [k2]
            have kf1 : (k == 1) = false := by simp [k1]
            clear k1 k2
            as_aux_lemma =>
              go_wp2_with fail
              clear c0 c1 c2 c3 c4
              by_cases hE : recE M t p = 0
              · obtain ⟨ht, hh⟩ := once_rec HOK.out hE HFH.out
                rcases hh with ⟨hL0, hv, hl, hf⟩ | ⟨⟨x1, x2⟩, Z, hL0, hv, hl, hf⟩ | ⟨⟨x1, x2⟩, Z, o, hL0, hor, hho, hv, hl, hf⟩
                · as_aux_lemma =>
                    have HTP := hid HT.out.top
                    rw [hL0] at HTP
                    simp only [List.headD_nil, List.isEmpty_nil, Bool.not_true] at HTP
                    rw [mv_eq] at HTP
                    have HRC := hid (fun (z : World) (Bs : Bx) (h : Kq w z qb M Bs) => h.recv t p HU.out (V := .agg #[.bool false, .int .i64 0, .int .i64 0, .int .i64 (-1)]) (E := 0) (M' := recMM M t p) hE ⟨hv, rfl⟩)
                    replace HOK := hid (HOK.out.recMM t p)
                    replace HN := hid (recMM_n.trans HN.out : (recMM M t p).n = room)
                    replace HLN := hid (show ((recMM M t p).L.length : Int) = a - b by have := HLN.out; omega)
                    replace HFH := hid hf
                    replace HAB := hid (show 0 ≤ b ∧ b ≤ (i : Int) + 1 ∧ 0 ≤ a ∧ a ≤ (i : Int) + 1 by have := HAB.out; omega)
                    generalize hMM : recMM M t p = M1 at HRC HOK HN HLN HFH
                    clear hMM hv hl hf hE hL0 ht
                    refine HTP.out.mono ?_
                    rintro e z0 ⟨rfl, hk⟩
                    replace HT := hid hk
                    clear hk HTP
                    have ha := HT.out.put2 #[.int .i64 0, .int .i64 0] 34
                    obtain ⟨e0, e1, e2, e3, e4⟩ := ha.c5 (x := xb) (t := 36) (List.mem_cons_of_mem _ (List.mem_cons_of_mem _ (List.mem_cons_self ..)))
                    go_wp2_with fail
                    clear e0 e1 e2 e3 e4
                    generalize z0.heap.size = fb at ha ⊢
                    generalize z0.alloc (.cells #[.int .i64 0, .int .i64 0] 34) = vfb at ha ⊢
                    replace HT := hid ha
                    clear ha
                    refine (HRC.out _ _ HT.out).mono ?_
                    rintro e z1 ⟨rfl, hk⟩
                    replace HT := hid hk
                    clear hk HRC
                    go_wp2_with fail
                    have ha := HT.out.put2 #[.bool false, .int .i64 0, .int .i64 0, .int .i64 (-1)] 45
                    generalize z1.heap.size = ab at ha ⊢
                    generalize z1.alloc (.cells #[.bool false, .int .i64 0, .int .i64 0, .int .i64 (-1)] 45) = vab at ha ⊢
                    replace HT := hid ha
                    clear ha
                    obtain ⟨d0, d1, d2, d3⟩ := HT.out.c4 (x := ab) (t := 45) (List.mem_cons_of_mem _ (List.mem_cons_self ..))
                    obtain ⟨g0, g1⟩ := HT.out.c2 (x := fb) (t := 34) (List.mem_cons_of_mem _ (List.mem_cons_of_mem _ (List.mem_cons_self ..)))
                    go_wp2_with fail
                    refine (num_any _ _).mono ?_
                    rintro e wx ⟨rfl, hw⟩; obtain rfl := hw.symm
                    go_wp2
                    go_meet
                    case rel => exact ⟨a, b, _, _, rfl, rfl, hid ⟨HT.out.perm (by simp), HOK.out, HFH.out, HN.out, HLN.out, by have := HAB.out; omega⟩⟩
                · as_aux_lemma =>
                    have HTP := hid HT.out.top
                    rw [hL0] at HTP
                    simp only [List.headD_cons, List.isEmpty_cons, Bool.not_false] at HTP
                    rw [mv_eq] at HTP
                    have HRC := hid (fun (z : World) (Bs : Bx) (h : Kq w z qb M Bs) => h.recv t p HU.out (V := .agg #[.bool true, .int .i64 x1, .int .i64 x2, .int .i64 (-1)]) (E := 0) (M' := recMM M t p) hE ⟨hv, rfl⟩)
                    replace HOK := hid (HOK.out.recMM t p)
                    replace HN := hid (recMM_n.trans HN.out : (recMM M t p).n = room)
                    replace HLN := hid (show ((recMM M t p).L.length : Int) = a - (b + 1) by have := HLN.out; omega)
                    replace HFH := hid hf
                    have hwb : IntKind.i64.wrap (b + 1) = b + 1 := IntWalk.i64_in _ ⟨by have := HAB.out; omega, by have := HAB.out; have := HLI.out; omega⟩
                    replace HAB := hid (show 0 ≤ (b + 1) ∧ (b + 1) ≤ (i : Int) + 1 ∧ 0 ≤ a ∧ a ≤ (i : Int) + 1 by have := HAB.out; omega)
                    generalize hMM : recMM M t p = M1 at HRC HOK HN HLN HFH
                    clear hMM hv hl hf hE hL0 ht
                    refine HTP.out.mono ?_
                    rintro e z0 ⟨rfl, hk⟩
                    replace HT := hid hk
                    clear hk HTP
                    have ha := HT.out.put2 #[.int .i64 x1, .int .i64 x2] 34
                    obtain ⟨e0, e1, e2, e3, e4⟩ := ha.c5 (x := xb) (t := 36) (List.mem_cons_of_mem _ (List.mem_cons_of_mem _ (List.mem_cons_self ..)))
                    go_wp2_with fail
                    clear e0 e1 e2 e3 e4
                    generalize z0.heap.size = fb at ha ⊢
                    generalize z0.alloc (.cells #[.int .i64 x1, .int .i64 x2] 34) = vfb at ha ⊢
                    replace HT := hid ha
                    clear ha
                    refine (HRC.out _ _ HT.out).mono ?_
                    rintro e z1 ⟨rfl, hk⟩
                    replace HT := hid hk
                    clear hk HRC
                    go_wp2_with fail
                    have ha := HT.out.put2 #[.bool true, .int .i64 x1, .int .i64 x2, .int .i64 (-1)] 45
                    generalize z1.heap.size = ab at ha ⊢
                    generalize z1.alloc (.cells #[.bool true, .int .i64 x1, .int .i64 x2, .int .i64 (-1)] 45) = vab at ha ⊢
                    replace HT := hid ha
                    clear ha
                    obtain ⟨d0, d1, d2, d3⟩ := HT.out.c4 (x := ab) (t := 45) (List.mem_cons_of_mem _ (List.mem_cons_self ..))
                    obtain ⟨g0, g1⟩ := HT.out.c2 (x := fb) (t := 34) (List.mem_cons_of_mem _ (List.mem_cons_of_mem _ (List.mem_cons_self ..)))
                    go_wp2_with fail
                    refine (num_any _ _).mono ?_
                    rintro e wx ⟨rfl, hw⟩; obtain rfl := hw.symm
                    have hnq : ∀ W, (binOp .neq 34 (.agg #[.int .i64 x1, .int .i64 x2]) (.agg #[.int .i64 x1, .int .i64 x2])).run Try.prog W = .ok (.bool false) W := fun W => by rw [neq34]; simp
                    have hgd := fun (w : World) (p q : Operand) (xs ys : Array Value) => run_eqGuard_agg (P := Try.prog) w .neq 34 p q xs ys (by kernel_rfl)
                    go_wp2
                    go_meet
                    case rel => exact ⟨a, (b + 1), _, _, rfl, rfl, hid ⟨HT.out.perm (by simp), HOK.out, HFH.out, HN.out, HLN.out, by have := HAB.out; omega⟩⟩
                · as_aux_lemma =>
                    have HTP := hid HT.out.top
                    rw [hL0] at HTP
                    simp only [List.headD_cons, List.isEmpty_cons, Bool.not_false] at HTP
                    rw [mv_eq] at HTP
                    have HRC := hid (fun (z : World) (Bs : Bx) (h : Kq w z qb M Bs) => h.recv t p HU.out (V := .agg #[.bool true, .int .i64 x1, .int .i64 x2, .int .i64 o]) (E := 0) (M' := recMM M t p) hE ⟨hv, rfl⟩)
                    replace HOK := hid (HOK.out.recMM t p)
                    replace HN := hid (recMM_n.trans HN.out : (recMM M t p).n = room)
                    replace HLN := hid (show ((recMM M t p).L.length : Int) = (a + 1) - (b + 1) by have := HLN.out; omega)
                    replace HFH := hid hf
                    have hwb : IntKind.i64.wrap (b + 1) = b + 1 := IntWalk.i64_in _ ⟨by have := HAB.out; omega, by have := HAB.out; have := HLI.out; omega⟩
                    have hwa : IntKind.i64.wrap (a + 1) = a + 1 := IntWalk.i64_in _ ⟨by have := HAB.out; omega, by have := HAB.out; have := HLI.out; omega⟩
                    replace HAB := hid (show 0 ≤ (b + 1) ∧ (b + 1) ≤ (i : Int) + 1 ∧ 0 ≤ (a + 1) ∧ (a + 1) ≤ (i : Int) + 1 by have := HAB.out; omega)
                    generalize hMM : recMM M t p = M1 at HRC HOK HN HLN HFH
                    clear hMM hv hl hf hE hL0 ht
                    have hH := hho
                    obtain ⟨n, rfl⟩ : ∃ n : Nat, o = n := ⟨o.toNat, by omega⟩
                    have hn0 : (0 : Int) ≤ n := by omega
                    have hn1 : (n : Int) < 16 := hor.2
                    have HNT := hid hor
                    clear hor
                    rw [Int.toNat_natCast] at hH
                    clear hho
                    have hn2 : ¬ (n : Int) < 0 := by omega
                    have hn3 : ¬ (15 : Int) < n := by omega
                    refine HTP.out.mono ?_
                    rintro e z0 ⟨rfl, hk⟩
                    replace HT := hid hk
                    clear hk HTP
                    have ha := HT.out.put2 #[.int .i64 x1, .int .i64 x2] 34
                    obtain ⟨e0, e1, e2, e3, e4⟩ := ha.c5 (x := xb) (t := 36) (List.mem_cons_of_mem _ (List.mem_cons_of_mem _ (List.mem_cons_self ..)))
                    go_wp2_with fail
                    clear e0 e1 e2 e3 e4
                    generalize z0.heap.size = fb at ha ⊢
                    generalize z0.alloc (.cells #[.int .i64 x1, .int .i64 x2] 34) = vfb at ha ⊢
                    replace HT := hid ha
                    clear ha
                    refine (HRC.out _ _ HT.out).mono ?_
                    rintro e z1 ⟨rfl, hk⟩
                    replace HT := hid hk
                    clear hk HRC
                    go_wp2_with fail
                    have ha := HT.out.put2 #[.bool true, .int .i64 x1, .int .i64 x2, .int .i64 n] 45
                    generalize z1.heap.size = ab at ha ⊢
                    generalize z1.alloc (.cells #[.bool true, .int .i64 x1, .int .i64 x2, .int .i64 n] 45) = vab at ha ⊢
                    replace HT := hid ha
                    clear ha
                    obtain ⟨d0, d1, d2, d3⟩ := HT.out.c4 (x := ab) (t := 45) (List.mem_cons_of_mem _ (List.mem_cons_self ..))
                    obtain ⟨g0, g1⟩ := HT.out.c2 (x := fb) (t := 34) (List.mem_cons_of_mem _ (List.mem_cons_of_mem _ (List.mem_cons_self ..)))
                    go_wp2_with fail
                    refine (num_any _ _).mono ?_
                    rintro e wx ⟨rfl, hw⟩; obtain rfl := hw.symm
                    have hnq : ∀ W, (binOp .neq 34 (.agg #[.int .i64 x1, .int .i64 x2]) (.agg #[.int .i64 x1, .int .i64 x2])).run Try.prog W = .ok (.bool false) W := fun W => by rw [neq34]; simp
                    have hgd := fun (w : World) (p q : Operand) (xs ys : Array Value) => run_eqGuard_agg (P := Try.prog) w .neq 34 p q xs ys (by kernel_rfl)
                    have hfz : vab.frozen? ⟨hb, n, none⟩ = false := HT.out.free (x := (hb, hbc H, 43)) (List.mem_cons_self ..) n
                    have hcl := HT.out.held (hb := hb) (H := H) (List.mem_cons_self ..) HNT.out
                    rw [Int.toNat_natCast] at hcl
                    have hst := HT.out.hold (by simp) HNT.out false
                    rw [Int.toNat_natCast] at hst HFH
                    have HST := hid hst
                    clear hst
                    rw [hH] at hcl
                    go_wp2_with fail
                    replace HT := HST
                    clear HST hfz hcl
                    go_wp2
                    go_meet
                    case rel => exact ⟨(a + 1), (b + 1), _, _, rfl, rfl, hid ⟨HT.out.perm (by simp), HOK.out, HFH.out, HN.out, HLN.out, by have := HAB.out; omega⟩⟩
              · have HTP := hid HT.out.top
                obtain ⟨f1, f2, hfd⟩ : ∃ f1 f2, M.L.headD (0, 0) = (f1, f2) := ⟨_, _, rfl⟩
                obtain ⟨sm, hsm⟩ : ∃ sm, (!M.L.isEmpty) = sm := ⟨_, rfl⟩
                rw [hfd, hsm, mv_eq] at HTP
                clear hfd hsm
                have hz : (recE M t p == 0) = false := by simp [hE]
                have hz2 : (recE M t p != 0) = true := by simp [hE]
                have hM := rec_not hE
                have HRC := hid (fun (z : World) (Bs : Bx) (h : Kq w z qb M Bs) => h.recv t p HU.out (V := .agg #[.bool false, .int .i64 0, .int .i64 0, .int .i64 0]) (E := recE M t p) (M' := M) rfl (st_recx hE))
                generalize recE M t p = E at HRC hz hz2
                clear hE hM
                replace HAB := hid (show 0 ≤ b ∧ b ≤ (i : Int) + 1 ∧ 0 ≤ a ∧ a ≤ (i : Int) + 1 by have := HAB.out; omega)
                refine HTP.out.mono ?_
                rintro e z0 ⟨rfl, hk⟩
                replace HT := hid hk
                clear hk HTP
                have ha := HT.out.put2 #[.int .i64 f1, .int .i64 f2] 34
                obtain ⟨e0, e1, e2, e3, e4⟩ := ha.c5 (x := xb) (t := 36) (List.mem_cons_of_mem _ (List.mem_cons_of_mem _ (List.mem_cons_self ..)))
                go_wp2_with fail
                clear e0 e1 e2 e3 e4
                generalize z0.heap.size = fb at ha ⊢
                generalize z0.alloc (.cells #[.int .i64 f1, .int .i64 f2] 34) = vfb at ha ⊢
                replace HT := hid ha
                clear ha
                refine (HRC.out _ _ HT.out).mono ?_
                rintro e z1 ⟨rfl, hk⟩
                replace HT := hid hk
                clear hk HRC
                go_wp2_with fail
                have ha := HT.out.put2 #[.bool false, .int .i64 0, .int .i64 0, .int .i64 0] 45
                generalize z1.heap.size = ab at ha ⊢
                generalize z1.alloc (.cells #[.bool false, .int .i64 0, .int .i64 0, .int .i64 0] 45) = vab at ha ⊢
                replace HT := hid ha
                clear ha
                obtain ⟨d0, d1, d2, d3⟩ := HT.out.c4 (x := ab) (t := 45) (List.mem_cons_of_mem _ (List.mem_cons_self ..))
                obtain ⟨g0, g1⟩ := HT.out.c2 (x := fb) (t := 34) (List.mem_cons_of_mem _ (List.mem_cons_of_mem _ (List.mem_cons_self ..)))
                go_wp2_with fail
                refine (num_any _ _).mono ?_
                rintro e wx ⟨rfl, hw⟩; obtain rfl := hw.symm
                go_wp2
                go_meet
                case rel => exact ⟨a, b, _, _, rfl, rfl, hid ⟨HT.out.perm (by simp), HOK.out, HFH.out, HN.out, HLN.out, by have := HAB.out; omega⟩⟩
          by_cases k3 : k = 3
          · have kt : (k == 3) = true := by simp [k3]
            have kf1 : (k == 1) = false := by simp [k1]
            have kf2 : (k == 2) = false := by simp [k2]
            clear k1 k2 k3
            as_aux_lemma =>
              go_wp2_with fail
              clear c0 c1 c2 c3 c4
              have HN2 := hid (leM_L.2.trans HN.out : (leM M t).n = room)
              have HLN2 := hid (show ((leM M t).L.length : Int) = a - b by rw [leM_L.1]; exact HLN.out)
              have HOK2 := hid (HOK.out.le t)
              by_cases hE : leE M t = 0
              · obtain ⟨ht, hf⟩ := once_le hE HFH.out
                have HS := hid (HT.out.leave t HU.out (E := 0) (M' := leM M t) hE rfl)
                clear HT HOK HN HLN
                have HN := HN2
                have HLN := HLN2
                have HOK := HOK2
                clear HN2 HLN2 HOK2
                replace HAB := hid (show 0 ≤ b ∧ b ≤ (i : Int) + 1 ∧ 0 ≤ a ∧ a ≤ (i : Int) + 1 by have := HAB.out; omega)
                replace HFH := hid hf
                clear hf hE
                generalize leM M t = M1 at HS HOK HFH HN HLN
                obtain ⟨n, rfl⟩ : ∃ n : Nat, t = n := ⟨t.toNat, by omega⟩
                have hn0 : (0 : Int) ≤ n := by omega
                have hn1 : (n : Int) < 16 := ht.2
                have HNT := hid ht
                clear ht
                refine HS.out.mono ?_
                rintro e z1 ⟨rfl, hk⟩
                have HT := hid hk
                clear hk HS
                go_wp2_with fail
                refine (num_any _ _).mono ?_
                rintro e wx ⟨rfl, hw⟩; obtain rfl := hw.symm
                have hfz : z1.frozen? ⟨hb, n, none⟩ = false := HT.out.free (x := (hb, hbc H, 43)) (List.mem_cons_self ..) n
                have hcl := HT.out.held (hb := hb) (H := H) (List.mem_cons_self ..) HNT.out
                rw [Int.toNat_natCast] at hcl
                have hst := HT.out.hold (by simp) HNT.out false
                rw [Int.toNat_natCast] at hst HFH
                have HST := hid hst
                clear hst
                obtain ⟨e0, e1, e2, e3, e4⟩ := HT.out.c5 (x := xb) (t := 36) (List.mem_cons_of_mem _ (List.mem_cons_self ..))
                go_wp2_with fail
                replace HT := HST
                clear HST hfz hcl e0 e1 e2 e3 e4
                go_wp2
                go_meet
                case rel => exact ⟨a, b, _, _, rfl, rfl, hid ⟨HT.out.perm (by simp), HOK.out, HFH.out, HN.out, HLN.out, by have := HAB.out; omega⟩⟩
              · have hz : (leE M t == 0) = false := by simp [hE]
                replace HFH := hid (le_fh (t := t) HFH.out)
                have HS := hid (HT.out.leave t HU.out (E := leE M t) (M' := leM M t) rfl rfl)
                clear HT HOK HN HLN
                have HN := HN2
                have HLN := HLN2
                have HOK := HOK2
                clear HN2 HLN2 HOK2
                replace HAB := hid (show 0 ≤ b ∧ b ≤ (i : Int) + 1 ∧ 0 ≤ a ∧ a ≤ (i : Int) + 1 by have := HAB.out; omega)
                generalize leM M t = M1 at HS HOK HFH HN HLN
                generalize leE M t = E at HS hz
                clear hE
                refine HS.out.mono ?_
                rintro e z1 ⟨rfl, hk⟩
                have HT := hid hk
                clear hk HS
                go_wp2_with fail
                refine (num_any _ _).mono ?_
                rintro e wx ⟨rfl, hw⟩; obtain rfl := hw.symm
                go_wp2
                go_meet
                case rel => exact ⟨a, b, _, _, rfl, rfl, hid ⟨HT.out.perm (by simp), HOK.out, HFH.out, HN.out, HLN.out, by have := HAB.out; omega⟩⟩
          by_cases k4 : k = 4
          · have kt : (k == 4) = true := by simp [k4]
            have kf1 : (k == 1) = false := by simp [k1]
            have kf2 : (k == 2) = false := by simp [k2]
            have kf3 : (k == 3) = false := by simp [k3]
            clear k1 k2 k3 k4
            as_aux_lemma =>
              go_wp2_with fail
              clear c0 c1 c2 c3 c4
              have HS := hid (HT.out.change t p HU.out (E := chE M t p) (M' := chM M t p) rfl rfl)
              replace HOK := hid (HOK.out.ch t p)
              replace HFH := hid (ch_fh (t := t) (p := p) HFH.out)
              replace HN := hid (chM_L.2.trans HN.out : (chM M t p).n = room)
              replace HLN := hid (show ((chM M t p).L.length : Int) = a - b by rw [chM_L.1]; exact HLN.out)
              replace HAB := hid (show 0 ≤ b ∧ b ≤ (i : Int) + 1 ∧ 0 ≤ a ∧ a ≤ (i : Int) + 1 by have := HAB.out; omega)
              clear HT
              generalize chM M t p = M1 at HS HOK HFH HN HLN
              generalize chE M t p = E at HS
              refine HS.out.mono ?_
              rintro e z1 ⟨rfl, hk⟩
              have HT := hid hk
              clear hk HS
              go_wp2
              go_meet
              case rel => exact ⟨a, b, _, _, rfl, rfl, hid ⟨HT.out.perm (by simp), HOK.out, HFH.out, HN.out, HLN.out, by have := HAB.out; omega⟩⟩
          have kf1 : (k == 1) = false := by simp [k1]
          have kf2 : (k == 2) = false := by simp [k2]
          have kf3 : (k == 3) = false := by simp [k3]
          have kf4 : (k == 4) = false := by simp [k4]
          as_aux_lemma =>
            go_wp2_with fail
            clear c0 c1 c2 c3 c4
            replace HAB := hid (show 0 ≤ b ∧ b ≤ (i : Int) + 1 ∧ 0 ≤ a ∧ a ≤ (i : Int) + 1 by have := HAB.out; omega)
            go_wp2
            go_meet
            case rel => exact ⟨a, b, _, _, rfl, rfl, hid ⟨HT.out.perm (by simp), HOK.out, HFH.out, HN.out, HLN.out, by have := HAB.out; omega⟩⟩
        case rest => as_aux_lemma =>
          clear c0 c1 c2 c3 c4 HT HOK HFH HN HLN HAB
          obtain ⟨a2, b2, M2, H2, rfl, rfl, hT⟩ := hcut
          have HT := hid hT.out.kq
          have HOK := hid hT.out.ok
          have HFH := hid hT.out.fh
          have HN := hid hT.out.n
          have HLN := hid hT.out.len
          have HAB := hid hT.out.ab
          clear hT
          obtain ⟨l, hl⟩ : ∃ l, M2.L.length = l := ⟨_, rfl⟩
          have hlm : (l : Int) ≤ room := by have := HOK.out.len; rw [hl, HN.out] at this; exact this
          have hsub : IntKind.i64.wrap (a2 - b2) = (l : Int) := by
            have := HLN.out
            rw [hl] at this
            rw [← this]
            exact IntWalk.i64_in _ ⟨by omega, by have := HRM.out; omega⟩
          have HRR := hid (fun h : 0 < l => HOK.out.noR (fun e => by rw [e] at hl; simp at hl; omega))
          have HSS := hid (fun h : (l : Int) < room => HOK.out.noS (by rw [hl, HN.out]; exact h))
          have HLL := hid hl
          have hnr : ¬ room < (l : Int) := by omega
          clear hl hlm
          by_cases hl0 : l = 0
          · subst hl0
            have hr1 : ((0 : Nat) : Int) < room := by have := HRM.out; omega
            have hr2 : (0 : Int) < room := by have := HRM.out; omega
            have hsub0 : IntKind.i64.wrap (a2 - b2) = 0 := hsub
            have hnr0 : ¬ room < 0 := by omega
            clear hsub hnr
            go_wp2_with fail
            refine (HT.out.len (n := 0) (by rw [HLL.out]; rfl)).mono ?_
            rintro e _ ⟨rfl, hk⟩
            replace HT := hid hk
            clear hk
            go_wp2_with fail
            refine (HT.out.len (n := 0) (by rw [HLL.out]; rfl)).mono ?_
            rintro e _ ⟨rfl, hk⟩
            replace HT := hid hk
            clear hk
            go_wp2_with fail
            refine (HT.out.len (n := 0) (by rw [HLL.out]; rfl)).mono ?_
            rintro e _ ⟨rfl, hk⟩
            replace HT := hid hk
            clear hk
            go_wp2_with fail
            refine (HT.out.len (n := 0) (by rw [HLL.out]; rfl)).mono ?_
            rintro e _ ⟨rfl, hk⟩
            replace HT := hid hk
            clear hk
            go_wp2_with fail
            refine (HT.out.snds (HSS.out (by omega))).mono ?_
            rintro e _ ⟨ao, cap, rfl, hk⟩
            replace HT := hid hk
            clear hk
            go_wp2
            go_roundw
            case rel => exact ⟨i + 1, a2, b2, by have := HLI.out; omega, by simp, rfl, rfl, hid ⟨_, _, ⟨HT.out.perm (by simp), HOK.out, HFH.out, HN.out, HLN.out, by have := HAB.out; omega⟩⟩⟩
            case measure => simp [intOf]; have := HLI.out; omega
          · have h1 : (0 : Int) < l := by omega
            have hnq : ((l : Int) != l) = false := by simp
            by_cases h2 : (l : Int) < room
            · go_wp2_with fail
              refine (HT.out.len (n := l) (by rw [HLL.out])).mono ?_
              rintro e _ ⟨rfl, hk⟩
              replace HT := hid hk
              clear hk
              go_wp2_with fail
              refine (HT.out.len (n := l) (by rw [HLL.out])).mono ?_
              rintro e _ ⟨rfl, hk⟩
              replace HT := hid hk
              clear hk
              go_wp2_with fail
              refine (HT.out.len (n := l) (by rw [HLL.out])).mono ?_
              rintro e _ ⟨rfl, hk⟩
              replace HT := hid hk
              clear hk
              go_wp2_with fail
              refine (HT.out.rcvs (HRR.out (by omega))).mono ?_
              rintro e _ ⟨ao, cap, rfl, hk⟩
              replace HT := hid hk
              clear hk
              go_wp2_with fail
              refine (HT.out.len (n := l) (by rw [HLL.out])).mono ?_
              rintro e _ ⟨rfl, hk⟩
              replace HT := hid hk
              clear hk
              go_wp2_with fail
              refine (HT.out.snds (HSS.out (by omega))).mono ?_
              rintro e _ ⟨ao, cap, rfl, hk⟩
              replace HT := hid hk
              clear hk
              go_wp2
              go_roundw
              case rel => exact ⟨i + 1, a2, b2, by have := HLI.out; omega, by simp, rfl, rfl, hid ⟨_, _, ⟨HT.out.perm (by simp), HOK.out, HFH.out, HN.out, HLN.out, by have := HAB.out; omega⟩⟩⟩
              case measure => simp [intOf]; have := HLI.out; omega
            · go_wp2_with fail
              refine (HT.out.len (n := l) (by rw [HLL.out])).mono ?_
              rintro e _ ⟨rfl, hk⟩
              replace HT := hid hk
              clear hk
              go_wp2_with fail
              refine (HT.out.len (n := l) (by rw [HLL.out])).mono ?_
              rintro e _ ⟨rfl, hk⟩
              replace HT := hid hk
              clear hk
              go_wp2_with fail
              refine (HT.out.len (n := l) (by rw [HLL.out])).mono ?_
              rintro e _ ⟨rfl, hk⟩
              replace HT := hid hk
              clear hk
              go_wp2_with fail
              refine (HT.out.rcvs (HRR.out (by omega))).mono ?_
              rintro e _ ⟨ao, cap, rfl, hk⟩
              replace HT := hid hk
              clear hk
              go_wp2_with fail
              refine (HT.out.len (n := l) (by rw [HLL.out])).mono ?_
              rintro e _ ⟨rfl, hk⟩
              replace HT := hid hk
              clear hk
              go_wp2
              go_roundw
              case rel => exact ⟨i + 1, a2, b2, by have := HLI.out; omega, by simp, rfl, rfl, hid ⟨_, _, ⟨HT.out.perm (by simp), HOK.out, HFH.out, HN.out, HLN.out, by have := HAB.out; omega⟩⟩⟩
              case measure => simp [intOf]; have := HLI.out; omega
      · have hx : ¬ (i : Int) < N ∨ ((i : Int) < N ∧ ¬ (i : Int) < 200) := by omega
        clear hin
        have K6 := hid (show Kp w wr [] by obtain ⟨M, H, h⟩ := hT.out; exact h.kq.kp)
        clear hT
        rcases hx with h1 | ⟨h1, h2⟩
        all_goals go_wp2
        all_goals go_ret
        all_goals exact ⟨rfl, K6.out⟩
  · have HN := hid hn
    clear hn
    go_wp2_with fail
    refine (new_bad w1 room HN.out).mono ?_
    rintro e w2 ⟨rfl, k2⟩
    have K2 := hid (K1.out.trans k2)
    clear k2 K1
    go_wp2_with fail
    refine (num_any _ _).mono ?_
    rintro e _ ⟨rfl, rfl⟩
    go_wp2
    go_ret
    exact ⟨rfl, K2.out⟩
end Go.Proofs.Ytllkopekfanfaaa
