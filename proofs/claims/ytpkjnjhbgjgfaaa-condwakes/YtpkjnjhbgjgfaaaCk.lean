/- wake, Signal, Broadcast. -/
import Derived.Test.YtpkjnjhbgjgfaaaCw
namespace Go.Proofs.Ytpkjnjhbgjgfaaa
open Go.RowKit Go.Shelf Go.Lib Go.Sort Go.Maps
attribute [local go_sem] Oper.semAt_some

variable {w w' : World} {cb : Nat} {R : List Nat} {m : Int} {L : List Dl}
set_option maxRecDepth 100000 in
/-- Take: no new block. -/
theorem take_cut (w : World) (wb : Nat) (R : List Nat) (L : List Dl) (h : Wr w wb R L) : Calls Try.prog 44 #[.pointer (some ⟨wb, 0, none⟩)] w fun e w' => e = .returned (.tuple #[.int .i64 (fstT L), .bool (fstB L)]) ∧ ∃ R', Wr w' wb R' (takeL L) ∧ (∀ k ∈ R', k ∈ R) ∧ Kp w w' R := by
  obtain ⟨pb, V, rfl, h⟩ := h
  have H := hid h
  have HF := hid (first_any w _ L h.vw)
  have HH := hid (fst_has h.ok)
  unfold takeL
  obtain ⟨t, ht⟩ : ∃ t, fstT L = t := ⟨_, rfl⟩
  rw [ht] at HF HH ⊢
  clear h ht
  cases hB : fstB L with
  | false =>
    rw [hB] at HF
    clear hB HH
    simp only [Bool.false_eq_true, if_false]
    go_enter Try.func44, Try.ntmps44
    go_wp2_with fail
    refine HF.out.mono ?_
    rintro e w1 ⟨rfl, hk⟩
    have HK := hid hk
    clear hk
    go_wp2
    go_ret2
    exact ⟨rfl, _, ⟨pb, V, rfl, H.out.same HK.out⟩, fun _ h => h, HK.out.nil⟩
  | true =>
    rw [hB] at HF
    have HB := hid (HH.out hB)
    clear hB HH
    simp only [if_true]
    go_enter Try.func44, Try.ntmps44
    go_wp2_with fail
    refine HF.out.mono ?_
    rintro e w1 ⟨rfl, hk⟩
    have HK := hid hk
    clear hk
    go_wp2_with fail
    refine (drop_any w1 wb pb V L t (H.out.same HK.out) HB.out).mono ?_
    rintro e w2 ⟨rfl, V', hW, hV, hk2⟩
    have T2 := hid (show ∃ R', Wr w2 wb R' (delP L t) ∧ (∀ k ∈ R', k ∈ rows wb pb V) ∧ Kp w w2 (rows wb pb V) from ⟨_, ⟨pb, V', rfl, hW⟩, fun k hk => by
      simp only [rows, List.mem_cons, Option.mem_toList] at hk ⊢
      rcases hk with e | e | e
      · exact .inl e
      · exact .inr (.inl e)
      · exact .inr (.inr (hV k e)), HK.out.nil.trans hk2⟩)
    clear hW hV hk2
    go_wp2
    go_ret2
    exact ⟨rfl, T2.out⟩
set_option maxRecDepth 100000 in
theorem ztake (w : World) : Calls Try.prog 44 #[.pointer none] w fun e w' => e = .returned (.tuple #[.int .i64 0, .bool false]) ∧ Kp w w' [] := by
  have HF := hid (first_any w none [] (z_none w).vw)
  rw [fst_nil.1, fst_nil.2] at HF
  go_enter Try.func44, Try.ntmps44
  go_wp2_with fail
  refine HF.out.mono ?_
  rintro e w1 ⟨rfl, hk⟩
  have HK := hid hk
  clear hk
  go_wp2
  go_ret2
  exact ⟨rfl, HK.out⟩
/-- What a call leaves that tells numbers: the condition, and they lie apart. -/
def Tl (w w' : World) (cb : Nat) (R : List Nat) (m : Int) (L : List Dl) (x : Value) (l : List Int) : Prop := Ns w' w.heap.size x l ∧ ∃ R', Cm w' cb R' m L ∧ (∀ k ∈ R', k ∈ R) ∧ Kp w w' R
theorem Tl.to {x : Value} {l : List Int} (h : Tl w w' cb R m L x l) : To w w' cb R m L := by
  obtain ⟨-, R', h1, h2, h3⟩ := h
  exact ⟨R', h1, fun k hk => .inl (h2 k hk), h3⟩
/-- Waking, under way. -/
def Wg (w : World) (cb : Nat) (R : List Nat) (m : Int) (L : List Dl) (n : Nat) (v : Value) (i : Nat) (W : World) : Prop := i ≤ n ∧ ((ordL L).take i).length = i ∧ Ns W w.heap.size v (((ordL L).take i).map (·.1)) ∧ ∃ R1, Cm W cb R1 m (takeN i L) ∧ (∀ k ∈ R1, k ∈ R) ∧ Kp w W R
def lenV : Value → Nat
  | .slice _ n _ => n
  | _ => 0
theorem Wg.start {n : Nat} (h : Cm w cb R m L) : Wg w cb R m L n (.slice none 0 0) 0 w := ⟨Nat.zero_le _, by simp, Ns.nil _ _, R, h, fun _ h => h, Kp.refl _ _⟩
/-- One more. -/
theorem Wg.on {n i cap : Nat} {ao : Option Addr} {W z3 z4 : World} {R3 : List Nat} {y : Value} (hok : okL L) (hR : ∀ k ∈ R, k < w.heap.size) (hin : i < n) (hb : fstB (takeN i L) = true) (hns : Ns W w.heap.size (.slice ao i cap) (((ordL L).take i).map (·.1)))
    (hkW : Kp w z3 R) (hc : Cm z3 cb R3 m (takeL (takeN i L))) (hr3 : ∀ k ∈ R3, k ∈ R) (hy : Ns z4 w.heap.size y (((ordL L).take i).map (·.1) ++ [fstT (takeN i L)])) (hk4 : Kp z3 z4 (Value.slice ao i cap).ownBlock.toList) : Wg w cb R m L n y (i + 1) z4 := by
  obtain ⟨e1, e2⟩ := takeN_fst hok i hb
  have h4 : Cm z4 cb R3 m (takeL (takeN i L)) := hc.keep hk4 (fun k hm hx => by
    simp only [Option.mem_toList] at hx
    have := (owns_block hns hx).1
    have := hR k (hr3 k hm)
    omega)
  refine ⟨hin, by rw [List.length_take, ord_len hok]; omega, by rw [e1]; exact hy, R3, by rw [takeN_step]; exact h4, hr3, hkW.past hk4 (fun k hm hl => ?_)⟩
  simp only [Option.mem_toList] at hm
  have := (owns_block hns hm).1
  omega
/-- No more. -/
theorem Wg.stop {n i : Nat} {v : Value} {W W' : World} (hok : okL L) (h : Wg w cb R m L n v i W) (hk : Kp W W' []) (hb : fstB (takeN i L) = false ∨ i = n) : Tl w W' cb R m (takeN n L) v (((ordL L).take n).map (·.1)) := by
  obtain ⟨h1, -, h2, R1, h3, h4, h5⟩ := h
  rcases hb with hb | rfl
  · obtain ⟨e1, e2⟩ := takeN_none hok i n hb h1
    rw [← e1, ← e2]
    exact ⟨h2.keep hk, R1, h3.same hk, h4, h5.trans hk.nil⟩
  · exact ⟨h2.keep hk, R1, h3.same hk, h4, h5.trans hk.nil⟩
set_option maxRecDepth 100000 in
set_option maxHeartbeats 1000000 in
/-- wake: so many, in the order. -/
theorem wake_any (w : World) (cb : Nat) (R : List Nat) (m : Int) (L : List Dl) (n : Nat) (hn : n ≤ 16) (h : Cm w cb R m L) : Calls Try.prog 43 #[.pointer (some ⟨cb, 0, none⟩), .int .i64 n, .func (.func 44) #[] #[]] w fun e w' => ∃ v, e = .returned v ∧ Tl w w' cb R m (takeN n L) v (((ordL L).take n).map (·.1)) := by
  have HOK := hid h.ok
  have HR := hid h.lt
  have HS := hid (Wg.start (n := n) h)
  clear h
  go_enter Try.func43, Try.ntmps43
  go_wp2
  go_step3
  go_wp2
  go_step3
  go_wp2
  go_loopw [7] (fun v W => ∃ i cap ao, v = .slice ao i cap ∧ Hid (Wg w cb R m L n v i W)) (fun v _ => n - lenV v)
  case atStart => exact ⟨0, 0, none, rfl, HS.out⟩
  case round =>
    obtain ⟨i, cap, ao, rfl, hW⟩ := hrel
    clear HS
    by_cases hin : i < n
    · have hlt : (i : Int) < n := by omega
      obtain ⟨-, hl, hns, R1, hc, hr, hk⟩ := hW.out
      have HC := hid (And.intro hc (And.intro hr hk))
      have HNS := hid (And.intro hns hl)
      obtain ⟨wb, R0, rfl, hb, hw⟩ := hc
      have HQ := hid (now_yes wr cb _ m hb)
      have hfd := fieldAt (some ⟨wb, 0, none⟩) m
      have HT := hid (fun z (hz : Kp wr z []) => take_cut z wb R0 (takeN i L) (hw.same hz))
      have HX := hid (fun (z w' : World) (hz : Kp wr z []) (R2 : List Nat) (h1 : Wr w' wb R2 (takeL (takeN i L))) (hn : ∀ k ∈ R2, k ∈ R0) (hk2 : Kp z w' R0) => (show Cm w' cb (cb :: R2) m (takeL (takeN i L)) ∧ (∀ k ∈ cb :: R2, k ∈ R) ∧ Kp w w' R ∧ Ns w' w.heap.size (.slice ao i cap) (((ordL L).take i).map (·.1)) from
        ⟨⟨wb, R2, rfl, (hk2.block cb (Nat.lt_of_lt_of_le (lt_of_block hb) hz.size) (fun hm => hw.not53 cb hm _ hb)).trans ((hz.block cb (lt_of_block hb) (by simp)).trans hb), h1⟩, fun k hm => by
          rcases List.mem_cons.1 hm with rfl | hm
          · exact hr _ (by simp)
          · exact hr k (by simp [hn k hm]), (hk.trans hz.nil).past hk2 (fun k hm _ => hr k (by simp [hm])), hns.kp (hz.nil.trans hk2) (fun g hg hm => by
          have := (owns_block hns hg).1
          have := HR.out g (hr g (by simp [hm]))
          omega)⟩))
      clear hr hk hb hw hl hns
      cases hB : fstB (takeN i L) with
      | false =>
        have HB := hid hB
        rw [hB] at HT
        clear hB
        go_wp2_with fail
        refine HQ.out.mono ?_
        rintro e z1 ⟨rfl, hz⟩
        have HZ := hid hz
        clear hz
        go_wp2_with fail
        refine (HT.out z1 HZ.out).mono ?_
        rintro e z2 ⟨rfl, R2, h1, hn2, hk2⟩
        have X := hid (HX.out z1 z2 HZ.out R2 h1 hn2 hk2)
        clear h1 hn2 hk2
        have e2 := takeN_none HOK.out i n HB.out (Nat.le_of_lt hin)
        have e3 : takeL (takeN i L) = takeN i L := by unfold takeL; rw [HB.out]; rfl
        have F := hid (show Tl w z2 cb R m (takeN n L) (.slice ao i cap) (((ordL L).take n).map (·.1)) from by
          rw [← e2.1, ← e2.2]
          obtain ⟨x1, x2, x3, x4⟩ := X.out
          rw [e3] at x1
          exact ⟨x4, _, x1, x2, x3⟩)
        clear e2 e3
        go_wp2
        rw [Exit.noGoto_ret]
        go_ret
        exact ⟨_, rfl, F.out⟩
      | true =>
        have HB := hid hB
        rw [hB] at HT
        clear hB
        go_wp2_with fail
        refine HQ.out.mono ?_
        rintro e z1 ⟨rfl, hz⟩
        have HZ := hid hz
        clear hz
        go_wp2_with fail
        refine (HT.out z1 HZ.out).mono ?_
        rintro e z2 ⟨rfl, R2, h1, hn2, hk2⟩
        have X := hid (HX.out z1 z2 HZ.out R2 h1 hn2 hk2)
        clear h1 hn2 hk2
        obtain ⟨ft, hft⟩ : ∃ ft, fstT (takeN i L) = ft := ⟨_, rfl⟩
        have HFT := hid hft
        rw [hft]
        clear hft
        obtain ⟨l, hl⟩ : ∃ l, ((ordL L).take i).map (·.1) = l := ⟨_, rfl⟩
        have HLL := hid hl
        have hlen : l.length ≤ 100000 := by rw [← hl, List.length_map, HNS.out.2]; omega
        have ka := Kp.alloc z2 (.cells #[.int .i64 ft] 3) []
        have NX := hid (show Ns (z2.alloc (.cells #[.int .i64 ft] 3)) w.heap.size (.slice ao i cap) l from by rw [← hl]; exact X.out.2.2.2.keep ka)
        have HC4 := hid (show (z2.alloc (.cells #[.int .i64 ft] 3)).cell? ⟨z2.heap.size, 0, none⟩ = some (.int .i64 ft) from by simp)
        have HB4 := hid (show w.heap.size ≤ (z2.alloc (.cells #[.int .i64 ft] 3)).heap.size from Nat.le_trans X.out.2.2.1.size ka.size)
        have hli : (l ++ [ft]).length = i + 1 := by rw [List.length_append, ← hl, List.length_map, HNS.out.2]; rfl
        have HLI := hid hli
        have ON := hid (fun (w9 : World) (y : Value) (h1 : Ns w9 w.heap.size y (l ++ [ft])) (h2 : Kp (z2.alloc (.cells #[.int .i64 ft] 3)) w9 (Value.slice ao i cap).ownBlock.toList) => (show Wg w cb R m L n y (i + 1) w9 from
          Wg.on HOK.out HR.out hin HB.out (by have := NX.out; rw [← HLL.out] at this; exact this) (X.out.2.2.1.trans ka.nil) (X.out.1.same ka) X.out.2.1 (by rw [HLL.out, HFT.out]; exact h1) h2))
        clear ka hl hli
        go_wp2_with (refine wpList_pushI rfl (.tmp 24) (.tmp 26) rfl w.heap.size (.slice ao i cap) l ft _ rfl NX.out rfl HC4.out hlen HB4.out ?_; intro y w9 h1 h2; have hs := h1.slice; obtain ⟨ao', cap', hy⟩ := hs; rw [HLI.out] at hy; subst hy; have L9 := hid (ON.out w9 _ h1 (Kp.ofGrown (rows := (Value.slice ao i cap).ownBlock.toList) h2 (by intro g hg; have hg' : (Value.slice ao i cap).ownBlock = some g := hg; simp [hg']))); clear h1 h2)
        go_roundw
        case rel => exact ⟨i + 1, cap', ao', rfl, L9.out⟩
        case measure => simp [lenV]; omega
    · have hlt : ¬ (i : Int) < n := by omega
      have : i = n := by have := hW.out.1; omega
      subst this
      have F := hid (hW.out.stop HOK.out (Kp.refl _ _) (.inr rfl))
      go_wp2
      go_ret
      exact ⟨_, rfl, F.out⟩
set_option maxRecDepth 100000 in
/-- wake, of none. -/
theorem wake_no (w : World) (p : Option Addr) (n : Nat) (hn : 0 < n) (h : Zc w p) : Calls Try.prog 43 #[.pointer p, .int .i64 n, .func (.func 44) #[] #[]] w fun e w' => e = .returned (.slice none 0 0) ∧ Kp w w' [] := by
  have HQ := hid (now_zero w p h)
  have hfd := fieldAt none 0
  clear h
  go_enter Try.func43, Try.ntmps43
  go_wp2
  go_step3
  go_wp2
  go_step3
  go_wp2
  go_loopw [7] (fun v W => v = .slice none 0 0 ∧ W = w) (fun _ _ => 0)
  case atStart => exact ⟨rfl, rfl⟩
  case round =>
    obtain ⟨rfl, hw⟩ := hrel
    obtain rfl := hw.symm
    have hlt : (0 : Int) < n := by omega
    go_wp2_with fail
    refine HQ.out.mono ?_
    rintro e z1 ⟨rfl, hz⟩
    have HZ := hid hz
    clear hz
    go_wp2_with fail
    refine (ztake z1).mono ?_
    rintro e z2 ⟨rfl, hk⟩
    have K2 := hid (HZ.out.trans hk)
    clear hk
    go_wp2
    rw [Exit.noGoto_ret]
    go_ret
    exact ⟨rfl, K2.out⟩
theorem sig_list (hok : okL L) : ((ordL L).take 1).map (·.1) = if fstB L then [fstT L] else [] := by
  cases hB : fstB L
  · have := (takeN_none hok 0 1 hB (by omega)).1
    rw [← this]
    simp
  · have := (takeN_fst hok 0 hB).1
    rw [this]
    simp [takeN]
set_option maxRecDepth 100000 in
/-- Signal. -/
theorem csignal (w : World) (cb : Nat) (R : List Nat) (m : Int) (L : List Dl) (h : Cm w cb R m L) : Calls Try.prog 20 #[.pointer (some ⟨cb, 0, none⟩)] w fun e w' => e = .returned (.tuple #[.int .i64 (fstT L), .bool (fstB L)]) ∧ To w w' cb R m (takeL L) := by
  have HW := hid (wake_any w cb R m L 1 (by decide) h)
  have hs := sig_list h.ok
  have hz := fst_no h.ok
  clear h
  cases hB : fstB L
  · rw [hB, if_neg (by simp)] at hs
    have h0 := hz hB
    rw [hs] at HW
    rw [h0, fst_nil.1]
    rw [h0] at HW
    clear hs hz hB h0
    go_enter Try.func20, Try.ntmps20
    go_wp2_with fail
    refine HW.out.mono ?_
    rintro e z1 ⟨v, rfl, hT⟩
    obtain ⟨ao, cap, rfl⟩ := hT.1.slice
    have T := hid hT.to
    clear hT
    rw [List.length_nil]
    go_wp2
    go_loopw [9] (fun v W => v = .int .i64 0 ∧ W = z1) (fun _ _ => 0)
    case atStart => exact ⟨rfl, rfl⟩
    case round =>
      obtain ⟨rfl, hw⟩ := hrel
      obtain rfl := hw.symm
      go_wp2
      go_ret2
      exact ⟨rfl, T.out⟩
  · rw [hB, if_pos rfl] at hs
    rw [hs] at HW
    obtain ⟨ft, hft⟩ : ∃ ft, fstT L = ft := ⟨_, rfl⟩
    rw [hft] at HW ⊢
    clear hs hz hB hft
    go_enter Try.func20, Try.ntmps20
    go_wp2_with fail
    refine HW.out.mono ?_
    rintro e z1 ⟨v, rfl, hT⟩
    obtain ⟨ao, cap, rfl⟩ := hT.1.slice
    obtain ⟨g, rfl, c0, -⟩ := hT.1.at (k := 0) (by simp) (x := ft) (by simp)
    have T := hid hT.to
    clear hT
    rw [show [ft].length = 1 from rfl]
    go_wp2
    go_loopw [9] (fun v W => v = .int .i64 0 ∧ W = z1) (fun _ _ => 0)
    case atStart => exact ⟨rfl, rfl⟩
    case round =>
      obtain ⟨rfl, hw⟩ := hrel
      obtain rfl := hw.symm
      go_wp2
      go_ret2
      exact ⟨rfl, T.out⟩
set_option maxRecDepth 100000 in
theorem csignal_no (w : World) (p : Option Addr) (h : Zc w p) : Calls Try.prog 20 #[.pointer p] w fun e w' => e = .returned (.tuple #[.int .i64 0, .bool false]) ∧ Kp w w' [] := by
  have HW := hid (wake_no w p 1 (by decide) h)
  clear h
  go_enter Try.func20, Try.ntmps20
  go_wp2_with fail
  refine HW.out.mono ?_
  rintro e z1 ⟨rfl, hk⟩
  have K := hid hk
  clear hk
  go_wp2
  go_loopw [9] (fun v W => v = .int .i64 0 ∧ W = z1) (fun _ _ => 0)
  case atStart => exact ⟨rfl, rfl⟩
  case round =>
    obtain ⟨rfl, hw⟩ := hrel
    obtain rfl := hw.symm
    go_wp2
    go_ret2
    exact ⟨rfl, K.out⟩
set_option maxRecDepth 100000 in
/-- Broadcast. -/
theorem cbroad (w : World) (cb : Nat) (R : List Nat) (m : Int) (L : List Dl) (h : Cm w cb R m L) : Calls Try.prog 21 #[.pointer (some ⟨cb, 0, none⟩)] w fun e w' => ∃ x, e = .returned x ∧ Tl w w' cb R m [] x ((ordL L).map (·.1)) := by
  have HW := hid (wake_any w cb R m L 16 (by decide) h)
  rw [take_all h.ok, takeN_all h.ok] at HW
  clear h
  go_enter Try.func21, Try.ntmps21
  go_wp2_with fail
  refine HW.out.mono ?_
  rintro e z1 ⟨v, rfl, hT⟩
  have T := hid hT
  clear hT
  go_wp2
  go_ret
  exact ⟨_, rfl, T.out⟩
set_option maxRecDepth 100000 in
theorem cbroad_no (w : World) (p : Option Addr) (h : Zc w p) : Calls Try.prog 21 #[.pointer p] w fun e w' => e = .returned (.slice none 0 0) ∧ Kp w w' [] := by
  have HW := hid (wake_no w p 16 (by decide) h)
  clear h
  go_enter Try.func21, Try.ntmps21
  go_wp2_with fail
  refine HW.out.mono ?_
  rintro e z1 ⟨rfl, hk⟩
  have K := hid hk
  clear hk
  go_wp2
  go_ret
  exact ⟨rfl, K.out⟩
end Go.Proofs.Ytpkjnjhbgjgfaaa
