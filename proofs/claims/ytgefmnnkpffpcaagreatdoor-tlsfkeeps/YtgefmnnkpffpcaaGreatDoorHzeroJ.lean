/- What every method answers where there is no heap. -/
import Derived.Test.YtgefmnnkpffpcaaGreatDoorHlawb
import Derived.Deep.LoopGhost
namespace Go.Proofs.YtgefmnnkpffpcaaGreatDoor
open Go.RowKit Go.Maps Go.Shelf

/-- No heap: nil, or a heap over no arena. -/
def Zh (w : World) (p : Option Addr) : Prop := p = none ∨ ∃ b, p = some ⟨b, 0, none⟩ ∧ w.cell? ⟨b, 0, none⟩ = some (.pointer none)
theorem Zh.keep {w w' : World} {p : Option Addr} (h : Zh w p) (hk : Kp w w' []) : Zh w' p := by
  rcases h with rfl | ⟨b, rfl, hc⟩
  · exact .inl rfl
  · exact .inr ⟨b, rfl, hk.cell hc (by simp)⟩

set_option maxRecDepth 100000 in
theorem zero_yes (w : World) (p : Option Addr) (h : Zh w p) : Calls Tryz.prog 51 #[.pointer p] w fun e w' => e = .returned (.bool true) ∧ w' = w := by
  rcases h with rfl | ⟨b, rfl, hc⟩
  all_goals go_enter Tryz.func51, Tryz.ntmps51
  all_goals go_wp2
  all_goals go_ret
  all_goals exact ⟨rfl, rfl⟩

set_option maxRecDepth 100000 in
theorem zlen (w : World) (p : Option Addr) (h : Zh w p) : Calls Tryz.prog 23 #[.pointer p] w fun e w' => e = .returned (.int .i64 0) ∧ Kp w w' [] := by
  have z := hid h
  clear h
  go_enter Tryz.func23, Tryz.ntmps23
  go_wp2_with (go_at_call 51; refine (zero_yes _ p z.out).mono ?_; rintro e w1 ⟨rfl, rfl⟩)
  go_ret
  exact ⟨rfl, Kp.refl _ _⟩
set_option maxRecDepth 100000 in
theorem zarena (w : World) (p : Option Addr) (h : Zh w p) : Calls Tryz.prog 16 #[.pointer p] w fun e w' => e = .returned (.pointer none) ∧ Kp w w' [] := by
  have z := hid h
  clear h
  go_enter Tryz.func16, Tryz.ntmps16
  go_wp2_with (go_at_call 51; refine (zero_yes _ p z.out).mono ?_; rintro e w1 ⟨rfl, rfl⟩)
  go_ret
  exact ⟨rfl, Kp.refl _ _⟩
set_option maxRecDepth 100000 in
theorem zcopy (w : World) (p : Option Addr) (h : Zh w p) : Calls Tryz.prog 43 #[.pointer p] w fun e w' => e = .returned (.pointer none) ∧ Kp w w' [] := by
  have z := hid h
  clear h
  go_enter Tryz.func43, Tryz.ntmps43
  go_wp2_with (go_at_call 51; refine (zero_yes _ p z.out).mono ?_; rintro e w1 ⟨rfl, rfl⟩)
  go_ret
  exact ⟨rfl, Kp.refl _ _⟩
set_option maxRecDepth 100000 in
theorem zrefusal (w : World) (p : Option Addr) (f : Value) (h : Zh w p) : Calls Tryz.prog 46 #[.pointer p, f] w fun e w' => e = .returned (.int .i64 1) ∧ Kp w w' [] := by
  have z := hid h
  clear h
  go_enter Tryz.func46, Tryz.ntmps46
  go_wp2_with (go_at_call 51; refine (zero_yes _ p z.out).mono ?_; rintro e w1 ⟨rfl, rfl⟩)
  go_ret
  exact ⟨rfl, Kp.refl _ _⟩
set_option maxRecDepth 100000 in
theorem zblockOf (w : World) (p : Option Addr) (o : Int) (h : Zh w p) : Calls Tryz.prog 63 #[.pointer p, .int .i64 o] w fun e w' => e = .returned (.tuple #[.agg #[.int .i64 0, .int .i64 0], .int .i64 1]) ∧ Kp w w' [] := by
  have A1 := Kp.alloc w (.cells #[.int .i64 0, .int .i64 0] 87) []
  have z := hid (h.keep A1)
  have K := hid A1
  clear h A1
  go_enter Tryz.func63, Tryz.ntmps63
  go_wp2_with (go_at_call 51; refine (zero_yes _ p z.out).mono ?_; rintro e w1 ⟨rfl, rfl⟩)
  refine bodyPost_ret (v := .tuple #[.agg #[.int .i64 0, .int .i64 0], .int .i64 1]) (by simp [results, Tryz.results63, go_sem]) rfl ⟨rfl, K.out⟩
set_option maxRecDepth 100000 in
theorem zblocks (w : World) (p : Option Addr) (h : Zh w p) : Calls Tryz.prog 92 #[.pointer p] w fun e w' => e = .returned (.slice none 0 0) ∧ w' = w := by
  have z := hid h
  clear h
  go_enter Tryz.func92, Tryz.ntmps92
  go_wp2_with (go_at_call 51; refine (zero_yes _ p z.out).mono ?_; rintro e w1 ⟨rfl, rfl⟩)
  go_ret
  exact ⟨rfl, rfl⟩
set_option maxRecDepth 100000 in
theorem zalloc (w : World) (p : Option Addr) (m : Int) (h : Zh w p) : Calls Tryz.prog 18 #[.pointer p, .int .i64 m] w fun e w' => e = .returned (.tuple #[.int .i64 0, .int .i64 1]) ∧ Kp w w' [] := by
  have A1 := hid (Kp.alloc w (.cells #[.int .i64 m] 3) [])
  have z := hid (h.keep A1.out)
  clear h
  go_enter Tryz.func18, Tryz.ntmps18
  go_wp2_with fail
  refine (zrefusal _ p _ z.out).mono ?_
  rintro e w1 ⟨rfl, hK1⟩
  have K1 := hid (A1.out.trans hK1)
  clear hK1
  go_wp2
  go_ret2
  exact ⟨rfl, K1.out⟩
set_option maxRecDepth 100000 in
theorem zaligned (w : World) (p : Option Addr) (k m : Int) (h : Zh w p) : Calls Tryz.prog 19 #[.pointer p, .int .i64 k, .int .i64 m] w fun e w' => e = .returned (.tuple #[.int .i64 0, .int .i64 1]) ∧ Kp w w' [] := by
  have A1 := hid ((Kp.alloc w (.cells #[.int .i64 k] 3) []).trans (Kp.alloc _ (.cells #[.int .i64 m] 3) []))
  have z := hid (h.keep A1.out)
  clear h
  go_enter Tryz.func19, Tryz.ntmps19
  go_wp2_with fail
  refine (zrefusal _ p _ z.out).mono ?_
  rintro e w1 ⟨rfl, hK1⟩
  have K1 := hid (A1.out.trans hK1)
  clear hK1
  go_wp2
  go_ret2
  exact ⟨rfl, K1.out⟩
set_option maxRecDepth 100000 in
theorem zrealloc (w : World) (p : Option Addr) (k m : Int) (h : Zh w p) : Calls Tryz.prog 26 #[.pointer p, .int .i64 k, .int .i64 m] w fun e w' => e = .returned (.tuple #[.int .i64 0, .int .i64 1]) ∧ Kp w w' [] := by
  have A1 := hid (Kp.alloc w (.cells #[.int .i64 m] 3) [])
  have z := hid (h.keep A1.out)
  clear h
  go_enter Tryz.func26, Tryz.ntmps26
  go_wp2_with fail
  refine (zrefusal _ p _ z.out).mono ?_
  rintro e w1 ⟨rfl, hK1⟩
  have K1 := hid (A1.out.trans hK1)
  clear hK1
  go_wp2
  go_ret2
  exact ⟨rfl, K1.out⟩
set_option maxRecDepth 100000 in
theorem zget (w : World) (p : Option Addr) (o : Int) (h : Zh w p) : Calls Tryz.prog 12 #[.pointer p, .int .i64 o] w fun e w' => e = .returned (.tuple #[.int .u32 0, .int .i64 1]) ∧ Kp w w' [] := by
  have A1 := hid ((Kp.alloc w (.cells #[.pointer p] 23) []).trans (Kp.alloc _ (.cells #[.int .i64 o] 3) []))
  have z := hid (h.keep A1.out)
  clear h
  go_enter Tryz.func12, Tryz.ntmps12
  go_wp2_with fail
  refine (zrefusal _ p _ z.out).mono ?_
  rintro e w1 ⟨rfl, hK1⟩
  have K1 := hid (A1.out.trans hK1)
  clear hK1
  go_wp2
  go_ret2
  exact ⟨rfl, K1.out⟩
set_option maxRecDepth 100000 in
theorem zset (w : World) (p : Option Addr) (o x : Int) (h : Zh w p) : Calls Tryz.prog 27 #[.pointer p, .int .i64 o, .int .u32 x] w fun e w' => e = .returned (.int .i64 1) ∧ Kp w w' [] := by
  have A1 := hid ((Kp.alloc w (.cells #[.pointer p] 23) []).trans (Kp.alloc _ (.cells #[.int .i64 o] 3) []))
  have z := hid (h.keep A1.out)
  clear h
  go_enter Tryz.func27, Tryz.ntmps27
  go_wp2_with fail
  refine (zrefusal _ p _ z.out).mono ?_
  rintro e w1 ⟨rfl, hK1⟩
  have K1 := hid (A1.out.trans hK1)
  clear hK1
  go_wp2
  go_ret
  exact ⟨rfl, K1.out⟩
set_option maxRecDepth 100000 in
theorem zsize (w : World) (p : Option Addr) (o : Int) (h : Zh w p) : Calls Tryz.prog 30 #[.pointer p, .int .i64 o] w fun e w' => e = .returned (.tuple #[.int .i64 0, .int .i64 1]) ∧ Kp w w' [] := by
  go_enter Tryz.func30, Tryz.ntmps30
  go_wp2_with fail
  refine (zblockOf w p o h).mono ?_
  rintro e w1 ⟨rfl, hK1⟩
  go_wp2
  go_ret2
  exact ⟨rfl, hK1.trans (Kp.alloc _ _ _)⟩
set_option maxRecDepth 100000 in
theorem zfree (w : World) (p : Option Addr) (o : Int) (h : Zh w p) : Calls Tryz.prog 21 #[.pointer p, .int .i64 o] w fun e w' => e = .returned (.int .i64 1) ∧ Kp w w' [] := by
  go_enter Tryz.func21, Tryz.ntmps21
  go_wp2_with fail
  refine (zblockOf w p o h).mono ?_
  rintro e w1 ⟨rfl, hK1⟩
  go_wp2
  go_ret
  exact ⟨rfl, hK1.trans (Kp.alloc _ _ _)⟩
set_option maxRecDepth 100000 in
theorem zcheck (w : World) (p : Option Addr) (h : Zh w p) : Calls Tryz.prog 31 #[.pointer p] w fun e w' => e = .returned (.bool false) ∧ Kp w w' [] := by
  have A1 := hid ((Kp.alloc w (.cells #[.pointer p] 23) []).trans (Kp.alloc _ (.cells #[.bool false] 4) []))
  have z := hid (h.keep A1.out)
  clear h
  go_enter Tryz.func31, Tryz.ntmps31
  go_wp2_with (go_at_call 51; refine (zero_yes _ p z.out).mono ?_; rintro e w1 ⟨rfl, rfl⟩)
  refine bodyPost_ret (v := .bool false) (by simp [results, Tryz.results31, go_sem]) rfl ⟨rfl, A1.out⟩

set_option maxRecDepth 100000 in
set_option maxHeartbeats 2000000 in
theorem zall1_in (n : Nat) (hn : 1 ≤ n) (l bx : Nat) (p : Option Addr) (J Jx : List Bb → World → Prop) (W : World) (hZ : Zh W p)
    (hbx : W.cell? ⟨bx, 0, none⟩ = some (.pointer p)) (h0 : J [] W) :
    CallsIn Fence.wide n Tryz.prog 91 #[.func (.yield l) #[] #[], .pointer (some ⟨bx, 0, none⟩)] W fun e W' => (∃ v, e = .returned v) ∧ ((∃ xs, xs = ([] : List Bb) ∧ J xs W') ∨ (∃ pre, pre <+: ([] : List Bb) ∧ Jx pre W')) := by
  have cB := (callsIn_wide (n := n - 1)).2 (zblocks W p hZ)
  have H0 := hid h0
  have hf92 : Fence.wide.fn 92 := trivial
  clear hZ h0
  refine callsIn_of_wp Tryz.func91 rfl trivial ?_ rfl
  simp only [Tryz.ntmps91, List.size_toArray, List.length_cons, List.length_nil, Nat.reduceAdd, Nat.reduceSub, Array.replicate_succ, Array.replicate_zero, List.push_toArray, List.append_toArray, List.nil_append, List.cons_append]
  gi_wp2_with (gi_at_call 92; refine cB.mono ?_; rintro e w1 ⟨rfl, rfl⟩)
  gi_loopw [8] (fun i wr => i = .int .i64 0 ∧ Hid (J [] wr)) (fun _ _ => 0)
  case atStart => exact ⟨rfl, H0⟩
  case round =>
    obtain ⟨rfl, hJs⟩ := hrel
    gi_wp2
    go_end0
    exact ⟨⟨_, rfl⟩, .inl ⟨_, rfl, hJs.out⟩⟩

theorem its_zero {w : World} {p : Option Addr} (h : Zh w p) : Its w p [] :=
  fun w' bx _ hk hbx _ l J Jx W hW _ _ _ h0 => by
    have hk2 : Kp w' W [] := Kp.of_below hW
    exact zall1_in 5 (by decide) l bx p J Jx W ((h.keep hk).keep hk2) (hk2.cell hbx (by simp)) h0
end Go.Proofs.YtgefmnnkpffpcaaGreatDoor

/- checkRest, checkList. -/
namespace Go.Proofs.YtgefmnnkpffpcaaGreatDoor
open Go.RowKit Go.Maps

set_option maxRecDepth 100000 in
set_option maxHeartbeats 1000000 in
theorem rest_ok (w : World) (hb rb mb pb n : Nat) (g : Mem) (c : Int) (P : Pcs) (h : Hp w hb rb mb pb n g c P) (hc : c < 1152921504606820000) (h0 : rd n g 100 = 0) (h1 : rd n g 104 = 0) (h2 : rd n g 108 = 0) :
    Calls Tryz.prog 75 #[.pointer (some ⟨hb, 0, none⟩)] w fun e w' => e = .returned (.bool true) ∧ Went w w' hb rb mb pb n g P c 3 [rb] := by
  have H := hid h
  have R0 := hid h0
  have R1 := hid h1
  have R2 := hid h2
  clear h h0 h1 h2
  go_enter Tryz.func75, Tryz.ntmps75
  go_wp2_with fail
  refine wp_loop_rounds 4 ?_
  rw [rounds_succ]
  go_wp2_with fail
  refine (word_any w hb rb mb pb n g c P 100 H.out (by omega) (by decide)).mono ?_
  rintro e w1 ⟨rfl, c1, hc1, hc1', hH1, hK1⟩
  rw [R0.out]
  have H1 := hid hH1
  have K1 := hid hK1
  clear hH1 hK1
  go_wp2_with fail
  rw [rounds_succ]
  go_wp2_with fail
  refine (word_any w1 hb rb mb pb n g c1 P 104 H1.out (by omega) (by decide)).mono ?_
  rintro e w2 ⟨rfl, c2, hc2, hc2', hH2, hK2⟩
  rw [R1.out]
  have H2 := hid hH2
  have K2 := hid (K1.out.trans hK2)
  clear hH2 hK2
  go_wp2_with fail
  rw [rounds_succ]
  go_wp2_with fail
  refine (word_any w2 hb rb mb pb n g c2 P 108 H2.out (by omega) (by decide)).mono ?_
  rintro e w3 ⟨rfl, c3, hc3, hc3', hH3, hK3⟩
  rw [R2.out]
  have H3 := hid hH3
  have K3 := hid (K2.out.trans hK3)
  clear hH3 hK3
  go_wp2_with fail
  rw [rounds_succ]
  go_wp2_with fail
  go_ret
  exact ⟨rfl, c3, by omega, by omega, H3.out, K3.out⟩

/-- A class's list, taken out of the free blocks: what is left of them. -/
def chkL (n : Nat) (g : Mem) (cl : Int) : Nat → Int → Int → Pcs → Option Pcs
  | 0, _, a, F => if a = 0 then some F else none
  | k + 1, pr, a, F => if a = 0 then some F else if hasP F a = true ∧ getP F a = cl ∧ rd n g (a + 12) = pr then chkL n g cl k a (rd n g (a + 8)) (delP F a) else none

/-- While the check goes on: the heap, and the map of the free blocks. -/
def Ck (w w' : World) (hb rb mb pb fb n : Nat) (g : Mem) (P : Pcs) (c k : Int) (F : Pcs) : Prop :=
  ∃ c', c ≤ c' ∧ c' ≤ c + k ∧ Hp w' hb rb mb pb n g c' P ∧ Mp w' fb F ∧ Kp w w' [rb, fb]
/-- A block that is none of the heap's. -/
def Off (hb rb mb pb fb : Nat) : Prop := fb ≠ hb ∧ fb ≠ rb ∧ fb ≠ mb ∧ fb ≠ pb ∧ fb ≠ 0
theorem Ck.word {w w' w'' : World} {hb rb mb pb fb n : Nat} {g : Mem} {P F : Pcs} {c k c1 : Int} (hf : Off hb rb mb pb fb) (h1 : c ≤ c1) (h2 : c1 ≤ c + k) (hM : Mp w' fb F) (hK : Kp w w' [rb, fb]) (hW : Went w' w'' hb rb mb pb n g P c1 1 [rb]) : Ck w w'' hb rb mb pb fb n g P c (k + 1) F := by
  obtain ⟨c2, x1, x2, x3, x4⟩ := hW
  exact ⟨c2, by omega, by omega, x3, hM.keep x4 (by simp; exact hf.2.1), hK.trans (x4.mono (by simp))⟩
theorem Ck.drop {w w' w'' : World} {hb rb mb pb fb n : Nat} {g : Mem} {P F F' : Pcs} {c k : Int} (hf : Off hb rb mb pb fb) (h : Ck w w' hb rb mb pb fb n g P c k F) (hM : Mp w'' fb F') (hK : Kp w' w'' [fb]) : Ck w w'' hb rb mb pb fb n g P c k F' := by
  obtain ⟨c1, x1, x2, x3, -, x5⟩ := h
  have hf2 := hf
  unfold Off at hf2
  exact ⟨c1, x1, x2, x3.keep hK (by simp; omega) (by simp; omega) (by simp; omega) (by simp; omega) (by simp; omega), hM, x5.trans (hK.mono (by simp))⟩
theorem Ck.mono {w w' : World} {hb rb mb pb fb n : Nat} {g : Mem} {P F : Pcs} {c k k' : Int} (h : Ck w w' hb rb mb pb fb n g P c k F) (hk : k ≤ k') : Ck w w' hb rb mb pb fb n g P c k' F := by
  obtain ⟨c1, x1, x2, x3⟩ := h
  exact ⟨c1, x1, by omega, x3⟩
theorem chkL_zero {n j : Nat} {g : Mem} {cl pr : Int} {F F' : Pcs} (h : chkL n g cl j pr 0 F = some F') : F = F' := by
  cases j <;> simpa [chkL] using h
theorem chkL_step {n j : Nat} {g : Mem} {cl pr z : Int} {F F' : Pcs} (h : chkL n g cl j pr z F = some F') (hz : z ≠ 0) : ∃ i, j = i + 1 ∧ hasP F z = true ∧ getP F z = cl ∧ rd n g (z + 12) = pr ∧ chkL n g cl i z (rd n g (z + 8)) (delP F z) = some F' := by
  cases j with
  | zero => simp [chkL, hz] at h
  | succ i =>
    rw [chkL, if_neg hz] at h
    split at h
    · rename_i hh
      exact ⟨i, rfl, hh.1, hh.2.1, hh.2.2, h⟩
    · cases h

set_option maxRecDepth 100000 in
set_option maxHeartbeats 4000000 in
theorem list_ok (w : World) (hb rb mb pb fb n k : Nat) (g : Mem) (c cl : Int) (P F F' : Pcs) (h : Hp w hb rb mb pb n g c P) (hF : Mp w fb F) (hf : Off hb rb mb pb fb) (hc : c + 2 * k < 1152921504606820000) (h0 : 0 ≤ cl) (h1 : cl < 1000)
    (hL : chkL n g cl k 0 (rd n g (4 + cl * 4)) F = some F') :
    Calls Tryz.prog 111 #[.pointer (some ⟨hb, 0, none⟩), .int .i64 cl, .map (some fb)] w fun e w' => e = .returned (.bool true) ∧ Ck w w' hb rb mb pb fb n g P c (2 * k + 1) F' := by
  have H := hid h
  have M := hid hF
  have OF := hid hf
  have HL := hid hL
  have hr := h.range (4 + cl * 4)
  obtain ⟨x, hx⟩ : ∃ x, rd n g (4 + cl * 4) = x := ⟨_, rfl⟩
  rw [hx] at hr HL
  have HX := hid hx
  clear h hF hf hL hx
  go_enter Tryz.func111, Tryz.ntmps111
  go_wp2_with fail
  go_step3
  go_wp2_with (go_at_call 96; refine (firstAt_any _ cl h0 h1).mono ?_; rintro e w' ⟨rfl, hE⟩; rw [hE]; clear hE)
  refine (word_any _ hb rb mb pb n g c P (4 + cl * 4) H.out (by omega) (by omega)).mono ?_
  rintro e w1 ⟨rfl, hW1⟩
  rw [HX.out]
  have C1 := hid (Ck.word (k := 0) OF.out (Int.le_refl c) (by omega) M.out (Kp.refl _ _) hW1)
  clear hW1
  go_wp2_with fail
  go_step3
  go_wp2_with fail
  go_loopg [7, 8] k (fun j p a wr => ∃ pr z F1, p = .int .i64 pr ∧ a = .int .i64 z ∧ j ≤ k ∧ 0 ≤ z ∧ z < 4294967296 ∧ Hid (chkL n g cl j pr z F1 = some F') ∧ Hid (Ck w wr hb rb mb pb fb n g P c (2 * (k - j : Int) + 1) F1))
  case atStart => exact ⟨0, x, F, rfl, rfl, Nat.le_refl _, hr.1, hr.2, HL, hid (C1.out.mono (by omega))⟩
  case round =>
    obtain ⟨pr, z, F1, rfl, rfl, hjk, hz0, hz1, CL, CK⟩ := hrel
    by_cases hz : z = 0
    · subst hz
      have FE := hid (chkL_zero CL.out)
      clear CL
      go_wp2_with fail
      rw [Exit.noGoto_ret]
      go_ret
      exact ⟨rfl, by rw [← FE.out]; exact CK.out.mono (by omega)⟩
    · obtain ⟨i, rfl, t1, t2, t3, t4⟩ := chkL_step CL.out hz
      obtain ⟨c1, x1, x2, hH1, hM1, hK1⟩ := CK.out
      have lk := hM1.look (k := z) (by omega) (by omega)
      rw [t1, t2] at lk
      have hzb : (z == 0) = false := by simpa using hz
      have RD := hid t3
      have T4 := hid t4
      have H1 := hid hH1
      have M1 := hid hM1
      have K1 := hid hK1
      have DD := hid (dat_del F1 z)
      clear CL CK t1 t2 t3 t4 hH1 hM1 hK1 hz
      go_wp2_with fail
      refine (word_any wr hb rb mb pb n g c1 P (z + 12) H1.out (by omega) (by omega)).mono ?_
      rintro e w2 ⟨rfl, hW2⟩
      rw [RD.out]
      have C2 := hid (Ck.word OF.out x1 x2 M1.out K1.out hW2)
      obtain ⟨c2, y1, y2, hH2, hM2, hK2⟩ := C2.out
      have M2 := hid hM2
      clear hW2 lk hH2 hM2 hK2
      go_wp2_with (at_delete; refine wpList_delete_own _ rfl _ _ 65 3 rfl 3 keyed3 Tryz.underlying65 _ fb _ _ rfl M2.out _ _ rfl (keyOf_int_mk Tryz.underlying3 (wf64 (by omega) (by omega))) ?_; intro w3 hown3 hturn3; rw [DD.out] at hown3; have M3 := hid (Mp.of_owns hown3); have KK3 := hid (Kp.turned hturn3); clear hown3 hturn3)
      have C3 := hid (C2.out.drop OF.out M3.out KK3.out)
      obtain ⟨c3, v1, v2, hH3, hM3, hK3⟩ := C3.out
      have hr3 := hH3.range (z + 8)
      obtain ⟨y, hy⟩ : ∃ y, rd n g (z + 8) = y := ⟨_, rfl⟩
      rw [hy] at hr3 T4
      have HY := hid hy
      have H3 := hid hH3
      have K3 := hid hK3
      clear hH3 hM3 hK3 hy
      refine (word_any w3 hb rb mb pb n g c3 P (z + 8) H3.out (by omega) (by omega)).mono ?_
      rintro e w4 ⟨rfl, hW4⟩
      rw [HY.out]
      have C4 := hid (Ck.word OF.out v1 v2 M3.out K3.out hW4)
      clear hW4
      go_wp2_with fail
      go_roundg i
      case measure => omega
      case rel => exact ⟨z, y, delP F1 z, rfl, rfl, by omega, hr3.1, hr3.2, T4, hid (C4.out.mono (by omega))⟩
end Go.Proofs.YtgefmnnkpffpcaaGreatDoor

/- checkLists, Len. -/
namespace Go.Proofs.YtgefmnnkpffpcaaGreatDoor
open Go.RowKit Go.Maps

theorem Mp.len {w : World} {b : Nat} {P : Pcs} (h : Mp w b P) (ty : TypeId) : (Builtin.len_ #[65] ty #[.map (some b)]).run Tryz.prog w = .ok (.int .i64 P.length) w := by
  have := World.ownsMap.len h Tryz.underlying65 ty
  rw [dat_size] at this
  exact this

set_option maxRecDepth 100000 in
theorem len_any (w : World) (hb rb mb pb n : Nat) (g : Mem) (c : Int) (P : Pcs) (h : Hp w hb rb mb pb n g c P) :
    Calls Tryz.prog 23 #[.pointer (some ⟨hb, 0, none⟩)] w fun e w' => e = .returned (.int .i64 P.length) ∧ Kp w w' [] := by
  have q0 := h.c0cell
  have q1 := h.c1cell
  have M := hid h.mp
  clear h
  obtain ⟨L, hL⟩ : ∃ L : Nat, P.length = L := ⟨_, rfl⟩
  have ln := M.out.len
  rw [hL] at ln ⊢
  clear hL
  go_enter Tryz.func23, Tryz.ntmps23
  go_wp2_with (go_at_call 51; go_in)
  go_ret
  exact ⟨rfl, Kp.refl _ _⟩

set_option maxRecDepth 100000 in
theorem arena_any (w : World) (hb rb mb pb n : Nat) (g : Mem) (c : Int) (P : Pcs) (h : Hp w hb rb mb pb n g c P) :
    Calls Tryz.prog 16 #[.pointer (some ⟨hb, 0, none⟩)] w fun e w' => e = .returned (.pointer (some ⟨rb, 0, none⟩)) ∧ Kp w w' [] := by
  have q0 := h.c0cell
  clear h
  go_enter Tryz.func16, Tryz.ntmps16
  go_wp2_with (go_at_call 51; go_in)
  go_ret
  exact ⟨rfl, Kp.refl _ _⟩

/-- All lists from a class on: the bits of those that are not empty, and what is left of the free blocks. -/
def chkA (n : Nat) (g : Mem) (K : Nat) : Nat → Nat → Nat → Pcs → Option (Nat × Pcs)
  | 0, _, S, F => some (S, F)
  | j + 1, i, S, F => match chkL n g i K 0 (rd n g (4 + (i : Int) * 4)) F with
    | none => none
    | some F' => chkA n g K j (i + 1) (if rd n g (4 + (i : Int) * 4) = 0 then S else S ||| 2 ^ i) F'
theorem chkA_step {n K j i S : Nat} {g : Mem} {F : Pcs} {R : Nat × Pcs} (h : chkA n g K (j + 1) i S F = some R) :
    ∃ F', chkL n g i K 0 (rd n g (4 + (i : Int) * 4)) F = some F' ∧ chkA n g K j (i + 1) (if rd n g (4 + (i : Int) * 4) = 0 then S else S ||| 2 ^ i) F' = some R := by
  rw [chkA] at h
  split at h
  · cases h
  · rename_i F' hF
    exact ⟨F', hF, h⟩
theorem shl_small {k : Nat} (hk : k < 32) : IntKind.i64.wrap (2 ^ k) = 2 ^ k := by
  have hp : 2 ^ k < 2 ^ 32 := Nat.pow_lt_pow_right (by decide) hk
  have e : (2 : Int) ^ k = ((2 ^ k : Nat) : Int) := by push_cast; rfl
  rw [e]
  exact wrap64_small _ (by omega)
theorem or_bit {S k : Nat} (hS : S < 2 ^ 24) (hk : k < 24) : bits .or .i64 (S : Int) (2 ^ k) = ((S ||| 2 ^ k : Nat) : Int) ∧ S ||| 2 ^ k < 2 ^ 24 := by
  have hp : 2 ^ k < 2 ^ 24 := Nat.pow_lt_pow_right (by decide) hk
  have e : (2 : Int) ^ k = ((2 ^ k : Nat) : Int) := by push_cast; rfl
  rw [e]
  exact ⟨i64_or S (2 ^ k) (by omega) (by omega), Nat.or_lt_two_pow hS hp⟩

theorem Ck.join {w w' w'' : World} {hb rb mb pb fb n : Nat} {g : Mem} {P F' : Pcs} {c c1 k k' : Int} (h1 : c ≤ c1) (h2 : c1 ≤ c + k) (hK : Kp w w' [rb, fb]) (h : Ck w' w'' hb rb mb pb fb n g P c1 k' F') : Ck w w'' hb rb mb pb fb n g P c (k + k') F' := by
  obtain ⟨c2, x1, x2, x3, x4, x5⟩ := h
  exact ⟨c2, by omega, by omega, x3, x4, hK.trans x5⟩

set_option maxRecDepth 100000 in
set_option maxHeartbeats 4000000 in
theorem lists_ok (w : World) (hb rb mb pb fb n K S' : Nat) (g : Mem) (c : Int) (P F : Pcs) (h : Hp w hb rb mb pb n g c P) (hF : Mp w fb F) (hf : Off hb rb mb pb fb) (hK : K ≤ 5000) (hc : c < 1152921504606000000)
    (hA : chkA n g K 24 0 0 F = some (S', [])) (hS : rd n g 0 = S') :
    Calls Tryz.prog 74 #[.pointer (some ⟨hb, 0, none⟩), .map (some fb)] w fun e w' => e = .returned (.bool true) ∧ Ck w w' hb rb mb pb fb n g P c (24 * (2 * K + 2) + 1) [] := by
  have H := hid h
  have C0 := hid (show Ck w w hb rb mb pb fb n g P c 0 F from ⟨c, by omega, by omega, h, hF, Kp.refl _ _⟩)
  have OF := hid hf
  have HA := hid hA
  have HS := hid hS
  clear h hF hf hA hS
  go_enter Tryz.func74, Tryz.ntmps74
  go_wp2_with fail
  go_loopg [5, 7] 24 (fun j s t wr => ∃ (i S : Nat) (F1 : Pcs), i + j = 24 ∧ s = .int .i64 S ∧ t = .int .i64 i ∧ S < 2 ^ 24 ∧ Hid (chkA n g K j i S F1 = some (S', [])) ∧ Hid (Ck w wr hb rb mb pb fb n g P c (i * (2 * K + 2)) F1))
  case atStart => exact ⟨0, 0, F, rfl, rfl, rfl, by decide, HA, hid (C0.out.mono (by omega))⟩
  case round =>
    obtain ⟨i, S, F1, hij, rfl, rfl, hSS, CA, CK⟩ := hrel
    obtain ⟨c1, x1, x2, hH1, hM1, hK1⟩ := CK.out
    have hcc : c1 + 2 * K + 1 < 1152921504606820000 := by
      have : (i : Int) * (2 * K + 2) ≤ 24 * (2 * K + 2) := Int.mul_le_mul_of_nonneg_right (by omega) (by omega)
      omega
    cases gk with
    | zero =>
      have hi : i = 24 := by omega
      subst hi
      have e := CA.out
      simp only [chkA, Option.some.injEq, Prod.mk.injEq] at e
      obtain ⟨rfl, rfl⟩ := e
      have ln := hM1.len
      simp only [List.length_nil] at ln
      have H1 := hid hH1
      have M1 := hid hM1
      have K1 := hid hK1
      clear CA CK hH1 hM1 hK1
      go_wp2_with fail
      refine (word_any wr hb rb mb pb n g c1 P 0 H1.out (by omega) (by decide)).mono ?_
      rintro e w2 ⟨rfl, hW2⟩
      rw [HS.out]
      have C2 := hid (Ck.word OF.out x1 x2 M1.out K1.out hW2)
      clear hW2 ln
      go_wp2_with fail
      go_ret
      exact ⟨rfl, C2.out.mono (by omega)⟩
    | succ j =>
      obtain ⟨F2, hL, hN⟩ := chkA_step CA.out
      have hlt : i < 24 := by omega
      have hltI : (i : Int) < 24 := by omega
      have hr := hH1.range (4 + (i : Int) * 4)
      obtain ⟨x, hx⟩ : ∃ x, rd n g (4 + (i : Int) * 4) = x := ⟨_, rfl⟩
      rw [hx] at hr hN
      have HX := hid hx
      have HL := hid hL
      have H1 := hid hH1
      have M1 := hid hM1
      have K1 := hid hK1
      have hw2 := shl_small (k := i) (by omega)
      obtain ⟨hor, hor2⟩ := or_bit hSS hlt
      obtain ⟨S2, hS2⟩ : ∃ S2, S ||| 2 ^ i = S2 := ⟨_, rfl⟩
      rw [hS2] at hor hor2 hN
      have HS2 := hid hS2
      have HN := hid hN
      have HM := hid (show ((i + 1 : Nat) : Int) * (2 * K + 2) = i * (2 * K + 2) + (2 * K + 2) by push_cast; rw [Int.add_mul]; omega)
      clear CA CK hH1 hM1 hK1 hx hL hN hS2
      go_wp2_with (go_at_call 96; refine (firstAt_any _ (i : Int) (by omega) (by omega)).mono ?_; rintro e w' ⟨rfl, hE⟩; rw [hE]; clear hE)
      refine (word_any wr hb rb mb pb n g c1 P (4 + (i : Int) * 4) H1.out (by omega) (by omega)).mono ?_
      rintro e w2 ⟨rfl, hW2⟩
      rw [HX.out]
      have C2 := hid (Ck.word OF.out x1 x2 M1.out K1.out hW2)
      obtain ⟨c2, y1, y2, hH2, hM2, hK2⟩ := C2.out
      have H2 := hid hH2
      have M2 := hid hM2
      have K2 := hid hK2
      have hcc2 : c2 + 2 * K < 1152921504606820000 := by
        obtain ⟨c3, z1, z2, -⟩ := hW2
        have : (i : Int) * (2 * K + 2) ≤ 24 * (2 * K + 2) := Int.mul_le_mul_of_nonneg_right (by omega) (by omega)
        omega
      clear hW2 hH2 hM2 hK2
      by_cases hz : x = 0
      · have HN2 := hid (show chkA n g K j (i + 1) S F2 = some (S', []) by have := HN.out; rwa [if_pos hz] at this)
        clear HN
        subst hz
        go_wp2_with fail
        refine (list_ok w2 hb rb mb pb fb n K g c2 i P F1 F2 H2.out M2.out OF.out hcc2 (by omega) (by omega) HL.out).mono ?_
        rintro e w3 ⟨rfl, hC3⟩
        have C3 := hid (Ck.join y1 y2 K2.out hC3)
        clear hC3
        go_wp2_with fail
        go_roundg j
        case measure => omega
        case rel => exact ⟨i + 1, S, F2, by omega, rfl, by simp, hSS, HN2, hid (C3.out.mono (by rw [HM.out]; omega))⟩
      · have hzb : (x == 0) = false := by simpa using hz
        have HN2 := hid (show chkA n g K j (i + 1) S2 F2 = some (S', []) by have := HN.out; rwa [if_neg hz] at this)
        clear hz HN
        go_wp2_with fail
        refine (list_ok w2 hb rb mb pb fb n K g c2 i P F1 F2 H2.out M2.out OF.out hcc2 (by omega) (by omega) HL.out).mono ?_
        rintro e w3 ⟨rfl, hC3⟩
        have C3 := hid (Ck.join y1 y2 K2.out hC3)
        clear hC3
        go_wp2_with fail
        go_roundg j
        case measure => omega
        case rel => exact ⟨i + 1, S2, F2, by omega, rfl, by simp, hor2, HN2, hid (C3.out.mono (by rw [HM.out]; omega))⟩
end Go.Proofs.YtgefmnnkpffpcaaGreatDoor
