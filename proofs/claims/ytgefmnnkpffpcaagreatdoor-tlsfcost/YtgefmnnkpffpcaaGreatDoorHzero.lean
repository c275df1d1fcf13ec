/- What every method answers where there is no heap. -/
import Derived.Test.YtgefmnnkpffpcaaGreatDoorHlawb
namespace Go.Proofs.YtgefmnnkpffpcaaGreatDoor
open Go.RowKit Go.Maps Go.Shelf

/-- No heap: nil, or a heap over no arena. -/
def Zh (w : World) (p : Option Addr) : Prop := p = none ∨ ∃ b, p = some ⟨b, 0, none⟩ ∧ w.cell? ⟨b, 0, none⟩ = some (.pointer none)
theorem Zh.keep {w w' : World} {p : Option Addr} (h : Zh w p) (hk : Kp w w' []) : Zh w' p := by
  rcases h with rfl | ⟨b, rfl, hc⟩
  · exact .inl rfl
  · exact .inr ⟨b, rfl, hk.cell hc (by simp)⟩

set_option maxRecDepth 100000 in
theorem zero_yes (w : World) (p : Option Addr) (h : Zh w p) : Calls Tryz.prog 51 #[.pointer p] w fun e w' => e = .returned (.bool true) ∧ w' = w := by
  rcases h with rfl | ⟨b, rfl, hc⟩
  all_goals go_enter Tryz.func51, Tryz.ntmps51
  all_goals go_wp2
  all_goals go_ret
  all_goals exact ⟨rfl, rfl⟩

set_option maxRecDepth 100000 in
theorem zlen (w : World) (p : Option Addr) (h : Zh w p) : Calls Tryz.prog 23 #[.pointer p] w fun e w' => e = .returned (.int .i64 0) ∧ Kp w w' [] := by
  have z := hid h
  clear h
  go_enter Tryz.func23, Tryz.ntmps23
  go_wp2_with (go_at_call 51; refine (zero_yes _ p z.out).mono ?_; rintro e w1 ⟨rfl, rfl⟩)
  go_ret
  exact ⟨rfl, Kp.refl _ _⟩
set_option maxRecDepth 100000 in
theorem zarena (w : World) (p : Option Addr) (h : Zh w p) : Calls Tryz.prog 16 #[.pointer p] w fun e w' => e = .returned (.pointer none) ∧ Kp w w' [] := by
  have z := hid h
  clear h
  go_enter Tryz.func16, Tryz.ntmps16
  go_wp2_with (go_at_call 51; refine (zero_yes _ p z.out).mono ?_; rintro e w1 ⟨rfl, rfl⟩)
  go_ret
  exact ⟨rfl, Kp.refl _ _⟩
set_option maxRecDepth 100000 in
theorem zcopy (w : World) (p : Option Addr) (h : Zh w p) : Calls Tryz.prog 43 #[.pointer p] w fun e w' => e = .returned (.pointer none) ∧ Kp w w' [] := by
  have z := hid h
  clear h
  go_enter Tryz.func43, Tryz.ntmps43
  go_wp2_with (go_at_call 51; refine (zero_yes _ p z.out).mono ?_; rintro e w1 ⟨rfl, rfl⟩)
  go_ret
  exact ⟨rfl, Kp.refl _ _⟩
set_option maxRecDepth 100000 in
theorem zrefusal (w : World) (p : Option Addr) (f : Value) (h : Zh w p) : Calls Tryz.prog 46 #[.pointer p, f] w fun e w' => e = .returned (.int .i64 1) ∧ Kp w w' [] := by
  have z := hid h
  clear h
  go_enter Tryz.func46, Tryz.ntmps46
  go_wp2_with (go_at_call 51; refine (zero_yes _ p z.out).mono ?_; rintro e w1 ⟨rfl, rfl⟩)
  go_ret
  exact ⟨rfl, Kp.refl _ _⟩
set_option maxRecDepth 100000 in
theorem zblockOf (w : World) (p : Option Addr) (o : Int) (h : Zh w p) : Calls Tryz.prog 63 #[.pointer p, .int .i64 o] w fun e w' => e = .returned (.tuple #[.agg #[.int .i64 0, .int .i64 0], .int .i64 1]) ∧ Kp w w' [] := by
  have A1 := Kp.alloc w (.cells #[.int .i64 0, .int .i64 0] 87) []
  have z := hid (h.keep A1)
  have K := hid A1
  clear h A1
  go_enter Tryz.func63, Tryz.ntmps63
  go_wp2_with (go_at_call 51; refine (zero_yes _ p z.out).mono ?_; rintro e w1 ⟨rfl, rfl⟩)
  refine bodyPost_ret (v := .tuple #[.agg #[.int .i64 0, .int .i64 0], .int .i64 1]) (by simp [results, Tryz.results63, go_sem]) rfl ⟨rfl, K.out⟩
set_option maxRecDepth 100000 in
theorem zblocks (w : World) (p : Option Addr) (h : Zh w p) : Calls Tryz.prog 92 #[.pointer p] w fun e w' => e = .returned (.slice none 0 0) ∧ w' = w := by
  have z := hid h
  clear h
  go_enter Tryz.func92, Tryz.ntmps92
  go_wp2_with (go_at_call 51; refine (zero_yes _ p z.out).mono ?_; rintro e w1 ⟨rfl, rfl⟩)
  go_ret
  exact ⟨rfl, rfl⟩
set_option maxRecDepth 100000 in
theorem zalloc (w : World) (p : Option Addr) (m : Int) (h : Zh w p) : Calls Tryz.prog 18 #[.pointer p, .int .i64 m] w fun e w' => e = .returned (.tuple #[.int .i64 0, .int .i64 1]) ∧ Kp w w' [] := by
  have A1 := hid (Kp.alloc w (.cells #[.int .i64 m] 3) [])
  have z := hid (h.keep A1.out)
  clear h
  go_enter Tryz.func18, Tryz.ntmps18
  go_wp2_with fail
  refine (zrefusal _ p _ z.out).mono ?_
  rintro e w1 ⟨rfl, hK1⟩
  have K1 := hid (A1.out.trans hK1)
  clear hK1
  go_wp2
  go_ret2
  exact ⟨rfl, K1.out⟩
set_option maxRecDepth 100000 in
theorem zaligned (w : World) (p : Option Addr) (k m : Int) (h : Zh w p) : Calls Tryz.prog 19 #[.pointer p, .int .i64 k, .int .i64 m] w fun e w' => e = .returned (.tuple #[.int .i64 0, .int .i64 1]) ∧ Kp w w' [] := by
  have A1 := hid ((Kp.alloc w (.cells #[.int .i64 k] 3) []).trans (Kp.alloc _ (.cells #[.int .i64 m] 3) []))
  have z := hid (h.keep A1.out)
  clear h
  go_enter Tryz.func19, Tryz.ntmps19
  go_wp2_with fail
  refine (zrefusal _ p _ z.out).mono ?_
  rintro e w1 ⟨rfl, hK1⟩
  have K1 := hid (A1.out.trans hK1)
  clear hK1
  go_wp2
  go_ret2
  exact ⟨rfl, K1.out⟩
set_option maxRecDepth 100000 in
theorem zrealloc (w : World) (p : Option Addr) (k m : Int) (h : Zh w p) : Calls Tryz.prog 26 #[.pointer p, .int .i64 k, .int .i64 m] w fun e w' => e = .returned (.tuple #[.int .i64 0, .int .i64 1]) ∧ Kp w w' [] := by
  have A1 := hid (Kp.alloc w (.cells #[.int .i64 m] 3) [])
  have z := hid (h.keep A1.out)
  clear h
  go_enter Tryz.func26, Tryz.ntmps26
  go_wp2_with fail
  refine (zrefusal _ p _ z.out).mono ?_
  rintro e w1 ⟨rfl, hK1⟩
  have K1 := hid (A1.out.trans hK1)
  clear hK1
  go_wp2
  go_ret2
  exact ⟨rfl, K1.out⟩
set_option maxRecDepth 100000 in
theorem zget (w : World) (p : Option Addr) (o : Int) (h : Zh w p) : Calls Tryz.prog 12 #[.pointer p, .int .i64 o] w fun e w' => e = .returned (.tuple #[.int .u32 0, .int .i64 1]) ∧ Kp w w' [] := by
  have A1 := hid ((Kp.alloc w (.cells #[.pointer p] 23) []).trans (Kp.alloc _ (.cells #[.int .i64 o] 3) []))
  have z := hid (h.keep A1.out)
  clear h
  go_enter Tryz.func12, Tryz.ntmps12
  go_wp2_with fail
  refine (zrefusal _ p _ z.out).mono ?_
  rintro e w1 ⟨rfl, hK1⟩
  have K1 := hid (A1.out.trans hK1)
  clear hK1
  go_wp2
  go_ret2
  exact ⟨rfl, K1.out⟩
set_option maxRecDepth 100000 in
theorem zset (w : World) (p : Option Addr) (o x : Int) (h : Zh w p) : Calls Tryz.prog 27 #[.pointer p, .int .i64 o, .int .u32 x] w fun e w' => e = .returned (.int .i64 1) ∧ Kp w w' [] := by
  have A1 := hid ((Kp.alloc w (.cells #[.pointer p] 23) []).trans (Kp.alloc _ (.cells #[.int .i64 o] 3) []))
  have z := hid (h.keep A1.out)
  clear h
  go_enter Tryz.func27, Tryz.ntmps27
  go_wp2_with fail
  refine (zrefusal _ p _ z.out).mono ?_
  rintro e w1 ⟨rfl, hK1⟩
  have K1 := hid (A1.out.trans hK1)
  clear hK1
  go_wp2
  go_ret
  exact ⟨rfl, K1.out⟩
set_option maxRecDepth 100000 in
theorem zsize (w : World) (p : Option Addr) (o : Int) (h : Zh w p) : Calls Tryz.prog 30 #[.pointer p, .int .i64 o] w fun e w' => e = .returned (.tuple #[.int .i64 0, .int .i64 1]) ∧ Kp w w' [] := by
  go_enter Tryz.func30, Tryz.ntmps30
  go_wp2_with fail
  refine (zblockOf w p o h).mono ?_
  rintro e w1 ⟨rfl, hK1⟩
  go_wp2
  go_ret2
  exact ⟨rfl, hK1.trans (Kp.alloc _ _ _)⟩
set_option maxRecDepth 100000 in
theorem zfree (w : World) (p : Option Addr) (o : Int) (h : Zh w p) : Calls Tryz.prog 21 #[.pointer p, .int .i64 o] w fun e w' => e = .returned (.int .i64 1) ∧ Kp w w' [] := by
  go_enter Tryz.func21, Tryz.ntmps21
  go_wp2_with fail
  refine (zblockOf w p o h).mono ?_
  rintro e w1 ⟨rfl, hK1⟩
  go_wp2
  go_ret
  exact ⟨rfl, hK1.trans (Kp.alloc _ _ _)⟩
set_option maxRecDepth 100000 in
theorem zcheck (w : World) (p : Option Addr) (h : Zh w p) : Calls Tryz.prog 31 #[.pointer p] w fun e w' => e = .returned (.bool false) ∧ Kp w w' [] := by
  have A1 := hid ((Kp.alloc w (.cells #[.pointer p] 23) []).trans (Kp.alloc _ (.cells #[.bool false] 4) []))
  have z := hid (h.keep A1.out)
  clear h
  go_enter Tryz.func31, Tryz.ntmps31
  go_wp2_with (go_at_call 51; refine (zero_yes _ p z.out).mono ?_; rintro e w1 ⟨rfl, rfl⟩)
  refine bodyPost_ret (v := .bool false) (by simp [results, Tryz.results31, go_sem]) rfl ⟨rfl, A1.out⟩

set_option maxRecDepth 100000 in
set_option maxHeartbeats 2000000 in
theorem zall1_in (n : Nat) (hn : 1 ≤ n) (l bx : Nat) (p : Option Addr) (J Jx : List Bb → World → Prop) (W : World) (hZ : Zh W p)
    (hbx : W.cell? ⟨bx, 0, none⟩ = some (.pointer p)) (h0 : J [] W) :
    CallsIn Fence.wide n Tryz.prog 91 #[.func (.yield l) #[] #[], .pointer (some ⟨bx, 0, none⟩)] W fun e W' => (∃ v, e = .returned v) ∧ ((∃ xs, xs = ([] : List Bb) ∧ J xs W') ∨ (∃ pre, pre <+: ([] : List Bb) ∧ Jx pre W')) := by
  have cB := (callsIn_wide (n := n - 1)).2 (zblocks W p hZ)
  have H0 := hid h0
  have hf92 : Fence.wide.fn 92 := trivial
  clear hZ h0
  refine callsIn_of_wp Tryz.func91 rfl trivial ?_ rfl
  simp only [Tryz.ntmps91, List.size_toArray, List.length_cons, List.length_nil, Nat.reduceAdd, Nat.reduceSub, Array.replicate_succ, Array.replicate_zero, List.push_toArray, List.append_toArray, List.nil_append, List.cons_append]
  gi_wp2_with (gi_at_call 92; refine cB.mono ?_; rintro e w1 ⟨rfl, rfl⟩)
  gi_loopw [8] (fun i wr => i = .int .i64 0 ∧ Hid (J [] wr)) (fun _ _ => 0)
  case atStart => exact ⟨rfl, H0⟩
  case round =>
    obtain ⟨rfl, hJs⟩ := hrel
    gi_wp2
    go_end0
    exact ⟨⟨_, rfl⟩, .inl ⟨_, rfl, hJs.out⟩⟩

theorem its_zero {w : World} {p : Option Addr} (h : Zh w p) : Its w p [] :=
  fun w' bx _ hk hbx _ l J Jx W hW _ _ _ h0 => by
    have hk2 : Kp w' W [] := Kp.of_below hW
    exact zall1_in 5 (by decide) l bx p J Jx W ((h.keep hk).keep hk2) (hk2.cell hbx (by simp)) h0
end Go.Proofs.YtgefmnnkpffpcaaGreatDoor
