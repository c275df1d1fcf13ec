/- The reference's Peek, New, Copy. -/
import Derived.Test.YtoenipaccnpihaaRp
import Derived.Test.YtoenipaccnpihaaNx
namespace Go.Proofs.Ytoenipaccnpihaa
open Go.RowKit Go.Shelf Go.Sort Go.Maps
open Go.Lib hiding intOf
attribute [local go_sem] Oper.semAt_some

/-- Where it is, and what it is. -/
theorem rplace_any (w : World) (rb : Nat) (Q : List Nat) (T S : Nat) (M : Nat → Nat) (L : El) (t : Int) (W : Nat) (h : Rm w rb Q T S M L) (hok : Ok T S L) (hl : L.length ≤ 600) (hW : W < 4294967296) :
    (¬ nxN T L t W ≤ 31 ∧ Calls Try.prog 48 #[.pointer (some ⟨rb, 0, none⟩), .int .i64 t, .int .u32 W] w fun e w' => e = .returned (.int .i64 (-1)) ∧ w' = w) ∨
    ∃ k x, plc t.toNat W L L.length = some k ∧ nxN T L t W ≤ 31 ∧ k < L.length ∧ L[k]? = some x ∧ nxN T L t W = x.2.1 ∧ hdv L t.toNat x.2.1 = x.2.2 ∧ L.take k ++ L.drop (k + 1) = nxL T L t W ∧ Calls Try.prog 48 #[.pointer (some ⟨rb, 0, none⟩), .int .i64 t, .int .u32 W] w fun e w' => e = .returned (.int .i64 (k : Nat)) ∧ w' = w := by
  cases hb : inT T t with
  | false =>
    left
    refine ⟨?_, rplace_no w rb Q T S M L t _ h hb⟩
    unfold nxN pendingV
    rw [hb, if_neg (by simp), Nat.zero_and, lowS_zero]
    omega
  | true =>
    obtain ⟨n, rfl, hn⟩ := inT_yes hb
    have hc := rplace_yes w rb Q T S M L n W h hn hok hl hW
    unfold nxL
    rw [nxN_nat W hn]
    rcases plc_low hok n W with ⟨h1, h2⟩ | ⟨k, x, h1, h2, h3, h4, h5, h6, h7, h8⟩
    · left
      rw [plI_none h1] at hc
      exact ⟨by omega, hc⟩
    · right
      rw [plI_some h1] at hc
      refine ⟨k, x, by simpa using h1, by omega, h2, h3, h4, by simpa using h8, ?_, hc⟩
      rw [if_pos (by omega), h4]
      simpa using h7
set_option maxRecDepth 100000 in
/-- Peek. -/
theorem rpeek_any (w : World) (rb : Nat) (Q : List Nat) (T S : Nat) (M : Nat → Nat) (L : El) (t : Int) (W : Nat) (h : Rm w rb Q T S M L) (hok : Ok T S L) (hl : L.length ≤ 600) (hW : W < 4294967296) : Calls Try.prog 30 #[.pointer (some ⟨rb, 0, none⟩), .int .i64 t, .int .u32 W] w fun e w' => e = .returned (.tuple #[nxV T L t W, .bool (nxB T L t W)]) ∧ Kp w w' [] := by
  have HK := hid (Kp.alloc w (.cells #[.int .i64 0, .int .i64 0] 47) [])
  unfold nxV nxB
  rcases rplace_any _ rb Q T S M L t W (h.same HK.out) hok hl hW with ⟨h1, h2⟩ | ⟨k, x, -, h1, h2, h3, h4, h5, -, h7⟩
  · rw [if_neg h1, decide_eq_false h1]
    have H := hid h2
    unfold Sv
    clear h h1 h2
    go_enter Try.func30, Try.ntmps30
    go_wp2_with fail
    refine H.out.mono ?_
    rintro e w1 ⟨rfl, hw⟩; obtain rfl := hw.symm
    go_wp2
    refine bodyPost_ret (results_cell_row2 rfl _ _ w.heap.size 47 #[.int .i64 0, .int .i64 0] (0, 0) _ rfl (heap_alloc_new w _) Try.underlying47 rfl (size47 _ _)) rfl ?_
    exact ⟨rfl, HK.out⟩
  · rw [if_pos h1, decide_eq_true h1, h4, h5]
    have H := hid h7
    unfold Sv
    have hrb : rb < w.heap.size := by
      obtain ⟨V, -, hc, -⟩ := h
      exact hc.lt
    obtain ⟨V, -, hc, he⟩ := h
    obtain ⟨ao, cap, rfl⟩ := he.slice
    have c0 := hc.row
    obtain ⟨g, rfl, -, c1, c2⟩ := he.at h3
    have hgl : g < w.heap.size := World.block_lt_of_cell? w _ c1
    have hk0 : ¬ ((k : Int) < 0) := by omega
    have hkN : (k : Int) < (L.length : Int) := by omega
    generalize L.length = N at c0 hkN
    clear hc he h1 h2 h3 h4 h5 h7 hok
    go_enter Try.func30, Try.ntmps30
    go_wp2_with fail
    refine H.out.mono ?_
    rintro e w1 ⟨rfl, hw⟩; obtain rfl := hw.symm
    go_wp2
    refine bodyPost_ret (results_cell_row2 rfl _ _ w.heap.size 47 #[.int .i64 (x.2.1 : Nat), .int .i64 x.2.2] (0, 0) _ rfl ?_ Try.underlying47 rfl (size47 _ _)) rfl ?_
    · exact heap_alloc_new w _
    exact ⟨rfl, Kp.alloc _ _ _⟩
set_option maxRecDepth 100000 in
theorem rnew_no (w : World) (k n : Int) (h : ¬ ((1 ≤ k ∧ k ≤ 16) ∧ 1 ≤ n ∧ n ≤ 32)) : Calls Try.prog 8 #[.int .i64 k, .int .i64 n] w fun e w' => e = .returned (.pointer none) ∧ Kp w w' [] := by
  by_cases h1 : k < 1
  · clear h
    go_enter Try.func8, Try.ntmps8
    go_wp2
    go_ret
    exact ⟨rfl, Kp.refl _ _⟩
  · by_cases h2 : 16 < k
    · clear h
      go_enter Try.func8, Try.ntmps8
      go_wp2
      go_ret
      exact ⟨rfl, Kp.refl _ _⟩
    · by_cases h3 : n < 1
      · clear h
        go_enter Try.func8, Try.ntmps8
        go_wp2
        go_ret
        exact ⟨rfl, Kp.refl _ _⟩
      · have h4 : 32 < n := by omega
        clear h
        go_enter Try.func8, Try.ntmps8
        go_wp2
        go_ret
        exact ⟨rfl, Kp.refl _ _⟩
theorem rc_new (w : World) (T S : Nat) : Rc (w.alloc (.cells #[.int .i64 (T : Nat), .int .i64 (S : Nat), .int .u32 0, .int .u32 0, .int .u32 0, .int .u32 0, .int .u32 0, .int .u32 0, .int .u32 0, .int .u32 0, .int .u32 0, .int .u32 0, .int .u32 0, .int .u32 0, .int .u32 0, .int .u32 0, .int .u32 0, .int .u32 0, .slice none 0 0] 64)) w.heap.size T S (fun _ => 0) (.slice none 0 0) := World.alloc_heap_new w _
set_option maxRecDepth 100000 in
theorem rnew_yes (w : World) (T S : Nat) (h1 : 1 ≤ T) (h2 : T ≤ 16) (h3 : 1 ≤ S) (h4 : S ≤ 32) : Calls Try.prog 8 #[.int .i64 T, .int .i64 S] w fun e w' => ∃ rb, e = .returned (.pointer (some ⟨rb, 0, none⟩)) ∧ Rm w' rb [rb] T S (fun _ => 0) [] ∧ w.heap.size ≤ rb ∧ Kp w w' [] := by
  have a1 : (1 : Int) ≤ T := by omega
  have a2 : (T : Int) ≤ 16 := by omega
  have a3 : (1 : Int) ≤ S := by omega
  have a4 : (S : Int) ≤ 32 := by omega
  have H0 := hid (rc_new w T S)
  go_enter Try.func8, Try.ntmps8
  go_wp2
  go_ret
  exact ⟨w.heap.size, rfl, ⟨_, rfl, H0.out, Er.nil _ _⟩, Nat.le_refl _, Kp.alloc _ _ _⟩
theorem size64 (F : Nat → Value) : (Try.prog.info? 64).map (·.size) = some (vcl F 19 0).toArray.size := by
  rw [List.size_toArray, vcl_length]
  kernel_rfl
theorem rV_one (T S : Nat) (M : Nat → Nat) (ao : Option Addr) (n c i : Nat) : (rV T S M (.slice ao n c) i).oneCell' = true := by
  unfold rV
  split
  · rfl
  split
  · rfl
  split <;> rfl
theorem one64 (T S : Nat) (M : Nat → Nat) (ao : Option Addr) (n c : Nat) : (vcl (rV T S M (.slice ao n c)) 19 0).toArray.all (·.oneCell') = true := all_oneCell_toArray (fun v hv => by
  obtain ⟨j, rfl⟩ := vcl_mem _ _ hv
  exact rV_one T S M ao n c j)
set_option maxRecDepth 100000 in
theorem rcopy_any (w : World) (rb : Nat) (Q : List Nat) (T S : Nat) (M : Nat → Nat) (L : El) (h : Rm w rb Q T S M L) : Calls Try.prog 50 #[.pointer (some ⟨rb, 0, none⟩)] w fun e w' => ∃ ob Q', e = .returned (.pointer (some ⟨ob, 0, none⟩)) ∧ Rm w' ob Q' T S M L ∧ w.heap.size ≤ ob ∧ Nw w (Q.filter (· ≠ rb)) Q' ∧ Kp w w' [] := by
  obtain ⟨V, hQ, hc, he⟩ := h
  obtain ⟨ao, cap, rfl⟩ := he.slice
  have HC := hid hc
  have HF := hid (show ∃ Q', Rm (w.alloc (.cells (vcl (rV T S M (.slice ao L.length cap)) 19 0).toArray 64)) w.heap.size Q' T S M L ∧ Nw w (Q.filter (· ≠ rb)) Q' from
    ⟨_, ⟨_, rfl, heap_alloc_new w _, he.keep (Kp.alloc _ _ _)⟩, fun k hk => by
      rcases List.mem_cons.1 hk with rfl | hk
      · exact .inr (Nat.le_refl _)
      · left
        rw [hQ]
        have hkr : k ≠ rb := by
          rintro rfl
          obtain ⟨-, cur, hx⟩ := owns_block he (g := k) (by simpa using hk)
          have := hc
          unfold Rc at this
          rw [this] at hx
          simp at hx
        simp only [List.mem_filter, List.mem_cons]
        exact ⟨.inr hk, by simpa using hkr⟩⟩)
  have HO := hid (one64 T S M ao L.length cap)
  clear hc he hQ
  go_enter Try.func50, Try.ntmps50
  go_wp2_with (first | (refine wpList_load_row rfl 64 (.tmp 7) rfl rb rfl 64 (vcl (rV T S M (.slice ao L.length cap)) 19 0).toArray (0, 0) _ HC.out Try.underlying64 rfl (size64 _) ?_) | (refine wpList_store_new rfl 64 (.tmp 3) (.tmp 8) rfl 64 _ (vcl (rV T S M (.slice ao L.length cap)) 19 0).toArray rfl rfl (size64 _) (by simp [vcl_length]) HO.out ?_) | fail)
  go_ret
  obtain ⟨Q', f1, f2⟩ := HF.out
  exact ⟨_, Q', rfl, f1, Nat.le_refl _, f2, Kp.alloc _ _ _⟩
end Go.Proofs.Ytoenipaccnpihaa
