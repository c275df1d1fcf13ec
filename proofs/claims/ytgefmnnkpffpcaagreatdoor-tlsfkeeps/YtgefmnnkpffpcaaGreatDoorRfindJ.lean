/- The reference: find. -/
import Derived.Test.YtgefmnnkpffpcaaGreatDoorRputJ
namespace Go.Proofs.YtgefmnnkpffpcaaGreatDoor
open Go.RowKit Go.Maps

theorem cls_nn {z : Int} (h : 16 ≤ z) : 0 ≤ cls z := by
  have hq := lg_pow (z := z) (by omega)
  have h4 : 4 ≤ lg z := by
    rcases Nat.lt_or_ge (lg z) 4 with h4 | h4
    · have : (2 : Int) ^ lg z * 2 ≤ 16 := by
        have : lg z = 0 ∨ lg z = 1 ∨ lg z = 2 ∨ lg z = 3 := by omega
        rcases this with e | e | e | e <;> rw [e] <;> decide
      omega
    · exact h4
  unfold cls
  have := Int.emod_nonneg (z / 2 ^ (lg z - 1)) (show (2 : Int) ≠ 0 by decide)
  omega
set_option maxRecDepth 100000 in
set_option maxHeartbeats 1000000 in
theorem rfind_no (w : World) (hb : Nat) (V mv : Value) (G : Nat → Value) (B : List Bl) (F : Nat → List Int) (z : Int) (h : Rh w hb V G mv B F) (hz : 16 ≤ z) (hz2 : z ≤ 131072) (hF : ∀ c, (clsFor z).toNat ≤ c → c < 32 → F c = []) :
    Calls Tryz.prog 78 #[.pointer (some ⟨hb, 0, none⟩), .int .i64 z] w fun e w' => e = .returned (.int .i64 (-1)) ∧ w' = w := by
  have hq := lg_pow (z := z) (by omega)
  have hc := clsFor_ref (z := z) (by omega)
  have HP := hid (rpower_any w z (by omega) (by omega))
  obtain ⟨p, hp⟩ : ∃ p : Int, (2 : Int) ^ lg z = p := ⟨_, rfl⟩
  rw [hp] at hq hc HP
  have HC := hid (rclass_any w (z + p / 2 - 1) (by omega) (by omega))
  have hnn := cls_nn (z := z + p / 2 - 1) (by omega)
  rw [← hc] at HC hnn
  obtain ⟨c0, hc0⟩ : ∃ c0 : Nat, clsFor z = c0 := ⟨(clsFor z).toNat, by omega⟩
  rw [hc0] at HC
  have HF := hid (show ∀ c, c0 ≤ c → c < 32 → F c = [] from fun c h1 h2 => hF c (by rw [hc0]; simpa using h1) h2)
  have H := hid h
  have hc0b : c0 ≤ 2 * 21 := by
    have : lg (z + p / 2 - 1) < 21 := lg_lt (by omega) (by omega) (by decide)
    have h3 : cls (z + p / 2 - 1) = (c0 : Int) := by rw [← hc]; exact hc0
    unfold cls at h3
    have := Int.emod_lt_of_pos ((z + p / 2 - 1) / 2 ^ (lg (z + p / 2 - 1) - 1)) (show (0 : Int) < 2 by decide)
    omega
  clear h hF hc hc0 hp hnn
  go_enter Tryz.func78, Tryz.ntmps78
  go_wp2_with fail
  refine HP.out.mono ?_
  rintro e w1 ⟨rfl, rfl⟩
  go_wp2_with fail
  refine HC.out.mono ?_
  rintro e w2 ⟨rfl, rfl⟩
  go_wp2_with fail
  go_loopw [7] (fun vc wr => ∃ c : Nat, c0 ≤ c ∧ c ≤ 42 ∧ vc = .int .i64 c ∧ wr = w2) (fun vc _ => 100 - (intOf vc).toNat)
  case atStart => exact ⟨c0, by omega, by omega, rfl, rfl⟩
  case round =>
    obtain ⟨c, h1, h2, rfl, rfl⟩ := hrel
    by_cases hlt : c < 32
    · have hltI : (c : Int) < 32 := by omega
      have cl := H.out.l hlt
      have hI := H.out.lst c hlt
      have e0 := HF.out c h1 hlt
      rw [e0] at hI
      obtain ⟨la, lc, hG⟩ := hI.slice
      rw [hG] at cl
      simp only [List.length_nil] at cl
      clear hI e0 hG
      go_wp2
      go_roundw
      case rel => exact ⟨c + 1, by omega, by omega, by simp, trivial⟩
      case measure => simp [intOf]; omega
    · have hltI : ¬ (c : Int) < 32 := by omega
      go_wp2
      go_ret
      exact ⟨rfl, rfl⟩
set_option maxRecDepth 100000 in
set_option maxHeartbeats 1000000 in
theorem rfind_yes (w : World) (hb : Nat) (V mv : Value) (G : Nat → Value) (B : List Bl) (F : Nat → List Int) (z : Int) (k : Nat) (a s : Int) (f : Bool) (l : List Int) (h : Rh w hb V G mv B F) (hl : B.length ≤ 100000) (hz : 16 ≤ z) (hz2 : z ≤ 131072) (hF : ∀ c, (clsFor z).toNat ≤ c → c < kl s → F c = []) (hs : 16 ≤ s) (hs2 : s < 65536) (hle : (clsFor z).toNat ≤ kl s) (hFl : F (kl s) = a :: l) (hll : (F (kl s)).length ≤ 10000) (hk : k < B.length) (e : B[k]! = (a, s, f)) (hu : ∀ j, j < B.length → B[j]!.1 = a → j = k) :
    Calls Tryz.prog 78 #[.pointer (some ⟨hb, 0, none⟩), .int .i64 z] w fun e w' => e = .returned (.int .i64 k) ∧ Rg w w' hb V G mv (B.set k (a, s, false)) (rmF F (kl s) a) := by
  have hq := lg_pow (z := z) (by omega)
  have hc := clsFor_ref (z := z) (by omega)
  have HP := hid (rpower_any w z (by omega) (by omega))
  obtain ⟨p, hp⟩ : ∃ p : Int, (2 : Int) ^ lg z = p := ⟨_, rfl⟩
  rw [hp] at hq hc HP
  have HC := hid (rclass_any w (z + p / 2 - 1) (by omega) (by omega))
  have hnn := cls_nn (z := z + p / 2 - 1) (by omega)
  rw [← hc] at HC hnn
  obtain ⟨c0, hc0⟩ : ∃ c0 : Nat, clsFor z = c0 := ⟨(clsFor z).toNat, by omega⟩
  rw [hc0] at HC
  have HO := hid (rout_any w hb V mv G B F k a s f h hl hk e hs hs2 hll)
  have HNu := hid (rnumber_any w hb V mv G B F a h hl)
  have HU := hid (show ∀ r, Fd B a r → r = (k : Int) from fun r q => by
    rcases q with ⟨-, q⟩ | ⟨i, rfl, h1, h2⟩
    · exact absurd (by rw [e]) (q k hk)
    · rw [hu i h1 h2])
  have hk24 := kl_lt hs hs2
  obtain ⟨cs, hcs⟩ : ∃ cs, kl s = cs := ⟨_, rfl⟩
  rw [hcs] at hF hle hFl hk24 HO ⊢
  have HF := hid (show ∀ c, c0 ≤ c → c < cs → F c = [] from fun c h1 h2 => hF c (by rw [hc0]; simpa using h1) h2)
  have hle2 : c0 ≤ cs := by rw [hc0] at hle; simpa using hle
  have H := hid h
  have HFL := hid hFl
  clear h hF hc hc0 hp hnn hle e hu hl hk hFl hll hcs
  go_enter Tryz.func78, Tryz.ntmps78
  go_wp2_with fail
  refine HP.out.mono ?_
  rintro e w1 ⟨rfl, rfl⟩
  go_wp2_with fail
  refine HC.out.mono ?_
  rintro e w2 ⟨rfl, rfl⟩
  go_wp2_with fail
  go_loopw [7] (fun vc wr => ∃ c : Nat, c0 ≤ c ∧ c ≤ cs ∧ vc = .int .i64 c ∧ wr = w2) (fun vc _ => 100 - (intOf vc).toNat)
  case atStart => exact ⟨c0, by omega, by omega, rfl, rfl⟩
  case round =>
    obtain ⟨c, h1, h2, rfl, rfl⟩ := hrel
    have hlt : c < 32 := by omega
    have hltI : (c : Int) < 32 := by omega
    have cl := H.out.l hlt
    have hI := H.out.lst c hlt
    by_cases hcc : c < cs
    · have e0 := HF.out c h1 hcc
      rw [e0] at hI
      obtain ⟨la, lc, hG⟩ := hI.slice
      rw [hG] at cl
      simp only [List.length_nil] at cl
      clear hI e0 hG
      go_wp2
      go_roundw
      case rel => exact ⟨c + 1, by omega, by omega, by simp, trivial⟩
      case measure => simp [intOf]; omega
    · obtain rfl : c = cs := by omega
      rw [HFL.out] at hI
      obtain ⟨la, lc, hG⟩ := hI.slice
      rw [hG] at cl hI
      obtain ⟨gl, rfl, -, -, cx⟩ := hI.at (k := 0) (x := a) rfl
      obtain ⟨M, hM⟩ : ∃ M, (a :: l).length = M := ⟨_, rfl⟩
      have hM0 : (0 : Int) < M := by rw [← hM]; simp
      rw [hM] at cl
      clear hI hG hM
      go_wp2_with fail
      refine HNu.out.mono ?_
      rintro e w3 ⟨r, rfl, hr, rfl⟩
      obtain rfl := HU.out r hr
      clear hr
      go_wp2_with fail
      refine HO.out.mono ?_
      rintro e w4 ⟨rfl, hR⟩
      have HR := hid hR
      clear hR
      go_wp2
      go_ret
      exact ⟨rfl, HR.out⟩
end Go.Proofs.YtgefmnnkpffpcaaGreatDoor

/- The reference: split. -/
namespace Go.Proofs.YtgefmnnkpffpcaaGreatDoor
open Go.RowKit Go.Maps

set_option maxRecDepth 100000 in
theorem rsplit_no (w : World) (hb : Nat) (V mv : Value) (G : Nat → Value) (B : List Bl) (F : Nat → List Int) (i : Nat) (a s z : Int) (f : Bool) (h : Rh w hb V G mv B F) (hl : B.length ≤ 100000) (hi : i < B.length) (e : B[i]! = (a, s, f)) (hs : 0 ≤ s) (hs2 : s ≤ 1000000) (hz : 0 ≤ z) (hz2 : z ≤ 1000000) (hr : s - z < 16) :
    Calls Tryz.prog 80 #[.pointer (some ⟨hb, 0, none⟩), .int .i64 i, .int .i64 z] w fun e w' => e = .returned (.bool false) ∧ w' = w := by
  have cc := h.b
  obtain ⟨ao, cap, rfl⟩ := h.row.slice
  obtain ⟨g, rfl, c1, c2, c3, ff, -, hg⟩ := h.row.at hi e
  obtain ⟨N, hN⟩ : ∃ N, B.length = N := ⟨_, rfl⟩
  rw [hN] at cc
  have hiN : (i : Int) < N := by omega
  have hlN : N ≤ 100000 := by omega
  clear h e hl hN hi
  go_enter Tryz.func80, Tryz.ntmps80
  go_wp2
  go_ret
  exact ⟨rfl, rfl⟩
theorem split_list (B : List Bl) (i : Nat) (x y : Bl) (hi : i < B.length) : (B.set i x).take (i + 1) ++ [y] ++ (B.set i x).drop (i + 1) = B.take i ++ x :: y :: B.drop (i + 1) := by
  have e : B.set i x = B.take i ++ x :: B.drop (i + 1) := by rw [List.set_eq_take_append_cons_drop, if_pos hi]
  have hl : (B.take i).length = i := by rw [List.length_take]; omega
  have e2 : (B.take i).drop (i + 1) = [] := List.drop_eq_nil_of_le (by omega)
  rw [e, List.take_append, List.drop_append, hl, List.take_of_length_le (by omega), e2, show i + 1 - i = 1 by omega]
  simp
abbrev ox (x : Bl) : Obj := .cells #[.int .i64 x.1, .int .i64 x.2.1, .bool x.2.2] 44
set_option maxRecDepth 100000 in
set_option maxHeartbeats 4000000 in
theorem rsplit_yes (w : World) (hb : Nat) (V mv : Value) (G : Nat → Value) (B : List Bl) (F : Nat → List Int) (i : Nat) (a s z : Int) (f : Bool) (h : Rh w hb V G mv B F) (hl : B.length ≤ 100000) (hi : i < B.length) (e : B[i]! = (a, s, f)) (ha : 0 ≤ a) (ha2 : a ≤ 1000000) (hs : 0 ≤ s) (hs2 : s ≤ 1000000) (hz : 0 ≤ z) (hz2 : z ≤ 1000000) (hr : ¬ s - z < 16) :
    Calls Tryz.prog 80 #[.pointer (some ⟨hb, 0, none⟩), .int .i64 i, .int .i64 z] w fun e w' => e = .returned (.bool true) ∧ Rg w w' hb V G mv (B.take i ++ (a, z, f) :: (a + z, s - z, false) :: B.drop (i + 1)) F := by
  have cc := h.b
  obtain ⟨ao, cap, rfl⟩ := h.row.slice
  obtain ⟨g, rfl, c1, c2, c3, ff, -, hg⟩ := h.row.at hi e
  obtain ⟨N, hN⟩ : ∃ N, B.length = N := ⟨_, rfl⟩
  have KA := hid (Kp.alloc w (.cells #[.int .i64 (a + z), .int .i64 (s - z), .bool false] 44) [])
  have hA := h.same KA.out
  have h1 := (h.inrow (h.row.size hi e z)).same (Kp.alloc _ (.cells #[.int .i64 (a + z), .int .i64 (s - z), .bool false] 44) [])
  have hcap := (h.row.open (by rintro rfl; simp at hi)).choose_spec.choose_spec.2.2.2.2.1
  have ac := hA.b
  have a2 := KA.out.cell c2 (by simp)
  have fi : (w.alloc (.cells #[.int .i64 (a + z), .int .i64 (s - z), .bool false] 44)).frozen? ⟨g, i * 3 + 1, none⟩ = false := by
    obtain ⟨g', eg, -, -, -, ff', -⟩ := hA.row.at hi e
    cases eg
    exact ff' _
  obtain ⟨i1, hi1⟩ : ∃ i1, i + 1 = i1 := ⟨_, rfl⟩
  have hiN : (i : Int) < N := by omega
  have hi1N : (i1 : Int) ≤ N := by omega
  rw [hN] at cc hcap ac
  have hlN : N ≤ 100000 := by omega
  have hw1 : IntKind.i64.wrap ((i : Int) + 1) = (i1 : Int) := by rw [← hi1]; exact IntWalk.i64_in _ ⟨by omega, by omega⟩
  have hwz : IntKind.i64.wrap (s - z) = s - z := IntWalk.i64_in _ ⟨by omega, by omega⟩
  have hwa : IntKind.i64.wrap (a + z) = a + z := IntWalk.i64_in _ ⟨by omega, by omega⟩
  have H1 := hid h1
  have I1 := hid hi1
  have HN := hid hN
  have HI := hid hi
  have X0 := hid (show ((w.setCell ⟨g, i * 3 + 1, none⟩ (.int .i64 z)).alloc (.cells #[.int .i64 (a + z), .int .i64 (s - z), .bool false] 44)).heap[w.heap.size]? = some (.cells #[.int .i64 (a + z), .int .i64 (s - z), .bool false] 44 (0, 0)) by
    have := heap_alloc_new (w.setCell ⟨g, i * 3 + 1, none⟩ (.int .i64 z)) (.cells #[.int .i64 (a + z), .int .i64 (s - z), .bool false] 44)
    simpa using this)
  clear h e h1 hi1 hN hi ff hl hA
  go_enter Tryz.func80, Tryz.ntmps80
  go_wp2_with fail
  obtain ⟨B1, hB1⟩ : ∃ B1, B.set i (a, z, f) = B1 := ⟨_, rfl⟩
  have HR := hid (show ∀ w2, Rg ((w.setCell ⟨g, i * 3 + 1, none⟩ (.int .i64 z)).alloc (.cells #[.int .i64 (a + z), .int .i64 (s - z), .bool false] 44)) w2 hb (.slice (some ⟨g, 0, none⟩) B.length cap) G mv (B1.take i1 ++ [(a + z, s - z, false)] ++ B1.drop i1) F → Rg w w2 hb (.slice (some ⟨g, 0, none⟩) B.length cap) G mv (B.take i ++ (a, z, f) :: (a + z, s - z, false) :: B.drop (i + 1)) F from fun w2 q => by
    have e := split_list B i (a, z, f) (a + z, s - z, false) HI.out
    rw [I1.out, hB1] at e
    rw [I1.out, ← e]
    exact Rg.past (((Kp.setCell w ⟨g, i * 3 + 1, none⟩ (.int .i64 z)).trans (Kp.alloc _ _ _)).mono (by intro k hk _; simp at hk; simp [hk, Value.ownBlock])) Nw.refl q)
  have H2 := H1
  rw [hB1] at H2
  have hl1 : B1.length = N := by rw [← hB1, List.length_set]; exact HN.out
  rw [HN.out] at H2
  clear H1 hB1 cc c1 c2 c3 fi hg a2 ac KA
  generalize hw' : ((w.setCell ⟨g, i * 3 + 1, none⟩ (.int .i64 z)).alloc (.cells #[.int .i64 (a + z), .int .i64 (s - z), .bool false] 44)) = w' at *
  clear hw'
  obtain ⟨xb, hxb⟩ : ∃ xb, w.heap.size = xb := ⟨_, rfl⟩
  rw [hxb] at X0 ⊢
  clear hxb
  have cc := H2.out.b
  obtain ⟨x0, x1, x2⟩ : w'.cell? ⟨xb, 0, none⟩ = some (.int .i64 (a + z)) ∧ w'.cell? ⟨xb, 1, none⟩ = some (.int .i64 (s - z)) ∧ w'.cell? ⟨xb, 2, none⟩ = some (.bool false) := by
    have := X0.out
    refine ⟨?_, ?_, ?_⟩ <;> simp [World.cell?, this]
  have hcI : (i1 : Int) ≤ cap := by omega
  have CK := hid (fun (w1 : World) (hk : Kp w' w1 []) => show w1.cell? ⟨hb, 0, none⟩ = some (.slice (some ⟨g, 0, none⟩) N cap) ∧ w1.frozen? ⟨hb, 0, none⟩ = false ∧ w1.cell? ⟨xb, 0, none⟩ = some (.int .i64 (a + z)) ∧ w1.cell? ⟨xb, 1, none⟩ = some (.int .i64 (s - z)) ∧ w1.cell? ⟨xb, 2, none⟩ = some (.bool false) from ⟨hk.cell cc (by simp), (H2.out.same hk).free _, hk.cell x0 (by simp), hk.cell x1 (by simp), hk.cell x2 (by simp)⟩)
  have RF := hid (H2.out.row.front (k := i1) (by omega))
  have HT := hid (show (B1.take i1).length ≤ 1000000 ∧ (B1.drop i1).length ≤ 1000000 ∧ (B1.take i1 ++ [(a + z, s - z, false)]).length ≤ 1000000 by simp; omega)
  have K1 := hid (show Kp w' (World.drew (w'.alloc (.cells #[.int .i64 (a + z), .int .i64 (s - z), .bool false] 44))) [] from (Kp.alloc w' _ []).trans (Kp.drew _ []))
  have N1 := hid (show Bv (World.drew (w'.alloc (.cells #[.int .i64 (a + z), .int .i64 (s - z), .bool false] 44))) (.slice (some ⟨w'.heap.size, 0, none⟩) 1 1) [(a + z, s - z, false)] from ((Br.one w' (a + z, s - z, false)).front (k := 1) (Nat.le_refl _)).kp (Kp.drew _ []))
  obtain ⟨cA, fA, xA0, xA1, xA2⟩ := CK.out _ (Kp.alloc w' (.cells #[.int .i64 (a + z), .int .i64 (s - z), .bool false] 44) [])
  refine (Classical.em (cap = i1)).elim (fun hcp => ?tight) (fun hcp => ?wide)
  case' tight =>
    have hcq : (cap = i1) = True := eq_true hcp
    have RB := hid (show Bv w' (.slice (some ⟨g, 0, none⟩) (N - i1) (cap - i1)) (B1.drop i1) by
      have e0 : B1.drop i1 = [] := List.drop_eq_nil_of_le (by omega)
      rw [e0, show N - i1 = 0 by omega]
      exact bv_empty _ _ _ _)
    clear hcp hl1
  case' wide =>
    have hcq : (cap = i1) = False := eq_false hcp
    have RB := hid (show Bv w' (.slice (some ⟨g, i1 * 3, none⟩) (N - i1) (cap - i1)) (B1.drop i1) from H2.out.row.back (by omega))
    clear hcp hl1
  all_goals (
    go_region_law
      (first
        | (have _hh := hI7; refine step_joinB (by rfl) _ _ (by rfl) 60 (by rfl) w'.heap.size _ _ (B1.take i1 ++ [(a + z, s - z, false)]) (B1.drop i1) (by rfl) hI7 (by rfl) (RB.out.kp K7) HT.out.2.2 HT.out.2.1 K7.size ?_; intro v8 w8 hI8 hG8; obtain ⟨c8, f8, -, -, -⟩ := CK.out _ (grown_overB hI7 hG8 K7 (Nat.le_refl _)); obtain ⟨ao8, cp8, hv8⟩ := hI8.slice; obtain ⟨m8, hm8⟩ : ∃ m8, (B1.take i1 ++ [(a + z, s - z, false)] ++ B1.drop i1).length = m8 := ⟨_, rfl⟩; rw [hm8] at hv8; subst hv8)
        | (have _hh := ka; refine step_joinB (by rfl) _ _ (by rfl) 52 (by rfl) w'.heap.size _ _ (B1.take i1) [(a + z, s - z, false)] (by rfl) (hI6.keep (Kp.alloc w6 (.cells #[.int .i64 (a + z), .int .i64 (s - z), .bool false] 44) [])) (by rfl) ((Br.one w6 (a + z, s - z, false)).front (k := 1) (Nat.le_refl _)) HT.out.1 (by simp) (by have := ka.size; simp; omega) ?_; intro v7 w7 hI7 hG7; have K7 := grown_overB (hI6.keep (Kp.alloc w6 (.cells #[.int .i64 (a + z), .int .i64 (s - z), .bool false] 44) [])) hG7 (ka.trans (Kp.alloc _ _ _)) (Nat.le_refl _); obtain ⟨c7, f7, -, -, -⟩ := CK.out _ K7)
        | (have _hh := kb; refine step_joinB (by rfl) _ _ (by rfl) 52 (by rfl) w'.heap.size _ _ (B1.take i1) [(a + z, s - z, false)] (by rfl) hI6 (by rfl) (N1.out.kp kb') HT.out.1 (by simp) (by have := kb.size; omega) ?_; intro v7 w7 hI7 hG7; have K7 := grown_overB hI6 hG7 kb (Nat.le_refl _); obtain ⟨c7, f7, -, -, -⟩ := CK.out _ K7)
        | (refine step_joinB (by rfl) _ _ (by rfl) 49 (by rfl) w'.heap.size _ _ [] (B1.take i1) (by rfl) (Br.nil _ _) (by rfl) (RF.out.kp (Kp.drew w' [])) (by simp) HT.out.1 (Nat.le_refl _) ?_; intro v6 w6 hI6 hG6; have ka : Kp w' w6 [] := (Kp.drew w' []).trans (Kp.ofGrown hG6 (by intro g hg; simp [Value.ownBlock] at hg)); rw [List.nil_append] at hI6; obtain ⟨c6, f6, x60, x61, x62⟩ := CK.out _ ka; obtain ⟨c6b, f6b, -, -, -⟩ := CK.out _ (ka.trans (Kp.alloc w6 (.cells #[.int .i64 (a + z), .int .i64 (s - z), .bool false] 44) [])))
        | (refine step_joinB (by rfl) _ _ (by rfl) 49 (by rfl) w'.heap.size _ _ [] (B1.take i1) (by rfl) (Br.nil _ _) (by rfl) (RF.out.kp K1.out) (by simp) HT.out.1 K1.out.size ?_; intro v6 w6 hI6 hG6; have kb' : Kp (World.drew (w'.alloc (.cells #[.int .i64 (a + z), .int .i64 (s - z), .bool false] 44))) w6 [] := Kp.ofGrown hG6 (by intro g hg; simp [Value.ownBlock] at hg); have kb := K1.out.trans kb'; rw [List.nil_append] at hI6; obtain ⟨c6, f6, -, -, -⟩ := CK.out _ kb)))
  all_goals (
    have K8 := hid (grown_overB hI7 hG8 K7 (Nat.le_refl _))
    have HS := hid (H2.out.newrow K8.out (hI8.low (Nat.zero_le _)))
    have HF := hid (fun g q => (owns_block hI8 (g := g) q).1)
    clear hI8 hI7 hI6 hG8 hG7 hG6 K7 hm8 RB RF
    go_wp2
    go_ret
    exact ⟨rfl, HR.out _ ⟨_, _, HS.out, (K8.out.nil).trans ((Kp.setCell _ _ _).mono (by simp)), Nw.row HF.out⟩⟩)
end Go.Proofs.YtgefmnnkpffpcaaGreatDoor
