/- The reference: Left, Len, In. -/
import Derived.Test.YtgefmnnkpffpcaaGreatDoorRfree
import Derived.Test.YtgefmnnkpffpcaaGreatDoorRputJ
import Derived.Test.YtgefmnnkpffpcaaGreatDoorHrepCpJ
import Derived.Test.YtgefmnnkpffpcaaGreatDoorHcheck3J
import Derived.Test.YtgefmnnkpffpcaaGreatDoorHhasJ
import Derived.Test.YtgefmnnkpffpcaaGreatDoorHallJ
namespace Go.Proofs.YtgefmnnkpffpcaaGreatDoor
open Go.RowKit Go.Maps

def leftP : List Bl → Int
  | [] => 0
  | x :: r => (if x.2.2 then x.2.1 - 8 else 0) + leftP r
theorem leftP_app : ∀ (l m : List Bl), leftP (l ++ m) = leftP l + leftP m
  | [], m => by simp [leftP]
  | x :: r, m => by rw [List.cons_append, leftP, leftP, leftP_app r m]; omega
theorem leftP_bd : ∀ (l : List Bl), (∀ x ∈ l, 16 ≤ x.2.1) → 0 ≤ leftP l ∧ leftP l ≤ szs l
  | [], _ => by simp [leftP, szs]
  | x :: r, h => by
    have h1 := leftP_bd r fun y hy => h y (by simp [hy])
    have h2 := h x (by simp)
    rw [szs_cons, leftP]
    split <;> omega
def lenP (l : List Bl) : Nat := (l.filter fun x => !x.2.2).length
theorem take_atB (l : List Bl) (k : Nat) (h : k < l.length) : l.take (k + 1) = l.take k ++ [l[k]!] := by
  rw [List.take_add_one, List.getElem?_eq_getElem h, getElem!_pos l k h]; rfl
theorem szs_take (l : List Bl) (h : ∀ x ∈ l, 16 ≤ x.2.1) (k : Nat) : szs (l.take k) ≤ szs l := by
  have h1 := szs_app (l.take k) (l.drop k)
  rw [List.take_append_drop] at h1
  have := szs_nn (l.drop k) fun y hy => h y (List.mem_of_mem_drop hy)
  omega
set_option maxRecDepth 100000 in
theorem rleft_any (w : World) (hb : Nat) (V mv : Value) (G : Nat → Value) (B : List Bl) (F : Nat → List Int) (h : Rh w hb V G mv B F) (hl : B.length ≤ 100000) (h16 : ∀ x ∈ B, 16 ≤ x.2.1) (hm : szs B < 65536) : Calls Tryz.prog 44 #[.pointer (some ⟨hb, 0, none⟩)] w fun e w' => e = .returned (.int .i64 (leftP B)) ∧ w' = w := by
  have cc := h.b
  have hd := h.row
  obtain ⟨ao, cap, rfl⟩ := hd.slice
  obtain ⟨N, hN⟩ : ∃ N, B.length = N := ⟨_, rfl⟩
  rw [hN] at cc hl
  have HD := hid hd
  rw [hN] at HD
  have HN := hid hN
  have HB := hid (show ∀ k, 0 ≤ leftP (B.take k) ∧ leftP (B.take k) < 65536 from fun k => by
    have h1 := leftP_bd (B.take k) fun y hy => h16 y (List.mem_of_mem_take hy)
    have h2 := szs_take B h16 k
    omega)
  have H16 := hid (show ∀ k, k < B.length → 16 ≤ B[k]!.2.1 ∧ B[k]!.2.1 < 65536 from fun k hk => by
    have hmem : B[k]! ∈ B := by rw [getElem!_pos B k hk]; exact List.getElem_mem hk
    refine ⟨h16 _ hmem, ?_⟩
    have h2 := szs_take B h16 (k + 1)
    rw [take_atB B k hk, szs_app, szs_cons, show szs [] = 0 from rfl] at h2
    have h3 := szs_nn (B.take k) fun y hy => h16 y (List.mem_of_mem_take hy)
    omega)
  clear h hd hN h16 hm
  go_enter Tryz.func44, Tryz.ntmps44
  go_wp2_with fail
  go_loopw [3, 4] (fun vn vi wr => ∃ (i : Nat), i ≤ N ∧ vn = .int .i64 (leftP (B.take i)) ∧ vi = .int .i64 i ∧ wr = w) (fun _ vi _ => N - (intOf vi).toNat)
  case atStart => exact ⟨0, by omega, rfl, rfl, rfl⟩
  case round =>
    obtain ⟨i, hi, rfl, rfl, rfl⟩ := hrel
    obtain ⟨b1, b2⟩ := HB.out i
    by_cases hlt : i < N
    · have hltI : (i : Int) < N := by omega
      have hil : i < B.length := by have := HN.out; omega
      obtain ⟨d1, d2⟩ := H16.out i hil
      obtain ⟨x1, x2, f, hx⟩ : ∃ x1 x2 f, B[i]! = (x1, x2, f) := ⟨B[i]!.1, B[i]!.2.1, B[i]!.2.2, rfl⟩
      rw [hx] at d1 d2
      obtain ⟨g, rfl, -, c2, c3, -, -, -⟩ := HD.out.at hil hx
      have HE := hid (show leftP (B.take (i + 1)) = leftP (B.take i) + if f then x2 - 8 else 0 by rw [take_atB B i hil, leftP_app, hx]; simp [leftP])
      obtain ⟨n, hn⟩ : ∃ n, leftP (B.take i) = n := ⟨_, rfl⟩
      rw [hn] at b1 b2 HE ⊢
      simp only at d1 d2
      clear hx hn
      cases f with
      | true =>
        have hw1 : IntKind.i64.wrap (n + x2) = n + x2 := IntWalk.i64_in _ ⟨by omega, by omega⟩
        have hw2 : IntKind.i64.wrap (n + x2 - 8) = n + x2 - 8 := IntWalk.i64_in _ ⟨by omega, by omega⟩
        go_wp2
        go_roundw
        case rel => exact ⟨i + 1, by omega, by rw [HE.out, if_pos rfl]; congr 1; omega, by simp, trivial⟩
        case measure => simp [intOf]; omega
      | false =>
        go_wp2
        go_roundw
        case rel => exact ⟨i + 1, by omega, by rw [HE.out]; simp, by simp, trivial⟩
        case measure => simp [intOf]; omega
    · have hltI : ¬ (i : Int) < N := by omega
      have HE := hid (show leftP (B.take i) = leftP B by rw [List.take_of_length_le (by have := HN.out; omega)])
      rw [HE.out]
      go_wp2
      go_ret
      exact ⟨rfl, rfl⟩
set_option maxRecDepth 100000 in
theorem rlen_any (w : World) (hb : Nat) (V mv : Value) (G : Nat → Value) (B : List Bl) (F : Nat → List Int) (h : Rh w hb V G mv B F) (hl : B.length ≤ 100000) : Calls Tryz.prog 45 #[.pointer (some ⟨hb, 0, none⟩)] w fun e w' => e = .returned (.int .i64 (lenP B)) ∧ w' = w := by
  have cc := h.b
  have hd := h.row
  obtain ⟨ao, cap, rfl⟩ := hd.slice
  obtain ⟨N, hN⟩ : ∃ N, B.length = N := ⟨_, rfl⟩
  rw [hN] at cc hl
  have HD := hid hd
  rw [hN] at HD
  have HN := hid hN
  have HB := hid (show ∀ k, lenP (B.take k) ≤ 100000 from fun k => Nat.le_trans (List.length_filter_le _ _) (by rw [List.length_take]; omega))
  clear h hd hN
  go_enter Tryz.func45, Tryz.ntmps45
  go_wp2_with fail
  go_loopw [3, 4] (fun vn vi wr => ∃ (i : Nat), i ≤ N ∧ vn = .int .i64 (lenP (B.take i)) ∧ vi = .int .i64 i ∧ wr = w) (fun _ vi _ => N - (intOf vi).toNat)
  case atStart => exact ⟨0, by omega, rfl, rfl, rfl⟩
  case round =>
    obtain ⟨i, hi, rfl, rfl, rfl⟩ := hrel
    have b2 := HB.out i
    by_cases hlt : i < N
    · have hltI : (i : Int) < N := by omega
      have hil : i < B.length := by have := HN.out; omega
      obtain ⟨x1, x2, f, hx⟩ : ∃ x1 x2 f, B[i]! = (x1, x2, f) := ⟨B[i]!.1, B[i]!.2.1, B[i]!.2.2, rfl⟩
      obtain ⟨g, rfl, -, c2, c3, -, -, -⟩ := HD.out.at hil hx
      have HE := hid (show lenP (B.take (i + 1)) = lenP (B.take i) + if f then 0 else 1 by rw [take_atB B i hil, hx]; unfold lenP; rw [List.filter_append, List.length_append]; cases f <;> simp)
      obtain ⟨n, hn⟩ : ∃ n, lenP (B.take i) = n := ⟨_, rfl⟩
      rw [hn] at b2 HE ⊢
      clear hx hn
      cases f with
      | true =>
        go_wp2
        go_roundw
        case rel => exact ⟨i + 1, by omega, by rw [HE.out]; simp, by simp, trivial⟩
        case measure => simp [intOf]; omega
      | false =>
        have hw1 : IntKind.i64.wrap ((n : Int) + 1) = (n : Int) + 1 := IntWalk.i64_in _ ⟨by omega, by omega⟩
        go_wp2
        go_roundw
        case rel => exact ⟨i + 1, by omega, by rw [HE.out]; simp, by simp, trivial⟩
        case measure => simp [intOf]; omega
    · have hltI : ¬ (i : Int) < N := by omega
      have HE := hid (show lenP (B.take i) = lenP B by rw [List.take_of_length_le (by have := HN.out; omega)])
      rw [HE.out]
      go_wp2
      go_ret
      exact ⟨rfl, rfl⟩
end Go.Proofs.YtgefmnnkpffpcaaGreatDoor

/- The reference: In. -/
namespace Go.Proofs.YtgefmnnkpffpcaaGreatDoor
open Go.RowKit Go.Maps

/-- Is the offset within this block's piece? -/
def inX (o : Int) (x : Bl) : Bool := !x.2.2 && decide (x.1 + 8 ≤ o) && decide (o < x.1 + x.2.1)
def inP (o : Int) (l : List Bl) : Bool := decide (0 ≤ o) && decide (o % 4 = 0) && l.any (inX o)
set_option maxRecDepth 100000 in
set_option maxHeartbeats 1000000 in
theorem rin_any (w : World) (hb : Nat) (V mv : Value) (G : Nat → Value) (B : List Bl) (F : Nat → List Int) (o : Int) (h : Rh w hb V G mv B F) (hl : B.length ≤ 100000) (hx : ∀ x ∈ B, 0 ≤ x.1 ∧ x.1 ≤ 1000000 ∧ 0 ≤ x.2.1 ∧ x.2.1 ≤ 1000000) : Calls Tryz.prog 41 #[.pointer (some ⟨hb, 0, none⟩), .int .i64 o] w fun e w' => e = .returned (.bool (inP o B)) ∧ Kp w w' [] := by
  by_cases h0 : o < 0
  · rw [show inP o B = false by unfold inP; rw [decide_eq_false (by omega : ¬ 0 ≤ o)]; rfl]
    clear h hl hx
    go_enter Tryz.func41, Tryz.ntmps41
    go_wp2
    go_ret
    exact ⟨rfl, Kp.refl _ _⟩
  by_cases h4 : o % 4 = 0
  case neg =>
    rw [show inP o B = false by unfold inP; rw [decide_eq_false h4]; simp]
    have h4b : (o % 4 == 0) = false := by simpa using h4
    have h4c : (o % 4 != 0) = true := by simpa using h4
    clear h hl hx
    go_enter Tryz.func41, Tryz.ntmps41
    go_wp2
    go_ret
    exact ⟨rfl, Kp.refl _ _⟩
  have HO := hid (show inP o B = B.any (inX o) by unfold inP; rw [decide_eq_true (by omega : 0 ≤ o), decide_eq_true h4]; rfl)
  rw [HO.out]
  have cc := h.b
  have hd := h.row
  obtain ⟨ao, cap, rfl⟩ := hd.slice
  obtain ⟨N, hN⟩ : ∃ N, B.length = N := ⟨_, rfl⟩
  rw [hN] at cc hl
  have HD := hid hd
  rw [hN] at HD
  have HN := hid hN
  have HX := hid (show ∀ k, k < B.length → 0 ≤ B[k]!.1 ∧ B[k]!.1 ≤ 1000000 ∧ 0 ≤ B[k]!.2.1 ∧ B[k]!.2.1 ≤ 1000000 from fun k hk => hx _ (by rw [getElem!_pos B k hk]; exact List.getElem_mem hk))
  clear h hd hN hx HO
  go_enter Tryz.func41, Tryz.ntmps41
  go_wp2_with fail
  go_loopw [5] (fun vi wr => ∃ (i : Nat), i ≤ N ∧ vi = .int .i64 i ∧ Hid (Kp w wr []) ∧ Hid ((B.take i).any (inX o) = false)) (fun vi _ => N - (intOf vi).toNat)
  case atStart => exact ⟨0, by omega, rfl, hid (Kp.refl _ _), hid rfl⟩
  case round =>
    obtain ⟨i, hi, rfl, hK, hA⟩ := hrel
    rename_i wr
    have cw := hK.out.cell cc (by simp)
    by_cases hlt : i < N
    · have hltI : (i : Int) < N := by omega
      have hil : i < B.length := by have := HN.out; omega
      obtain ⟨x1, x2, f, hx⟩ : ∃ x1 x2 f, B[i]! = (x1, x2, f) := ⟨B[i]!.1, B[i]!.2.1, B[i]!.2.2, rfl⟩
      have hq := HX.out i hil
      rw [hx] at hq
      simp only at hq
      obtain ⟨q1, q2, q3, q4⟩ := hq
      obtain ⟨g, rfl, c1, c2, c3, -, -, -⟩ := (HD.out.keep hK.out).at hil hx
      have hw1 : IntKind.i64.wrap (x1 + 8) = x1 + 8 := IntWalk.i64_in _ ⟨by omega, by omega⟩
      have hw2 : IntKind.i64.wrap (x1 + x2) = x1 + x2 := IntWalk.i64_in _ ⟨by omega, by omega⟩
      have HE := hid (show (B.take (i + 1)).any (inX o) = inX o (x1, x2, f) by rw [take_atB B i hil, List.any_append, hA.out, hx]; simp)
      have HY := hid (show inX o (x1, x2, f) = true → B.any (inX o) = true from fun q => List.any_eq_true.2 ⟨_, by rw [← hx, getElem!_pos B i hil]; exact List.getElem_mem hil, q⟩)
      clear hx
      cases f with
      | true =>
        go_wp2_with fail
        go_quiet (fail)
        go_wp2
        go_roundw
        case rel => exact ⟨i + 1, by omega, by simp, hid (hK.out.trans (kp_drewN _ _ _)), hid (by rw [HE.out]; rfl)⟩
        case measure => simp [intOf]; omega
      | false =>
        by_cases g1 : x1 + 8 ≤ o
        · by_cases g2 : o < x1 + x2
          · have HZ := HY.out (by simp [inX, g1, g2])
            have HZ2 := hid HZ
            clear HZ
            go_wp2_with fail
            go_quiet (fail)
            go_wp2
            go_ret
            exact ⟨by rw [HZ2.out]; rfl, hK.out.trans (kp_drewN _ _ _)⟩
          · have G2 := hid (show inX o (x1, x2, false) = false by simp [inX, g2])
            go_wp2_with fail
            go_quiet (fail)
            go_wp2
            go_roundw
            case rel => exact ⟨i + 1, by omega, by simp, hid (hK.out.trans (kp_drewN _ _ _)), hid (by rw [HE.out]; exact G2.out)⟩
            case measure => simp [intOf]; omega
        · have G2 := hid (show inX o (x1, x2, false) = false by simp [inX, g1])
          have g1d : decide (x1 + 8 ≤ o) = false := decide_eq_false g1
          have g1b : o < x1 + 8 := by omega
          go_wp2_with fail
          go_quiet (fail)
          go_wp2
          go_roundw
          case rel => exact ⟨i + 1, by omega, by simp, hid (hK.out.trans (kp_drewN _ _ _)), hid (by rw [HE.out]; exact G2.out)⟩
          case measure => simp [intOf]; omega
    · have hltI : ¬ (i : Int) < N := by omega
      have HE := hid (show B.any (inX o) = false by have := hA.out; rw [List.take_of_length_le (by have := HN.out; omega)] at this; exact this)
      clear hA
      go_wp2
      go_ret
      exact ⟨by rw [HE.out]; rfl, hK.out⟩
end Go.Proofs.YtgefmnnkpffpcaaGreatDoor

/- Plain facts about a heap between calls: bounds, and the looking that both do. No Go is walked here. -/
namespace Go.Proofs.YtgefmnnkpffpcaaGreatDoor

theorem contig_len {n : Int} : ∀ (L : List Bl) (a : Int), contig a L n → 16 * (L.length : Int) ≤ n - a ∧ szs L = n - a
  | [], a, h => by have : a = n := h; simp [szs]; omega
  | (b, z, f) :: r, a, h => by
    obtain ⟨rfl, h1, h2, h3⟩ := h
    have := contig_len r _ h3
    rw [szs_cons]
    simp only [List.length_cons]
    omega
theorem nodup_len {α : Type} [BEq α] [LawfulBEq α] : ∀ (l m : List α), l.Nodup → (∀ x ∈ l, x ∈ m) → l.length ≤ m.length
  | [], _, _, _ => by simp
  | x :: r, m, h, hs => by
    have hx := hs x (by simp)
    have hn := List.nodup_cons.1 h
    have := nodup_len r (m.erase x) hn.2 (fun y hy => by
      have hne : y ≠ x := fun e => hn.1 (by rw [← e]; exact hy)
      exact (List.mem_erase_of_ne hne).2 (hs y (by simp [hy])))
    rw [List.length_erase_of_mem hx] at this
    have := List.length_pos_of_mem hx
    simp only [List.length_cons]
    omega
section
variable {n : Nat} {g : Mem} {L : List Bl} {F : Nat → List Int}
theorem Hs.len (h : Hs n g L F) : L.length ≤ 4096 := by
  have := (contig_len L 112 h.rep.ct).1
  have := h.rep.nn
  omega
theorem Hs.szs (h : Hs n g L F) : szs L + 32 < 65536 := by
  have := (contig_len L 112 h.rep.ct).2
  have := h.rep.nn
  omega
theorem Hs.h16 (h : Hs n g L F) : ∀ x ∈ L, 16 ≤ x.2.1 := fun _ hx => (h.rep.blk hx).2.1
theorem Hs.fl (h : Hs n g L F) (c : Nat) : (F c).length ≤ 4096 := by
  by_cases hc : c < 24
  · have := nodup_len (F c) (L.map (·.1)) (h.rep.nd c hc) (fun x hx => by
      obtain ⟨z, hz, -⟩ := h.rep.mem hc hx
      exact List.mem_map.2 ⟨_, hz, rfl⟩)
    have := h.len
    simp at *
    omega
  · rw [h.lo c (by omega)]; simp
theorem Hs.bd (h : Hs n g L F) {x : Bl} (hx : x ∈ L) : 0 ≤ x.1 ∧ x.1 ≤ 65536 ∧ 16 ≤ x.2.1 ∧ x.2.1 < 65536 ∧ x.1 % 8 = 0 ∧ x.2.1 % 8 = 0 ∧ 112 ≤ x.1 ∧ x.1 + x.2.1 ≤ n ∧ n ≤ 65536 := by
  have := h.rep.blk hx
  have := h.rep.nn
  omega
theorem Hs.uniq {A r : List Bl} {a z : Int} {f : Bool} (h : Hs n g (A ++ (a, z, f) :: r) F) : ∀ j, j < (A ++ (a, z, f) :: r).length → (A ++ (a, z, f) :: r)[j]!.1 = a → j = A.length := by
  intro j hj e
  obtain ⟨c1, c2, c3, c4⟩ := contig_split h.rep.ct
  rcases Nat.lt_trichotomy j A.length with q | q | q
  · exfalso
    have e2 : (A ++ (a, z, f) :: r)[j]! = A[j] := by
      rw [getElem!_pos _ j hj, List.getElem_append_left q]
    rw [e2] at e
    have := contig_mem c1 (List.getElem_mem q)
    omega
  · exact q
  · exfalso
    obtain ⟨k, rfl⟩ : ∃ k, j = A.length + 1 + k := ⟨j - (A.length + 1), by omega⟩
    have hk : k < r.length := by simp at hj; omega
    have e2 : (A ++ (a, z, f) :: r)[A.length + 1 + k]! = r[k] := by
      rw [getElem!_pos _ (A.length + 1 + k) hj, List.getElem_append_right (by omega)]
      simp only [show A.length + 1 + k - A.length = k + 1 by omega, List.getElem_cons_succ]
    rw [e2] at e
    have := contig_mem c4 (List.getElem_mem hk)
    omega
theorem Hs.ok (h : Hs n g L F) : Okp n (piecesOf L) := fun p hp => by
  have := pieces_at h.rep.ct hp
  omega
theorem pieces_le : ∀ (L : List Bl), (piecesOf L).length ≤ L.length
  | [] => by simp [piecesOf]
  | (a, z, f) :: r => by
    have := pieces_le r
    cases f with
    | true => show (piecesOf r).length ≤ _; simp; omega
    | false => show ((a + 8, z) :: piecesOf r).length ≤ _; simp; omega
theorem Hs.pl (h : Hs n g L F) : (piecesOf L).length ≤ 4096 := Nat.le_trans (pieces_le L) h.len
/-- No piece there. -/
theorem no_piece {o : Int} (hp : hasP (piecesOf L) o = false) : ∀ j, j < L.length → L[j]!.1 = o - 8 → L[j]!.2.2 = true := by
  intro j hj e
  cases hf : L[j]!.2.2 with
  | true => rfl
  | false =>
    have : hasP (piecesOf L) o = true := (hasP_pieces L o).2 ⟨L[j]!, by rw [getElem!_pos L j hj]; exact List.getElem_mem hj, hf, by omega⟩
    rw [hp] at this
    cases this
/-- A piece there. -/
theorem is_piece (h : Hs n g L F) {o : Int} (hp : hasP (piecesOf L) o = true) : ∃ A z r, L = A ++ (o - 8, z, false) :: r ∧ getP (piecesOf L) o = z ∧ (o, z) ∈ piecesOf L := by
  obtain ⟨x, hx, hf, e⟩ := (hasP_pieces L o).1 hp
  obtain ⟨a, z, f⟩ := x
  simp only at hf e
  subst hf
  obtain ⟨A, r, hL⟩ := List.append_of_mem hx
  have ha : a = o - 8 := by omega
  subst ha
  refine ⟨A, z, r, hL, ?_, mem_pieces.2 ⟨_, hx, by simp⟩⟩
  have h1 := getP_mem hp
  obtain ⟨b, hb, e2⟩ := mem_pieces.1 h1
  have e3 : b = o - 8 := by omega
  subst e3
  have := contig_inj h.rep.ct hb hx rfl
  simpa using this
theorem left_tie : ∀ (L : List Bl), leftP L = leftOf L
  | [] => rfl
  | (a, z, f) :: r => by
    have := left_tie r
    cases f with
    | true => show (z - 8) + leftP r = (z - 8) + leftOf r; rw [this]
    | false => show 0 + leftP r = 0 + leftOf r; rw [this]
theorem len_tie : ∀ (L : List Bl), lenP L = (piecesOf L).length
  | [] => rfl
  | (a, z, f) :: r => by
    have := len_tie r
    unfold lenP at this ⊢
    cases f with
    | true => show _ = (piecesOf r).length; simpa using this
    | false => show _ = ((a + 8, z) :: piecesOf r).length; simpa using this
theorem inP_iff (o : Int) : inP o L = true ↔ 0 ≤ o ∧ o % 4 = 0 ∧ inQ (piecesOf L) o := by
  unfold inP inX inQ
  simp only [Bool.and_eq_true, decide_eq_true_eq, List.any_eq_true, Bool.not_eq_true', and_assoc]
  constructor
  · rintro ⟨h1, h2, x, hx, hf, h3, h4⟩
    obtain ⟨a, z, f⟩ := x
    simp only at hf h3 h4
    subst hf
    exact ⟨h1, h2, (a + 8, z), mem_pieces.2 ⟨a, hx, rfl⟩, h3, by show o < a + 8 - 8 + z; omega⟩
  · rintro ⟨h1, h2, p, hp, h3, h4⟩
    obtain ⟨a, ha, e⟩ := mem_pieces.1 hp
    exact ⟨h1, h2, _, ha, rfl, by show a + 8 ≤ o; omega, by show o < a + p.2; omega⟩
theorem seek_iff (h : Hs n g L F) (o : Int) : ∀ j : Nat, 112 + 8 * (j : Int) ≤ o → (seek (piecesOf L) o j = true ↔ ∃ p ∈ piecesOf L, p.1 ≤ 112 + 8 * (j : Int) ∧ o < p.1 - 8 + p.2)
  | 0, _ => by
    unfold seek
    constructor
    · intro q; cases q
    · rintro ⟨p, hp, h1, -⟩
      have := pieces_at h.rep.ct hp
      omega
  | j + 1, hj => by
    have ih := seek_iff h o j (by omega)
    unfold seek
    by_cases hA : hasP (piecesOf L) (112 + 8 * ((j + 1 : Nat) : Int)) = true
    · rw [if_pos hA]
      have hm := getP_mem hA
      simp only [decide_eq_true_eq]
      constructor
      · intro q
        exact ⟨_, hm, by show 112 + 8 * ((j + 1 : Nat) : Int) ≤ _; omega, q⟩
      · rintro ⟨p, hp, h1, h2⟩
        rcases pieces_apart h.rep.ct hp hm with e | e | e
        · rw [e] at h2; exact h2
        · simp only at e; have := pieces_at h.rep.ct hp; omega
        · simp only at e
          have := pieces_at h.rep.ct hm
          simp only at this
          omega
    · rw [if_neg hA, ih]
      constructor
      · rintro ⟨p, hp, h1, h2⟩
        exact ⟨p, hp, by omega, h2⟩
      · rintro ⟨p, hp, h1, h2⟩
        have := pieces_at h.rep.ct hp
        refine ⟨p, hp, ?_, h2⟩
        have : p.1 ≠ 112 + 8 * ((j + 1 : Nat) : Int) := fun e => hA (by
          unfold hasP
          exact List.any_eq_true.2 ⟨p, hp, by simp [e]⟩)
        omega
theorem hasWd_iff (h : Hs n g L F) (o : Int) : hasWd n (piecesOf L) o = true ↔ 0 ≤ o ∧ o % 4 = 0 ∧ inQ (piecesOf L) o := by
  unfold hasWd
  simp only [Bool.and_eq_true, decide_eq_true_eq]
  by_cases ho : 112 ≤ o
  · have e : (((o / 8 - 14).toNat : Nat) : Int) = o / 8 - 14 := by omega
    rw [seek_iff h o _ (by omega), e]
    constructor
    · rintro ⟨⟨h1, h2, h3⟩, p, hp, h4, h5⟩
      exact ⟨h1, h2, p, hp, by omega, h5⟩
    · rintro ⟨h1, h2, p, hp, h4, h5⟩
      have := pieces_at h.rep.ct hp
      exact ⟨⟨h1, h2, by omega⟩, p, hp, by omega, h5⟩
  · constructor
    · rintro ⟨-, hs⟩
      rw [show (o / 8 - 14).toNat = 0 by omega] at hs
      simp [seek] at hs
    · rintro ⟨h1, h2, p, hp, h4, h5⟩
      have := pieces_at h.rep.ct hp
      omega
theorem in_tie (h : Hs n g L F) (o : Int) : inP o L = hasWd n (piecesOf L) o := by
  rw [Bool.eq_iff_iff, inP_iff, hasWd_iff h]
end
end Go.Proofs.YtgefmnnkpffpcaaGreatDoor

/- isMultiple, alignedFrom, Aligned. -/
namespace Go.Proofs.YtgefmnnkpffpcaaGreatDoor
open Go.RowKit Go.Maps

/-- A power of two from 8 to 4096. -/
def isMul (m : Int) : Bool := decide (8 ≤ m ∧ m ≤ 4096) && (m.toNat &&& (m.toNat - 1) == 0)
theorem mul_pow {m : Int} (h : isMul m = true) : ∃ k : Nat, 3 ≤ k ∧ k ≤ 12 ∧ m = 2 ^ k := by
  unfold isMul at h
  simp only [Bool.and_eq_true] at h
  have h1 := of_decide_eq_true h.1
  obtain ⟨k, e⟩ := (Nat.and_sub_one_eq_zero_iff_isPowerOfTwo (n := m.toNat) (by omega)).1 (by simpa using h.2)
  refine ⟨k, ?_, ?_, ?_⟩
  · refine Nat.le_of_not_lt fun hlt => ?_
    have : 2 ^ k ≤ 2 ^ 2 := Nat.pow_le_pow_right (by decide) (by omega)
    omega
  · refine Nat.le_of_not_lt fun hlt => ?_
    have : 2 ^ 13 ≤ 2 ^ k := Nat.pow_le_pow_right (by decide) (by omega)
    omega
  · have : (m.toNat : Int) = ((2 ^ k : Nat) : Int) := by rw [e]
    push_cast at this
    omega

set_option maxRecDepth 100000 in
theorem isMul_any (w : World) (m : Int) (h0 : -9223372036854775808 ≤ m) : Calls Tryz.prog 59 #[.int .i64 m] w fun e w' => e = .returned (.bool (isMul m)) ∧ w' = w := by
  obtain ⟨B, hB⟩ : ∃ B, isMul m = B := ⟨_, rfl⟩
  rw [hB]
  unfold isMul at hB
  by_cases h1 : 8 ≤ m
  · by_cases h2 : m ≤ 4096
    · have ha : bits .and .i64 m (m - 1) = ((m.toNat &&& (m.toNat - 1) : Nat) : Int) := by
        have := i64_and m.toNat (m.toNat - 1) (by omega) (by omega)
        rw [show ((m.toNat : Nat) : Int) = m by omega, show ((m.toNat - 1 : Nat) : Int) = m - 1 by omega] at this
        exact this
      obtain ⟨x, hx⟩ : ∃ x, m.toNat &&& (m.toNat - 1) = x := ⟨_, rfl⟩
      rw [hx] at ha hB
      rw [decide_eq_true ⟨h1, h2⟩] at hB
      have E := hid (show ((x : Int) == 0) = B by
        rw [← hB]
        by_cases hx0 : x = 0
        · subst hx0; rfl
        · rw [beq_eq_false_iff_ne.2 (by omega), Bool.true_and, beq_eq_false_iff_ne.2 hx0])
      clear hB hx
      go_enter Tryz.func59, Tryz.ntmps59
      go_wp2
      go_ret
      exact ⟨ret_b E.out, rfl⟩
    · have hb : B = false := by rw [← hB, decide_eq_false (by omega)]; rfl
      subst hb
      clear hB
      have t2 : decide (m ≤ 4096) = false := decide_eq_false h2
      go_enter Tryz.func59, Tryz.ntmps59
      go_wp2
      go_ret
      exact ⟨rfl, rfl⟩
  · have hb : B = false := by rw [← hB, decide_eq_false (by omega)]; rfl
    subst hb
    clear hB
    go_enter Tryz.func59, Tryz.ntmps59
    go_wp2
    go_ret
    exact ⟨rfl, rfl⟩

def alignedFrom (a m : Int) : Int := if (a + 8) % m = 0 then a else (a + 24 + m - 1) / m * m - 8
set_option maxRecDepth 100000 in
theorem alignedFrom_any (w : World) (a m : Int) (k : Nat) (hm : m = 2 ^ k) (hk3 : 3 ≤ k) (hk : k ≤ 12) (h0 : 0 ≤ a) (h1 : a < 1048576) :
    Calls Tryz.prog 60 #[.int .i64 a, .int .i64 m] w fun e w' => e = .returned (.int .i64 (alignedFrom a m)) ∧ w' = w := by
  have hm8 : 8 ≤ m ∧ m ≤ 4096 := by
    have a1 : 2 ^ 3 ≤ 2 ^ k := Nat.pow_le_pow_right (by decide) hk3
    have a2 : 2 ^ k ≤ 2 ^ 12 := Nat.pow_le_pow_right (by decide) hk
    have : m = ((2 ^ k : Nat) : Int) := by rw [hm]; push_cast; rfl
    omega
  have HM := hid hm
  obtain ⟨r, hr⟩ : ∃ r, alignedFrom a m = r := ⟨_, rfl⟩
  rw [hr]
  unfold alignedFrom at hr
  clear hm
  by_cases h8 : (a + 8) % m = 0
  · rw [if_pos h8] at hr
    have t8 : ((a + 8) % m == 0) = true := by simp [h8]
    have E := hid hr
    clear hr h8
    go_enter Tryz.func60, Tryz.ntmps60
    go_wp2
    go_ret
    exact ⟨ret_i E.out, rfl⟩
  · rw [if_neg h8] at hr
    have t8 : ((a + 8) % m == 0) = false := by simp [h8]
    have E := hid hr
    clear hr h8
    have hd : 0 ≤ (a + 24 + m - 1) / m * m ∧ (a + 24 + m - 1) / m * m ≤ a + 24 + m - 1 := by
      have h1 := Int.ediv_mul_le (a + 24 + m - 1) (show m ≠ 0 by omega)
      have h2 := Int.ediv_nonneg (a := a + 24 + m - 1) (b := m) (by omega) (by omega)
      have h3 := Int.mul_nonneg h2 (show 0 ≤ m by omega)
      exact ⟨h3, h1⟩
    go_enter Tryz.func60, Tryz.ntmps60
    go_wp2_with fail
    refine (roundUp_any w (a + 16 + 8) k m HM.out hk (by omega) (by omega)).mono ?_
    rintro e w' ⟨rfl, hE⟩
    rw [hE, show a + 16 + 8 = a + 24 by omega]
    clear hE
    go_wp2
    go_ret
    exact ⟨ret_i E.out, rfl⟩

/-- Where the block begins whose piece stands at a multiple. -/
theorem aligned_facts {a m : Int} {k : Nat} (hm : m = 2 ^ k) (hk3 : 3 ≤ k) (ha8 : a % 8 = 0) : 8 ≤ m ∧ m % 8 = 0 ∧ a ≤ alignedFrom a m ∧ (alignedFrom a m = a ∨ 16 ≤ alignedFrom a m - a) ∧ alignedFrom a m ≤ a + 15 + m ∧ alignedFrom a m % 8 = 0 ∧ (alignedFrom a m + 8) % m = 0 := by
  obtain ⟨j, hj⟩ : ∃ j, k = j + 3 := ⟨k - 3, by omega⟩
  obtain ⟨q, hq⟩ : ∃ q : Int, (2 : Int) ^ j = q := ⟨_, rfl⟩
  have hq0 : 0 < q := by rw [← hq]; exact Int.pow_pos (by decide)
  have e : m = 8 * q := by rw [hm, hj, Int.pow_succ, Int.pow_succ, Int.pow_succ, hq]; omega
  unfold alignedFrom
  by_cases h : (a + 8) % m = 0
  · rw [if_pos h]
    exact ⟨by omega, by omega, by omega, by omega, by omega, ha8, h⟩
  · rw [if_neg h]
    obtain ⟨d, hd⟩ : ∃ d, (a + 24 + m - 1) / m = d := ⟨_, rfl⟩
    rw [hd]
    have h1 := Int.ediv_mul_le (a + 24 + m - 1) (show m ≠ 0 by omega)
    have h2 := Int.lt_ediv_add_one_mul_self (a + 24 + m - 1) (show 0 < m by omega)
    rw [hd] at h1 h2
    rw [Int.add_mul] at h2
    have e8 : d * m = 8 * (d * q) := by rw [e, ← Int.mul_assoc, Int.mul_comm d 8, Int.mul_assoc]
    refine ⟨by omega, by omega, by omega, by omega, by omega, by omega, ?_⟩
    rw [show d * m - 8 + 8 = d * m by omega]
    exact Int.mul_emod_left _ _

def aligned (n : Nat) (g : Mem) (P : Pcs) (mul m : Int) : Option (Int × Mem × Pcs) :=
  match find n g P (needed m + mul + 16) with
  | none => none
  | some (a, z, g1) =>
    if a < alignedFrom a mul then some (alignedFrom a mul + 8, give n (putIn n g1 a (alignedFrom a mul - a)) P (alignedFrom a mul) (a + z - alignedFrom a mul) (needed m))
    else some (a + 8, give n g1 P a z (needed m))

set_option maxRecDepth 100000 in
theorem enters58 : ∀ args w, (callFunc 58 args).run Tryz.prog w = .ok (.enter 58 args) w := enters_of Tryz.func58 (by kernel_rfl) rfl
set_option maxRecDepth 100000 in
theorem may2 (w : World) (p0 p1 : Nat) (mul m : Int) (h0 : w.cell? ⟨p0, 0, none⟩ = some (.int .i64 mul)) (h1 : w.cell? ⟨p1, 0, none⟩ = some (.int .i64 m)) (hm : -9223372036854775808 ≤ mul) :
    Calls Tryz.prog 58 #[.pointer (some ⟨p0, 0, none⟩), .pointer (some ⟨p1, 0, none⟩)] w fun e w' => e = .returned (.bool (isMul mul && mayB m)) ∧ Kp w w' [] := by
  cases hB : isMul mul with
  | false =>
    have HB := hid hB
    clear hB
    go_enter Tryz.func58, Tryz.ntmps58
    go_wp2_with fail
    refine (isMul_any w mul hm).mono ?_
    rintro e w1 ⟨rfl, rfl⟩
    rw [HB.out]
    go_wp2
    go_ret
    exact ⟨rfl, Kp.refl _ _⟩
  | true =>
    have HB := hid hB
    clear hB
    go_enter Tryz.func58, Tryz.ntmps58
    go_wp2_with fail
    refine (isMul_any w mul hm).mono ?_
    rintro e w1 ⟨rfl, rfl⟩
    rw [HB.out]
    go_wp2_with fail
    refine (mayHave_any _ m).mono ?_
    rintro e w2 ⟨rfl, rfl⟩
    go_wp2
    go_ret
    exact ⟨rfl, Kp.refl _ _⟩

set_option maxRecDepth 100000 in
theorem aligned_no (w : World) (hb rb mb pb n : Nat) (g : Mem) (c : Int) (P : Pcs) (mul m : Int) (h : Hp w hb rb mb pb n g c P) (hm0 : -9223372036854775808 ≤ mul) (hm : (isMul mul && mayB m) = false) :
    Calls Tryz.prog 19 #[.pointer (some ⟨hb, 0, none⟩), .int .i64 mul, .int .i64 m] w fun e w' => e = .returned (.tuple #[.int .i64 0, .int .i64 2]) ∧ Kp w w' [] := by
  have A1 := hid ((Kp.alloc w (.cells #[.int .i64 mul] 3) []).trans (Kp.alloc _ (.cells #[.int .i64 m] 3) []))
  have H1 := hid (h.same A1.out)
  have M := hid hm
  clear h hm
  go_enter Tryz.func19, Tryz.ntmps19
  go_wp2_with fail
  refine (refusal_any _ hb rb mb pb n 58 _ g c P (isMul mul && mayB m) H1.out enters58 (may2 _ _ _ mul m (cell_past cell_new0) cell_new1 hm0)).mono ?_
  rintro e w1 ⟨rfl, hK1⟩
  rw [M.out]
  have K1 := hid (A1.out.trans hK1)
  clear hK1
  go_wp2
  go_ret2
  exact ⟨rfl, K1.out⟩
end Go.Proofs.YtgefmnnkpffpcaaGreatDoor
