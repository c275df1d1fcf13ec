/- Turns: Same. -/
import Derived.Test.YtclbphnelfacfaaTs
import Derived.ChangeKeysEq
namespace Go.Proofs.Ytclbphnelfacfaa
open Go.RowKit Go.Shelf

def sameS (S S2 : Sh) : Bool := (List.range 16).all fun i => decide (S i = S2 i)
theorem sameS_iff (S S2 : Sh) : sameS S S2 = true ↔ ∀ i, i < 16 → S i = S2 i := by simp [sameS]
theorem share_part (p : Option Addr) (q : Nat) (S : Sh) (k : Nat) (hk : k < 16) (w : World) : (part 57 (vcl (tG p q S) 32 2).toArray (k * 2)).run Try.prog w = .ok (.agg #[.bool (S k).1, .int .i64 ((S k).2 : Nat)]) w := by
  have h3 : (isAgg 57).run Try.prog w = .ok true w := Try.isAgg57 w
  have h4 : (sizeOf 57).run Try.prog w = .ok 2 w := Try.sizeOf57 w
  have e : (vcl (tG p q S) 32 2).toArray.extract (k * 2) (k * 2 + 2) = #[.bool (S k).1, .int .i64 ((S k).2 : Nat)] := by
    apply Array.ext_getElem?
    intro j
    have hsz : (vcl (tG p q S) 32 2).toArray.size = 32 := by simp [vcl_length]
    rw [Array.getElem?_extract]
    match j with
    | 0 =>
      rw [if_pos (by omega)]
      have := vcl_at (tG p q S) 32 2 (k * 2) (by omega)
      simp only [List.getElem?_toArray, Nat.add_zero, this, tG_robin]
      rfl
    | 1 =>
      rw [if_pos (by omega)]
      have := vcl_at (tG p q S) 32 2 (k * 2 + 1) (by omega)
      rw [show 2 + (k * 2 + 1) = 2 + k * 2 + 1 by omega] at this
      simp only [List.getElem?_toArray, this, tG_left]
      rfl
    | j + 2 =>
      rw [if_neg (by omega)]
      simp
  simp only [part, Sem.run_bind, h3, h4, Result.andThen_ok, if_true, Sem.run_pure, e]
theorem share_eq (a b : Bool × Nat) (w : World) : (Op.equalIn 9999 57 (.agg #[.bool a.1, .int .i64 (a.2 : Nat)]) (.agg #[.bool b.1, .int .i64 (b.2 : Nat)])).run Try.prog w = .ok (decide (a = b)) w := by
  obtain ⟨a1, a2⟩ := a
  obtain ⟨b1, b2⟩ := b
  have hf : (Try.prog.fieldsOf 57).toList.map (fun f => (f.name, f.type, f.offset)) = [("robin", 4, 0), ("left", 3, 1)] := by kernel_rfl
  rw [run_equalIn_struct w 9998 57 _ _ (by kernel_rfl) (by kernel_rfl)]
  generalize (Try.prog.fieldsOf 57).toList = fs at hf
  have q1 : ∀ (a : Bool) (n : Nat), (part 4 #[.bool a, .int .i64 (n : Nat)] 0).run Try.prog w = .ok (.bool a) w := fun a n => by
    have h3 : (isAgg 4).run Try.prog w = .ok false w := Try.isAgg4 w
    simp [part, Sem.run_bind, h3]
  have q2 : ∀ (a : Bool) (n : Nat), (part 3 #[.bool a, .int .i64 (n : Nat)] 1).run Try.prog w = .ok (.int .i64 (n : Nat)) w := fun a n => by
    have h3 : (isAgg 3).run Try.prog w = .ok false w := Try.isAgg3 w
    simp [part, Sem.run_bind, h3]
  have e1 : (Op.equalIn 9998 4 (.bool a1) (.bool b1)).run Try.prog w = .ok (a1 == b1) w := run_equalIn_bool w 9997 4 a1 b1 Try.underlying4
  have e2 : (Op.equalIn 9998 3 (.int .i64 (a2 : Nat)) (.int .i64 (b2 : Nat))).run Try.prog w = .ok ((a2 : Int) == (b2 : Int)) w := run_equalIn_int w 9997 3 .i64 .i64 _ _ Try.underlying3
  cases fs with
  | nil => cases hf
  | cons f1 fs =>
    cases fs with
    | nil => simp at hf
    | cons f2 fs =>
      cases fs with
      | cons f3 fs => simp at hf
      | nil =>
        simp only [List.map_cons, List.map_nil, List.cons.injEq, Prod.mk.injEq, and_true] at hf
        obtain ⟨⟨n1, t1, o1⟩, n2, t2, o2⟩ := hf
        obtain ⟨nm1, ty1, of1, _, _, _, _⟩ := f1
        obtain ⟨nm2, ty2, of2, _, _, _, _⟩ := f2
        simp only at n1 t1 o1 n2 t2 o2
        subst n1 t1 o1 n2 t2 o2
        have hne1 : ("robin" : String) ≠ "_" := by decide
        have hne2 : ("left" : String) ≠ "_" := by decide
        unfold Op.eqFields
        rw [if_pos hne1, Sem.run_bind, q1, Result.andThen_ok, Sem.run_bind, q1, Result.andThen_ok, Sem.run_bind, e1, Result.andThen_ok]
        unfold Op.eqFields
        rw [if_pos hne2]
        by_cases c1 : a1 = b1
        · rw [if_neg (by simp [c1]), Sem.run_bind, q2, Result.andThen_ok, Sem.run_bind, q2, Result.andThen_ok, Sem.run_bind, e2, Result.andThen_ok]
          unfold Op.eqFields
          by_cases c2 : a2 = b2
          · simp [c1, c2]
          · have : ¬ (a2 : Int) = (b2 : Int) := by omega
            simp [c1, c2, this]
        · rw [if_pos (by simp [c1])]
          simp [c1]
theorem shares_eq (p p2 : Option Addr) (q q2 : Nat) (S S2 : Sh) (w : World) : ∀ is : List Nat, (∀ i ∈ is, i < 16) → (Op.eqItems 9999 57 2 (vcl (tG p q S) 32 2).toArray (vcl (tG p2 q2 S2) 32 2).toArray is).run Try.prog w = .ok (is.all fun i => decide (S i = S2 i)) w
  | [], _ => by simp [Op.eqItems]
  | i :: is, h => by
    have hi := h i (by simp)
    have ih := shares_eq p p2 q q2 S S2 w is (fun j hj => h j (by simp [hj]))
    simp only [Op.eqItems, Sem.run_bind, share_part p q S i hi, share_part p2 q2 S2 i hi, share_eq, Result.andThen_ok]
    by_cases he : S i = S2 i
    · simp [ih, he]
    · simp [he]
theorem share_eql (p p2 : Option Addr) (q q2 : Nat) (S S2 : Sh) (w : World) : (binOp .eql 58 (.agg (vcl (tG p q S) 32 2).toArray) (.agg (vcl (tG p2 q2 S2) 32 2).toArray)).run Try.prog w = .ok (.bool (sameS S S2)) w := by
  rw [run_eql_struct]
  obtain ⟨i0, hi⟩ : ∃ i0, Try.prog.info? 57 = some i0 := ⟨_, rfl⟩
  have hc : Try.prog.cellsOf 57 = 2 := by kernel_rfl
  have h := run_equalIn_array (P := Try.prog) w 9999 (vcl (tG p q S) 32 2).toArray (vcl (tG p2 q2 S2) 32 2).toArray Try.underlying58 hi
  rw [hc, shares_eq p p2 q q2 S S2 w _ (by simp)] at h
  rw [h]
  rfl
theorem yieldsIf_eql {P : Program} {ops : Array Oper} {Sw : World → Prop} {op : Oper} {a : Act} (hw : Region.wanted op (yielded ops a.tmps) = true) (t : TypeId) (x y : Operand) (k : TypeId) (ho : op.op = .binOp .eql t x y k) (xs ys : Array Value)
    (hx : a.eval x = .agg xs) (hy : a.eval y = .agg ys) (b : Bool) (hg : ∀ w, (eqGuard .eql t x y (.agg xs) (.agg ys)).run P w = .ok () w) (he : ∀ w, (binOp .eql t (.agg xs) (.agg ys)).run P w = .ok (.bool b) w) : YieldsIf P ops Sw op (.bool b) a :=
  .inl ⟨hw, fun w _ => by
    unfold execOp
    simp only [ho, hx, hy, Sem.run_bind, hg, he, Result.andThen_ok, Sem.run_pure]⟩
section
variable {w w' : World} {xb rb q s : Nat} {S : Sh} {L : Ls}
theorem Rd.eq (h : Rd w rb L s) {rb2 s2 : Nat} {L2 : Ls} (h2 : Rd w rb2 L2 s2) : Calls Try.prog 49 #[.pointer (some ⟨rb, 0, none⟩), .pointer (some ⟨rb2, 0, none⟩)] w fun e w' => e = .returned (.bool (decide (seqs L 31 = seqs L2 31))) ∧ Kp w w' [] := by
  obtain ⟨c, u, hR, hP⟩ := h
  obtain ⟨d, u2, hR2, hP2⟩ := h2
  have e1 : sameC c d = decide (seqs L 31 = seqs L2 31) := by
    rw [Bool.eq_iff_iff, sameC_iff, decide_eq_true_eq]
    exact hP.same hP2
  rw [← e1]
  exact same_any w _ _ c d L L2 (.inl ⟨rb, u, s, rfl, hR, hP⟩) (.inl ⟨rb2, u2, s2, rfl, hR2, hP2⟩)
set_option maxRecDepth 100000 in
set_option maxHeartbeats 1000000 in
theorem Tn.eq (h : Tn w xb rb q S L s) {yb rb2 q2 s2 : Nat} {S2 : Sh} {L2 : Ls} (h2 : Tn w yb rb2 q2 S2 L2 s2) : Calls Try.prog 24 #[.pointer (some ⟨xb, 0, none⟩), .pointer (some ⟨yb, 0, none⟩)] w fun e w' => e = .returned (.bool (decide (q = q2) && sameS S S2 && decide (seqs L 31 = seqs L2 31))) ∧ Kp w w' [] := by
  have cz := tzero_ok w xb rb q S h.tc
  have cz2 := tzero_ok w yb rb2 q2 S2 h2.tc
  have hse := share_eql (some ⟨rb, 0, none⟩) (some ⟨rb2, 0, none⟩) q q2 S S2
  have hgd := fun (w : World) (x y : Operand) (xs ys : Array Value) => run_eqGuard_agg (P := Try.prog) w .eql 58 x y xs ys (by kernel_rfl)
  have H := hid h
  have H2 := hid h2
  have HS := hid (fun (W : World) (hk : Kp w W []) => show W.cell? ⟨xb, 0, none⟩ = some (.pointer (some ⟨rb, 0, none⟩)) ∧ W.cell? ⟨xb, 1, none⟩ = some (.int .i64 (q : Nat)) ∧ W.rangeAt xb 2 (vcl (tG (some ⟨rb, 0, none⟩) q S) 32 2) ∧ W.cell? ⟨yb, 0, none⟩ = some (.pointer (some ⟨rb2, 0, none⟩)) ∧ W.cell? ⟨yb, 1, none⟩ = some (.int .i64 (q2 : Nat)) ∧ W.rangeAt yb 2 (vcl (tG (some ⟨rb2, 0, none⟩) q2 S2) 32 2) from
    ⟨(h.same hk).tc.seqs, (h.same hk).tc.quantum, (h.same hk).tc.range, (h2.same hk).tc.seqs, (h2.same hk).tc.quantum, (h2.same hk).tc.range⟩)
  generalize sameS S S2 = b2 at hse ⊢
  clear h h2
  by_cases hq : q = q2
  case neg =>
    have hqI : ((q : Int) == (q2 : Int)) = false := by simp; omega
    go_enter Try.func24, Try.ntmps24
    go_wp2_with fail
    refine cz.mono ?_
    rintro e w1 ⟨rfl, rfl⟩
    go_wp2_with fail
    refine cz2.mono ?_
    rintro e w2 ⟨rfl, rfl⟩
    go_wp2_with fail
    rename_i QQ KK hKK
    refine wp_region_held_drew (S := fun W : World => W.cell? ⟨xb, 0, none⟩ = some (.pointer (some ⟨rb, 0, none⟩)) ∧ W.cell? ⟨xb, 1, none⟩ = some (.int .i64 (q : Nat)) ∧ W.rangeAt xb 2 (vcl (tG (some ⟨rb, 0, none⟩) q S) 32 2) ∧ W.cell? ⟨yb, 0, none⟩ = some (.pointer (some ⟨rb2, 0, none⟩)) ∧ W.cell? ⟨yb, 1, none⟩ = some (.int .i64 (q2 : Nat)) ∧ W.rangeAt yb 2 (vcl (tG (some ⟨rb2, 0, none⟩) q2 S2) 32 2)) (by kernel_rfl) (HS.out _ (Kp.drew _ _)) (fun hHeld => ?_)
    refine wpAnyH_take (i := 0) (v := .pointer (some ⟨xb, 0, none⟩)) rfl (by kernel_rfl) (by kernel_rfl) (by kernel_rfl) (fun _ _ _ h => h) (Or.inl ⟨by kernel_rfl, fun w _ => by kernel_rfl⟩) hHeld ?_
    refine wpAnyH_take (i := 1) (v := .pointer (some ⟨xb, 0, none⟩)) rfl (by kernel_rfl) (by kernel_rfl) (by kernel_rfl) (fun _ _ _ h => h) (Or.inl ⟨by kernel_rfl, fun w _ => by kernel_rfl⟩) hHeld ?_
    refine wpAnyH_take (i := 2) (v := .pointer (some ⟨xb, 1, none⟩)) rfl (by kernel_rfl) (by kernel_rfl) (by kernel_rfl) (fun _ _ _ h => h) (Or.inl ⟨by kernel_rfl, fun w _ => by kernel_rfl⟩) hHeld ?_
    refine wpAnyH_take (i := 3) (v := .int .i64 (q : Nat)) rfl (by kernel_rfl) (by kernel_rfl) (by kernel_rfl) (fun _ _ _ h => h) (Or.inl ⟨by kernel_rfl, by intro w hSw; obtain ⟨s1, s2, s3, s4, s5, s6⟩ := hSw; go_simp⟩) hHeld ?_
    refine wpAnyH_take (i := 4) (v := .pointer (some ⟨yb, 0, none⟩)) rfl (by kernel_rfl) (by kernel_rfl) (by kernel_rfl) (fun _ _ _ h => h) (Or.inl ⟨by kernel_rfl, fun w _ => by kernel_rfl⟩) hHeld ?_
    refine wpAnyH_take (i := 5) (v := .pointer (some ⟨yb, 0, none⟩)) rfl (by kernel_rfl) (by kernel_rfl) (by kernel_rfl) (fun _ _ _ h => h) (Or.inl ⟨by kernel_rfl, fun w _ => by kernel_rfl⟩) hHeld ?_
    refine wpAnyH_take (i := 6) (v := .pointer (some ⟨yb, 1, none⟩)) rfl (by kernel_rfl) (by kernel_rfl) (by kernel_rfl) (fun _ _ _ h => h) (Or.inl ⟨by kernel_rfl, fun w _ => by kernel_rfl⟩) hHeld ?_
    refine wpAnyH_take (i := 7) (v := .int .i64 (q2 : Nat)) rfl (by kernel_rfl) (by kernel_rfl) (by kernel_rfl) (fun _ _ _ h => h) (Or.inl ⟨by kernel_rfl, by intro w hSw; obtain ⟨s1, s2, s3, s4, s5, s6⟩ := hSw; go_simp⟩) hHeld ?_
    refine wpAnyH_take (i := 8) (v := .bool false) rfl (by kernel_rfl) (by kernel_rfl) (by kernel_rfl) (fun _ _ _ h => h) (Or.inl ⟨by kernel_rfl, by intro w hSw; obtain ⟨s1, s2, s3, s4, s5, s6⟩ := hSw; go_simp⟩) hHeld ?_
    refine wpAnyH_take (i := 9) (v := .bool false) rfl (by kernel_rfl) (by kernel_rfl) (by kernel_rfl) (fun _ _ _ h => h) (Or.inl ⟨by kernel_rfl, fun w _ => by kernel_rfl⟩) hHeld ?_
    refine wpAnyH_take (i := 10) (v := undef) rfl (by kernel_rfl) (by kernel_rfl) (by kernel_rfl) (fun _ _ _ h => h) (Or.inr ⟨by kernel_rfl, rfl⟩) hHeld ?_
    refine wpAnyH_take (i := 11) (v := undef) rfl (by kernel_rfl) (by kernel_rfl) (by kernel_rfl) (fun _ _ _ h => h) (Or.inr ⟨by kernel_rfl, rfl⟩) hHeld ?_
    refine wpAnyH_take (i := 12) (v := undef) rfl (by kernel_rfl) (by kernel_rfl) (by kernel_rfl) (fun _ _ _ h => h) (Or.inr ⟨by kernel_rfl, rfl⟩) hHeld ?_
    refine wpAnyH_take (i := 13) (v := undef) rfl (by kernel_rfl) (by kernel_rfl) (by kernel_rfl) (fun _ _ _ h => h) (Or.inr ⟨by kernel_rfl, rfl⟩) hHeld ?_
    refine wpAnyH_take (i := 14) (v := undef) rfl (by kernel_rfl) (by kernel_rfl) (by kernel_rfl) (fun _ _ _ h => h) (Or.inr ⟨by kernel_rfl, rfl⟩) hHeld ?_
    refine wpAnyH_take (i := 15) (v := undef) rfl (by kernel_rfl) (by kernel_rfl) (by kernel_rfl) (fun _ _ _ h => h) (Or.inr ⟨by kernel_rfl, rfl⟩) hHeld ?_
    refine wpAnyH_take (i := 16) (v := undef) rfl (by kernel_rfl) (by kernel_rfl) (by kernel_rfl) (fun _ _ _ h => h) (Or.inr ⟨by kernel_rfl, rfl⟩) hHeld ?_
    refine wpAnyH_take (i := 17) (v := undef) rfl (by kernel_rfl) (by kernel_rfl) (by kernel_rfl) (fun _ _ _ h => h) (Or.inr ⟨by kernel_rfl, rfl⟩) hHeld ?_
    refine wpAnyH_take (i := 18) (v := undef) rfl (by kernel_rfl) (by kernel_rfl) (by kernel_rfl) (fun _ _ _ h => h) (Or.inr ⟨by kernel_rfl, rfl⟩) hHeld ?_
    refine wpAnyH_take (i := 19) (v := .bool false) rfl (by kernel_rfl) (by kernel_rfl) (by kernel_rfl) (fun _ _ _ h => h) (Or.inl ⟨by kernel_rfl, fun w _ => by kernel_rfl⟩) hHeld ?_
    refine wpAnyH_take (i := 20) (v := .bool false) rfl (by kernel_rfl) (by kernel_rfl) (by kernel_rfl) (fun _ _ _ h => h) (Or.inl ⟨by kernel_rfl, fun w _ => by kernel_rfl⟩) hHeld ?_
    refine wpAnyH_take (i := 21) (v := undef) rfl (by kernel_rfl) (by kernel_rfl) (by kernel_rfl) (fun _ _ _ h => h) (Or.inr ⟨by kernel_rfl, rfl⟩) hHeld ?_
    refine wpAnyH_take (i := 22) (v := undef) rfl (by kernel_rfl) (by kernel_rfl) (by kernel_rfl) (fun _ _ _ h => h) (Or.inr ⟨by kernel_rfl, rfl⟩) hHeld ?_
    refine wpAnyH_take (i := 23) (v := undef) rfl (by kernel_rfl) (by kernel_rfl) (by kernel_rfl) (fun _ _ _ h => h) (Or.inr ⟨by kernel_rfl, rfl⟩) hHeld ?_
    refine wpAnyH_take (i := 24) (v := undef) rfl (by kernel_rfl) (by kernel_rfl) (by kernel_rfl) (fun _ _ _ h => h) (Or.inr ⟨by kernel_rfl, rfl⟩) hHeld ?_
    refine wpAnyH_take (i := 25) (v := undef) rfl (by kernel_rfl) (by kernel_rfl) (by kernel_rfl) (fun _ _ _ h => h) (Or.inr ⟨by kernel_rfl, rfl⟩) hHeld ?_
    refine wpAnyH_take (i := 26) (v := undef) rfl (by kernel_rfl) (by kernel_rfl) (by kernel_rfl) (fun _ _ _ h => h) (Or.inr ⟨by kernel_rfl, rfl⟩) hHeld ?_
    refine wpAnyH_take (i := 27) (v := undef) rfl (by kernel_rfl) (by kernel_rfl) (by kernel_rfl) (fun _ _ _ h => h) (Or.inr ⟨by kernel_rfl, rfl⟩) hHeld ?_
    refine wpAnyH_take (i := 28) (v := undef) rfl (by kernel_rfl) (by kernel_rfl) (by kernel_rfl) (fun _ _ _ h => h) (Or.inr ⟨by kernel_rfl, rfl⟩) hHeld ?_
    refine wpAnyH_take (i := 29) (v := undef) rfl (by kernel_rfl) (by kernel_rfl) (by kernel_rfl) (fun _ _ _ h => h) (Or.inr ⟨by kernel_rfl, rfl⟩) hHeld ?_
    refine wpAnyH_take (i := 30) (v := .bool false) rfl (by kernel_rfl) (by kernel_rfl) (by kernel_rfl) (fun _ _ _ h => h) (Or.inl ⟨by kernel_rfl, fun w _ => by kernel_rfl⟩) hHeld ?_
    refine wpAnyH_take (i := 31) (v := .bool false) rfl (by kernel_rfl) (by kernel_rfl) (by kernel_rfl) (fun _ _ _ h => h) (Or.inl ⟨by kernel_rfl, fun w _ => by kernel_rfl⟩) hHeld ?_
    refine wpAnyH_done (by kernel_rfl) ?_ _
    refine hKK _ _ (wp_ret ?_)
    exact bodyPost_ret (v := .bool false) (by kernel_rfl) rfl ⟨by simp [hq], (Kp.drew _ _)⟩
  have hqI : ((q : Int) == (q2 : Int)) = true := by simp [hq]
  cases b2 with
  | false =>
    go_enter Try.func24, Try.ntmps24
    go_wp2_with fail
    refine cz.mono ?_
    rintro e w1 ⟨rfl, rfl⟩
    go_wp2_with fail
    refine cz2.mono ?_
    rintro e w2 ⟨rfl, rfl⟩
    go_wp2_with fail
    rename_i QQ KK hKK
    refine wp_region_held_drew (S := fun W : World => W.cell? ⟨xb, 0, none⟩ = some (.pointer (some ⟨rb, 0, none⟩)) ∧ W.cell? ⟨xb, 1, none⟩ = some (.int .i64 (q : Nat)) ∧ W.rangeAt xb 2 (vcl (tG (some ⟨rb, 0, none⟩) q S) 32 2) ∧ W.cell? ⟨yb, 0, none⟩ = some (.pointer (some ⟨rb2, 0, none⟩)) ∧ W.cell? ⟨yb, 1, none⟩ = some (.int .i64 (q2 : Nat)) ∧ W.rangeAt yb 2 (vcl (tG (some ⟨rb2, 0, none⟩) q2 S2) 32 2)) (by kernel_rfl) (HS.out _ (Kp.drew _ _)) (fun hHeld => ?_)
    refine wpAnyH_take (i := 0) (v := .pointer (some ⟨xb, 0, none⟩)) rfl (by kernel_rfl) (by kernel_rfl) (by kernel_rfl) (fun _ _ _ h => h) (Or.inl ⟨by kernel_rfl, fun w _ => by kernel_rfl⟩) hHeld ?_
    refine wpAnyH_take (i := 1) (v := .pointer (some ⟨xb, 0, none⟩)) rfl (by kernel_rfl) (by kernel_rfl) (by kernel_rfl) (fun _ _ _ h => h) (Or.inl ⟨by kernel_rfl, fun w _ => by kernel_rfl⟩) hHeld ?_
    refine wpAnyH_take (i := 2) (v := .pointer (some ⟨xb, 1, none⟩)) rfl (by kernel_rfl) (by kernel_rfl) (by kernel_rfl) (fun _ _ _ h => h) (Or.inl ⟨by kernel_rfl, fun w _ => by kernel_rfl⟩) hHeld ?_
    refine wpAnyH_take (i := 3) (v := .int .i64 (q : Nat)) rfl (by kernel_rfl) (by kernel_rfl) (by kernel_rfl) (fun _ _ _ h => h) (Or.inl ⟨by kernel_rfl, by intro w hSw; obtain ⟨s1, s2, s3, s4, s5, s6⟩ := hSw; go_simp⟩) hHeld ?_
    refine wpAnyH_take (i := 4) (v := .pointer (some ⟨yb, 0, none⟩)) rfl (by kernel_rfl) (by kernel_rfl) (by kernel_rfl) (fun _ _ _ h => h) (Or.inl ⟨by kernel_rfl, fun w _ => by kernel_rfl⟩) hHeld ?_
    refine wpAnyH_take (i := 5) (v := .pointer (some ⟨yb, 0, none⟩)) rfl (by kernel_rfl) (by kernel_rfl) (by kernel_rfl) (fun _ _ _ h => h) (Or.inl ⟨by kernel_rfl, fun w _ => by kernel_rfl⟩) hHeld ?_
    refine wpAnyH_take (i := 6) (v := .pointer (some ⟨yb, 1, none⟩)) rfl (by kernel_rfl) (by kernel_rfl) (by kernel_rfl) (fun _ _ _ h => h) (Or.inl ⟨by kernel_rfl, fun w _ => by kernel_rfl⟩) hHeld ?_
    refine wpAnyH_take (i := 7) (v := .int .i64 (q2 : Nat)) rfl (by kernel_rfl) (by kernel_rfl) (by kernel_rfl) (fun _ _ _ h => h) (Or.inl ⟨by kernel_rfl, by intro w hSw; obtain ⟨s1, s2, s3, s4, s5, s6⟩ := hSw; go_simp⟩) hHeld ?_
    refine wpAnyH_take (i := 8) (v := .bool true) rfl (by kernel_rfl) (by kernel_rfl) (by kernel_rfl) (fun _ _ _ h => h) (Or.inl ⟨by kernel_rfl, by intro w hSw; obtain ⟨s1, s2, s3, s4, s5, s6⟩ := hSw; go_simp⟩) hHeld ?_
    refine wpAnyH_take (i := 9) (v := .bool true) rfl (by kernel_rfl) (by kernel_rfl) (by kernel_rfl) (fun _ _ _ h => h) (Or.inl ⟨by kernel_rfl, fun w _ => by kernel_rfl⟩) hHeld ?_
    refine wpAnyH_take (i := 10) (v := .pointer (some ⟨xb, 0, none⟩)) rfl (by kernel_rfl) (by kernel_rfl) (by kernel_rfl) (fun _ _ _ h => h) (Or.inl ⟨by kernel_rfl, fun w _ => by kernel_rfl⟩) hHeld ?_
    refine wpAnyH_take (i := 11) (v := .pointer (some ⟨xb, 0, none⟩)) rfl (by kernel_rfl) (by kernel_rfl) (by kernel_rfl) (fun _ _ _ h => h) (Or.inl ⟨by kernel_rfl, fun w _ => by kernel_rfl⟩) hHeld ?_
    refine wpAnyH_take (i := 12) (v := .pointer (some ⟨xb, 2, none⟩)) rfl (by kernel_rfl) (by kernel_rfl) (by kernel_rfl) (fun _ _ _ h => h) (Or.inl ⟨by kernel_rfl, fun w _ => by kernel_rfl⟩) hHeld ?_
    refine wpAnyH_take (i := 13) (v := .agg (vcl (tG (some ⟨rb, 0, none⟩) q S) 32 2).toArray) rfl (by kernel_rfl) (by kernel_rfl) (by kernel_rfl) (fun _ _ _ h => h) (yieldsIf_load_mid (by kernel_rfl) 58 (.tmp 29) rfl xb 2 (by kernel_rfl) _ _ (fun _ hw => hw.2.2.1) Try.underlying58 rfl (size58' _)) hHeld ?_
    refine wpAnyH_take (i := 14) (v := .pointer (some ⟨yb, 0, none⟩)) rfl (by kernel_rfl) (by kernel_rfl) (by kernel_rfl) (fun _ _ _ h => h) (Or.inl ⟨by kernel_rfl, fun w _ => by kernel_rfl⟩) hHeld ?_
    refine wpAnyH_take (i := 15) (v := .pointer (some ⟨yb, 0, none⟩)) rfl (by kernel_rfl) (by kernel_rfl) (by kernel_rfl) (fun _ _ _ h => h) (Or.inl ⟨by kernel_rfl, fun w _ => by kernel_rfl⟩) hHeld ?_
    refine wpAnyH_take (i := 16) (v := .pointer (some ⟨yb, 2, none⟩)) rfl (by kernel_rfl) (by kernel_rfl) (by kernel_rfl) (fun _ _ _ h => h) (Or.inl ⟨by kernel_rfl, fun w _ => by kernel_rfl⟩) hHeld ?_
    refine wpAnyH_take (i := 17) (v := .agg (vcl (tG (some ⟨rb2, 0, none⟩) q2 S2) 32 2).toArray) rfl (by kernel_rfl) (by kernel_rfl) (by kernel_rfl) (fun _ _ _ h => h) (yieldsIf_load_mid (by kernel_rfl) 58 (.tmp 33) rfl yb 2 (by kernel_rfl) _ _ (fun _ hw => hw.2.2.2.2.2) Try.underlying58 rfl (size58' _)) hHeld ?_
    refine wpAnyH_take (i := 18) (v := .bool false) rfl (by kernel_rfl) (by kernel_rfl) (by kernel_rfl) (fun _ _ _ h => h) (yieldsIf_eql (by kernel_rfl) 58 (.tmp 30) (.tmp 34) 58 rfl _ _ (by kernel_rfl) (by kernel_rfl) _ (fun w => hgd w _ _ _ _) hse) hHeld ?_
    refine wpAnyH_take (i := 19) (v := .bool false) rfl (by kernel_rfl) (by kernel_rfl) (by kernel_rfl) (fun _ _ _ h => h) (Or.inl ⟨by kernel_rfl, fun w _ => by kernel_rfl⟩) hHeld ?_
    refine wpAnyH_take (i := 20) (v := .bool false) rfl (by kernel_rfl) (by kernel_rfl) (by kernel_rfl) (fun _ _ _ h => h) (Or.inl ⟨by kernel_rfl, fun w _ => by kernel_rfl⟩) hHeld ?_
    refine wpAnyH_take (i := 21) (v := undef) rfl (by kernel_rfl) (by kernel_rfl) (by kernel_rfl) (fun _ _ _ h => h) (Or.inr ⟨by kernel_rfl, rfl⟩) hHeld ?_
    refine wpAnyH_take (i := 22) (v := undef) rfl (by kernel_rfl) (by kernel_rfl) (by kernel_rfl) (fun _ _ _ h => h) (Or.inr ⟨by kernel_rfl, rfl⟩) hHeld ?_
    refine wpAnyH_take (i := 23) (v := undef) rfl (by kernel_rfl) (by kernel_rfl) (by kernel_rfl) (fun _ _ _ h => h) (Or.inr ⟨by kernel_rfl, rfl⟩) hHeld ?_
    refine wpAnyH_take (i := 24) (v := undef) rfl (by kernel_rfl) (by kernel_rfl) (by kernel_rfl) (fun _ _ _ h => h) (Or.inr ⟨by kernel_rfl, rfl⟩) hHeld ?_
    refine wpAnyH_take (i := 25) (v := undef) rfl (by kernel_rfl) (by kernel_rfl) (by kernel_rfl) (fun _ _ _ h => h) (Or.inr ⟨by kernel_rfl, rfl⟩) hHeld ?_
    refine wpAnyH_take (i := 26) (v := undef) rfl (by kernel_rfl) (by kernel_rfl) (by kernel_rfl) (fun _ _ _ h => h) (Or.inr ⟨by kernel_rfl, rfl⟩) hHeld ?_
    refine wpAnyH_take (i := 27) (v := undef) rfl (by kernel_rfl) (by kernel_rfl) (by kernel_rfl) (fun _ _ _ h => h) (Or.inr ⟨by kernel_rfl, rfl⟩) hHeld ?_
    refine wpAnyH_take (i := 28) (v := undef) rfl (by kernel_rfl) (by kernel_rfl) (by kernel_rfl) (fun _ _ _ h => h) (Or.inr ⟨by kernel_rfl, rfl⟩) hHeld ?_
    refine wpAnyH_take (i := 29) (v := undef) rfl (by kernel_rfl) (by kernel_rfl) (by kernel_rfl) (fun _ _ _ h => h) (Or.inr ⟨by kernel_rfl, rfl⟩) hHeld ?_
    refine wpAnyH_take (i := 30) (v := .bool false) rfl (by kernel_rfl) (by kernel_rfl) (by kernel_rfl) (fun _ _ _ h => h) (Or.inl ⟨by kernel_rfl, fun w _ => by kernel_rfl⟩) hHeld ?_
    refine wpAnyH_take (i := 31) (v := .bool false) rfl (by kernel_rfl) (by kernel_rfl) (by kernel_rfl) (fun _ _ _ h => h) (Or.inl ⟨by kernel_rfl, fun w _ => by kernel_rfl⟩) hHeld ?_
    refine wpAnyH_done (by kernel_rfl) ?_ _
    refine hKK _ _ (wp_ret ?_)
    exact bodyPost_ret (v := .bool false) (by kernel_rfl) rfl ⟨by simp, Kp.drew _ _⟩
  | true =>
    go_enter Try.func24, Try.ntmps24
    go_wp2_with fail
    refine cz.mono ?_
    rintro e w1 ⟨rfl, rfl⟩
    go_wp2_with fail
    refine cz2.mono ?_
    rintro e w2 ⟨rfl, rfl⟩
    go_wp2_with fail
    rename_i QQ KK hKK
    refine wp_region_held_drew (S := fun W : World => W.cell? ⟨xb, 0, none⟩ = some (.pointer (some ⟨rb, 0, none⟩)) ∧ W.cell? ⟨xb, 1, none⟩ = some (.int .i64 (q : Nat)) ∧ W.rangeAt xb 2 (vcl (tG (some ⟨rb, 0, none⟩) q S) 32 2) ∧ W.cell? ⟨yb, 0, none⟩ = some (.pointer (some ⟨rb2, 0, none⟩)) ∧ W.cell? ⟨yb, 1, none⟩ = some (.int .i64 (q2 : Nat)) ∧ W.rangeAt yb 2 (vcl (tG (some ⟨rb2, 0, none⟩) q2 S2) 32 2)) (by kernel_rfl) (HS.out _ (Kp.drew _ _)) (fun hHeld => ?_)
    refine wpAnyH_take (i := 0) (v := .pointer (some ⟨xb, 0, none⟩)) rfl (by kernel_rfl) (by kernel_rfl) (by kernel_rfl) (fun _ _ _ h => h) (Or.inl ⟨by kernel_rfl, fun w _ => by kernel_rfl⟩) hHeld ?_
    refine wpAnyH_take (i := 1) (v := .pointer (some ⟨xb, 0, none⟩)) rfl (by kernel_rfl) (by kernel_rfl) (by kernel_rfl) (fun _ _ _ h => h) (Or.inl ⟨by kernel_rfl, fun w _ => by kernel_rfl⟩) hHeld ?_
    refine wpAnyH_take (i := 2) (v := .pointer (some ⟨xb, 1, none⟩)) rfl (by kernel_rfl) (by kernel_rfl) (by kernel_rfl) (fun _ _ _ h => h) (Or.inl ⟨by kernel_rfl, fun w _ => by kernel_rfl⟩) hHeld ?_
    refine wpAnyH_take (i := 3) (v := .int .i64 (q : Nat)) rfl (by kernel_rfl) (by kernel_rfl) (by kernel_rfl) (fun _ _ _ h => h) (Or.inl ⟨by kernel_rfl, by intro w hSw; obtain ⟨s1, s2, s3, s4, s5, s6⟩ := hSw; go_simp⟩) hHeld ?_
    refine wpAnyH_take (i := 4) (v := .pointer (some ⟨yb, 0, none⟩)) rfl (by kernel_rfl) (by kernel_rfl) (by kernel_rfl) (fun _ _ _ h => h) (Or.inl ⟨by kernel_rfl, fun w _ => by kernel_rfl⟩) hHeld ?_
    refine wpAnyH_take (i := 5) (v := .pointer (some ⟨yb, 0, none⟩)) rfl (by kernel_rfl) (by kernel_rfl) (by kernel_rfl) (fun _ _ _ h => h) (Or.inl ⟨by kernel_rfl, fun w _ => by kernel_rfl⟩) hHeld ?_
    refine wpAnyH_take (i := 6) (v := .pointer (some ⟨yb, 1, none⟩)) rfl (by kernel_rfl) (by kernel_rfl) (by kernel_rfl) (fun _ _ _ h => h) (Or.inl ⟨by kernel_rfl, fun w _ => by kernel_rfl⟩) hHeld ?_
    refine wpAnyH_take (i := 7) (v := .int .i64 (q2 : Nat)) rfl (by kernel_rfl) (by kernel_rfl) (by kernel_rfl) (fun _ _ _ h => h) (Or.inl ⟨by kernel_rfl, by intro w hSw; obtain ⟨s1, s2, s3, s4, s5, s6⟩ := hSw; go_simp⟩) hHeld ?_
    refine wpAnyH_take (i := 8) (v := .bool true) rfl (by kernel_rfl) (by kernel_rfl) (by kernel_rfl) (fun _ _ _ h => h) (Or.inl ⟨by kernel_rfl, by intro w hSw; obtain ⟨s1, s2, s3, s4, s5, s6⟩ := hSw; go_simp⟩) hHeld ?_
    refine wpAnyH_take (i := 9) (v := .bool true) rfl (by kernel_rfl) (by kernel_rfl) (by kernel_rfl) (fun _ _ _ h => h) (Or.inl ⟨by kernel_rfl, fun w _ => by kernel_rfl⟩) hHeld ?_
    refine wpAnyH_take (i := 10) (v := .pointer (some ⟨xb, 0, none⟩)) rfl (by kernel_rfl) (by kernel_rfl) (by kernel_rfl) (fun _ _ _ h => h) (Or.inl ⟨by kernel_rfl, fun w _ => by kernel_rfl⟩) hHeld ?_
    refine wpAnyH_take (i := 11) (v := .pointer (some ⟨xb, 0, none⟩)) rfl (by kernel_rfl) (by kernel_rfl) (by kernel_rfl) (fun _ _ _ h => h) (Or.inl ⟨by kernel_rfl, fun w _ => by kernel_rfl⟩) hHeld ?_
    refine wpAnyH_take (i := 12) (v := .pointer (some ⟨xb, 2, none⟩)) rfl (by kernel_rfl) (by kernel_rfl) (by kernel_rfl) (fun _ _ _ h => h) (Or.inl ⟨by kernel_rfl, fun w _ => by kernel_rfl⟩) hHeld ?_
    refine wpAnyH_take (i := 13) (v := .agg (vcl (tG (some ⟨rb, 0, none⟩) q S) 32 2).toArray) rfl (by kernel_rfl) (by kernel_rfl) (by kernel_rfl) (fun _ _ _ h => h) (yieldsIf_load_mid (by kernel_rfl) 58 (.tmp 29) rfl xb 2 (by kernel_rfl) _ _ (fun _ hw => hw.2.2.1) Try.underlying58 rfl (size58' _)) hHeld ?_
    refine wpAnyH_take (i := 14) (v := .pointer (some ⟨yb, 0, none⟩)) rfl (by kernel_rfl) (by kernel_rfl) (by kernel_rfl) (fun _ _ _ h => h) (Or.inl ⟨by kernel_rfl, fun w _ => by kernel_rfl⟩) hHeld ?_
    refine wpAnyH_take (i := 15) (v := .pointer (some ⟨yb, 0, none⟩)) rfl (by kernel_rfl) (by kernel_rfl) (by kernel_rfl) (fun _ _ _ h => h) (Or.inl ⟨by kernel_rfl, fun w _ => by kernel_rfl⟩) hHeld ?_
    refine wpAnyH_take (i := 16) (v := .pointer (some ⟨yb, 2, none⟩)) rfl (by kernel_rfl) (by kernel_rfl) (by kernel_rfl) (fun _ _ _ h => h) (Or.inl ⟨by kernel_rfl, fun w _ => by kernel_rfl⟩) hHeld ?_
    refine wpAnyH_take (i := 17) (v := .agg (vcl (tG (some ⟨rb2, 0, none⟩) q2 S2) 32 2).toArray) rfl (by kernel_rfl) (by kernel_rfl) (by kernel_rfl) (fun _ _ _ h => h) (yieldsIf_load_mid (by kernel_rfl) 58 (.tmp 33) rfl yb 2 (by kernel_rfl) _ _ (fun _ hw => hw.2.2.2.2.2) Try.underlying58 rfl (size58' _)) hHeld ?_
    refine wpAnyH_take (i := 18) (v := .bool true) rfl (by kernel_rfl) (by kernel_rfl) (by kernel_rfl) (fun _ _ _ h => h) (yieldsIf_eql (by kernel_rfl) 58 (.tmp 30) (.tmp 34) 58 rfl _ _ (by kernel_rfl) (by kernel_rfl) _ (fun w => hgd w _ _ _ _) hse) hHeld ?_
    refine wpAnyH_take (i := 19) (v := .bool true) rfl (by kernel_rfl) (by kernel_rfl) (by kernel_rfl) (fun _ _ _ h => h) (Or.inl ⟨by kernel_rfl, fun w _ => by kernel_rfl⟩) hHeld ?_
    refine wpAnyH_take (i := 20) (v := .bool true) rfl (by kernel_rfl) (by kernel_rfl) (by kernel_rfl) (fun _ _ _ h => h) (Or.inl ⟨by kernel_rfl, fun w _ => by kernel_rfl⟩) hHeld ?_
    refine wpAnyH_take (i := 21) (v := .pointer (some ⟨xb, 0, none⟩)) rfl (by kernel_rfl) (by kernel_rfl) (by kernel_rfl) (fun _ _ _ h => h) (Or.inl ⟨by kernel_rfl, fun w _ => by kernel_rfl⟩) hHeld ?_
    refine wpAnyH_take (i := 22) (v := .pointer (some ⟨xb, 0, none⟩)) rfl (by kernel_rfl) (by kernel_rfl) (by kernel_rfl) (fun _ _ _ h => h) (Or.inl ⟨by kernel_rfl, fun w _ => by kernel_rfl⟩) hHeld ?_
    refine wpAnyH_take (i := 23) (v := .pointer (some ⟨xb, 0, none⟩)) rfl (by kernel_rfl) (by kernel_rfl) (by kernel_rfl) (fun _ _ _ h => h) (Or.inl ⟨by kernel_rfl, fun w _ => by kernel_rfl⟩) hHeld ?_
    refine wpAnyH_take (i := 24) (v := .pointer (some ⟨rb, 0, none⟩)) rfl (by kernel_rfl) (by kernel_rfl) (by kernel_rfl) (fun _ _ _ h => h) (Or.inl ⟨by kernel_rfl, by intro w hSw; obtain ⟨s1, s2, s3, s4, s5, s6⟩ := hSw; go_simp⟩) hHeld ?_
    refine wpAnyH_take (i := 25) (v := .pointer (some ⟨yb, 0, none⟩)) rfl (by kernel_rfl) (by kernel_rfl) (by kernel_rfl) (fun _ _ _ h => h) (Or.inl ⟨by kernel_rfl, fun w _ => by kernel_rfl⟩) hHeld ?_
    refine wpAnyH_take (i := 26) (v := .pointer (some ⟨yb, 0, none⟩)) rfl (by kernel_rfl) (by kernel_rfl) (by kernel_rfl) (fun _ _ _ h => h) (Or.inl ⟨by kernel_rfl, fun w _ => by kernel_rfl⟩) hHeld ?_
    refine wpAnyH_take (i := 27) (v := .pointer (some ⟨yb, 0, none⟩)) rfl (by kernel_rfl) (by kernel_rfl) (by kernel_rfl) (fun _ _ _ h => h) (Or.inl ⟨by kernel_rfl, fun w _ => by kernel_rfl⟩) hHeld ?_
    refine wpAnyH_take (i := 28) (v := .pointer (some ⟨rb2, 0, none⟩)) rfl (by kernel_rfl) (by kernel_rfl) (by kernel_rfl) (fun _ _ _ h => h) (Or.inl ⟨by kernel_rfl, by intro w hSw; obtain ⟨s1, s2, s3, s4, s5, s6⟩ := hSw; go_simp⟩) hHeld ?_
    refine wpAnyH_ready (rs := [29]) (by kernel_rfl) (by simp) ?_
    refine AllReadyH.cons rfl (fun K hK => ?_) AllReadyH.nil
    go_simp
    refine ((H.out.same (Kp.drew _ [])).rd.eq (H2.out.same (Kp.drew _ [])).rd).mono ?_
    rintro e w4 ⟨rfl, hk4⟩
    have K4 := hid ((Kp.drew w2 []).trans hk4)
    clear hk4
    obtain ⟨b3, hb3⟩ : ∃ b3, decide (seqs L 31 = seqs L2 31) = b3 := ⟨_, rfl⟩
    rw [hb3]
    have HB3 := hid hb3
    clear hb3
    go_simp
    refine hK.out _ _ (HS.out _ K4.out) (fun hHeld => ?_)
    refine wpAnyH_take (i := 30) (v := .bool b3) rfl (by kernel_rfl) (by kernel_rfl) (by kernel_rfl) (fun _ _ _ h => h) (Or.inl ⟨by kernel_rfl, fun w _ => by kernel_rfl⟩) hHeld ?_
    refine wpAnyH_take (i := 31) (v := .bool b3) rfl (by kernel_rfl) (by kernel_rfl) (by kernel_rfl) (fun _ _ _ h => h) (Or.inl ⟨by kernel_rfl, fun w _ => by kernel_rfl⟩) hHeld ?_
    refine wpAnyH_done (by kernel_rfl) ?_ _
    refine hKK _ _ (wp_ret ?_)
    exact bodyPost_ret (v := .bool b3) (by kernel_rfl) rfl ⟨by rw [HB3.out]; simp [hq], K4.out⟩
end
end Go.Proofs.Ytclbphnelfacfaa
