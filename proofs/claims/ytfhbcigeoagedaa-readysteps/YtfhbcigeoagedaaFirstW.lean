/- ReadyFirst: the walk. -/
import Derived.Test.YtfhbcigeoagedaaTurn
import Derived.Test.YtfhbcigeoagedaaArgs
namespace Go.Proofs.Ytfhbcigeoagedaa
open Go.RowKit Go.Shelf

def noV : Nat → Value := fun _ => .slice none 0 0
theorem info29 : (Try.prog.info? 29).map (fun i => (i.zero, i.size)) = some (some (.agg (vcl noV 32 0).toArray), 32) := by kernel_rfl
theorem built29 : Try.prog.built 29 [] = some (vcl noV 32 0).toArray := by kernel_rfl
theorem rq_new (w : World) : Rq (w.alloc (.cells (vcl noV 32 0).toArray 29)) w.heap.size (fun _ => []) := ⟨noV, heap_alloc_new w _, fun _ _ => Ns.nil _ _⟩
/-- The law's two lists. -/
structure Tw (w wr : World) (rb qb s : Nat) (L : Ls) : Prop where
  rd : Rd wr rb L s
  rq : Rq wr qb L
  kp : Kp w wr []
  lr : w.heap.size ≤ rb
  lq : w.heap.size ≤ qb
theorem Tw.did {w wr w' : World} {rb qb s : Nat} {L : Ls} {e : Ending} (h : Tw w wr rb qb s L) (hd : Did wr w' rb qb s e) : ∃ rb' L' s', e = .returned (.tuple #[.pointer (some ⟨rb', 0, none⟩), .pointer (some ⟨qb, 0, none⟩), .bool true]) ∧ s' ≤ s + 8 ∧ Tw w w' rb' qb s' L' := by
  obtain ⟨rb', L', s', e1, h1, h2, h3, h4, h5⟩ := hd
  refine ⟨rb', L', s', e1, h3, h1, h2, h.kp.past h4 ?_, ?_, h.lq⟩
  · intro k hk hl
    have := h.lr
    have := h.lq
    simp at hk
    omega
  · have := h.lr
    have := h.kp.size
    omega

set_option maxRecDepth 100000 in
set_option maxHeartbeats 8000000 in
theorem first_any (w : World) (V : Value) (N : Nat) (S : Nat → St) (hV : Sc w V N S) : Calls Try.prog 5 #[V] w fun e w' => e = .returned (.bool true) ∧ Kp w w' [] := by
  obtain ⟨ao, cap, rfl⟩ := hV.shape
  have HV := hid hV
  clear hV
  go_enter Try.func5, Try.ntmps5
  go_wp2_with fail
  refine (known_any w).mono ?_
  rintro e w0 ⟨rfl, k0⟩
  have K0 := hid k0
  clear k0
  go_wp2_with fail
  refine (new_rd w0).mono ?_
  rintro e w1 ⟨rfl, hR1, hK1⟩
  have z29 := (zero_of_info info29).1
  have b29 := built29
  have T0 := hid (show Tw w (w1.alloc (.cells (vcl noV 32 0).toArray 29)) w0.heap.size w1.heap.size 0 (fun _ => []) from ⟨hR1.keep (Kp.alloc w1 _ []) (by simp), rq_new w1, (K0.out.trans hK1).trans (Kp.alloc w1 _ []), K0.out.size, Nat.le_trans K0.out.size hK1.size⟩)
  obtain ⟨rb0, hrb⟩ : ∃ rb, w0.heap.size = rb := ⟨_, rfl⟩
  obtain ⟨qb, hqb⟩ : ∃ qb, w1.heap.size = qb := ⟨_, rfl⟩
  rw [hrb, hqb] at T0
  rw [hrb]
  clear hR1 hK1 K0
  go_wp2
  try rw [hqb]
  clear hrb hqb z29 b29
  go_loopw [3, 4, 5] (fun v v4 vi wr => ∃ (rb i s : Nat) (L : Ls), i ≤ N ∧ i ≤ 200 ∧ s ≤ 8 * i ∧ v = .pointer (some ⟨rb, 0, none⟩) ∧ v4 = .pointer (some ⟨qb, 0, none⟩) ∧ vi = .int .i64 i ∧ Hid (Tw w wr rb qb s L)) (fun _ _ vi _ => 200 - (intOf vi).toNat)
  case atStart => exact ⟨rb0, 0, 0, _, Nat.zero_le _, by decide, Nat.le_refl _, rfl, rfl, rfl, T0⟩
  case round =>
    obtain ⟨rb, i, s, L, hi, hi2, hs, rfl, rfl, rfl, hT⟩ := hrel
    by_cases hgo : i < N ∧ i < 200
    · have g1 : (i : Int) < (N : Int) := by omega
      have g2 : (i : Int) < 200 := by omega
      obtain ⟨b, off, rfl, c0, c1, c2⟩ := (HV.out.keep hT.out.kp).at hgo.1
      clear hgo
      go_wp2_with fail
      refine (do_any wr rb qb s L _ _ _ hT.out.rd hT.out.rq (by omega)).mono ?_
      intro e w2 hd
      obtain ⟨rb2, L2, s2, rfl, hs2, hT2⟩ := hT.out.did hd
      have T2 := hid hT2
      clear hd hT2 c0 c1 c2 hT
      go_wp2
      go_roundw
      case rel => exact ⟨rb2, i + 1, s2, L2, by omega, by omega, by omega, rfl, rfl, by simp, T2⟩
      case measure => simp [intOf]; omega
    · have hR := hT.out.rd
      have hlen := hR.len
      have hK := hT.out.kp
      have lr := hT.out.lr
      obtain ⟨X, hX⟩ : ∃ X, seqs L 31 = X := ⟨_, rfl⟩
      have hX16 : X.length ≤ 16 := by
        obtain ⟨c, u, -, hp⟩ := hR
        rw [← hX]; exact hp.len16
      have hnd : (X.map (·.2)).Nodup := by
        obtain ⟨c, u, -, hp⟩ := hR
        rw [← hX]; exact (hp.few 31 (by decide)).1
      have hfall : X.Pairwise (fun a b => b.1 ≤ a.1) := by rw [← hX]; exact seqs_fall L 31
      rw [hX] at hlen
      have R0 := hid hR
      have HX := hid hX
      have HND := hid hnd
      have HFA := hid hfall
      have HK := hid hK
      clear hR hX hnd hfall hK hT T0
      by_cases g1 : i < N
      · have g4 : (i : Int) < (N : Int) := by omega
        have g5 : ¬ (i : Int) < 200 := by omega
        clear hgo g1
        go_wp2_with fail
        refine hlen.mono ?_
        rintro e w2 ⟨rfl, k2⟩
        have R2 := hid (R0.out.keep k2 (by simp))
        have K2 := hid (HK.out.trans k2)
        clear k2 hlen R0 HK
        go_wp2
        have S3 := hid (show Sn (w2.alloc (.cells (bcl (fun _ => false)).toArray 41)) w2.heap.size (fun _ => false) from heap_alloc_new w2 _)
        have R3 := hid (R2.out.keep (Kp.alloc w2 (.cells (bcl (fun _ => false)).toArray 41) []) (by simp))
        have K3 := hid (K2.out.trans (Kp.alloc w2 (.cells (bcl (fun _ => false)).toArray 41) []))
        have hsw : w.heap.size ≤ w2.heap.size := K2.out.size
        have hrs : rb ≠ w2.heap.size := by have := R2.out.lt; omega
        obtain ⟨sb, hsb⟩ : ∃ sb, w2.heap.size = sb := ⟨_, rfl⟩
        rw [hsb] at S3 hsw hrs ⊢
        clear R2 K2 hsb
        go_loopw [7, 10] (fun vl vj wr => ∃ (j lv s2 : Nat) (L2 : Ls) (B : Nat → Bool), j ≤ X.length ∧ s2 ≤ s + 7 * j ∧ vl = .int .i64 lv ∧ vj = .int .i64 j ∧ Hid (seqs L2 31 = X.drop j) ∧ Hid (Rd wr rb L2 s2) ∧ Hid (Sn wr sb B) ∧ Hid (∀ t, B t = true → t ∈ (X.take j).map (·.2)) ∧ Hid (∀ x ∈ X.drop j, x.1 ≤ lv) ∧ Hid (Kp w wr [])) (fun _ vj _ => X.length - (intOf vj).toNat)
        case atStart => exact ⟨0, 32, s, L, fun _ => false, Nat.zero_le _, by omega, rfl, rfl, HX.out, R3, S3, (by intro t ht; cases ht), (fun x hx => Nat.le_trans (seqs_le (L := L) (k := 31) x (by rw [HX.out]; simpa using hx)) (by decide)), K3⟩
        case round =>
          obtain ⟨j, lv, s2, L2, B, hj, hs2, rfl, rfl, hS2, hR2, hB, hBs, hlv, hK2⟩ := hrel
          by_cases hjl : j < X.length
          · have hjI : (j : Int) < (X.length : Int) := by omega
            obtain ⟨q, t, hqt⟩ : ∃ q t, X[j] = (q, t) := ⟨_, _, rfl⟩
            have hdrop : X.drop j = (q, t) :: X.drop (j + 1) := by rw [← hqt]; exact List.drop_eq_getElem_cons hjl
            have htake : X.take (j + 1) = X.take j ++ [(q, t)] := by rw [List.take_add_one, List.getElem?_eq_getElem hjl, hqt]; rfl
            obtain ⟨c, u, hr, hp⟩ := hR2.out
            obtain ⟨e1, e2, e3, e4, e5, e6, e7, e8⟩ := rep_out hp (hS2.out.trans hdrop)
            clear hr hp
            have hBt : B t = false := by
              cases hb : B t with
              | false => rfl
              | true =>
                have h1 := hBs.out t hb
                have h2 := HND.out
                rw [← List.take_append_drop j X, hdrop, List.map_append, List.nodup_append] at h2
                exact absurd rfl (h2.2.2 t h1 t (by simp))
            have HBT := hid hBt
            have hql : q ≤ lv := hlv.out (q, t) (by rw [hdrop]; simp)
            have HF2 := hid (show ∀ x ∈ X.drop (j + 1), x.1 ≤ q from fun x hx => by
              have h2 := HFA.out
              rw [← List.take_append_drop j X, hdrop, List.pairwise_append] at h2
              exact (List.pairwise_cons.1 h2.2.1).1 x hx)
            have HB2 := hid (show ∀ t', updB B t t' = true → t' ∈ (X.take (j + 1)).map (·.2) from fun t' h' => by
              rw [htake, List.map_append]
              unfold updB at h'
              by_cases e : t' = t
              · subst e; simp
              · rw [if_neg e] at h'
                exact List.mem_append.2 (.inl (hBs.out t' h')))
            have ct := hB.out.at t (by omega)
            rw [hBt] at ct
            have q1 : ¬ (t : Int) < 0 := by omega
            have q2 : ¬ (15 : Int) < (t : Int) := by omega
            have q3 : ¬ (lv : Int) < (q : Int) := by omega
            have cf := hR2.out.first (by omega)
            rw [e1, e2] at cf
            clear hqt hdrop htake e1 e2 hBt hlv hBs hS2
            go_wp2_with fail
            refine cf.mono ?_
            rintro e y1 ⟨rfl, ⟨s3, l3, m3, hR3⟩, k3⟩
            have cq := hR3.prio (t : Int)
            rw [e3, show decide (q ≠ 0) = true by simp; omega] at cq
            have SB := hid (hB.out.keep k3 (by simp; omega))
            have KB := hid (Rd.past hK2.out k3 lr)
            have RB := hid hR3
            clear hR3 k3 cf e3 hB hK2 hR2 ct
            go_wp2_with fail
            refine cq.mono ?_
            rintro e y2 ⟨rfl, rfl⟩
            have ct := SB.out.at t (by omega)
            rw [HBT.out] at ct
            have cr := RB.out.remove (by omega) (t : Int)
            rw [e7] at cr
            go_wp2_with fail
            refine cr.mono ?_
            rintro e y3 ⟨rfl, ⟨s4, l4, m4, hR4⟩, k4⟩
            have SC := hid (SB.out.keep k4 (by simp; omega))
            have KC := hid (Rd.past KB.out k4 lr)
            have RC := hid hR4
            have f3 := SC.out.free t
            have c3 := SC.out.at t (by omega)
            clear hR4 k4 cr SB KB RB ct cq
            go_wp2_with fail
            refine (num_any _ _).mono ?_
            rintro e y4 ⟨rfl, rfl⟩
            go_wp2
            have ks := Kp.setCell y4 ⟨sb, t, none⟩ (.bool true)
            go_roundw
            case rel => exact ⟨j + 1, q, s4, _, updB B t, by omega, by omega, rfl, by simp, e8, RC.out.keep ks (by simp; omega), SC.out.set t, HB2, HF2, KC.out.past ks (by intro x hx hl; simp at hx; omega)⟩
            case measure => simp [intOf]; omega
          · have hjI : ¬ (j : Int) < (X.length : Int) := by omega
            have hnil : seqs L2 31 = [] := by rw [hS2.out]; exact List.drop_eq_nil_of_le (by omega)
            have cf := hR2.out.first (by omega)
            rw [show fstV L2 = 0 by unfold fstV; rw [hnil]; rfl, show fstB L2 = false by unfold fstB; rw [hnil]; rfl] at cf
            have HN := hid hnil
            clear hnil hlv hBs hS2 hB
            go_wp2_with fail
            refine cf.mono ?_
            rintro e y1 ⟨rfl, ⟨s3, l3, m3, hR3⟩, k3⟩
            have cl := hR3.len
            rw [HN.out] at cl
            have KB := hid (Rd.past hK2.out k3 lr)
            clear hR3 k3 cf hR2 hK2
            go_wp2_with fail
            refine cl.mono ?_
            rintro e y2 ⟨rfl, k2⟩
            have KC := hid (KB.out.trans k2)
            have h16 : (X.length : Int) ≤ 16 := by omega
            clear k2 KB cl
            go_wp2
            go_ret
            exact ⟨by simp, KC.out⟩
      · have g4 : ¬ (i : Int) < (N : Int) := by omega
        clear hgo g1
        go_wp2_with fail
        refine hlen.mono ?_
        rintro e w2 ⟨rfl, k2⟩
        have R2 := hid (R0.out.keep k2 (by simp))
        have K2 := hid (HK.out.trans k2)
        clear k2 hlen R0 HK
        go_wp2
        have S3 := hid (show Sn (w2.alloc (.cells (bcl (fun _ => false)).toArray 41)) w2.heap.size (fun _ => false) from heap_alloc_new w2 _)
        have R3 := hid (R2.out.keep (Kp.alloc w2 (.cells (bcl (fun _ => false)).toArray 41) []) (by simp))
        have K3 := hid (K2.out.trans (Kp.alloc w2 (.cells (bcl (fun _ => false)).toArray 41) []))
        have hsw : w.heap.size ≤ w2.heap.size := K2.out.size
        have hrs : rb ≠ w2.heap.size := by have := R2.out.lt; omega
        obtain ⟨sb, hsb⟩ : ∃ sb, w2.heap.size = sb := ⟨_, rfl⟩
        rw [hsb] at S3 hsw hrs ⊢
        clear R2 K2 hsb
        go_loopw [7, 10] (fun vl vj wr => ∃ (j lv s2 : Nat) (L2 : Ls) (B : Nat → Bool), j ≤ X.length ∧ s2 ≤ s + 7 * j ∧ vl = .int .i64 lv ∧ vj = .int .i64 j ∧ Hid (seqs L2 31 = X.drop j) ∧ Hid (Rd wr rb L2 s2) ∧ Hid (Sn wr sb B) ∧ Hid (∀ t, B t = true → t ∈ (X.take j).map (·.2)) ∧ Hid (∀ x ∈ X.drop j, x.1 ≤ lv) ∧ Hid (Kp w wr [])) (fun _ vj _ => X.length - (intOf vj).toNat)
        case atStart => exact ⟨0, 32, s, L, fun _ => false, Nat.zero_le _, by omega, rfl, rfl, HX.out, R3, S3, (by intro t ht; cases ht), (fun x hx => Nat.le_trans (seqs_le (L := L) (k := 31) x (by rw [HX.out]; simpa using hx)) (by decide)), K3⟩
        case round =>
          obtain ⟨j, lv, s2, L2, B, hj, hs2, rfl, rfl, hS2, hR2, hB, hBs, hlv, hK2⟩ := hrel
          by_cases hjl : j < X.length
          · have hjI : (j : Int) < (X.length : Int) := by omega
            obtain ⟨q, t, hqt⟩ : ∃ q t, X[j] = (q, t) := ⟨_, _, rfl⟩
            have hdrop : X.drop j = (q, t) :: X.drop (j + 1) := by rw [← hqt]; exact List.drop_eq_getElem_cons hjl
            have htake : X.take (j + 1) = X.take j ++ [(q, t)] := by rw [List.take_add_one, List.getElem?_eq_getElem hjl, hqt]; rfl
            obtain ⟨c, u, hr, hp⟩ := hR2.out
            obtain ⟨e1, e2, e3, e4, e5, e6, e7, e8⟩ := rep_out hp (hS2.out.trans hdrop)
            clear hr hp
            have hBt : B t = false := by
              cases hb : B t with
              | false => rfl
              | true =>
                have h1 := hBs.out t hb
                have h2 := HND.out
                rw [← List.take_append_drop j X, hdrop, List.map_append, List.nodup_append] at h2
                exact absurd rfl (h2.2.2 t h1 t (by simp))
            have HBT := hid hBt
            have hql : q ≤ lv := hlv.out (q, t) (by rw [hdrop]; simp)
            have HF2 := hid (show ∀ x ∈ X.drop (j + 1), x.1 ≤ q from fun x hx => by
              have h2 := HFA.out
              rw [← List.take_append_drop j X, hdrop, List.pairwise_append] at h2
              exact (List.pairwise_cons.1 h2.2.1).1 x hx)
            have HB2 := hid (show ∀ t', updB B t t' = true → t' ∈ (X.take (j + 1)).map (·.2) from fun t' h' => by
              rw [htake, List.map_append]
              unfold updB at h'
              by_cases e : t' = t
              · subst e; simp
              · rw [if_neg e] at h'
                exact List.mem_append.2 (.inl (hBs.out t' h')))
            have ct := hB.out.at t (by omega)
            rw [hBt] at ct
            have q1 : ¬ (t : Int) < 0 := by omega
            have q2 : ¬ (15 : Int) < (t : Int) := by omega
            have q3 : ¬ (lv : Int) < (q : Int) := by omega
            have cf := hR2.out.first (by omega)
            rw [e1, e2] at cf
            clear hqt hdrop htake e1 e2 hBt hlv hBs hS2
            go_wp2_with fail
            refine cf.mono ?_
            rintro e y1 ⟨rfl, ⟨s3, l3, m3, hR3⟩, k3⟩
            have cq := hR3.prio (t : Int)
            rw [e3, show decide (q ≠ 0) = true by simp; omega] at cq
            have SB := hid (hB.out.keep k3 (by simp; omega))
            have KB := hid (Rd.past hK2.out k3 lr)
            have RB := hid hR3
            clear hR3 k3 cf e3 hB hK2 hR2 ct
            go_wp2_with fail
            refine cq.mono ?_
            rintro e y2 ⟨rfl, rfl⟩
            have ct := SB.out.at t (by omega)
            rw [HBT.out] at ct
            have cr := RB.out.remove (by omega) (t : Int)
            rw [e7] at cr
            go_wp2_with fail
            refine cr.mono ?_
            rintro e y3 ⟨rfl, ⟨s4, l4, m4, hR4⟩, k4⟩
            have SC := hid (SB.out.keep k4 (by simp; omega))
            have KC := hid (Rd.past KB.out k4 lr)
            have RC := hid hR4
            have f3 := SC.out.free t
            have c3 := SC.out.at t (by omega)
            clear hR4 k4 cr SB KB RB ct cq
            go_wp2_with fail
            refine (num_any _ _).mono ?_
            rintro e y4 ⟨rfl, rfl⟩
            go_wp2
            have ks := Kp.setCell y4 ⟨sb, t, none⟩ (.bool true)
            go_roundw
            case rel => exact ⟨j + 1, q, s4, _, updB B t, by omega, by omega, rfl, by simp, e8, RC.out.keep ks (by simp; omega), SC.out.set t, HB2, HF2, KC.out.past ks (by intro x hx hl; simp at hx; omega)⟩
            case measure => simp [intOf]; omega
          · have hjI : ¬ (j : Int) < (X.length : Int) := by omega
            have hnil : seqs L2 31 = [] := by rw [hS2.out]; exact List.drop_eq_nil_of_le (by omega)
            have cf := hR2.out.first (by omega)
            rw [show fstV L2 = 0 by unfold fstV; rw [hnil]; rfl, show fstB L2 = false by unfold fstB; rw [hnil]; rfl] at cf
            have HN := hid hnil
            clear hnil hlv hBs hS2 hB
            go_wp2_with fail
            refine cf.mono ?_
            rintro e y1 ⟨rfl, ⟨s3, l3, m3, hR3⟩, k3⟩
            have cl := hR3.len
            rw [HN.out] at cl
            have KB := hid (Rd.past hK2.out k3 lr)
            clear hR3 k3 cf hR2 hK2
            go_wp2_with fail
            refine cl.mono ?_
            rintro e y2 ⟨rfl, k2⟩
            have KC := hid (KB.out.trans k2)
            have h16 : (X.length : Int) ≤ 16 := by omega
            clear k2 KB cl
            go_wp2
            go_ret
            exact ⟨by simp, KC.out⟩
end Go.Proofs.Ytfhbcigeoagedaa
