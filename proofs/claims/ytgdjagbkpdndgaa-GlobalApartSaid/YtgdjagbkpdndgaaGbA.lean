import Derived.Test.YtgdjagbkpdndgaaGaZ
namespace Go.Proofs
open Go.RowKit
set_option linter.unusedVariables false

/-- In the midst of taking: the queue has X, the document's L still; the slice lv reads as K. -/
def Taking (w0 : World) (q r : Nat) (L X : List Int) (lv : Value) (K : List Int) (w : World) : Prop :=
  ∃ N S, QAt w q N ∧ nu N = X ∧ RefAt w r S L ∧ (∀ j ∈ q :: bl N, w0.heap.size ≤ j) ∧ Chg [] w0 w ∧ Rd w lv K
section
variable {w0 w w' : World} {q r : Nat} {L X K : List Int} {lv : Value}
theorem Taking.quiet (H : Taking w0 q r L X lv K w) (hc : Chg [] w w') : Taking w0 q r L X lv K w' := by
  obtain ⟨N, S, h1, h2, h3, h4, h5, h6⟩ := H
  exact ⟨N, S, h1.quiet hc, h2, h3.quiet hc, h4, h5.then hc, h6.quiet hc⟩
theorem Taking.chg0 (H : Taking w0 q r L X lv K w) : Chg [] w0 w := by
  obtain ⟨N, S, h1, h2, h3, h4, h5, h6⟩ := H
  exact h5
theorem Taking.take {VA : Value} {aff : List Int} (H : Taking w0 q r L X lv K w) (hX : X.length ≤ 8192) (hV : Bs w VA aff) (p : Int) :
    Calls Try.prog 15 #[.pointer (some ⟨q, 0, none⟩), .int .i64 p, VA] w fun e w' => e = .returned (.tuple #[.int .i64 (tkV (mayP aff p) X), .bool (tkB (mayP aff p) X)]) ∧ Taking w0 q r L (tkL (mayP aff p) X) lv K w' := by
  obtain ⟨N, S, h1, rfl, h3, h4, h5, h6⟩ := H
  refine (take_any h1 (by rw [nu_len] at hX; omega) hV p).mono ?_
  rintro e w2 ⟨he, N', t1, t2, t3, t4⟩
  have z := h5.size
  refine ⟨he, N', S, t1, t2, h3.rest h1 t4, fun j hj => ?_, h5.trans t4 (fun j hj => .inr (h4 j hj)), h6.chg t4 (h1.apart h6)⟩
  rcases List.mem_cons.1 hj with rfl | hj
  · exact h4 _ (by simp)
  · rcases t3 j hj with h9 | h9
    · exact h4 j (List.mem_cons_of_mem _ h9)
    · omega
theorem Taking.ahead {VA : Value} {aff : List Int} (H : Taking w0 q r L X lv K w) (hX : X.length ≤ 8192) (hV : Bs w VA aff) (g p : Int) :
    Calls Try.prog 14 #[.pointer (some ⟨q, 0, none⟩), .int .i64 g, .int .i64 p, VA] w fun e w' => e = .returned (.tuple #[.int .i64 (ahd (mayP aff p) g X).1, .bool (ahd (mayP aff p) g X).2]) ∧ Taking w0 q r L X lv K w' := by
  obtain ⟨A, c, rfl, _⟩ := id hV
  obtain ⟨N, S, h1, h2, h3, h4, h5, h6⟩ := id H
  subst h2
  exact (ahead_any h1.rowed (by rw [nu_len] at hX; omega) hV g p).mono fun e w2 ⟨he, hc⟩ => ⟨he, H.quiet hc⟩
theorem Taking.all (H : Taking w0 q r L X lv K w) (hX : X.length ≤ 8192) : Calls Try.prog 20 #[.pointer (some ⟨q, 0, none⟩)] w fun e w' => ∃ v, e = .returned v ∧ Rd w' v X ∧ Taking w0 q r L X lv K w' := by
  obtain ⟨N, S, h1, h2, h3, h4, h5, h6⟩ := id H
  subst h2
  exact (all_any h1.rowed (by rw [nu_len] at hX; omega)).mono fun e w2 ⟨v, he, hf⟩ => ⟨v, he, hf.rd, H.quiet hf.2.2⟩
theorem Taking.len (H : Taking w0 q r L X lv K w) : Calls Try.prog 21 #[.pointer (some ⟨q, 0, none⟩)] w fun e w' => e = .returned (.int .i64 (X.length : Nat)) ∧ w = w' := by
  obtain ⟨N, S, h1, h2, h3, h4, h5, h6⟩ := id H
  subst h2
  rw [nu_len]
  exact len_any h1
theorem Taking.slice (H : Taking w0 q r L X lv K w) : ∃ A c, lv = .slice A K.length c := by
  obtain ⟨N, S, h1, h2, h3, h4, h5, h6⟩ := H
  obtain ⟨A, c, rfl, _⟩ := h6.open_
  exact ⟨A, c, rfl⟩
theorem Taking.rd (H : Taking w0 q r L X lv K w) : Rd w lv K := by
  obtain ⟨N, S, h1, h2, h3, h4, h5, h6⟩ := H
  exact h6
/-- The document's list, as the walk reads it. -/
theorem Taking.ref (H : Taking w0 q r L X lv K w) : ∃ A c, w.cell? ⟨r, 0, none⟩ = some (.slice A L.length c) ∧ ∀ k x, L[k]? = some x → ∃ b o, A = some ⟨b, o, none⟩ ∧ b < w.heap.size ∧ w.cell? ⟨b, o + k, none⟩ = some (.int .i64 x) := by
  obtain ⟨N, S, h1, h2, ⟨V, h3, h7, _⟩, h4, h5, h6⟩ := H
  obtain ⟨A, c, rfl, _, _, _, o⟩ := h7.open_
  have := h3.cell 0
  exact ⟨A, c, by simpa using this, o⟩
end
theorem filter_snoc (p : Int → Bool) {L : List Int} {k : Nat} {x : Int} (h : L[k]? = some x) : (L.take (k + 1)).filter p = (L.take k).filter p ++ (if p x then [x] else []) := by
  rw [take_snoc L k x h, List.filter_append]
  simp [List.filter_cons]
set_option maxRecDepth 100000 in
set_option maxHeartbeats 12800000 in
theorem apart_any (V : Value) (l : List ActV) (p : Int) (VA : Value) (aff : List Int) (w : World) (hV : Acts w w.heap.size V l) (hA : Bs w VA aff) :
    Calls Try.prog 6 #[V, .int .i64 p, VA] w fun e w' => e = .returned (.bool true) ∧ Chg [] w w' := by
  have hfew : Calls Try.prog 8 #[V, .int .i64 60] w fun e w' => e = .returned (.bool (fewB l 60)) ∧ w = w' := few_any hV 60 (by omega)
  obtain ⟨F, hF⟩ : ∃ F, F = fewB l 60 := ⟨_, rfl⟩
  rw [← hF] at hfew
  obtain ⟨A, c, rfl, _⟩ := hV.2
  have hmay := fun W (hW : Chg [] w W) x => rmay_any (hA.quiet hW) x p
  have htk := fun W q r L X lv K (hW : Taking w q r L X lv K W) (hX : X.length ≤ 8192) => hW.take hX (hA.quiet hW.chg0) p
  obtain ⟨f, hf⟩ : ∃ f, f = mayP aff p := ⟨_, rfl⟩
  simp only [← hf] at hmay htk
  obtain ⟨A2, c2, rfl, _⟩ := id hA
  obtain ⟨an, han⟩ : ∃ an, an = aff.length := ⟨_, rfl⟩
  simp only [← han] at hmay htk ⊢
  clear hf hA
  cases F with
  | false =>
    clear hF hV hmay htk han
    go_enter Try.func6, Try.ntmps6
    go_wp2_with (first
      | (go_at_call 8; refine hfew.mono ?_; rintro e w' ⟨rfl, rfl⟩)
      | (go_at_call 9; refine (known_any _).mono ?_; rintro e w1 ⟨rfl, hc⟩))
    go_ret
    exact ⟨rfl, hc⟩
  | true =>
    by_cases hbig : 100 < an
    · have i3 : (100 : Int) < (an : Int) := by omega
      clear hF hV hmay htk han hbig
      go_enter Try.func6, Try.ntmps6
      go_wp2_with (first
        | (go_at_call 8; refine hfew.mono ?_; rintro e w' ⟨rfl, rfl⟩)
        | (go_at_call 9; refine (known_any _).mono ?_; rintro e w1 ⟨rfl, hc⟩))
      go_ret
      exact ⟨rfl, hc⟩
    · have i3 : ¬ ((100 : Int) < (an : Int)) := by omega
      have hlen := fewB_len hF.symm
      have HSm := Lib.hid (fewB_small hF.symm)
      obtain ⟨m, hmm⟩ : ∃ m, m = l.length := ⟨_, rfl⟩
      rw [← hmm] at hV hlen hfew ⊢
      have HV := Lib.hid hV
      have HMay := Lib.hid hmay
      have HTk := Lib.hid htk
      clear hF hV hmm hmay htk han hbig
      go_enter Try.func6, Try.ntmps6
      go_wp2_with (first
        | (go_at_call 8; refine hfew.mono ?_; rintro e w' ⟨rfl, rfl⟩)
        | (go_at_call 10; refine (new_any _).mono ?_; rintro e w1 ⟨rfl, hw1⟩; have H1 := Lib.hid (Between.new (show Made [] w.heap.size w w1 by rw [hw1]; exact made_new w)); clear hw1))
      generalize hr : w1.heap.size = r at H1 ⊢
      clear hr
      generalize hq : w.heap.size = q at H1 ⊢
      go_loopw [9] (fun i wr => ∃ k : Nat, k ≤ m ∧ i = .int .i64 k ∧ Hid (Between w q r k wr)) (fun i wr => m - (intOf i).toNat)
      case atStart => exact ⟨0, Nat.zero_le _, rfl, H1⟩
      case round =>
        obtain ⟨k, hk, rfl, hB⟩ := hrel
        by_cases hlt : k < m
        · obtain ⟨b, off, kind, A1, n1, c1, G, P, A2, n2, c2, ll, af, rfl, hat, hfit, d0, d1, d2, d3, d4⟩ := HV.out.at_ hB.out.chg0 hlt
          have i0 : (0 : Int) ≤ (k : Int) := by omega
          have i1 : (k : Int) < (m : Int) := by omega
          have HD := hB.out.does (by omega) _ hfit (HSm.out _ _ hat)
          simp only [ActV.val] at HD
          clear hB hfit hat
          go_wp2_with (go_at_call 11; refine HD.mono ?_; rintro e w4 ⟨rfl, hB2⟩; have HB2 := Lib.hid hB2; clear hB2)
          go_roundw
          case rel => exact ⟨k + 1, by omega, by go_num, HB2⟩
          case measure => simp [intOf]; omega
        · obtain rfl : k = m := by omega
          clear hlt H1
          obtain ⟨N, S, b1, b2, b3, b4, b5⟩ := hB.out
          obtain ⟨L, hL⟩ : ∃ L, L = nu N := ⟨_, rfl⟩
          have HT0 : ∀ W lv K, Chg [] wr W → Rd W lv K → Taking w q r L L lv K W := fun W lv K hW hK => ⟨N, S, b1.quiet hW, hL.symm, by rw [hL]; exact b2.quiet hW, fun j hj => b3 j (List.mem_cons_of_mem _ hj), b4.then hW, hK⟩
          have HT := Lib.hid HT0
          have hl8 : L.length ≤ 8000 := by rw [hL]; omega
          obtain ⟨A9, c9, hcell, ho⟩ := (HT0 wr _ _ (Chg.refl _ _) (Rd.nil _)).ref
          obtain ⟨n, hn⟩ : ∃ n, n = L.length := ⟨_, rfl⟩
          rw [← hn] at hcell hl8
          have HN := Lib.hid hn
          have HO := Lib.hid ho
          have HC4 := Lib.hid b4
          have lr : r < wr.heap.size := World.block_lt_of_cell? _ _ hcell
          have HCell := Lib.hid (fun W (hW : Chg [] wr W) => (hW.cell (p := ⟨r, 0, none⟩) lr (by simp)).trans hcell)
          clear b1 b2 b3 b4 b5 hL HT0 ho hn hcell lr hB
          go_wp2
          go_loopw [10, 11] (fun lv iv wx => ∃ k : Nat, k ≤ n ∧ iv = .int .i64 k ∧ Hid (Fresh wr wx lv ((L.take k).filter (fun x => !f x)))) (fun lv iv wx => n - (intOf iv).toNat)
          case atStart => exact ⟨0, Nat.zero_le _, rfl, Lib.hid (Fresh.nil (Chg.refl _ _))⟩
          case round =>
            obtain ⟨j, hj, rfl, HF⟩ := hrel
            have k0 := HCell.out _ HF.out.2.2
            by_cases hlt : j < n
            · obtain ⟨x, hx⟩ : ∃ x, L[j]? = some x := ⟨_, List.getElem?_eq_getElem (by rw [← HN.out]; exact hlt)⟩
              obtain ⟨b, po, rfl, hbl, q9⟩ := HO.out j x hx
              have q1 := (HF.out.2.2.cell (p := ⟨b, po + j, none⟩) hbl (by simp)).trans q9
              have hmx := HMay.out _ (HC4.out.then HF.out.2.2) x
              have HS := Lib.hid (filter_snoc (fun x => !f x) hx)
              have i0 : (0 : Int) ≤ (j : Int) := by omega
              have i1 : (j : Int) < (n : Int) := by omega
              clear hx hbl q9
              cases hfx : f x with
              | true =>
                rw [hfx] at hmx
                have HE := Lib.hid (show (L.take (j + 1)).filter (fun x => !f x) = (L.take j).filter (fun x => !f x) by rw [HS.out]; simp [hfx])
                clear hfx
                go_wp2_with (go_at_call 13; refine hmx.mono ?_; rintro e w' ⟨rfl, rfl⟩)
                go_roundw
                case rel => exact ⟨j + 1, by omega, by go_num, by rw [HE.out]; exact HF⟩
                case measure => simp [intOf]; omega
              | false =>
                rw [hfx] at hmx
                have HE := Lib.hid (show (L.take (j + 1)).filter (fun x => !f x) = (L.take j).filter (fun x => !f x) ++ [x] by rw [HS.out]; simp [hfx])
                have hle : ((L.take j).filter (fun x => !f x)).length ≤ 8000 := Nat.le_trans (List.length_filter_le _ _) (by rw [List.length_take]; omega)
                clear hfx
                go_wp2_with (first
                  | (go_at_call 13; refine hmx.mono ?_; rintro e w' ⟨rfl, rfl⟩)
                  | (at_builtin; refine wpList_append_rd (l := [x]) _ rfl _ _ rfl rfl rfl (HF.out.later ((Chg.refl _ _).alloc (.cells #[.int .i64 x] 3))).1 (Rd.one _ x) (by simp only [List.length_cons, List.length_nil]; omega) ?_; intro v' w2 hr hg hf; have HR := Lib.hid ((HF.out.later ((Chg.refl _ _).alloc (.cells #[.int .i64 x] 3))).append hr hg hf); clear hr hg hf))
                go_roundw
                case rel => exact ⟨j + 1, by omega, by go_num, by rw [HE.out]; exact HR⟩
                case measure => simp [intOf]; omega
            · obtain rfl : j = n := by omega
              clear hlt
              have hfr := HF.out
              rw [HN.out, List.take_length] at hfr
              obtain ⟨K, hK⟩ : ∃ K, K = L.filter (fun x => !f x) := ⟨_, rfl⟩
              rw [← hK] at hfr
              have HK := Lib.hid hK
              have hta := HT.out _ _ K hfr.2.2 hfr.rd
              obtain ⟨A5, c5, rfl⟩ := hta.slice
              have hkl : K.length ≤ 8192 := by
                have := List.length_filter_le (fun x => !f x) L
                rw [hK]; have := HN.out; omega
              obtain ⟨kl, hkl2⟩ : ∃ kl, kl = K.length := ⟨_, rfl⟩
              rw [← hkl2] at hta
              have HKL := Lib.hid hkl2
              have HTa := Lib.hid hta
              have HKle := Lib.hid hkl
              rw [← hkl2]
              clear hfr hK hta hkl hkl2 HF
              go_wp2
              go_loopw [12] (fun iv wy => ∃ k : Nat, k ≤ j + 1 ∧ iv = .int .i64 k ∧ Hid (Taking w q r L (tks f k L) (.slice A5 kl c5) K wy)) (fun iv wy => j + 1 - (intOf iv).toNat)
              case atStart => exact ⟨0, Nat.zero_le _, rfl, HTa⟩
              case round =>
                obtain ⟨t, ht, rfl, HY⟩ := hrel
                obtain ⟨A6, c6, k6, _⟩ := HY.out.ref
                rw [← HN.out] at k6
                by_cases hlt : t < j + 1
                · have h1 := HTk.out _ _ _ _ _ _ _ HY.out (by have := tks_len (f := f) t L; have := HN.out; omega)
                  have i1 : (t : Int) ≤ (j : Int) := by omega
                  clear HTa
                  go_wp2_with (go_at_call 15; refine h1.mono ?_; rintro e w9 ⟨rfl, hT⟩; have HT9 := Lib.hid hT; clear hT)
                  go_roundw
                  case rel => exact ⟨t + 1, by omega, by go_num, HT9⟩
                  case measure => simp [intOf]; omega
                · obtain rfl : t = j + 1 := by omega
                  have i1 : ¬ (((j + 1 : Nat) : Int) ≤ (j : Int)) := by omega
                  have hfin := HY.out
                  rw [tks_all (f := f) (j + 1) L (by rw [← HN.out]; omega), ← HK.out] at hfin
                  have hall := hfin.all HKle.out
                  have hlen2 := fun W (hW : Taking w q r L K (.slice A5 kl c5) K W) => hW.len
                  have hsm := fun W v (h1 : Rd W v K) (h2 : Rd W (.slice A5 kl c5) K) => rsame_any h1 h2 HKle.out HKle.out
                  simp only [beq_self_eq_true] at hsm
                  simp only [← HKL.out] at hlen2
                  have hkk : ((kl : Int) == (kl : Int)) = true := by simp
                  clear hfin HTa HY
                  go_wp2_with (first
                    | (go_at_call 20; refine hall.mono ?_; rintro e w10 ⟨v, rfl, hv, hT⟩; have HV10 := Lib.hid hv; have HT10 := Lib.hid hT; clear hv hT hall)
                    | (go_at_call 19; refine (hsm _ _ HV10.out HT10.out.rd).mono ?_; rintro e w11 ⟨rfl, hc⟩; have HT11 := Lib.hid (HT10.out.quiet hc); clear hc)
                    | (go_at_call 21; refine (hlen2 _ HT11.out).mono ?_; rintro e w12 ⟨rfl, rfl⟩)
                    | (go_at_call 9; refine (known_any _).mono ?_; rintro e w13 ⟨rfl, hc⟩; have HC13 := Lib.hid (HT11.out.chg0.then hc); clear hc))
                  go_ret
                  exact ⟨rfl, HC13.out⟩
end Go.Proofs
