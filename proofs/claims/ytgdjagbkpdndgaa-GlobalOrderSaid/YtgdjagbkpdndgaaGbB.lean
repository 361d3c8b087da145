import Derived.Test.YtgdjagbkpdndgaaGbA
namespace Go.Proofs
open Go.RowKit
set_option linter.unusedVariables false

set_option maxRecDepth 100000 in
set_option maxHeartbeats 12800000 in
theorem order_any (V : Value) (l : List ActV) (g p : Int) (VA : Value) (aff : List Int) (w : World) (hV : Acts w w.heap.size V l) (hA : Bs w VA aff) :
    Calls Try.prog 4 #[V, .int .i64 g, .int .i64 p, VA] w fun e w' => e = .returned (.bool true) ∧ Chg [] w w' := by
  have hfew : Calls Try.prog 8 #[V, .int .i64 60] w fun e w' => e = .returned (.bool (fewB l 60)) ∧ w = w' := few_any hV 60 (by omega)
  obtain ⟨F, hF⟩ : ∃ F, F = fewB l 60 := ⟨_, rfl⟩
  rw [← hF] at hfew
  obtain ⟨A, c, rfl, _⟩ := hV.2
  have hmay := fun W (hW : Chg [] w W) x => rmay_any (hA.quiet hW) x p
  have htk := fun W q r L X lv K (hW : Taking w q r L X lv K W) (hX : X.length ≤ 8192) => hW.take hX (hA.quiet hW.chg0) p
  have hah := fun W q r L X lv K (hW : Taking w q r L X lv K W) (hX : X.length ≤ 8192) => hW.ahead hX (hA.quiet hW.chg0) g p
  obtain ⟨f, hf⟩ : ∃ f, f = mayP aff p := ⟨_, rfl⟩
  simp only [← hf] at hmay htk hah
  obtain ⟨A2, c2, rfl, _⟩ := id hA
  obtain ⟨an, han⟩ : ∃ an, an = aff.length := ⟨_, rfl⟩
  simp only [← han] at hmay htk hah ⊢
  clear hf hA
  cases F with
  | false =>
    clear hF hV hmay htk hah han
    go_enter Try.func4, Try.ntmps4
    go_wp2_with (first
      | (go_at_call 8; refine hfew.mono ?_; rintro e w' ⟨rfl, rfl⟩)
      | (go_at_call 9; refine (known_any _).mono ?_; rintro e w1 ⟨rfl, hc⟩))
    go_ret
    exact ⟨rfl, hc⟩
  | true =>
    by_cases hbig : 100 < an
    · have i3 : (100 : Int) < (an : Int) := by omega
      clear hF hV hmay htk hah han hbig
      go_enter Try.func4, Try.ntmps4
      go_wp2_with (first
        | (go_at_call 8; refine hfew.mono ?_; rintro e w' ⟨rfl, rfl⟩)
        | (go_at_call 9; refine (known_any _).mono ?_; rintro e w1 ⟨rfl, hc⟩))
      go_ret
      exact ⟨rfl, hc⟩
    · have i3 : ¬ ((100 : Int) < (an : Int)) := by omega
      have hlen := fewB_len hF.symm
      have HSm := Lib.hid (fewB_small hF.symm)
      obtain ⟨m, hmm⟩ : ∃ m, m = l.length := ⟨_, rfl⟩
      rw [← hmm] at hV hlen hfew ⊢
      have HV := Lib.hid hV
      have HMay := Lib.hid hmay
      have HTk := Lib.hid htk
      have HAh := Lib.hid hah
      clear hF hV hmm hmay htk hah han hbig
      go_enter Try.func4, Try.ntmps4
      go_wp2_with (first
        | (go_at_call 8; refine hfew.mono ?_; rintro e w' ⟨rfl, rfl⟩)
        | (go_at_call 10; refine (new_any _).mono ?_; rintro e w1 ⟨rfl, hw1⟩; have H1 := Lib.hid (Between.new (show Made [] w.heap.size w w1 by rw [hw1]; exact made_new w)); clear hw1))
      generalize hr : w1.heap.size = r at H1 ⊢
      clear hr
      generalize hq : w.heap.size = q at H1 ⊢
      go_loopw [11] (fun i wr => ∃ k : Nat, k ≤ m ∧ i = .int .i64 k ∧ Hid (Between w q r k wr)) (fun i wr => m - (intOf i).toNat)
      case atStart => exact ⟨0, Nat.zero_le _, rfl, H1⟩
      case round =>
        obtain ⟨k, hk, rfl, hB⟩ := hrel
        by_cases hlt : k < m
        · obtain ⟨b, off, kind, A1, n1, c1, G, P, A2, n2, c2, ll, af, rfl, hat, hfit, d0, d1, d2, d3, d4⟩ := HV.out.at_ hB.out.chg0 hlt
          have i0 : (0 : Int) ≤ (k : Int) := by omega
          have i1 : (k : Int) < (m : Int) := by omega
          have HD := hB.out.does (by omega) _ hfit (HSm.out _ _ hat)
          simp only [ActV.val] at HD
          clear hB hfit hat
          go_wp2_with (go_at_call 11; refine HD.mono ?_; rintro e w4 ⟨rfl, hB2⟩; have HB2 := Lib.hid hB2; clear hB2)
          go_roundw
          case rel => exact ⟨k + 1, by omega, by go_num, HB2⟩
          case measure => simp [intOf]; omega
        · obtain rfl : k = m := by omega
          clear hlt H1
          obtain ⟨N, S, b1, b2, b3, b4, b5⟩ := hB.out
          obtain ⟨L, hL⟩ : ∃ L, L = nu N := ⟨_, rfl⟩
          have HT0 : ∀ W lv K, Chg [] wr W → Rd W lv K → Taking w q r L L lv K W := fun W lv K hW hK => ⟨N, S, b1.quiet hW, hL.symm, by rw [hL]; exact b2.quiet hW, fun j hj => b3 j (List.mem_cons_of_mem _ hj), b4.then hW, hK⟩
          have HT := Lib.hid HT0
          have hl8 : L.length ≤ 8000 := by rw [hL]; omega
          obtain ⟨A9, c9, hcell, ho⟩ := (HT0 wr _ _ (Chg.refl _ _) (Rd.nil _)).ref
          obtain ⟨n, hn⟩ : ∃ n, n = L.length := ⟨_, rfl⟩
          rw [← hn] at hcell hl8
          have HN := Lib.hid hn
          have HO := Lib.hid ho
          have HC4 := Lib.hid b4
          have lr : r < wr.heap.size := World.block_lt_of_cell? _ _ hcell
          have HCell := Lib.hid (fun W (hW : Chg [] wr W) => (hW.cell (p := ⟨r, 0, none⟩) lr (by simp)).trans hcell)
          clear b1 b2 b3 b4 b5 hL HT0 ho hn hcell lr hB
          go_wp2
          go_loopw [12, 13] (fun lv iv wx => ∃ k : Nat, k ≤ n ∧ iv = .int .i64 k ∧ Hid (Fresh wr wx lv ((L.take k).filter f))) (fun lv iv wx => n - (intOf iv).toNat)
          case atStart => exact ⟨0, Nat.zero_le _, rfl, Lib.hid (Fresh.nil (Chg.refl _ _))⟩
          case round =>
            obtain ⟨j, hj, rfl, HF⟩ := hrel
            have k0 := HCell.out _ HF.out.2.2
            by_cases hlt : j < n
            · obtain ⟨x, hx⟩ : ∃ x, L[j]? = some x := ⟨_, List.getElem?_eq_getElem (by rw [← HN.out]; exact hlt)⟩
              obtain ⟨b, po, rfl, hbl, q9⟩ := HO.out j x hx
              have q1 := (HF.out.2.2.cell (p := ⟨b, po + j, none⟩) hbl (by simp)).trans q9
              have hmx := HMay.out _ (HC4.out.then HF.out.2.2) x
              have HS := Lib.hid (filter_snoc f hx)
              have i0 : (0 : Int) ≤ (j : Int) := by omega
              have i1 : (j : Int) < (n : Int) := by omega
              clear hx hbl q9
              cases hfx : f x with
              | false =>
                rw [hfx] at hmx
                have HE := Lib.hid (show (L.take (j + 1)).filter f = (L.take j).filter f by rw [HS.out]; simp [hfx])
                clear hfx
                go_wp2_with (go_at_call 13; refine hmx.mono ?_; rintro e w' ⟨rfl, rfl⟩)
                go_roundw
                case rel => exact ⟨j + 1, by omega, by go_num, by rw [HE.out]; exact HF⟩
                case measure => simp [intOf]; omega
              | true =>
                rw [hfx] at hmx
                have HE := Lib.hid (show (L.take (j + 1)).filter f = (L.take j).filter f ++ [x] by rw [HS.out]; simp [hfx])
                have hle : ((L.take j).filter f).length ≤ 8000 := Nat.le_trans (List.length_filter_le _ _) (by rw [List.length_take]; omega)
                clear hfx
                go_wp2_with (first
                  | (go_at_call 13; refine hmx.mono ?_; rintro e w' ⟨rfl, rfl⟩)
                  | (at_builtin; refine wpList_append_rd (l := [x]) _ rfl _ _ rfl rfl rfl (HF.out.later ((Chg.refl _ _).alloc (.cells #[.int .i64 x] 3))).1 (Rd.one _ x) (by simp only [List.length_cons, List.length_nil]; omega) ?_; intro v' w2 hr hg hf; have HR := Lib.hid ((HF.out.later ((Chg.refl _ _).alloc (.cells #[.int .i64 x] 3))).append hr hg hf); clear hr hg hf))
                go_roundw
                case rel => exact ⟨j + 1, by omega, by go_num, by rw [HE.out]; exact HR⟩
                case measure => simp [intOf]; omega
            · obtain rfl : j = n := by omega
              clear hlt
              have hfr := HF.out
              rw [HN.out, List.take_length] at hfr
              obtain ⟨K, hK⟩ : ∃ K, K = L.filter f := ⟨_, rfl⟩
              rw [← hK] at hfr
              have HK := Lib.hid hK
              have hta := HT.out _ _ K hfr.2.2 hfr.rd
              obtain ⟨A5, c5, rfl⟩ := hta.slice
              have hkl : K.length ≤ 8192 := by
                have := List.length_filter_le f L
                rw [hK]; have := HN.out; omega
              obtain ⟨kl, hkl2⟩ : ∃ kl, kl = K.length := ⟨_, rfl⟩
              rw [← hkl2] at hta
              have HKL := Lib.hid hkl2
              have HTa := Lib.hid hta
              have HKle := Lib.hid hkl
              rw [← hkl2]
              clear hfr hK hta hkl hkl2 HF
              have ha1 := HAh.out _ _ _ _ _ _ _ HTa.out (by rw [← HN.out]; omega)
              have hbd := ahd_bd (f := f) g L
              rw [← HN.out] at hbd
              obtain ⟨X, hX⟩ : ∃ X, X = (ahd f g L).1 := ⟨_, rfl⟩
              obtain ⟨B, hB⟩ : ∃ B, B = (ahd f g L).2 := ⟨_, rfl⟩
              rw [← hX, ← hB] at ha1
              rw [← hX] at hbd
              obtain ⟨hx0, hx1⟩ := hbd
              have HXB := Lib.hid (show ahd f g L = (X, B) by rw [hX, hB])
              clear hX hB
              go_wp2_with (go_at_call 14; refine ha1.mono ?_; rintro e wz ⟨rfl, hT⟩; have HTz := Lib.hid hT; clear hT ha1)
              clear HTa k0
              go_loopw [16] (fun iv wy => ∃ k : Nat, k ≤ kl ∧ iv = .int .i64 k ∧ Hid (Taking w q r L (tks f k L) (.slice A5 kl c5) K wy)) (fun iv wy => kl - (intOf iv).toNat)
              case atStart => exact ⟨0, Nat.zero_le _, rfl, HTz⟩
              case round =>
                clear HTz
                obtain ⟨t, ht, rfl, HY⟩ := hrel
                have h1 := HTk.out _ _ _ _ _ _ _ HY.out (by have := tks_len (f := f) t L; have := HN.out; omega)
                by_cases hlt : t < kl
                · obtain ⟨xv, hxv⟩ : ∃ xv, K[t]? = some xv := ⟨_, List.getElem?_eq_getElem (by rw [← HKL.out]; exact hlt)⟩
                  obtain ⟨v1, v2⟩ := tks_at (f := f) (L := L) (n := t) (x := xv) (by rw [← HK.out]; exact hxv)
                  rw [v1, v2] at h1
                  have HV1 := Lib.hid v1
                  have hcell : ∀ W, Taking w q r L (tks f (t + 1) L) (.slice A5 kl c5) K W → ∃ b o, A5 = some ⟨b, o, none⟩ ∧ W.cell? ⟨b, o + t, none⟩ = some (.int .i64 xv) := fun W hW => by
                    obtain ⟨A, c, e, _, _, _, o⟩ := hW.rd.open_
                    simp only [Value.slice.injEq] at e
                    obtain ⟨rfl, _, _⟩ := e
                    obtain ⟨b, p9, h8, _, h9⟩ := o t xv hxv
                    exact ⟨b, p9, h8, h9⟩
                  have HCl := Lib.hid hcell
                  have hxx : (xv != xv) = false := by simp
                  have i0 : (0 : Int) ≤ (t : Int) := by omega
                  have i1 : (t : Int) < (kl : Int) := by omega
                  have ha2 := fun W (hW : Taking w q r L (tks f (t + 1) L) (.slice A5 kl c5) K W) => HAh.out _ _ _ _ _ _ _ hW (by have := tks_len (f := f) (t + 1) L; have := HN.out; omega)
                  have htn : (t : Int) ≤ 8192 := by have := HKle.out; have := HKL.out; omega
                  clear v1 v2 hxv hcell
                  cases B with
                  | false =>
                    clear ha2
                    go_wp2_with (go_at_call 15; refine h1.mono ?_; rintro e w9 ⟨rfl, hT⟩; have HT9 := Lib.hid hT; obtain ⟨b7, p7, rfl, z7⟩ := HCl.out _ HT9.out; clear hT)
                    go_roundw
                    case rel => exact ⟨t + 1, by omega, by go_num, HT9⟩
                    case measure => simp [intOf]; omega
                  | true =>
                    by_cases hlx : (t : Int) < X
                    · have he := ahd_tks HXB.out (t + 1) (by omega)
                      have ha3 : ∀ W, Taking w q r L (tks f (t + 1) L) (.slice A5 kl c5) K W → Calls Try.prog 14 #[.pointer (some ⟨q, 0, none⟩), .int .i64 g, .int .i64 p, .slice A2 an c2] W fun e w' => e = .returned (.tuple #[.int .i64 (X - (t : Int) - 1), .bool true]) ∧ Taking w q r L (tks f (t + 1) L) (.slice A5 kl c5) K w' := fun W hW => by
                        have h9 := ha2 W hW
                        rw [he] at h9
                        rw [show X - (t : Int) - 1 = X - ((t + 1 : Nat) : Int) by omega]
                        exact h9
                      have hne : ((X - (t : Int) - 1) != (X - (t : Int) - 1)) = false := by simp
                      have hte : ((t : Int) == X) = false := by simp; omega
                      clear ha2 he
                      go_wp2_with (first
                        | (go_at_call 15; refine h1.mono ?_; rintro e w9 ⟨rfl, hT⟩; have HT9 := Lib.hid hT; obtain ⟨b7, p7, rfl, z7⟩ := HCl.out _ HT9.out; clear hT)
                        | (go_at_call 14; refine (ha3 _ HT9.out).mono ?_; rintro e w10 ⟨rfl, hT⟩; have HT10 := Lib.hid hT; clear hT))
                      go_roundw
                      case rel => exact ⟨t + 1, by omega, by go_num, HT10⟩
                      case measure => simp [intOf]; omega
                    · by_cases hte : (t : Int) = X
                      · have he := ahd_tks HXB.out t (by omega)
                        rw [← hte, show (t : Int) - (t : Int) = 0 by omega] at he
                        have hg := ahd_zero he
                        rw [HV1.out] at hg
                        subst hg
                        have htt : ((t : Int) == X) = true := by simpa using hte
                        clear ha2 he hte
                        go_wp2_with (go_at_call 15; refine h1.mono ?_; rintro e w9 ⟨rfl, hT⟩; have HT9 := Lib.hid hT; obtain ⟨b7, p7, rfl, z7⟩ := HCl.out _ HT9.out; clear hT)
                        go_roundw
                        case rel => exact ⟨t + 1, by omega, by go_num, HT9⟩
                        case measure => simp [intOf]; omega
                      · have htt : ((t : Int) == X) = false := by simpa using hte
                        clear ha2 hte
                        go_wp2_with (go_at_call 15; refine h1.mono ?_; rintro e w9 ⟨rfl, hT⟩; have HT9 := Lib.hid hT; obtain ⟨b7, p7, rfl, z7⟩ := HCl.out _ HT9.out; clear hT)
                        go_roundw
                        case rel => exact ⟨t + 1, by omega, by go_num, HT9⟩
                        case measure => simp [intOf]; omega
                · obtain rfl : t = kl := by omega
                  have hno := tkB_none (f := f) (tks f t L) (by rw [tks_have, ← HK.out]; exact List.drop_eq_nil_of_le (by rw [HKL.out]; exact Nat.le_refl _))
                  rw [hno] at h1
                  clear hno
                  go_wp2_with (first
                    | (go_at_call 15; refine h1.mono ?_; rintro e w9 ⟨rfl, hT⟩; have HT9 := Lib.hid hT; clear hT)
                    | (go_at_call 9; refine (known_any _).mono ?_; rintro e w13 ⟨rfl, hc⟩; have HC13 := Lib.hid (HT9.out.chg0.then hc); clear hc))
                  go_ret
                  exact ⟨rfl, HC13.out⟩
end Go.Proofs
