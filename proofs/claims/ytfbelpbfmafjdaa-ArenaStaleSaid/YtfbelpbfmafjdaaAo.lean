import Derived.Test.YtfbelpbfmafjdaaAn
import Derived.Test.YtfbelpbfmafjdaaArK
import Derived.LoopTactic
namespace Go.Proofs
open Go.RowKit
set_option linter.unusedVariables false

theorem Try.ref_info : (Try.prog.info? 36).map (fun i => (i.zero, i.size, i.bytes)) = some (some (.agg #[.int .i64 0, .int .u64 0]), 2, 16) := by kernel_rfl
theorem Try.bool_info : (Try.prog.info? 4).map (fun i => (i.zero, i.size, i.bytes)) = some (some (.bool false), 1, 1) := by kernel_rfl
/-- What holds between two acts. -/
def Stale (w0 : World) (g : Nat) (k : Nat) (vg vb : Value) (w : World) : Prop :=
  ∃ (G : List (Int × Int)) (B : List Bool) (t : Tab Int) (A A' : Option Addr) (c c' : Nat), vg = .slice A G.length c ∧ vb = .slice A' B.length c' ∧ Inv t G B ∧ G.length ≤ k ∧ Three w0 g vg vb G B t w
theorem Stale.start {w0 w1 : World} {N : Nat} {F : Int} (h : mayT (N : Nat) F = true) (h1 : TabAt kI w1 w0.heap.size [w0.heap.size] ⟨(N : Nat), F, [], [], 0⟩) (hc : Chg [] w0 w1) : Stale w0 w0.heap.size 0 (.slice none 0 0) (.slice none 0 0) w1 := by
  obtain ⟨a, b, c, d⟩ := mayT_iff.1 h
  exact ⟨[], [], _, none, none, 0, 0, rfl, rfl, ⟨Tab.WF.new a b c d, rfl, by simp, by simp⟩, by simp, [w0.heap.size], h1, by simp, hc.below (fun _ h => by cases h) (Nat.le_refl _), Row.nil _ _ _, by simp [foot_nil], Row.nil _ _ _, by simp [foot_nil]⟩

set_option maxRecDepth 100000 in
set_option maxHeartbeats 12800000 in
theorem stale_any (size first : Int) (f0 : 0 ≤ first) (V : Value) (l : List ActV) (w : World) (hV : Acts w w.heap.size V l) :
    Calls Try.prog 4 #[.int .i64 size, .int .u64 first, V] w fun e w' => e = .returned (.bool true) ∧ Below w.heap.size w w' := by
  obtain ⟨A, c, rfl, hcell⟩ := hV
  have HM := fun w' => much_any size 100 A l.length c w'
  have HCell := Lib.hid hcell
  have HY := fun w' => may_any size first f0 w'
  obtain ⟨m, hm⟩ : ∃ m, m = l.length := ⟨_, rfl⟩
  rw [← hm] at HM ⊢
  have HL := Lib.hid hm
  clear hcell hm
  cases hmu : muchB size m 100 with
  | true =>
    rw [hmu] at HM
    clear hmu
    go_enter Try.func4, Try.ntmps4
    go_wp2_with (first
      | (go_at_call 9; refine (HM _).mono ?_; rintro e w' ⟨rfl, rfl⟩)
      | (go_at_call 10; refine (known_any _).mono ?_; rintro e w1 ⟨rfl, hb⟩))
    go_ret
    exact ⟨rfl, hb⟩
  | false =>
    rw [hmu] at HM
    have hlen : m ≤ 100 := by
      unfold muchB at hmu
      rw [Bool.or_eq_false_iff] at hmu
      have := of_decide_eq_false hmu.2
      omega
    clear hmu
    cases hmay : mayT size first with
    | false =>
      rw [hmay] at HY
      clear hmay
      go_enter Try.func4, Try.ntmps4
      go_wp2_with (first
        | (go_at_call 9; refine (HM _).mono ?_; rintro e w' ⟨rfl, rfl⟩)
        | (go_at_call 12; refine (HY _).mono ?_; rintro e w' ⟨rfl, rfl⟩)
        | (go_at_call 10; refine (known_any _).mono ?_; rintro e w1 ⟨rfl, hb⟩))
      go_ret
      exact ⟨rfl, hb⟩
    | true =>
      obtain ⟨a, b, _, _⟩ := mayT_iff.1 hmay
      obtain ⟨N, rfl⟩ := Int.eq_ofNat_of_zero_le (by omega : 0 ≤ size)
      have HN := fun w' => new_ok_I (w := w') (N : Nat) first hmay
      rw [hmay] at HY
      have HS := Lib.hid (fun (w1 : World) => Stale.start (w0 := w) (w1 := w1) hmay)
      obtain ⟨i0, hi0, hz0, hz1, hz2⟩ := info_parts Try.ref_info
      obtain ⟨i1, hi1, hy0, hy1, hy2⟩ := info_parts Try.bool_info
      clear hmay a b
      go_enter Try.func4, Try.ntmps4
      go_wp2_with (first
        | (go_at_call 9; refine (HM _).mono ?_; rintro e w' ⟨rfl, rfl⟩)
        | (go_at_call 12; refine (HY _).mono ?_; rintro e w' ⟨rfl, rfl⟩)
        | (go_at_call 11; refine (HN _).mono ?_; rintro e w1 ⟨rfl, hT, hc1⟩; have HR := Lib.hid (HS.out _ hT hc1); clear hT hc1))
      have HRR := Lib.hid HR.out
      obtain ⟨g, hg⟩ : ∃ g, g = w.heap.size := ⟨_, rfl⟩
      rw [← hg] at HRR ⊢
      clear hg HN HY HS HR HM
      go_loopw [9, 10, 11] (fun vg vb iv wr => ∃ k : Nat, k ≤ m ∧ iv = .int .i64 k ∧ Stale w g k vg vb wr) (fun _ _ iv _ => m - (intOf iv).toNat)
      case atStart => exact ⟨0, by omega, rfl, HRR.out⟩
      case round =>
        clear HRR
        obtain ⟨k, hk, rfl, G, B, t, AG, AB, cG, cB, rfl, rfl, hI, hGk, hT⟩ := hrel
        have HBel := Lib.hid hT.below
        have HIn := Lib.hid hI
        have HT := Lib.hid hT
        clear hT
        by_cases hlt : k < m
        · obtain ⟨a, ha⟩ : ∃ a, l[k]? = some a := ⟨_, List.getElem?_eq_getElem (by rw [← HL.out]; exact hlt)⟩
          obtain ⟨b, off, rfl, hb, hfit, c0, c1, c2, c3, c4⟩ := HCell.out k a ha
          have d0 := (HBel.out.cell (p := ⟨b, off + k * 5, none⟩) hb).trans c0
          have d1 := (HBel.out.cell (p := ⟨b, off + k * 5 + 1, none⟩) hb).trans c1
          have d2 := (HBel.out.cell (p := ⟨b, off + k * 5 + 2, none⟩) hb).trans c2
          have d3 := (HBel.out.cell (p := ⟨b, off + k * 5 + 3, none⟩) hb).trans c3
          have d4 := (HBel.out.cell (p := ⟨b, off + k * 5 + 4, none⟩) hb).trans c4
          have k0 : (0 : Int) ≤ (k : Int) := by omega
          have k1 : (k : Int) < (m : Int) := by omega
          clear c0 c1 c2 c3 c4 ha hI
          obtain ⟨ak, ax, ai, aq, an⟩ := a
          simp only at d0 d1 d2 d3 d4
          by_cases hk1 : ak = 1
          · subst hk1
            by_cases hf : t.frees = 0
            · have eP : t.put' ax = t := by unfold Tab.put'; rw [if_pos hf]
              have e1 : t.pErr = 3 := by unfold Tab.pErr; rw [if_pos hf]
              have e2 : t.pIdx = 0 := by unfold Tab.pIdx; rw [if_pos hf]
              have e3 : t.pGen = 0 := by unfold Tab.pGen; rw [if_pos hf]
              have HP := fun w' h' => Three.put (w := w') (w0 := w) (g := g) (VG := .slice AG G.length cG) (VB := .slice AB B.length cB) (G := G) (B := B) (t := t) h' HIn.out.hw ax
              rw [eP, e1, e2, e3] at HP
              clear eP e1 e2 e3 hf
              go_wp2_with (go_at_call 16; refine (HP _ (HT.out.quiet ((Chg.refl _ _).alloc _))).mono ?_; rintro e w2 ⟨rfl, hT2⟩; have HT2 := Lib.hid (hT2.quiet ((Chg.refl _ _).alloc (.cells #[.int .i64 0, .int .u64 0] 36))); clear hT2)
              go_loopw [15] (fun jv wq => jv = .int .i64 0 ∧ wq = w2.alloc (.cells #[.int .i64 0, .int .u64 0] 36)) (fun jv _ => 0)
              case atStart => exact ⟨rfl, rfl⟩
              case round =>
                obtain ⟨rfl, rfl⟩ := hrel
                go_wp2
                all_goals
                  go_roundw
                  case rel => exact ⟨k + 1, by omega, by go_num, G, B, t, AG, AB, cG, cB, rfl, rfl, HIn.out, by omega, HT2.out⟩
                  case measure => simp [intOf]; omega
            · have eP : t.put' ax = t.put 0 ax := by unfold Tab.put'; rw [if_neg hf]
              have e1 : t.pErr = 0 := by unfold Tab.pErr; rw [if_neg hf]
              have e2 : t.pIdx = (t.takeAt : Nat) := by unfold Tab.pIdx; rw [if_neg hf]
              have e3 : t.pGen = t.genAt t.takeAt := by unfold Tab.pGen; rw [if_neg hf]
              have HP := fun w' h' => Three.put (w := w') (w0 := w) (g := g) (VG := .slice AG G.length cG) (VB := .slice AB B.length cB) (G := G) (B := B) (t := t) h' HIn.out.hw ax
              rw [eP, e1, e2, e3] at HP
              have HFr := Lib.hid (fun (j : Nat) (i q : Int) (h : G[j]? = some (i, q)) => HIn.out.fresh hf h)
              have HPut := Lib.hid (HIn.out.put hf ax)
              obtain ⟨I, hIe⟩ : ∃ I : Int, I = (t.takeAt : Nat) := ⟨_, rfl⟩
              obtain ⟨Q, hQe⟩ : ∃ Q, Q = t.genAt t.takeAt := ⟨_, rfl⟩
              rw [← hIe, ← hQe] at HP HPut HFr
              obtain ⟨n, hnn⟩ : ∃ n, n = G.length := ⟨_, rfl⟩
              obtain ⟨nB, hnB⟩ : ∃ n, n = B.length := ⟨_, rfl⟩
              have HNN := Lib.hid hnn
              have HNB := Lib.hid hnB
              rw [← hnn] at hGk
              rw [← hnn, ← hnB] at HP HT ⊢
              clear eP e1 e2 e3 hf hIe hQe hnn hnB
              go_wp2_with (go_at_call 16; refine (HP _ (HT.out.quiet ((Chg.refl _ _).alloc _))).mono ?_; rintro e w2 ⟨rfl, hT2⟩; have HT2 := Lib.hid (hT2.quiet ((Chg.refl _ _).alloc (.cells #[.int .i64 I, .int .u64 Q] 36))); have HT20 := Lib.hid hT2; clear hT2)
              go_loopw [15] (fun jv wq => ∃ j nd : Nat, j ≤ n ∧ jv = .int .i64 j ∧ wq = (w2.alloc (.cells #[.int .i64 I, .int .u64 Q] 36)).drewN nd) (fun jv _ => n - (intOf jv).toNat)
              case atStart => exact ⟨0, 0, by omega, rfl, rfl⟩
              case round =>
                obtain ⟨j, nd, hj, rfl, rfl⟩ := hrel
                by_cases hjl : j < n
                · obtain ⟨⟨i, q⟩, hiq⟩ : ∃ p, G[j]? = some p := ⟨_, List.getElem?_eq_getElem (by rw [← HNN.out]; exact hjl)⟩
                  obtain ⟨gg, cc, hvg, _, lgg, x0, x1⟩ := HT20.out.atG hiq
                  simp only [Value.slice.injEq] at hvg
                  obtain ⟨rfl, _, _⟩ := hvg
                  have hne := HFr.out j i q hiq
                  have j0 : (0 : Int) ≤ (j : Int) := by omega
                  have j1 : (j : Int) < (n : Int) := by omega
                  clear hiq
                  by_cases h9 : i = I
                  · subst h9
                    have hQ : ¬ q = Q := fun e => hne ⟨rfl, e⟩
                    clear hne
                    go_wp2
                    go_quiet (fail)
                    go_wp2
                    go_roundw
                    case rel => exact ⟨j + 1, _, by omega, by go_num, rfl⟩
                    case measure => simp [intOf]; omega
                  · clear hne
                    go_wp2
                    go_quiet (fail)
                    go_wp2
                    go_roundw
                    case rel => exact ⟨j + 1, _, by omega, by go_num, rfl⟩
                    case measure => simp [intOf]; omega
                · obtain rfl : j = n := by omega
                  have hT3 := HT2.out.quiet (((Chg.refl _ _).drewN nd).alloc (.cells #[.int .i64 I, .int .u64 Q] 36))
                  have HT3 := Lib.hid hT3
                  obtain ⟨S3, h3⟩ := hT3
                  have hrg : Row (((w2.alloc (.cells #[.int .i64 I, .int .u64 Q] 36)).drewN nd).alloc (.cells #[.int .i64 I, .int .u64 Q] 36)) 36 2 (.slice AG j cG) j (refCells G) := by have := h3.rg; rw [← HNN.out] at this; exact this
                  have HRG := Lib.hid hrg
                  have hj100 : j ≤ 100 := by omega
                  have hnews : ∀ y u, (#[Value.int .i64 I, .int .u64 Q].toList)[y]? = some u → (((w2.alloc (.cells #[.int .i64 I, .int .u64 Q] 36)).drewN nd).alloc (.cells #[.int .i64 I, .int .u64 Q] 36)).cell? ((⟨w2.heap.size + 1, 0, none⟩ : Addr).add y) = some u :=
                    World.news_of_block (cs := #[.int .i64 I, .int .u64 Q]) (t := 36) (fr := (0, 0)) (by have := heap_alloc_new ((w2.alloc (.cells #[.int .i64 I, .int .u64 Q] 36)).drewN nd) (.cells #[.int .i64 I, .int .u64 Q] 36); simpa using this)
                  have HNW := Lib.hid hnews
                  clear h3 hrg hnews
                  have hlb : nB ≤ 100 := by have := HIn.out.len; rw [← HNN.out, ← HNB.out] at this; omega
                  go_wp2_with (first
                    | (at_builtin; refine wpList_append_row _ rfl (.tmp 79) (.tmp 81) 40 (by rfl) 36 i0 _ 2 16 Try.underlying40 hi0 hz0 hz1 hz2 rfl (.slice AG j cG) j (refCells G) (by rfl) HRG.out ⟨w2.heap.size + 1, 0, none⟩ 1 1 [.int .i64 I, .int .u64 Q] (by rfl) (by rfl) HNW.out (by simp [Value.oneCell']) (by omega) (by unfold maxLen; omega) (by omega) (w2.heap.size + 1 + 1) (by simp) ?_; intro gg cap w3 hown hgrow hat hlt3; have hT4 := HT3.out.growG (G' := G ++ [(I, Q)]) (VG' := .slice (some ⟨gg, 0, none⟩) (j + 1) cap) (gg := gg) hgrow (by rw [refCells_append, show (G ++ [(I, Q)]).length = j + 1 by rw [List.length_append, ← HNN.out]; rfl]; exact hown) rfl (by rcases hat with h8 | h8 <;> simp [h8]); have HT4 := Lib.hid hT4; have hrb : ∃ Sx, Row w3 4 1 (.slice AB nB cB) nB (boolCells B) ∧ Sx = (0 : Nat) := (by obtain ⟨S4, h4⟩ := hT4; have := h4.rb; rw [← HNB.out] at this; exact ⟨0, this, rfl⟩); obtain ⟨_, hrb, _⟩ := hrb; have HRB := Lib.hid hrb; clear hown hgrow hat hT4 hrb)
                    | (at_builtin; refine wpList_append_row _ rfl (.tmp 83) (.tmp 84) 41 (by rfl) 4 i1 _ 1 1 Try.underlying41 hi1 hy0 hy1 hy2 rfl (.slice AB nB cB) nB (boolCells B) (by rfl) (HRB.out.alloc _) ⟨w3.heap.size, 0, none⟩ 1 1 [.bool false] (by rfl) (by rfl) (World.news_of_block (cs := #[.bool false]) (t := 4) (fr := (0, 0)) (heap_alloc_new w3 _)) (by simp [Value.oneCell']) (by omega) (by unfold maxLen; omega) (by omega) (w3.heap.size + 1) (by simp) ?_; intro gb capb w4 hown hgrow hat hlt4; have hT5 := (HT4.out.quiet ((Chg.refl _ _).alloc (.cells #[.bool false] 4))).growB (B' := B ++ [false]) (VB' := .slice (some ⟨gb, 0, none⟩) (nB + 1) capb) (gg := gb) hgrow (by rw [show (B ++ [false]).length = nB + 1 by rw [List.length_append, ← HNB.out]; rfl, show boolCells (B ++ [false]) = boolCells B ++ [.bool false] by unfold boolCells; simp]; exact hown) rfl (by rcases hat with h8 | h8 <;> simp [h8]); have HT5 := Lib.hid hT5; clear hown hgrow hat hT5))
                  go_roundw
                  case rel => exact ⟨k + 1, by omega, by go_num, G ++ [(I, Q)], B ++ [false], _, some ⟨gg, 0, none⟩, some ⟨gb, 0, none⟩, cap, capb, by rw [List.length_append, ← HNN.out]; rfl, by rw [List.length_append, ← HNB.out]; rfl, HPut.out, by rw [List.length_append, ← HNN.out]; simp; omega, HT5.out⟩
                  case measure => simp [intOf]; omega
          · have bk1 : (ak == 1) = false := by simpa using hk1
            obtain ⟨n, hnn⟩ : ∃ n, n = G.length := ⟨_, rfl⟩
            obtain ⟨nB, hnB⟩ : ∃ n, n = B.length := ⟨_, rfl⟩
            have HNN := Lib.hid hnn
            have HNB := Lib.hid hnB
            rw [← hnn] at hGk
            rw [← hnn, ← hnB] at HT ⊢
            have HK1 := Lib.hid hk1
            clear hnn hnB hk1
            by_cases hn0 : n = 0
            · subst hn0
              have HT9 := Lib.hid (HT.out.quiet ((Chg.refl _ _).alloc (.cells #[.int .i64 ak, .int .i64 ax, .int .i64 ai, .int .u64 aq, .int .i64 an] 38)))
              go_wp2
              go_loopw [16] (fun jv wq => jv = .int .i64 0 ∧ wq = wr.alloc (.cells #[.int .i64 ak, .int .i64 ax, .int .i64 ai, .int .u64 aq, .int .i64 an] 38)) (fun jv _ => 0)
              case atStart => exact ⟨rfl, rfl⟩
              case round =>
                obtain ⟨rfl, rfl⟩ := hrel
                go_wp2
                go_roundw
                case rel => exact ⟨k + 1, by omega, by go_num, G, B, t, AG, AB, cG, cB, by rw [← HNN.out], by rw [← HNB.out], HIn.out, by rw [← HNN.out]; omega, HT9.out⟩
                case measure => simp [intOf]; omega
            · have n0 : (0 : Int) < (n : Int) := by omega
              obtain ⟨U, hU⟩ : ∃ U, IntKind.u64.wrap an = U := ⟨_, rfl⟩
              have hU0 : 0 ≤ U := by rw [← hU, IntKind.wrap_u64]; omega
              obtain ⟨J, hJ⟩ : ∃ J : Nat, U.tmod (n : Int) = (J : Int) := ⟨(U.tmod (n : Int)).toNat, by have := Int.tmod_nonneg (n : Int) hU0; omega⟩
              have hJn : J < n := by have := Int.tmod_lt_of_pos U n0; omega
              obtain ⟨⟨i, q⟩, hiq⟩ : ∃ p, G[J]? = some p := ⟨_, List.getElem?_eq_getElem (by rw [← HNN.out]; exact hJn)⟩
              obtain ⟨gg, cc, hvg, _, lgg, x0, x1⟩ := HT.out.atG hiq
              simp only [Value.slice.injEq] at hvg
              obtain ⟨rfl, h91, h92⟩ := hvg
              clear h91 h92
              have j0 : (0 : Int) ≤ (J : Int) := by omega
              have j1 : (J : Int) < (n : Int) := by omega
              have n100 : (n : Int) ≤ 100 := by omega
              have HIQ := Lib.hid hiq
              have hrng := HIn.out.rng hiq
              have HRg := Lib.hid hrng
              have HFit : Hid (ActV.Fits ⟨ak, ax, i, q, an⟩) := Lib.hid (by
                obtain ⟨_, _, _, _, _, _, hq0⟩ := HIn.out.each J i q hiq
                obtain ⟨_, s9, _, hs9, hq1, _⟩ := HIn.out.each J i q hiq
                have := (HIn.out.hw.gens _ s9 hs9).2.1
                rw [topG_val] at this
                exact ⟨hfit.x0, hfit.x1, by show -9223372036854775808 ≤ i; omega, by show i ≤ 9223372036854775807; omega, hq0, by show q < 18446744073709551616; omega, hfit.n0, hfit.n1⟩)
              clear hiq hrng hfit
              have hTA := HT.out.quiet (((Chg.refl _ _).alloc (.cells #[.int .i64 ak, .int .i64 ax, .int .i64 i, .int .u64 q, .int .i64 an] 38)).drew)
              have HTA := Lib.hid hTA
              have HBX := Lib.hid ((Blk.new wr 38 #[.int .i64 ak, .int .i64 ax, .int .i64 i, .int .u64 q, .int .i64 an]).drew)
              clear hTA
              go_wp2
              go_region_held3 (fun w' => w'.cell? ⟨wr.heap.size, 0, none⟩ = some (.int .i64 ak) ∧ w'.cell? ⟨wr.heap.size, 1, none⟩ = some (.int .i64 ax) ∧ w'.cell? ⟨wr.heap.size, 2, none⟩ = some (.int .i64 i) ∧ w'.cell? ⟨wr.heap.size, 3, none⟩ = some (.int .u64 q) ∧ w'.cell? ⟨wr.heap.size, 4, none⟩ = some (.int .i64 an))
                (first | go_keep)
                (first
                  | (go_at_call 13; refine (rnew1 _).mono ?_; rintro e w2 ⟨rfl, hR⟩; have HRM := Lib.hid hR; have hb2 := (by obtain ⟨R9, _, _, hc9⟩ := hR; exact HBX.out.chg hc9 (by simp) : Blk w2 wr.heap.size 38 #[.int .i64 ak, .int .i64 ax, .int .i64 i, .int .u64 q, .int .i64 an]); have y0 := hb2.cell 0; have y1 := hb2.cell 1; have y2 := hb2.cell 2; have y3 := hb2.cell 3; have y4 := hb2.cell 4; have HB2 := Lib.hid hb2; clear hb2 hR)
                  | (go_at_call 15; refine (Three.do_ HTA.out HIn.out.hw fits1 HRM.out ⟨ak, ax, i, q, an⟩ HFit.out (hh := wr.heap.size + 1) (by simp)).mono ?_; rintro e w3 ⟨⟨v9, rfl⟩, hT3, hkeep⟩; have hb3 := hkeep wr.heap.size _ (by simp) HB2.out; have z0 := hb3.cell 0; have z1 := hb3.cell 1; have z2 := hb3.cell 2; have z3 := hb3.cell 3; have z4 := hb3.cell 4; have HT3 := Lib.hid hT3; clear hb3 hkeep hT3))
              obtain ⟨t', ht'⟩ : ∃ t', t' = t.act ⟨ak, ax, i, q, an⟩ := ⟨_, rfl⟩
              have HI3 := Lib.hid (HIn.out.act ⟨ak, ax, i, q, an⟩ HK1.out)
              rw [← ht'] at HT3 HI3
              have hnB : nB = n := by have := HIn.out.len; rw [← HNN.out, ← HNB.out] at this; exact this
              have HnB := Lib.hid hnB
              clear ht' hnB
              go_wp2
              go_loopw [16] (fun jv wq => ∃ (j : Nat) (B' : List Bool), j ≤ n ∧ jv = .int .i64 j ∧ B'.length = nB ∧ Inv t' G B' ∧ Three w g (.slice (some ⟨gg, 0, none⟩) n cG) (.slice AB nB cB) G B' t' wq) (fun jv _ => n - (intOf jv).toNat)
              case atStart => exact ⟨0, B, by omega, rfl, HNB.out.symm, HI3.out, HT3.out⟩
              case round =>
                clear x0 x1 y0 y1 y2 y3 y4 z0 z1 z2 z3 z4
                obtain ⟨j, B', hj, rfl, hlB, hI', hTq⟩ := hrel
                by_cases hjl : j < n
                · have jj0 : (0 : Int) ≤ (j : Int) := by omega
                  have jj1 : (j : Int) < (n : Int) := by omega
                  have jj2 : (j : Int) < (nB : Int) := by have := HnB.out; omega
                  obtain ⟨⟨i', q'⟩, hiq'⟩ : ∃ p, G[j]? = some p := ⟨_, List.getElem?_eq_getElem (by rw [← HNN.out]; exact hjl)⟩
                  obtain ⟨b', hb'⟩ : ∃ b', B'[j]? = some b' := ⟨_, List.getElem?_eq_getElem (by rw [hlB, HnB.out]; exact hjl)⟩
                  obtain ⟨gb, cc2, hvb, _⟩ := hTq.atB hb'
                  simp only [Value.slice.injEq] at hvb
                  obtain ⟨rfl, h81, h82⟩ := hvb
                  clear h81 h82
                  obtain ⟨g1, g2, _⟩ := hTq.cellG hiq'
                  obtain ⟨rg1, rg2⟩ := HIn.out.rng hiq'
                  have HG := fun w' h' => Three.get (w := w') (w0 := w) (g := g) (VG := .slice (some ⟨gg, 0, none⟩) n cG) (VB := .slice (some ⟨gb, 0, none⟩) nB cB) (G := G) (B := B') (t := t') h' hI'.hw i' q' (by omega) (by omega)
                  have HI' := Lib.hid hI'
                  have HTq := Lib.hid hTq
                  have HGq := Lib.hid hiq'
                  have HBq := Lib.hid hb'
                  have HlB := Lib.hid hlB
                  have HIB : Hid (b' = true → t'.has i' q' = false) := Lib.hid (fun e => hI'.gone j i' q' hiq' (by rw [← e]; exact hb'))
                  have eErr : t'.err i' q' = if t'.has i' q' = true then 0 else 11 := rfl
                  cases hhas : t'.has i' q' with
                  | true =>
                    rw [eErr, if_pos hhas] at HG
                    have eb : b' = false := by
                      cases hb9 : b' with
                      | false => rfl
                      | true => have := HIB.out hb9; rw [hhas] at this; cases this
                    subst eb
                    clear hI' hTq hiq' hb' hlB eErr hhas
                    go_wp2_with (go_at_call 17; refine (HG _ HTq.out).mono ?_; rintro e w4 ⟨rfl, hT4⟩; obtain ⟨u1, u2, u3⟩ := hT4.cellB HBq.out; have HT4 := Lib.hid hT4; clear hT4)
                    go_roundw
                    case rel => exact ⟨j + 1, B', by omega, by go_num, HlB.out, HI'.out, HT4.out⟩
                    case measure => simp [intOf]; omega
                  | false =>
                    rw [eErr, if_neg (by rw [hhas]; decide)] at HG
                    have HHas := Lib.hid hhas
                    have HMk := Lib.hid (hI'.mark hiq' hhas)
                    have HSt := fun w' B9 h' => Three.set (w := w') (w0 := w) (g := g) (VG := .slice (some ⟨gg, 0, none⟩) n cG) (VB := .slice (some ⟨gb, 0, none⟩) nB cB) (G := G) (B := B9) (t := t') h' hI'.hw i' q' 7 (by omega) (by omega) hhas
                    have HDr := fun w' B9 h' => Three.drop (w := w') (w0 := w) (g := g) (VG := .slice (some ⟨gg, 0, none⟩) n cG) (VB := .slice (some ⟨gb, 0, none⟩) nB cB) (G := G) (B := B9) (t := t') h' hI'.hw i' q' (by omega) (by omega) hhas
                    have hjB : j < B'.length := by rw [hlB, HnB.out]; exact hjl
                    have HJB := Lib.hid hjB
                    clear hI' hTq hiq' hb' hlB eErr hhas hjB
                    cases b' with
                    | true =>
                      go_wp2_with (first
                        | (go_at_call 17; refine (HG _ HTq.out).mono ?_; rintro e w4 ⟨rfl, hT4⟩; obtain ⟨u1, u2, u3⟩ := hT4.cellB HBq.out; have hT5 := hT4.mark HJB.out; obtain ⟨v1, v2, v3⟩ := hT5.cellG HGq.out; have HT5 := Lib.hid hT5; clear hT4 hT5)
                        | (go_at_call 18; refine (HSt _ _ HT5.out).mono ?_; rintro e w6 ⟨rfl, hT6⟩; obtain ⟨p1, p2, p3⟩ := hT6.cellG HGq.out; have HT6 := Lib.hid hT6; clear hT6)
                        | (go_at_call 19; refine (HDr _ _ HT6.out).mono ?_; rintro e w7 ⟨rfl, hT7⟩; have HT7 := Lib.hid hT7; clear hT7))
                      go_roundw
                      case rel => exact ⟨j + 1, B'.set j true, by omega, by go_num, by rw [List.length_set]; exact HlB.out, HMk.out, HT7.out⟩
                      case measure => simp [intOf]; omega
                    | false =>
                      go_wp2_with (first
                        | (go_at_call 17; refine (HG _ HTq.out).mono ?_; rintro e w4 ⟨rfl, hT4⟩; obtain ⟨u1, u2, u3⟩ := hT4.cellB HBq.out; have hT5 := hT4.mark HJB.out; obtain ⟨v1, v2, v3⟩ := hT5.cellG HGq.out; have HT5 := Lib.hid hT5; clear hT4 hT5)
                        | (go_at_call 18; refine (HSt _ _ HT5.out).mono ?_; rintro e w6 ⟨rfl, hT6⟩; obtain ⟨p1, p2, p3⟩ := hT6.cellG HGq.out; have HT6 := Lib.hid hT6; clear hT6)
                        | (go_at_call 19; refine (HDr _ _ HT6.out).mono ?_; rintro e w7 ⟨rfl, hT7⟩; have HT7 := Lib.hid hT7; clear hT7))
                      go_roundw
                      case rel => exact ⟨j + 1, B'.set j true, by omega, by go_num, by rw [List.length_set]; exact HlB.out, HMk.out, HT7.out⟩
                      case measure => simp [intOf]; omega
                · obtain rfl : j = n := by omega
                  have HI' := Lib.hid hI'
                  have HTq := Lib.hid hTq
                  have HlB := Lib.hid hlB
                  clear hI' hTq hlB
                  go_wp2
                  go_roundw
                  case rel => exact ⟨k + 1, by omega, by go_num, G, B', t', some ⟨gg, 0, none⟩, AB, cG, cB, by rw [← HNN.out], by rw [HlB.out], HI'.out, by rw [← HNN.out]; omega, HTq.out⟩
                  case measure => simp [intOf]; omega
        · obtain rfl : k = m := by omega
          clear hI
          go_wp2_with (go_at_call 10; refine (known_any _).mono ?_; rintro e w4 ⟨rfl, hb⟩)
          go_ret
          exact ⟨rfl, HBel.out.trans (hb.mono HBel.out.size)⟩
end Go.Proofs
