import Derived.Test.YtihodeaeacgdpaaReZl
namespace Go.Proofs
open Go.RowKit Go.Sort
set_option linter.unusedVariables false

def PdqOK (w0 : World) (g cap n m : Nat) : Prop := ∀ (a b : Nat) (limit : Int) (d : Array Int) (w : World), b - a ≤ m → a ≤ b → b ≤ n → d.size = n → Below ltInt a b d → Ud w0 w g cap d →
    Calls Try.prog 42 #[.slice (some ⟨g, 0, none⟩) n cap, .int .i64 a, .int .i64 b, .int .i64 limit] w fun e w' => e = .returned (.tuple #[]) ∧ ∃ d', Ud w0 w' g cap d' ∧ PermIn a b d d' ∧ SortedIn ltInt a b d'
/-- What the loop keeps: the part that is left, and that sorting it sorts the whole. -/
def Kp (w0 : World) (g cap n a0 b0 : Nat) (d0 : Array Int) (wx : World) (a b : Nat) (dk : Array Int) : Prop :=
  Ud w0 wx g cap dk ∧ dk.size = n ∧ Below ltInt a b dk ∧ ∀ R, PermIn a b dk R → SortedIn ltInt a b R → PermIn a0 b0 d0 R ∧ SortedIn ltInt a0 b0 R
theorem Kp.perm {w0 wx wy : World} {g cap n a0 b0 a b : Nat} {d0 dk d1 : Array Int} (h : Kp w0 g cap n a0 b0 d0 wx a b dk) (hb : b ≤ n) (hu : Ud w0 wy g cap d1) (hp : PermIn a b dk d1) : Kp w0 g cap n a0 b0 d0 wy a b d1 :=
  ⟨hu, by rw [hp.1]; exact h.2.1, h.2.2.1.perm (by rw [h.2.1]; exact hb) hp, fun R h1 h2 => h.2.2.2 R (permIn_trans _ _ _ a b hp h1) h2⟩
theorem Kp.done {w0 wx wy : World} {g cap n a0 b0 a b : Nat} {d0 dk d1 : Array Int} (h : Kp w0 g cap n a0 b0 d0 wx a b dk) (hu : Ud w0 wy g cap d1) (hp : PermIn a b dk d1) (hs : SortedIn ltInt a b d1) : ∃ d', Ud w0 wy g cap d' ∧ PermIn a0 b0 d0 d' ∧ SortedIn ltInt a0 b0 d' :=
  ⟨d1, hu, h.2.2.2 d1 hp hs⟩
theorem Kp.world {w0 wx wy : World} {g cap n a0 b0 a b : Nat} {d0 dk : Array Int} (h : Kp w0 g cap n a0 b0 d0 wx a b dk) (hu : Ud w0 wy g cap dk) : Kp w0 g cap n a0 b0 d0 wy a b dk := ⟨hu, h.2⟩

set_option maxHeartbeats 12800000 in
set_option maxRecDepth 100000 in
theorem pdq_step {w0 : World} {g cap n : Nat} (hn : n ≤ 100000) (m : Nat) (IH : ∀ m' < m, PdqOK w0 g cap n m') : PdqOK w0 g cap n m := by
  intro a0 b0 limit d0 w hm0 hab0 hb0 hz0 hB0 hU0
  have HI := Lib.hid (show Kp w0 g cap n a0 b0 d0 w a0 b0 d0 from ⟨hU0, hz0, hB0, fun R h1 h2 => ⟨h1, h2⟩⟩)
  have HIH := Lib.hid IH
  have HN := Lib.hid hn
  clear hU0 hz0 hB0 IH hn
  go_enter Try.func42, Try.ntmps42
  go_wp2
  go_loopg [1, 2, 3, 8, 9] (b0 - a0) (fun gi s1 s2 s3 s8 s9 wx => ∃ (a b : Nat) (l : Int) (wb wp : Bool) (dk : Array Int), (gi = b - a ∧ a ≤ b ∧ b ≤ n ∧ b - a ≤ m) ∧ s1 = .int .i64 a ∧ s2 = .int .i64 b ∧ s3 = .int .i64 l ∧ s8 = .bool wb ∧ s9 = .bool wp ∧ Hid (Kp w0 g cap n a0 b0 d0 wx a b dk))
  case atStart => exact ⟨a0, b0, limit, true, true, d0, ⟨rfl, hab0, hb0, hm0⟩, rfl, rfl, rfl, rfl, rfl, Lib.hid HI.out⟩
  case round =>
    clear HI hm0 hab0 hb0
    obtain ⟨a, b, l, wb, wp, dk, ⟨hg, hab, hb, hm⟩, rfl, rfl, rfl, rfl, rfl, HR⟩ := hrel
    obtain ⟨L, hL⟩ : ∃ L, L = b - a := ⟨_, rfl⟩
    have hn := HN.out
    have k0 : IntKind.i64.wrap ((b : Int) - (a : Int)) = (L : Int) := by rw [IntWalk.i64_in _ (by omega)]; omega
    by_cases hL12 : L ≤ 12
    · have k1 : decide ((L : Int) ≤ 12) = true := by simp; omega
      have k1' : (L : Int) ≤ 12 := by omega
      have hI := ins_n HR.out.1 HR.out.2.1 hn a b hab hb
      have HII := Lib.hid hI
      clear hI hg hL hm hn
      go_wp2_with (go_at_call 48; refine HII.out.mono ?_; rintro e w' ⟨rfl, d1, h1, h2, h3⟩; have H1 := Lib.hid (HR.out.done h1 h2 h3); clear h1 h2 h3)
      refine bodyPost_ret (results_none rfl _ _ _) rfl ?_
      exact ⟨rfl, H1.out⟩
    · have k1 : decide ((L : Int) ≤ 12) = false := by simp; omega
      have k1' : ¬ (L : Int) ≤ 12 := by omega
      have hab12 : a + 12 < b := by omega
      by_cases hl0 : l = 0
      · subst hl0
        have HII := Lib.hid (heap_n HR.out.1 HR.out.2.1 hn a b (by omega) hb)
        clear hg hL hm hn
        go_wp2_with (go_at_call 49; refine HII.out.mono ?_; rintro e w' ⟨rfl, d1, h1, h2, h3⟩; have H1 := Lib.hid (HR.out.done h1 h2 h3); clear h1 h2 h3)
        refine bodyPost_ret (results_none rfl _ _ _) rfl ?_
        exact ⟨rfl, H1.out⟩
      · have k2 : (l == 0) = false := by simpa using hl0
        have k2' : decide (l = 0) = false := by simpa using hl0
        have HGG := Lib.hid (show b - a ≤ m ∧ L = b - a ∧ a + 12 < b ∧ b ≤ n ∧ n ≤ 100000 from by omega)
        have HGI := Lib.hid hg
        have HBR := Lib.hid (breaks_n HR.out.1 HR.out.2.1 hn a b hab12 hb)
        obtain ⟨l', hl'⟩ : ∃ l', l' = IntKind.i64.wrap (l - 1) := ⟨_, rfl⟩
        have k3 : IntKind.i64.wrap (l - 1) = l' := hl'.symm
        clear hg hL hm hn hl' hab hb hab12
        go_upto_if 35 with fail
        go_cut [3] from 35 to 41 (fun s3 wc => ∃ (l1 : Int) (d1 : Array Int), s3 = .int .i64 l1 ∧ Hid (Kp w0 g cap n a0 b0 d0 wc a b d1))
        case first =>
          cases wb with
          | true =>
            go_wp2
            go_meet
            exact ⟨l, dk, rfl, Lib.hid HR.out⟩
          | false =>
            go_wp2_with (go_at_call 50; refine HBR.out.mono ?_; rintro e w' ⟨rfl, d1, h1, h2⟩; have H1 := Lib.hid (HR.out.perm (by have := HGG.out; omega) h1 h2); clear h1 h2)
            go_meet
            exact ⟨_, _, rfl, Lib.hid H1.out⟩
        case rest =>
          obtain ⟨l1, d1, rfl, H1⟩ := hcut
          clear k2 k2' k3 hl0
          have hpv := pivot_n H1.out.1 H1.out.2.1 HGG.out.2.2.2.2 a b HGG.out.2.2.1 HGG.out.2.2.2.1
          have HPV := Lib.hid hpv
          clear hpv
          go_wp2_with (fail)
          refine HPV.out.mono ?_
          rintro e w1 ⟨⟨p, hint, rfl, hp1, hp2⟩, hu⟩
          have H2 := Lib.hid (H1.out.world hu)
          have HP := Lib.hid (show a ≤ p ∧ p < b from ⟨hp1, hp2⟩)
          have HRV := Lib.hid (reverse_n H2.out.1 H2.out.2.1 HGG.out.2.2.2.2 a b (by have := HGG.out; omega) HGG.out.2.2.2.1)
          obtain ⟨p', hp'⟩ : ∃ p' : Nat, p' = (b - 1) - (p - a) := ⟨_, rfl⟩
          obtain ⟨q, hq⟩ : ∃ q : Nat, q = p - a := ⟨_, rfl⟩
          obtain ⟨b1, hb1⟩ : ∃ q : Nat, q = b - 1 := ⟨_, rfl⟩
          have hgg := HGG.out
          have z1 : IntKind.i64.wrap ((b : Int) - 1) = (b1 : Int) := by rw [IntWalk.i64_in _ (by omega)]; omega
          have z2 : IntKind.i64.wrap ((p : Int) - (a : Int)) = (q : Int) := by rw [IntWalk.i64_in _ (by omega)]; omega
          have z3 : IntKind.i64.wrap ((b1 : Int) - (q : Int)) = (p' : Int) := by rw [IntWalk.i64_in _ (by omega)]; omega
          have HP' := Lib.hid (show a ≤ p' ∧ p' < b from by omega)
          clear hu hp1 hp2 hp' hq hb1 hgg
          go_upto_if 50 with fail
          go_cut [11, 12] from 50 to 60 (fun s11 s12 wc => ∃ (p : Nat) (hint : Int) (d2 : Array Int), s11 = .int .i64 p ∧ s12 = .int .i64 hint ∧ Hid (a ≤ p ∧ p < b) ∧ Hid (Kp w0 g cap n a0 b0 d0 wc a b d2))
          case first =>
            by_cases h2 : hint = 2
            · subst h2
              go_wp2_with (go_at_call 52; refine HRV.out.mono ?_; rintro e w' ⟨rfl, d2, h1, h2⟩; have H3 := Lib.hid (H2.out.perm (by have := HGG.out; omega) h1 h2); clear h1 h2)
              go_meet
              exact ⟨p', 1, _, rfl, rfl, Lib.hid HP'.out, Lib.hid H3.out⟩
            · have y1 : (hint == 2) = false := by simpa using h2
              have y1' : decide (hint = 2) = false := by simpa using h2
              go_wp2
              go_meet
              exact ⟨p, hint, _, rfl, rfl, Lib.hid HP.out, Lib.hid H2.out⟩
          case rest =>
            clear z1 z2 z3
            clear HP HP' HRV HPV HBR H2
            obtain ⟨p, hint, d2, rfl, rfl, HP, H2⟩ := hcut
            have HPA := Lib.hid (partial_n H2.out.1 H2.out.2.1 HGG.out.2.2.2.2 a b HGG.out.2.2.1 HGG.out.2.2.2.1 H2.out.2.2.1)
            go_upto_region 15 with fail
            go_cut [68] from 61 to 68 (fun s68 wc => ∃ (c : Bool), s68 = .bool c ∧ Hid (Kp w0 g cap n a0 b0 d0 wc a b d2))
            case first =>
              by_cases h1 : hint = 1
              · subst h1
                cases wb <;> cases wp
                all_goals
                  go_wp2
                  (try go_quiet (fail))
                  (try go_wp2)
                  go_meet
                  exact ⟨_, rfl, Lib.hid (H2.out.world (by first | exact H2.out.1 | exact H2.out.1.drewN _))⟩
              · have y1 : (hint == 1) = false := by simpa using h1
                have y1' : decide (hint = 1) = false := by simpa using h1
                cases wb <;> cases wp
                all_goals
                  go_wp2
                  (try go_quiet (fail))
                  (try go_wp2)
                  go_meet
                  exact ⟨_, rfl, Lib.hid (H2.out.world (by first | exact H2.out.1 | exact H2.out.1.drewN _))⟩
            case rest =>
              clear HPA H2
              obtain ⟨c, rfl, H2⟩ := hcut
              have HPA := Lib.hid (partial_n H2.out.1 H2.out.2.1 HGG.out.2.2.2.2 a b HGG.out.2.2.1 HGG.out.2.2.2.1 H2.out.2.2.1)
              go_upto_if 68 with fail
              go_cut [18] from 69 to 72 (fun s18 wc => ∃ (d3 : Array Int), Hid (Kp w0 g cap n a0 b0 d0 wc a b d3))
              case first =>
                cases c with
                | false =>
                  go_wp2
                  go_meet
                  exact ⟨_, Lib.hid H2.out⟩
                | true =>
                  go_wp2_with (fail)
                  refine HPA.out.mono ?_
                  rintro e w2 ⟨r, d3, rfl, h1, h2, h3⟩
                  have H3 := Lib.hid (show Kp w0 g cap n a0 b0 d0 w2 a b d3 ∧ (r = true → ∃ d', Ud w0 w2 g cap d' ∧ PermIn a0 b0 d0 d' ∧ SortedIn ltInt a0 b0 d') from ⟨H2.out.perm (by have := HGG.out; omega) h1 h2, fun h => H2.out.done h1 h2 (h3 h)⟩)
                  clear h1 h2 h3
                  cases r with
                  | false =>
                    go_wp2
                    go_meet
                    exact ⟨_, Lib.hid H3.out.1⟩
                  | true =>
                    go_wp2
                    refine bodyPost_ret (results_none rfl _ _ _) rfl ?_
                    exact ⟨rfl, H3.out.2 (by simp)⟩
              case rest =>
                clear HPA H2
                obtain ⟨d3, H3⟩ := hcut
                have hp := HP.out
                have hgg := HGG.out
                have HPT := Lib.hid (fun W (hW : Kp w0 g cap n a0 b0 d0 W a b d3) => part_n hW.1 hW.2.1 hgg.2.2.2.2 a b p hgg.2.2.1 hgg.2.2.2.1 hp.1 hp.2 hW.2.2.1)
                have c1 := H3.out.1.cell (j := p) (by rw [H3.out.2.1]; omega)
                have t2 : (0 : Int) ≤ (p : Int) := by omega
                have t3 : (p : Int) < (n : Int) := by omega
                obtain ⟨y, hy⟩ : ∃ y, y = d3[p]! := ⟨_, rfl⟩
                rw [← hy] at c1
                by_cases ha : 0 < a
                · obtain ⟨a1, ha1⟩ : ∃ a1, a1 = a - 1 := ⟨_, rfl⟩
                  have y1 : decide ((a : Int) > 0) = true := by simp; omega
                  have y1' : decide ((0 : Int) < (a : Int)) = true := by simp; omega
                  have y1n : decide (0 < a) = true := by simpa using ha
                  have y1i : (0 : Int) < (a : Int) := by omega
                  have y2 : IntKind.i64.wrap ((a : Int) - 1) = (a1 : Int) := by rw [IntWalk.i64_in _ (by omega)]; omega
                  have c0 := H3.out.1.cell (j := a1) (by rw [H3.out.2.1]; omega)
                  have t0 : (0 : Int) ≤ (a1 : Int) := by omega
                  have t1 : (a1 : Int) < (n : Int) := by omega
                  have hPE := fun W (hW : Kp w0 g cap n a0 b0 d0 W a b d3) hl => parteq_n hW.1 hW.2.1 hgg.2.2.2.2 a b p hgg.2.2.1 hgg.2.2.2.1 hp.1 hp.2 hW.2.2.1 ha hl
                  rw [← ha1] at hPE
                  obtain ⟨x, hx⟩ : ∃ x, x = d3[a1]! := ⟨_, rfl⟩
                  rw [← hx] at c0
                  rw [← hx, ← hy] at hPE
                  have hL : ∀ W, Calls Try.prog 54 #[.int .u64 x, .int .u64 y] W fun e w' => e = .returned (.bool (ltInt x y)) ∧ w' = W := fun W => (less_u x y W).mono fun e w' ⟨h1, h2⟩ => ⟨h1, h2.symm⟩
                  clear hx hy hp hgg ha1 ha
                  cases hl : ltInt x y with
                  | false =>
                    rw [hl] at hL
                    have HPE := Lib.hid (fun W hW => hPE W hW hl)
                    clear hl hPE
                    go_wp2
                    go_quiet ((go_at_call 54; first | exact Calls.quiet_of_same (hL _) | exact quiet_sum hL))
                    go_wp2_with (fail)
                    refine Calls.mono (HPE.out _ (H3.out.world (H3.out.1.drewN _))) ?_
                    rintro e w3 ⟨mid, d4, rfl, h1, h2, h3, h4, h5, h6⟩
                    have H4 := Lib.hid (show Kp w0 g cap n a0 b0 d0 w3 mid b d4 from ⟨h1, h4, h5, fun R r1 r2 => H3.out.2.2.2 R (h6 R r1 r2).1 (h6 R r1 r2).2⟩)
                    have HM := Lib.hid (show a < mid ∧ mid ≤ b from ⟨h2, h3⟩)
                    clear h1 h2 h3 h4 h5 h6
                    go_wp2
                    go_roundg (b - mid)
                    case measure => have := HM.out; have := HGG.out; have := HGI.out; omega
                    case rel => exact ⟨mid, b, l1, wb, wp, d4, ⟨rfl, HM.out.2, HGG.out.2.2.2.1, by have := HM.out; have := HGG.out; omega⟩, rfl, rfl, rfl, rfl, rfl, Lib.hid H4.out⟩
                  | true =>
                    rw [hl] at hL
                    clear hl hPE
                    go_wp2
                    go_quiet ((go_at_call 54; first | exact Calls.quiet_of_same (hL _) | exact quiet_sum hL))
                    go_wp2_with (fail)
                    refine Calls.mono (HPT.out _ (H3.out.world (H3.out.1.drewN _))) ?_
                    rintro e w3 ⟨mid, ap, d4, rfl, h1, h2, h3, h4, h5, h6, h7, h8⟩
                    obtain ⟨LL, hLL⟩ : ∃ x, x = mid - a := ⟨_, rfl⟩
                    obtain ⟨RL, hRL⟩ : ∃ x, x = b - mid := ⟨_, rfl⟩
                    obtain ⟨m1, hm1⟩ : ∃ x, x = mid + 1 := ⟨_, rfl⟩
                    have hgg := HGG.out
                    have z1 : IntKind.i64.wrap ((mid : Int) - (a : Int)) = (LL : Int) := by rw [IntWalk.i64_in _ (by omega)]; omega
                    have z2 : IntKind.i64.wrap ((b : Int) - (mid : Int)) = (RL : Int) := by rw [IntWalk.i64_in _ (by omega)]; omega
                    have z3 : IntKind.i64.wrap ((mid : Int) + 1) = (m1 : Int) := by rw [IntWalk.i64_in _ (by omega)]; omega
                    obtain ⟨T, hT⟩ : ∃ T : Nat, T = L / 8 := ⟨_, rfl⟩
                    have z4' : Int.tdiv (L : Int) 8 = (T : Int) := by rw [Int.tdiv_eq_ediv_of_nonneg (by omega)]; omega
                    have z4 : IntKind.i64.wrap (Int.tdiv (L : Int) 8) = (T : Int) := by rw [z4', IntWalk.i64_in _ (by omega)]
                    have z5 : IntKind.i64.wrap (T : Int) = (T : Int) := by rw [IntWalk.i64_in _ (by omega)]
                    rw [← hm1] at h6 h7 h8
                    have HM := Lib.hid (show a ≤ mid ∧ mid < b ∧ m1 = mid + 1 from ⟨h2, h3, hm1⟩)
                    have H4 := Lib.hid (show Ud w0 w3 g cap d4 ∧ d4.size = n from ⟨h1, h4⟩)
                    have HI1 := Lib.hid (HIH.out (mid - a) (by omega) a mid l1 d4 w3 (Nat.le_refl _) h2 (by omega) h4 h5 h1)
                    have HI2 := Lib.hid (HIH.out (b - m1) (by omega) m1 b l1 d4 w3 (Nat.le_refl _) (by omega) (by omega) h4 h6 h1)
                    have H7 := Lib.hid h7
                    have H8 := Lib.hid h8
                    by_cases hlr : LL < RL
                    · have v1 : decide ((LL : Int) < (RL : Int)) = true := by simpa using hlr
                      have v1' : (LL : Int) < (RL : Int) := by omega
                      clear h1 h2 h3 h4 h5 h6 h7 h8 hLL hRL hm1 hgg hT z4' hlr
                      go_wp2_with (go_at_call 42; refine HI1.out.mono ?_; rintro e w4 ⟨rfl, d5, r1, r2, r3⟩; have H5 := Lib.hid (show Ud w0 w4 g cap d5 ∧ PermIn a mid d4 d5 ∧ SortedIn ltInt a mid d5 from ⟨r1, r2, r3⟩); clear r1 r2 r3)
                      go_roundg (b - m1)
                      case measure => have := HM.out; have := HGG.out; have := HGI.out; omega
                      case rel => exact ⟨m1, b, l1, _, ap, d5, ⟨rfl, by have := HM.out; omega, HGG.out.2.2.2.1, by have := HM.out; have := HGG.out; omega⟩, by first | rfl | go_num, rfl, rfl, rfl, rfl, Lib.hid ⟨H5.out.1, by rw [H5.out.2.1.1]; exact H4.out.2, (H7.out d5 H5.out.2.1 H5.out.2.2).1, fun R r1 r2 => H3.out.2.2.2 R ((H7.out d5 H5.out.2.1 H5.out.2.2).2 R r1 r2).1 ((H7.out d5 H5.out.2.1 H5.out.2.2).2 R r1 r2).2⟩⟩
                    · have v1 : decide ((LL : Int) < (RL : Int)) = false := by simpa using hlr
                      have v1' : ¬ (LL : Int) < (RL : Int) := by omega
                      clear h1 h2 h3 h4 h5 h6 h7 h8 hLL hRL hm1 hgg hT z4' hlr
                      go_wp2_with (go_at_call 42; refine HI2.out.mono ?_; rintro e w4 ⟨rfl, d5, r1, r2, r3⟩; have H5 := Lib.hid (show Ud w0 w4 g cap d5 ∧ PermIn m1 b d4 d5 ∧ SortedIn ltInt m1 b d5 from ⟨r1, r2, r3⟩); clear r1 r2 r3)
                      go_roundg (mid - a)
                      case measure => have := HM.out; have := HGG.out; have := HGI.out; omega
                      case rel => exact ⟨a, mid, l1, _, ap, d5, ⟨rfl, by have := HM.out; omega, by have := HM.out; have := HGG.out; omega, by have := HM.out; have := HGG.out; omega⟩, rfl, by first | rfl | go_num, rfl, rfl, rfl, Lib.hid ⟨H5.out.1, by rw [H5.out.2.1.1]; exact H4.out.2, (H8.out d5 H5.out.2.1 H5.out.2.2).1, fun R r1 r2 => H3.out.2.2.2 R ((H8.out d5 H5.out.2.1 H5.out.2.2).2 R r1 r2).1 ((H8.out d5 H5.out.2.1 H5.out.2.2).2 R r1 r2).2⟩⟩
                · have ha0 : a = 0 := by omega
                  have y1 : decide ((a : Int) > 0) = false := by simp; omega
                  have y1' : decide ((0 : Int) < (a : Int)) = false := by simp; omega
                  have y1n : decide (0 < a) = false := by simpa using ha
                  clear ha ha0 hp hgg hy
                  go_wp2
                  go_quiet (fail)
                  go_wp2_with (fail)
                  refine Calls.mono (HPT.out _ (H3.out.world (H3.out.1.drewN _))) ?_
                  rintro e w3 ⟨mid, ap, d4, rfl, h1, h2, h3, h4, h5, h6, h7, h8⟩
                  obtain ⟨LL, hLL⟩ : ∃ x, x = mid - a := ⟨_, rfl⟩
                  obtain ⟨RL, hRL⟩ : ∃ x, x = b - mid := ⟨_, rfl⟩
                  obtain ⟨m1, hm1⟩ : ∃ x, x = mid + 1 := ⟨_, rfl⟩
                  have hgg := HGG.out
                  have z1 : IntKind.i64.wrap ((mid : Int) - (a : Int)) = (LL : Int) := by rw [IntWalk.i64_in _ (by omega)]; omega
                  have z2 : IntKind.i64.wrap ((b : Int) - (mid : Int)) = (RL : Int) := by rw [IntWalk.i64_in _ (by omega)]; omega
                  have z3 : IntKind.i64.wrap ((mid : Int) + 1) = (m1 : Int) := by rw [IntWalk.i64_in _ (by omega)]; omega
                  obtain ⟨T, hT⟩ : ∃ T : Nat, T = L / 8 := ⟨_, rfl⟩
                  have z4' : Int.tdiv (L : Int) 8 = (T : Int) := by rw [Int.tdiv_eq_ediv_of_nonneg (by omega)]; omega
                  have z4 : IntKind.i64.wrap (Int.tdiv (L : Int) 8) = (T : Int) := by rw [z4', IntWalk.i64_in _ (by omega)]
                  have z5 : IntKind.i64.wrap (T : Int) = (T : Int) := by rw [IntWalk.i64_in _ (by omega)]
                  rw [← hm1] at h6 h7 h8
                  have HM := Lib.hid (show a ≤ mid ∧ mid < b ∧ m1 = mid + 1 from ⟨h2, h3, hm1⟩)
                  have H4 := Lib.hid (show Ud w0 w3 g cap d4 ∧ d4.size = n from ⟨h1, h4⟩)
                  have HI1 := Lib.hid (HIH.out (mid - a) (by omega) a mid l1 d4 w3 (Nat.le_refl _) h2 (by omega) h4 h5 h1)
                  have HI2 := Lib.hid (HIH.out (b - m1) (by omega) m1 b l1 d4 w3 (Nat.le_refl _) (by omega) (by omega) h4 h6 h1)
                  have H7 := Lib.hid h7
                  have H8 := Lib.hid h8
                  by_cases hlr : LL < RL
                  · have v1 : decide ((LL : Int) < (RL : Int)) = true := by simpa using hlr
                    have v1' : (LL : Int) < (RL : Int) := by omega
                    clear h1 h2 h3 h4 h5 h6 h7 h8 hLL hRL hm1 hgg hT z4' hlr
                    go_wp2_with (go_at_call 42; refine HI1.out.mono ?_; rintro e w4 ⟨rfl, d5, r1, r2, r3⟩; have H5 := Lib.hid (show Ud w0 w4 g cap d5 ∧ PermIn a mid d4 d5 ∧ SortedIn ltInt a mid d5 from ⟨r1, r2, r3⟩); clear r1 r2 r3)
                    go_roundg (b - m1)
                    case measure => have := HM.out; have := HGG.out; have := HGI.out; omega
                    case rel => exact ⟨m1, b, l1, _, ap, d5, ⟨rfl, by have := HM.out; omega, HGG.out.2.2.2.1, by have := HM.out; have := HGG.out; omega⟩, by first | rfl | go_num, rfl, rfl, rfl, rfl, Lib.hid ⟨H5.out.1, by rw [H5.out.2.1.1]; exact H4.out.2, (H7.out d5 H5.out.2.1 H5.out.2.2).1, fun R r1 r2 => H3.out.2.2.2 R ((H7.out d5 H5.out.2.1 H5.out.2.2).2 R r1 r2).1 ((H7.out d5 H5.out.2.1 H5.out.2.2).2 R r1 r2).2⟩⟩
                  · have v1 : decide ((LL : Int) < (RL : Int)) = false := by simpa using hlr
                    have v1' : ¬ (LL : Int) < (RL : Int) := by omega
                    clear h1 h2 h3 h4 h5 h6 h7 h8 hLL hRL hm1 hgg hT z4' hlr
                    go_wp2_with (go_at_call 42; refine HI2.out.mono ?_; rintro e w4 ⟨rfl, d5, r1, r2, r3⟩; have H5 := Lib.hid (show Ud w0 w4 g cap d5 ∧ PermIn m1 b d4 d5 ∧ SortedIn ltInt m1 b d5 from ⟨r1, r2, r3⟩); clear r1 r2 r3)
                    go_roundg (mid - a)
                    case measure => have := HM.out; have := HGG.out; have := HGI.out; omega
                    case rel => exact ⟨a, mid, l1, _, ap, d5, ⟨rfl, by have := HM.out; omega, by have := HM.out; have := HGG.out; omega, by have := HM.out; have := HGG.out; omega⟩, rfl, by first | rfl | go_num, rfl, rfl, rfl, Lib.hid ⟨H5.out.1, by rw [H5.out.2.1.1]; exact H4.out.2, (H8.out d5 H5.out.2.1 H5.out.2.2).1, fun R r1 r2 => H3.out.2.2.2 R ((H8.out d5 H5.out.2.1 H5.out.2.2).2 R r1 r2).1 ((H8.out d5 H5.out.2.1 H5.out.2.2).2 R r1 r2).2⟩⟩
end Go.Proofs
