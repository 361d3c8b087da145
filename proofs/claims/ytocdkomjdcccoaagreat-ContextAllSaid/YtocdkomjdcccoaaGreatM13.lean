import Derived.Test.YtocdkomjdcccoaaGreatM12
import Derived.Test.YtocdkomjdcccoaaGreatM8
import Derived.Test.YtocdkomjdcccoaaGreatM9
section
namespace Go.Proofs
open Go.RowKit Go.Sort
set_option linter.unusedVariables false

def PdqOK (w0 : World) (g cap n m : Nat) : Prop := ∀ (a b : Nat) (limit : Int) (d : Array Int) (w : World), b - a ≤ m → a ≤ b → b ≤ n → d.size = n → Below ltInt a b d → Ud w0 w g cap d →
    Calls Tryz.prog 118 #[.slice (some ⟨g, 0, none⟩) n cap, .int .i64 a, .int .i64 b, .int .i64 limit] w fun e w' => e = .returned (.tuple #[]) ∧ ∃ d', Ud w0 w' g cap d' ∧ PermIn a b d d' ∧ SortedIn ltInt a b d'
/-- What the loop keeps: the part that is left, and that sorting it sorts the whole. -/
def Kp (w0 : World) (g cap n a0 b0 : Nat) (d0 : Array Int) (wx : World) (a b : Nat) (dk : Array Int) : Prop :=
  Ud w0 wx g cap dk ∧ dk.size = n ∧ Below ltInt a b dk ∧ ∀ R, PermIn a b dk R → SortedIn ltInt a b R → PermIn a0 b0 d0 R ∧ SortedIn ltInt a0 b0 R
theorem Kp.perm {w0 wx wy : World} {g cap n a0 b0 a b : Nat} {d0 dk d1 : Array Int} (h : Kp w0 g cap n a0 b0 d0 wx a b dk) (hb : b ≤ n) (hu : Ud w0 wy g cap d1) (hp : PermIn a b dk d1) : Kp w0 g cap n a0 b0 d0 wy a b d1 :=
  ⟨hu, by rw [hp.1]; exact h.2.1, h.2.2.1.perm (by rw [h.2.1]; exact hb) hp, fun R h1 h2 => h.2.2.2 R (permIn_trans _ _ _ a b hp h1) h2⟩
theorem Kp.done {w0 wx wy : World} {g cap n a0 b0 a b : Nat} {d0 dk d1 : Array Int} (h : Kp w0 g cap n a0 b0 d0 wx a b dk) (hu : Ud w0 wy g cap d1) (hp : PermIn a b dk d1) (hs : SortedIn ltInt a b d1) : ∃ d', Ud w0 wy g cap d' ∧ PermIn a0 b0 d0 d' ∧ SortedIn ltInt a0 b0 d' :=
  ⟨d1, hu, h.2.2.2 d1 hp hs⟩
theorem Kp.world {w0 wx wy : World} {g cap n a0 b0 a b : Nat} {d0 dk : Array Int} (h : Kp w0 g cap n a0 b0 d0 wx a b dk) (hu : Ud w0 wy g cap dk) : Kp w0 g cap n a0 b0 d0 wy a b dk := ⟨hu, h.2⟩

set_option maxHeartbeats 12800000 in
set_option maxRecDepth 100000 in
theorem pdq_step {w0 : World} {g cap n : Nat} (hn : n ≤ 100000) (m : Nat) (IH : ∀ m' < m, PdqOK w0 g cap n m') : PdqOK w0 g cap n m := by
  intro a0 b0 limit d0 w hm0 hab0 hb0 hz0 hB0 hU0
  have HI := Lib.hid (show Kp w0 g cap n a0 b0 d0 w a0 b0 d0 from ⟨hU0, hz0, hB0, fun R h1 h2 => ⟨h1, h2⟩⟩)
  have HIH := Lib.hid IH
  have HN := Lib.hid hn
  clear hU0 hz0 hB0 IH hn
  go_enter Tryz.func118, Tryz.ntmps118
  go_wp2
  go_loopg [1, 2, 3, 8, 9] (b0 - a0) (fun gi s1 s2 s3 s8 s9 wx => ∃ (a b : Nat) (l : Int) (wb wp : Bool) (dk : Array Int), (gi = b - a ∧ a ≤ b ∧ b ≤ n ∧ b - a ≤ m) ∧ s1 = .int .i64 a ∧ s2 = .int .i64 b ∧ s3 = .int .i64 l ∧ s8 = .bool wb ∧ s9 = .bool wp ∧ Hid (Kp w0 g cap n a0 b0 d0 wx a b dk))
  case atStart => exact ⟨a0, b0, limit, true, true, d0, ⟨rfl, hab0, hb0, hm0⟩, rfl, rfl, rfl, rfl, rfl, Lib.hid HI.out⟩
  case round =>
    clear HI hm0 hab0 hb0
    obtain ⟨a, b, l, wb, wp, dk, ⟨hg, hab, hb, hm⟩, rfl, rfl, rfl, rfl, rfl, HR⟩ := hrel
    obtain ⟨L, hL⟩ : ∃ L, L = b - a := ⟨_, rfl⟩
    have hn := HN.out
    have k0 : IntKind.i64.wrap ((b : Int) - (a : Int)) = (L : Int) := by rw [IntWalk.i64_in _ (by omega)]; omega
    by_cases hL12 : L ≤ 12
    · have k1 : decide ((L : Int) ≤ 12) = true := by simp; omega
      have k1' : (L : Int) ≤ 12 := by omega
      have hI := ins_n HR.out.1 HR.out.2.1 hn a b hab hb
      have HII := Lib.hid hI
      clear hI hg hL hm hn
      go_wp2_with (go_at_call 125; refine HII.out.mono ?_; rintro e w' ⟨rfl, d1, h1, h2, h3⟩; have H1 := Lib.hid (HR.out.done h1 h2 h3); clear h1 h2 h3)
      refine bodyPost_ret (results_none rfl _ _ _) rfl ?_
      exact ⟨rfl, H1.out⟩
    · have k1 : decide ((L : Int) ≤ 12) = false := by simp; omega
      have k1' : ¬ (L : Int) ≤ 12 := by omega
      have hab12 : a + 12 < b := by omega
      by_cases hl0 : l = 0
      · subst hl0
        have HII := Lib.hid (heap_n HR.out.1 HR.out.2.1 hn a b (by omega) hb)
        clear hg hL hm hn
        go_wp2_with (go_at_call 126; refine HII.out.mono ?_; rintro e w' ⟨rfl, d1, h1, h2, h3⟩; have H1 := Lib.hid (HR.out.done h1 h2 h3); clear h1 h2 h3)
        refine bodyPost_ret (results_none rfl _ _ _) rfl ?_
        exact ⟨rfl, H1.out⟩
      · have k2 : (l == 0) = false := by simpa using hl0
        have k2' : decide (l = 0) = false := by simpa using hl0
        have HGG := Lib.hid (show b - a ≤ m ∧ L = b - a ∧ a + 12 < b ∧ b ≤ n ∧ n ≤ 100000 from by omega)
        have HGI := Lib.hid hg
        have HBR := Lib.hid (breaks_n HR.out.1 HR.out.2.1 hn a b hab12 hb)
        obtain ⟨l', hl'⟩ : ∃ l', l' = IntKind.i64.wrap (l - 1) := ⟨_, rfl⟩
        have k3 : IntKind.i64.wrap (l - 1) = l' := hl'.symm
        clear hg hL hm hn hl' hab hb hab12
        go_upto_if 35 with fail
        go_cut [3] from 35 to 41 (fun s3 wc => ∃ (l1 : Int) (d1 : Array Int), s3 = .int .i64 l1 ∧ Hid (Kp w0 g cap n a0 b0 d0 wc a b d1))
        case first =>
          cases wb with
          | true =>
            go_wp2
            go_meet
            exact ⟨l, dk, rfl, Lib.hid HR.out⟩
          | false =>
            go_wp2_with (go_at_call 127; refine HBR.out.mono ?_; rintro e w' ⟨rfl, d1, h1, h2⟩; have H1 := Lib.hid (HR.out.perm (by have := HGG.out; omega) h1 h2); clear h1 h2)
            go_meet
            exact ⟨_, _, rfl, Lib.hid H1.out⟩
        case rest =>
          obtain ⟨l1, d1, rfl, H1⟩ := hcut
          clear k2 k2' k3 hl0
          have hpv := pivot_n H1.out.1 H1.out.2.1 HGG.out.2.2.2.2 a b HGG.out.2.2.1 HGG.out.2.2.2.1
          have HPV := Lib.hid hpv
          clear hpv
          go_wp2_with (fail)
          refine HPV.out.mono ?_
          rintro e w1 ⟨⟨p, hint, rfl, hp1, hp2⟩, hu⟩
          have H2 := Lib.hid (H1.out.world hu)
          have HP := Lib.hid (show a ≤ p ∧ p < b from ⟨hp1, hp2⟩)
          have HRV := Lib.hid (reverse_n H2.out.1 H2.out.2.1 HGG.out.2.2.2.2 a b (by have := HGG.out; omega) HGG.out.2.2.2.1)
          obtain ⟨p', hp'⟩ : ∃ p' : Nat, p' = (b - 1) - (p - a) := ⟨_, rfl⟩
          obtain ⟨q, hq⟩ : ∃ q : Nat, q = p - a := ⟨_, rfl⟩
          obtain ⟨b1, hb1⟩ : ∃ q : Nat, q = b - 1 := ⟨_, rfl⟩
          have hgg := HGG.out
          have z1 : IntKind.i64.wrap ((b : Int) - 1) = (b1 : Int) := by rw [IntWalk.i64_in _ (by omega)]; omega
          have z2 : IntKind.i64.wrap ((p : Int) - (a : Int)) = (q : Int) := by rw [IntWalk.i64_in _ (by omega)]; omega
          have z3 : IntKind.i64.wrap ((b1 : Int) - (q : Int)) = (p' : Int) := by rw [IntWalk.i64_in _ (by omega)]; omega
          have HP' := Lib.hid (show a ≤ p' ∧ p' < b from by omega)
          clear hu hp1 hp2 hp' hq hb1 hgg
          go_upto_if 50 with fail
          go_cut [11, 12] from 50 to 60 (fun s11 s12 wc => ∃ (p : Nat) (hint : Int) (d2 : Array Int), s11 = .int .i64 p ∧ s12 = .int .i64 hint ∧ Hid (a ≤ p ∧ p < b) ∧ Hid (Kp w0 g cap n a0 b0 d0 wc a b d2))
          case first =>
            by_cases h2 : hint = 2
            · subst h2
              go_wp2_with (go_at_call 129; refine HRV.out.mono ?_; rintro e w' ⟨rfl, d2, h1, h2⟩; have H3 := Lib.hid (H2.out.perm (by have := HGG.out; omega) h1 h2); clear h1 h2)
              go_meet
              exact ⟨p', 1, _, rfl, rfl, Lib.hid HP'.out, Lib.hid H3.out⟩
            · have y1 : (hint == 2) = false := by simpa using h2
              have y1' : decide (hint = 2) = false := by simpa using h2
              go_wp2
              go_meet
              exact ⟨p, hint, _, rfl, rfl, Lib.hid HP.out, Lib.hid H2.out⟩
          case rest =>
            clear z1 z2 z3
            clear HP HP' HRV HPV HBR H2
            obtain ⟨p, hint, d2, rfl, rfl, HP, H2⟩ := hcut
            have HPA := Lib.hid (partial_n H2.out.1 H2.out.2.1 HGG.out.2.2.2.2 a b HGG.out.2.2.1 HGG.out.2.2.2.1 H2.out.2.2.1)
            go_upto_region 15 with fail
            go_cut [68] from 61 to 68 (fun s68 wc => ∃ (c : Bool), s68 = .bool c ∧ Hid (Kp w0 g cap n a0 b0 d0 wc a b d2))
            case first =>
              by_cases h1 : hint = 1
              · subst h1
                cases wb <;> cases wp
                all_goals
                  go_wp2
                  (try go_quiet (fail))
                  (try go_wp2)
                  go_meet
                  exact ⟨_, rfl, Lib.hid (H2.out.world (by first | exact H2.out.1 | exact H2.out.1.drewN _))⟩
              · have y1 : (hint == 1) = false := by simpa using h1
                have y1' : decide (hint = 1) = false := by simpa using h1
                cases wb <;> cases wp
                all_goals
                  go_wp2
                  (try go_quiet (fail))
                  (try go_wp2)
                  go_meet
                  exact ⟨_, rfl, Lib.hid (H2.out.world (by first | exact H2.out.1 | exact H2.out.1.drewN _))⟩
            case rest =>
              clear HPA H2
              obtain ⟨c, rfl, H2⟩ := hcut
              have HPA := Lib.hid (partial_n H2.out.1 H2.out.2.1 HGG.out.2.2.2.2 a b HGG.out.2.2.1 HGG.out.2.2.2.1 H2.out.2.2.1)
              go_upto_if 68 with fail
              go_cut [18] from 69 to 72 (fun s18 wc => ∃ (d3 : Array Int), Hid (Kp w0 g cap n a0 b0 d0 wc a b d3))
              case first =>
                cases c with
                | false =>
                  go_wp2
                  go_meet
                  exact ⟨_, Lib.hid H2.out⟩
                | true =>
                  go_wp2_with (fail)
                  refine HPA.out.mono ?_
                  rintro e w2 ⟨r, d3, rfl, h1, h2, h3⟩
                  have H3 := Lib.hid (show Kp w0 g cap n a0 b0 d0 w2 a b d3 ∧ (r = true → ∃ d', Ud w0 w2 g cap d' ∧ PermIn a0 b0 d0 d' ∧ SortedIn ltInt a0 b0 d') from ⟨H2.out.perm (by have := HGG.out; omega) h1 h2, fun h => H2.out.done h1 h2 (h3 h)⟩)
                  clear h1 h2 h3
                  cases r with
                  | false =>
                    go_wp2
                    go_meet
                    exact ⟨_, Lib.hid H3.out.1⟩
                  | true =>
                    go_wp2
                    refine bodyPost_ret (results_none rfl _ _ _) rfl ?_
                    exact ⟨rfl, H3.out.2 (by simp)⟩
              case rest =>
                clear HPA H2
                obtain ⟨d3, H3⟩ := hcut
                have hp := HP.out
                have hgg := HGG.out
                have HPT := Lib.hid (fun W (hW : Kp w0 g cap n a0 b0 d0 W a b d3) => part_n hW.1 hW.2.1 hgg.2.2.2.2 a b p hgg.2.2.1 hgg.2.2.2.1 hp.1 hp.2 hW.2.2.1)
                have c1 := H3.out.1.cell (j := p) (by rw [H3.out.2.1]; omega)
                have t2 : (0 : Int) ≤ (p : Int) := by omega
                have t3 : (p : Int) < (n : Int) := by omega
                obtain ⟨y, hy⟩ : ∃ y, y = d3[p]! := ⟨_, rfl⟩
                rw [← hy] at c1
                by_cases ha : 0 < a
                · obtain ⟨a1, ha1⟩ : ∃ a1, a1 = a - 1 := ⟨_, rfl⟩
                  have y1 : decide ((a : Int) > 0) = true := by simp; omega
                  have y1' : decide ((0 : Int) < (a : Int)) = true := by simp; omega
                  have y1n : decide (0 < a) = true := by simpa using ha
                  have y1i : (0 : Int) < (a : Int) := by omega
                  have y2 : IntKind.i64.wrap ((a : Int) - 1) = (a1 : Int) := by rw [IntWalk.i64_in _ (by omega)]; omega
                  have c0 := H3.out.1.cell (j := a1) (by rw [H3.out.2.1]; omega)
                  have t0 : (0 : Int) ≤ (a1 : Int) := by omega
                  have t1 : (a1 : Int) < (n : Int) := by omega
                  have hPE := fun W (hW : Kp w0 g cap n a0 b0 d0 W a b d3) hl => parteq_n hW.1 hW.2.1 hgg.2.2.2.2 a b p hgg.2.2.1 hgg.2.2.2.1 hp.1 hp.2 hW.2.2.1 ha hl
                  rw [← ha1] at hPE
                  obtain ⟨x, hx⟩ : ∃ x, x = d3[a1]! := ⟨_, rfl⟩
                  rw [← hx] at c0
                  rw [← hx, ← hy] at hPE
                  have hL : ∀ W, Calls Tryz.prog 131 #[.int .u64 x, .int .u64 y] W fun e w' => e = .returned (.bool (ltInt x y)) ∧ w' = W := fun W => (less_u x y W).mono fun e w' ⟨h1, h2⟩ => ⟨h1, h2.symm⟩
                  clear hx hy hp hgg ha1 ha
                  cases hl : ltInt x y with
                  | false =>
                    rw [hl] at hL
                    have HPE := Lib.hid (fun W hW => hPE W hW hl)
                    clear hl hPE
                    go_wp2
                    go_quiet ((go_at_call 131; first | exact Calls.quiet_of_same (hL _) | exact quiet_sum hL))
                    go_wp2_with (fail)
                    refine Calls.mono (HPE.out _ (H3.out.world (H3.out.1.drewN _))) ?_
                    rintro e w3 ⟨mid, d4, rfl, h1, h2, h3, h4, h5, h6⟩
                    have H4 := Lib.hid (show Kp w0 g cap n a0 b0 d0 w3 mid b d4 from ⟨h1, h4, h5, fun R r1 r2 => H3.out.2.2.2 R (h6 R r1 r2).1 (h6 R r1 r2).2⟩)
                    have HM := Lib.hid (show a < mid ∧ mid ≤ b from ⟨h2, h3⟩)
                    clear h1 h2 h3 h4 h5 h6
                    go_wp2
                    go_roundg (b - mid)
                    case measure => have := HM.out; have := HGG.out; have := HGI.out; omega
                    case rel => exact ⟨mid, b, l1, wb, wp, d4, ⟨rfl, HM.out.2, HGG.out.2.2.2.1, by have := HM.out; have := HGG.out; omega⟩, rfl, rfl, rfl, rfl, rfl, Lib.hid H4.out⟩
                  | true =>
                    rw [hl] at hL
                    clear hl hPE
                    go_wp2
                    go_quiet ((go_at_call 131; first | exact Calls.quiet_of_same (hL _) | exact quiet_sum hL))
                    go_wp2_with (fail)
                    refine Calls.mono (HPT.out _ (H3.out.world (H3.out.1.drewN _))) ?_
                    rintro e w3 ⟨mid, ap, d4, rfl, h1, h2, h3, h4, h5, h6, h7, h8⟩
                    obtain ⟨LL, hLL⟩ : ∃ x, x = mid - a := ⟨_, rfl⟩
                    obtain ⟨RL, hRL⟩ : ∃ x, x = b - mid := ⟨_, rfl⟩
                    obtain ⟨m1, hm1⟩ : ∃ x, x = mid + 1 := ⟨_, rfl⟩
                    have hgg := HGG.out
                    have z1 : IntKind.i64.wrap ((mid : Int) - (a : Int)) = (LL : Int) := by rw [IntWalk.i64_in _ (by omega)]; omega
                    have z2 : IntKind.i64.wrap ((b : Int) - (mid : Int)) = (RL : Int) := by rw [IntWalk.i64_in _ (by omega)]; omega
                    have z3 : IntKind.i64.wrap ((mid : Int) + 1) = (m1 : Int) := by rw [IntWalk.i64_in _ (by omega)]; omega
                    obtain ⟨T, hT⟩ : ∃ T : Nat, T = L / 8 := ⟨_, rfl⟩
                    have z4' : Int.tdiv (L : Int) 8 = (T : Int) := by rw [Int.tdiv_eq_ediv_of_nonneg (by omega)]; omega
                    have z4 : IntKind.i64.wrap (Int.tdiv (L : Int) 8) = (T : Int) := by rw [z4', IntWalk.i64_in _ (by omega)]
                    have z5 : IntKind.i64.wrap (T : Int) = (T : Int) := by rw [IntWalk.i64_in _ (by omega)]
                    rw [← hm1] at h6 h7 h8
                    have HM := Lib.hid (show a ≤ mid ∧ mid < b ∧ m1 = mid + 1 from ⟨h2, h3, hm1⟩)
                    have H4 := Lib.hid (show Ud w0 w3 g cap d4 ∧ d4.size = n from ⟨h1, h4⟩)
                    have HI1 := Lib.hid (HIH.out (mid - a) (by omega) a mid l1 d4 w3 (Nat.le_refl _) h2 (by omega) h4 h5 h1)
                    have HI2 := Lib.hid (HIH.out (b - m1) (by omega) m1 b l1 d4 w3 (Nat.le_refl _) (by omega) (by omega) h4 h6 h1)
                    have H7 := Lib.hid h7
                    have H8 := Lib.hid h8
                    by_cases hlr : LL < RL
                    · have v1 : decide ((LL : Int) < (RL : Int)) = true := by simpa using hlr
                      have v1' : (LL : Int) < (RL : Int) := by omega
                      clear h1 h2 h3 h4 h5 h6 h7 h8 hLL hRL hm1 hgg hT z4' hlr
                      go_wp2_with (go_at_call 118; refine HI1.out.mono ?_; rintro e w4 ⟨rfl, d5, r1, r2, r3⟩; have H5 := Lib.hid (show Ud w0 w4 g cap d5 ∧ PermIn a mid d4 d5 ∧ SortedIn ltInt a mid d5 from ⟨r1, r2, r3⟩); clear r1 r2 r3)
                      go_roundg (b - m1)
                      case measure => have := HM.out; have := HGG.out; have := HGI.out; omega
                      case rel => exact ⟨m1, b, l1, _, ap, d5, ⟨rfl, by have := HM.out; omega, HGG.out.2.2.2.1, by have := HM.out; have := HGG.out; omega⟩, by first | rfl | go_num, rfl, rfl, rfl, rfl, Lib.hid ⟨H5.out.1, by rw [H5.out.2.1.1]; exact H4.out.2, (H7.out d5 H5.out.2.1 H5.out.2.2).1, fun R r1 r2 => H3.out.2.2.2 R ((H7.out d5 H5.out.2.1 H5.out.2.2).2 R r1 r2).1 ((H7.out d5 H5.out.2.1 H5.out.2.2).2 R r1 r2).2⟩⟩
                    · have v1 : decide ((LL : Int) < (RL : Int)) = false := by simpa using hlr
                      have v1' : ¬ (LL : Int) < (RL : Int) := by omega
                      clear h1 h2 h3 h4 h5 h6 h7 h8 hLL hRL hm1 hgg hT z4' hlr
                      go_wp2_with (go_at_call 118; refine HI2.out.mono ?_; rintro e w4 ⟨rfl, d5, r1, r2, r3⟩; have H5 := Lib.hid (show Ud w0 w4 g cap d5 ∧ PermIn m1 b d4 d5 ∧ SortedIn ltInt m1 b d5 from ⟨r1, r2, r3⟩); clear r1 r2 r3)
                      go_roundg (mid - a)
                      case measure => have := HM.out; have := HGG.out; have := HGI.out; omega
                      case rel => exact ⟨a, mid, l1, _, ap, d5, ⟨rfl, by have := HM.out; omega, by have := HM.out; have := HGG.out; omega, by have := HM.out; have := HGG.out; omega⟩, rfl, by first | rfl | go_num, rfl, rfl, rfl, Lib.hid ⟨H5.out.1, by rw [H5.out.2.1.1]; exact H4.out.2, (H8.out d5 H5.out.2.1 H5.out.2.2).1, fun R r1 r2 => H3.out.2.2.2 R ((H8.out d5 H5.out.2.1 H5.out.2.2).2 R r1 r2).1 ((H8.out d5 H5.out.2.1 H5.out.2.2).2 R r1 r2).2⟩⟩
                · have ha0 : a = 0 := by omega
                  have y1 : decide ((a : Int) > 0) = false := by simp; omega
                  have y1' : decide ((0 : Int) < (a : Int)) = false := by simp; omega
                  have y1n : decide (0 < a) = false := by simpa using ha
                  clear ha ha0 hp hgg hy
                  go_wp2
                  go_quiet (fail)
                  go_wp2_with (fail)
                  refine Calls.mono (HPT.out _ (H3.out.world (H3.out.1.drewN _))) ?_
                  rintro e w3 ⟨mid, ap, d4, rfl, h1, h2, h3, h4, h5, h6, h7, h8⟩
                  obtain ⟨LL, hLL⟩ : ∃ x, x = mid - a := ⟨_, rfl⟩
                  obtain ⟨RL, hRL⟩ : ∃ x, x = b - mid := ⟨_, rfl⟩
                  obtain ⟨m1, hm1⟩ : ∃ x, x = mid + 1 := ⟨_, rfl⟩
                  have hgg := HGG.out
                  have z1 : IntKind.i64.wrap ((mid : Int) - (a : Int)) = (LL : Int) := by rw [IntWalk.i64_in _ (by omega)]; omega
                  have z2 : IntKind.i64.wrap ((b : Int) - (mid : Int)) = (RL : Int) := by rw [IntWalk.i64_in _ (by omega)]; omega
                  have z3 : IntKind.i64.wrap ((mid : Int) + 1) = (m1 : Int) := by rw [IntWalk.i64_in _ (by omega)]; omega
                  obtain ⟨T, hT⟩ : ∃ T : Nat, T = L / 8 := ⟨_, rfl⟩
                  have z4' : Int.tdiv (L : Int) 8 = (T : Int) := by rw [Int.tdiv_eq_ediv_of_nonneg (by omega)]; omega
                  have z4 : IntKind.i64.wrap (Int.tdiv (L : Int) 8) = (T : Int) := by rw [z4', IntWalk.i64_in _ (by omega)]
                  have z5 : IntKind.i64.wrap (T : Int) = (T : Int) := by rw [IntWalk.i64_in _ (by omega)]
                  rw [← hm1] at h6 h7 h8
                  have HM := Lib.hid (show a ≤ mid ∧ mid < b ∧ m1 = mid + 1 from ⟨h2, h3, hm1⟩)
                  have H4 := Lib.hid (show Ud w0 w3 g cap d4 ∧ d4.size = n from ⟨h1, h4⟩)
                  have HI1 := Lib.hid (HIH.out (mid - a) (by omega) a mid l1 d4 w3 (Nat.le_refl _) h2 (by omega) h4 h5 h1)
                  have HI2 := Lib.hid (HIH.out (b - m1) (by omega) m1 b l1 d4 w3 (Nat.le_refl _) (by omega) (by omega) h4 h6 h1)
                  have H7 := Lib.hid h7
                  have H8 := Lib.hid h8
                  by_cases hlr : LL < RL
                  · have v1 : decide ((LL : Int) < (RL : Int)) = true := by simpa using hlr
                    have v1' : (LL : Int) < (RL : Int) := by omega
                    clear h1 h2 h3 h4 h5 h6 h7 h8 hLL hRL hm1 hgg hT z4' hlr
                    go_wp2_with (go_at_call 118; refine HI1.out.mono ?_; rintro e w4 ⟨rfl, d5, r1, r2, r3⟩; have H5 := Lib.hid (show Ud w0 w4 g cap d5 ∧ PermIn a mid d4 d5 ∧ SortedIn ltInt a mid d5 from ⟨r1, r2, r3⟩); clear r1 r2 r3)
                    go_roundg (b - m1)
                    case measure => have := HM.out; have := HGG.out; have := HGI.out; omega
                    case rel => exact ⟨m1, b, l1, _, ap, d5, ⟨rfl, by have := HM.out; omega, HGG.out.2.2.2.1, by have := HM.out; have := HGG.out; omega⟩, by first | rfl | go_num, rfl, rfl, rfl, rfl, Lib.hid ⟨H5.out.1, by rw [H5.out.2.1.1]; exact H4.out.2, (H7.out d5 H5.out.2.1 H5.out.2.2).1, fun R r1 r2 => H3.out.2.2.2 R ((H7.out d5 H5.out.2.1 H5.out.2.2).2 R r1 r2).1 ((H7.out d5 H5.out.2.1 H5.out.2.2).2 R r1 r2).2⟩⟩
                  · have v1 : decide ((LL : Int) < (RL : Int)) = false := by simpa using hlr
                    have v1' : ¬ (LL : Int) < (RL : Int) := by omega
                    clear h1 h2 h3 h4 h5 h6 h7 h8 hLL hRL hm1 hgg hT z4' hlr
                    go_wp2_with (go_at_call 118; refine HI2.out.mono ?_; rintro e w4 ⟨rfl, d5, r1, r2, r3⟩; have H5 := Lib.hid (show Ud w0 w4 g cap d5 ∧ PermIn m1 b d4 d5 ∧ SortedIn ltInt m1 b d5 from ⟨r1, r2, r3⟩); clear r1 r2 r3)
                    go_roundg (mid - a)
                    case measure => have := HM.out; have := HGG.out; have := HGI.out; omega
                    case rel => exact ⟨a, mid, l1, _, ap, d5, ⟨rfl, by have := HM.out; omega, by have := HM.out; have := HGG.out; omega, by have := HM.out; have := HGG.out; omega⟩, rfl, by first | rfl | go_num, rfl, rfl, rfl, Lib.hid ⟨H5.out.1, by rw [H5.out.2.1.1]; exact H4.out.2, (H8.out d5 H5.out.2.1 H5.out.2.2).1, fun R r1 r2 => H3.out.2.2.2 R ((H8.out d5 H5.out.2.1 H5.out.2.2).2 R r1 r2).1 ((H8.out d5 H5.out.2.1 H5.out.2.2).2 R r1 r2).2⟩⟩
end Go.Proofs
end
section
namespace Go.Proofs
open Go.RowKit Go.Sort
set_option linter.unusedVariables false

theorem pdq_all {w0 : World} {g cap n : Nat} (hn : n ≤ 100000) (m : Nat) : PdqOK w0 g cap n m := by
  induction m using Nat.strongRecOn with
  | ind m IH => exact pdq_step hn m IH
theorem sort_pdq {w : World} {A : Option Addr} {c n : Nat} {Q : World → Prop} (hn : n ≤ 100000) (hI : ∀ limit : Int, Calls Tryz.prog 118 #[.slice A n c, .int .i64 0, .int .i64 (n : Nat), .int .i64 limit] w fun e w' => e = .returned (.tuple #[]) ∧ Q w') :
    Calls Tryz.prog 100 #[.slice A n c] w fun e w' => e = .returned (.tuple #[]) ∧ Q w' := by
  have HI := Lib.hid hI
  have g2 : IntKind.u64.wrap (n : Int) = (n : Int) := by rw [IntKind.wrap_u64]; omega
  have hb := Tryz.bits_Len (n : Int) w (by omega) (by omega)
  obtain ⟨L, hL⟩ : ∃ L : Int, L = (Lib.bitLen (n : Int).toNat : Int) := ⟨_, rfl⟩
  rw [← hL] at hb
  clear hI hL
  go_enter Tryz.func100, Tryz.ntmps100
  go_wp2_with (first
    | (go_at_call 119; refine hb.mono ?_; rintro e w' ⟨rfl, rfl⟩)
    | (go_at_call 118; refine (HI.out _).mono ?_; rintro e w' ⟨rfl, h1⟩; have H1 := Lib.hid h1; clear h1))
  go_end0
  exact ⟨rfl, H1.out⟩
theorem sorts_all (N : Nat) (hN : N ≤ 100000) : Sorts N := by
  intro w v U hU hn
  rcases hU.2 with ⟨rfl, h0⟩ | ⟨g, cap, cur, rfl, hg, hc, hm, hs, ht⟩
  · have e : U = [] := List.eq_nil_of_length_eq_zero h0
    subst e
    exact (sort_few (Q := fun w' => w = w') (by simp) (ins_none _ _ _ rfl w)).mono fun e w' ⟨h1, h2⟩ => ⟨h1, [], by rw [← h2]; exact hU, List.Perm.refl _, List.Pairwise.nil, by rw [← h2]; exact Chg.refl _ _⟩
  · have hd : Ud w w g cap U.toArray := ⟨by simpa using hU, Chg.refl _ _⟩
    have hz : U.toArray.size = U.length := by simp
    have hp := fun limit => pdq_all (w0 := w) (g := g) (cap := cap) (n := U.length) (by omega) (U.length - 0) 0 U.length limit U.toArray w (Nat.le_refl _) (Nat.zero_le _) (Nat.le_refl _) hz (.inl rfl) hd
    refine (sort_pdq (by omega) hp).mono fun e w' ⟨h1, d', h2, h3, h4⟩ => ?_
    have hsz : d'.size = U.length := by rw [h3.1]; exact hz
    refine ⟨h1, d'.toList, ?_, by have := perm_list (d := U.toArray) (d' := d') (by rw [hz]; exact h3); simpa using this, sorted_list (by rw [hsz]; exact h4), by simpa [foot_some] using h2.2⟩
    have := h2.1
    rw [hsz] at this
    exact this
end Go.Proofs
end
section
namespace Go.Proofs
open Go.RowKit
set_option linter.unusedVariables false
set_option linter.unusedSimpArgs false
def rcanB (r : RTab) (i q now : Int) : Bool := r.is i q && decide (0 < thereP (r.at_ i q).l now)
set_option maxHeartbeats 3200000 in
set_option maxRecDepth 100000 in
theorem rcan_any {w : World} {h : Nat} {S : List Nat} {r : RTab} (hr : RefAt w h S r) (hn : r.L.length ≤ 100) {i q : Int} (now : Int) (hk : Ok (r.at_ i q).l) (hl : (r.at_ i q).l.length ≤ 100000) :
    Calls Tryz.prog 36 #[.pointer (some ⟨h, 0, none⟩), .agg #[.int .i64 i, .int .u64 q], .int .u64 now] w fun e w' => e = .returned (.bool (rcanB r i q now)) ∧ Chg [] w w' := by
  have hI := fun W (hW : Chg [] w W) => ris_any (hr.quiet hW) hn i q
  have hTH := fun W (hW : Chg [] w W) => rthere_ctx ((hr.quiet hW).rd i q) hk hl now
  unfold rcanB
  cases hq : r.is i q with
  | false =>
    rw [hq] at hI
    have HI := Lib.hid hI
    clear hI hr hn hq hTH hk hl
    go_enter Tryz.func36, Tryz.ntmps36
    go_wp2
    refine wp_region_held_drew (S := fun w' => w'.cell? ⟨w.heap.size, 0, none⟩ = some (.int .i64 i) ∧ w'.cell? ⟨w.heap.size, 1, none⟩ = some (.int .u64 q)) (by kernel_rfl) ⟨by simp [go_sem], by simp [go_sem]⟩ (fun hHeld => ?_)
    simp only [List.setIfInBounds_toArray, List.size_toArray, List.length_cons, List.length_nil, Array.replicate]
    refine wpAnyH_take (i := 0) (v := .pointer (some ⟨h, 0, none⟩)) rfl (by kernel_rfl) (by kernel_rfl) (by kernel_rfl) (fun _ _ _ h => h) (Or.inl ⟨by rfl, fun w' hS => ?_⟩) hHeld ?_
    · obtain ⟨s0, s1⟩ := hS
      go_simp
    simp only [Act.put, List.setIfInBounds_toArray, List.set_cons_zero, List.set_cons_succ, List.getElem_toArray, List.getElem_cons_succ, List.getElem_cons_zero]
    refine wpAnyH_take (i := 1) (v := .agg #[.int .i64 i, .int .u64 q]) rfl (by kernel_rfl) (by kernel_rfl) (by kernel_rfl) (fun _ _ _ h => h) (Or.inl ⟨by rfl, fun w' hS => ?_⟩) hHeld ?_
    · obtain ⟨s0, s1⟩ := hS
      go_simp
    simp only [Act.put, List.setIfInBounds_toArray, List.set_cons_zero, List.set_cons_succ, List.getElem_toArray, List.getElem_cons_succ, List.getElem_cons_zero]
    refine wpAnyH_ready (rs := [2]) (by kernel_rfl) (by simp) ?_
    refine AllReadyH.cons rfl (fun K hK => ?_) AllReadyH.nil
    go_simp
    refine (HI.out _ (((Chg.refl _ _).alloc _).drew)).mono ?_
    rintro e w1 ⟨rfl, hc⟩
    obtain ⟨_, d0, d1⟩ := ref_facts (w := w) rfl ((Chg.refl [] _).drew) hc
    have HC := Lib.hid ((((Chg.refl [] w).alloc _).drew).then hc)
    refine hK.out _ _ ⟨d0, d1⟩ (fun hHeld => ?_)
    clear hK K
    simp only [Act.put, List.setIfInBounds_toArray, List.set_cons_zero, List.set_cons_succ, List.getElem_toArray, List.getElem_cons_succ, List.getElem_cons_zero]
    refine wpAnyH_take (i := 3) (v := .bool false) rfl (by kernel_rfl) (by kernel_rfl) (by kernel_rfl) (fun _ _ _ h => h) (Or.inl ⟨by rfl, fun w' hS => ?_⟩) hHeld ?_
    · obtain ⟨s0, s1⟩ := hS
      go_simp
    simp only [Act.put, List.setIfInBounds_toArray, List.set_cons_zero, List.set_cons_succ, List.getElem_toArray, List.getElem_cons_succ, List.getElem_cons_zero]
    refine wpAnyH_take (i := 4) (v := undef) rfl (by kernel_rfl) (by kernel_rfl) (by kernel_rfl) (fun _ _ _ h => h) (Or.inr ⟨by kernel_rfl, rfl⟩) hHeld ?_
    simp only [Act.put, List.setIfInBounds_toArray, List.set_cons_zero, List.set_cons_succ, List.getElem_toArray, List.getElem_cons_succ, List.getElem_cons_zero]
    refine wpAnyH_take (i := 5) (v := undef) rfl (by kernel_rfl) (by kernel_rfl) (by kernel_rfl) (fun _ _ _ h => h) (Or.inr ⟨by kernel_rfl, rfl⟩) hHeld ?_
    simp only [Act.put, List.setIfInBounds_toArray, List.set_cons_zero, List.set_cons_succ, List.getElem_toArray, List.getElem_cons_succ, List.getElem_cons_zero]
    refine wpAnyH_take (i := 6) (v := undef) rfl (by kernel_rfl) (by kernel_rfl) (by kernel_rfl) (fun _ _ _ h => h) (Or.inr ⟨by kernel_rfl, rfl⟩) hHeld ?_
    simp only [Act.put, List.setIfInBounds_toArray, List.set_cons_zero, List.set_cons_succ, List.getElem_toArray, List.getElem_cons_succ, List.getElem_cons_zero]
    refine wpAnyH_take (i := 7) (v := undef) rfl (by kernel_rfl) (by kernel_rfl) (by kernel_rfl) (fun _ _ _ h => h) (Or.inr ⟨by kernel_rfl, rfl⟩) hHeld ?_
    simp only [Act.put, List.setIfInBounds_toArray, List.set_cons_zero, List.set_cons_succ, List.getElem_toArray, List.getElem_cons_succ, List.getElem_cons_zero]
    refine wpAnyH_take (i := 8) (v := undef) rfl (by kernel_rfl) (by kernel_rfl) (by kernel_rfl) (fun _ _ _ h => h) (Or.inr ⟨by kernel_rfl, rfl⟩) hHeld ?_
    simp only [Act.put, List.setIfInBounds_toArray, List.set_cons_zero, List.set_cons_succ, List.getElem_toArray, List.getElem_cons_succ, List.getElem_cons_zero]
    refine wpAnyH_take (i := 9) (v := undef) rfl (by kernel_rfl) (by kernel_rfl) (by kernel_rfl) (fun _ _ _ h => h) (Or.inr ⟨by kernel_rfl, rfl⟩) hHeld ?_
    simp only [Act.put, List.setIfInBounds_toArray, List.set_cons_zero, List.set_cons_succ, List.getElem_toArray, List.getElem_cons_succ, List.getElem_cons_zero]
    refine wpAnyH_take (i := 10) (v := undef) rfl (by kernel_rfl) (by kernel_rfl) (by kernel_rfl) (fun _ _ _ h => h) (Or.inr ⟨by kernel_rfl, rfl⟩) hHeld ?_
    simp only [Act.put, List.setIfInBounds_toArray, List.set_cons_zero, List.set_cons_succ, List.getElem_toArray, List.getElem_cons_succ, List.getElem_cons_zero]
    refine wpAnyH_take (i := 11) (v := undef) rfl (by kernel_rfl) (by kernel_rfl) (by kernel_rfl) (fun _ _ _ h => h) (Or.inr ⟨by kernel_rfl, rfl⟩) hHeld ?_
    simp only [Act.put, List.setIfInBounds_toArray, List.set_cons_zero, List.set_cons_succ, List.getElem_toArray, List.getElem_cons_succ, List.getElem_cons_zero]
    refine wpAnyH_take (i := 12) (v := undef) rfl (by kernel_rfl) (by kernel_rfl) (by kernel_rfl) (fun _ _ _ h => h) (Or.inr ⟨by kernel_rfl, rfl⟩) hHeld ?_
    simp only [Act.put, List.setIfInBounds_toArray, List.set_cons_zero, List.set_cons_succ, List.getElem_toArray, List.getElem_cons_succ, List.getElem_cons_zero]
    refine wpAnyH_take (i := 13) (v := undef) rfl (by kernel_rfl) (by kernel_rfl) (by kernel_rfl) (fun _ _ _ h => h) (Or.inr ⟨by kernel_rfl, rfl⟩) hHeld ?_
    simp only [Act.put, List.setIfInBounds_toArray, List.set_cons_zero, List.set_cons_succ, List.getElem_toArray, List.getElem_cons_succ, List.getElem_cons_zero]
    refine wpAnyH_take (i := 14) (v := undef) rfl (by kernel_rfl) (by kernel_rfl) (by kernel_rfl) (fun _ _ _ h => h) (Or.inr ⟨by kernel_rfl, rfl⟩) hHeld ?_
    simp only [Act.put, List.setIfInBounds_toArray, List.set_cons_zero, List.set_cons_succ, List.getElem_toArray, List.getElem_cons_succ, List.getElem_cons_zero]
    refine wpAnyH_take (i := 15) (v := undef) rfl (by kernel_rfl) (by kernel_rfl) (by kernel_rfl) (fun _ _ _ h => h) (Or.inr ⟨by kernel_rfl, rfl⟩) hHeld ?_
    simp only [Act.put, List.setIfInBounds_toArray, List.set_cons_zero, List.set_cons_succ, List.getElem_toArray, List.getElem_cons_succ, List.getElem_cons_zero]
    refine wpAnyH_take (i := 16) (v := undef) rfl (by kernel_rfl) (by kernel_rfl) (by kernel_rfl) (fun _ _ _ h => h) (Or.inr ⟨by kernel_rfl, rfl⟩) hHeld ?_
    simp only [Act.put, List.setIfInBounds_toArray, List.set_cons_zero, List.set_cons_succ, List.getElem_toArray, List.getElem_cons_succ, List.getElem_cons_zero]
    refine wpAnyH_take (i := 17) (v := .bool false) rfl (by kernel_rfl) (by kernel_rfl) (by kernel_rfl) (fun _ _ _ h => h) (Or.inl ⟨by rfl, fun w' hS => ?_⟩) hHeld ?_
    · obtain ⟨s0, s1⟩ := hS
      go_simp
    simp only [Act.put, List.setIfInBounds_toArray, List.set_cons_zero, List.set_cons_succ, List.getElem_toArray, List.getElem_cons_succ, List.getElem_cons_zero]
    refine wpAnyH_take (i := 18) (v := .bool false) rfl (by kernel_rfl) (by kernel_rfl) (by kernel_rfl) (fun _ _ _ h => h) (Or.inl ⟨by rfl, fun w' hS => ?_⟩) hHeld ?_
    · obtain ⟨s0, s1⟩ := hS
      go_simp
    simp only [Act.put, List.setIfInBounds_toArray, List.set_cons_zero, List.set_cons_succ, List.getElem_toArray, List.getElem_cons_succ, List.getElem_cons_zero]
    refine wpAnyH_done (by kernel_rfl) ?_ _
    clear hHeld hc d0 d1
    go_wp2
    go_ret
    exact ⟨rfl, HC.out⟩
  | true =>
    rw [hq] at hI
    obtain ⟨k, p, rfl, hp, hat⟩ := ris_open hq
    rw [hat] at hTH ⊢
    obtain ⟨gl, cl, hSS, hne, hkl, lgw, lhw, htell, _⟩ := hr.open_ hp
    clear hSS
    obtain ⟨x, hx⟩ : ∃ x, x = p.x := ⟨_, rfl⟩
    rw [← hx] at htell hTH ⊢
    obtain ⟨th, hth⟩ : ∃ th, th = thereP x.l now := ⟨_, rfl⟩
    rw [← hth] at hTH ⊢
    have HI := Lib.hid hI
    have HTH := Lib.hid hTH
    have HT := Lib.hid htell
    obtain ⟨a0, a1, a2, b0, b1, b2, b3, b4, b5, b6, fz, fh, lh, lg⟩ := htell w (Chg.refl _ _)
    have i0 : (0 : Int) ≤ (k : Int) := by omega
    have i1 : (k : Int) < (r.L.length : Int) := by omega
    clear hr hp htell hx hat hn hq hI hTH hk hl hth
    go_enter Tryz.func36, Tryz.ntmps36
    go_wp2
    go_region_held3 (fun w' => w'.cell? ⟨w.heap.size, 0, none⟩ = some (.int .i64 k) ∧ w'.cell? ⟨w.heap.size, 1, none⟩ = some (.int .u64 q) ∧ w'.cell? ⟨h, 0, none⟩ = some (.slice (some ⟨gl, 0, none⟩) r.L.length cl) ∧ w'.cell? ⟨gl, k * 7 + 4, none⟩ = some (.slice x.a x.m x.c))
      (first | go_keep)
      (first
        | (go_at_call 79; refine (HI.out _ (((Chg.refl _ _).alloc _).drew)).mono ?_; rintro e w1 ⟨rfl, hc⟩; obtain ⟨_, d0, d1⟩ := ref_facts (w := w) rfl ((Chg.refl [] _).drew) hc; have HC := Lib.hid ((((Chg.refl [] w).alloc _).drew).then hc); obtain ⟨e0', e1', e2', f0', f1', f2', f3', f4', f5', f6', fz2, fh2, lh2, lg2⟩ := HT.out _ HC.out; clear hc)
        | (go_at_call 80; refine (HTH.out _ HC.out).mono ?_; rintro e w2 ⟨rfl, rfl⟩))
    all_goals
      go_wp2
      go_ret
      exact ⟨rfl, HC.out⟩
def rnextP (r : RTab) (i q now : Int) : Int × Bool := if r.is i q then nextP (r.at_ i q).l now else (0, false)
end Go.Proofs
end
section
namespace Go.Proofs
open Go.RowKit
set_option linter.unusedVariables false
set_option linter.unusedSimpArgs false
set_option maxHeartbeats 3200000 in
set_option maxRecDepth 100000 in
theorem rnext_ctx {w : World} {h : Nat} {S : List Nat} {r : RTab} (hr : RefAt w h S r) (hn : r.L.length ≤ 100) {i q : Int} (now : Int) (hl : (r.at_ i q).l.length ≤ 100000) :
    Calls Tryz.prog 42 #[.pointer (some ⟨h, 0, none⟩), .agg #[.int .i64 i, .int .u64 q], .int .u64 now] w fun e w' => e = .returned (.tuple #[.int .u64 (rnextP r i q now).1, .bool (rnextP r i q now).2]) ∧ Chg [] w w' := by
  have hI := fun W (hW : Chg [] w W) => ris_any (hr.quiet hW) hn i q
  have hNX := fun W (hW : Chg [] w W) => rnext_any ((hr.quiet hW).rd i q).inn hl now
  unfold rnextP
  cases hq : r.is i q with
  | false =>
    rw [hq] at hI
    have HI := Lib.hid hI
    clear hI hr hn hq hNX hl
    go_enter Tryz.func42, Tryz.ntmps42
    go_wp2_with (go_at_call 79; refine (HI.out _ (((Chg.refl _ _).alloc _))).mono ?_; rintro e w1 ⟨rfl, hc⟩; have HC := Lib.hid ((((Chg.refl [] w).alloc _)).then hc); clear hc)
    go_ret2
    exact ⟨rfl, HC.out⟩
  | true =>
    rw [hq] at hI
    obtain ⟨k, p, rfl, hp, hat⟩ := ris_open hq
    rw [hat] at hNX ⊢
    obtain ⟨gl, cl, hSS, hne, hkl, lgw, lhw, htell, _⟩ := hr.open_ hp
    clear hSS
    obtain ⟨x, hx⟩ : ∃ x, x = p.x := ⟨_, rfl⟩
    rw [← hx] at htell hNX ⊢
    obtain ⟨a1, ha1⟩ : ∃ a1, a1 = (nextP x.l now).1 := ⟨_, rfl⟩
    obtain ⟨a2, ha2⟩ : ∃ a2, a2 = (nextP x.l now).2 := ⟨_, rfl⟩
    rw [← ha1, ← ha2] at hNX
    have HA1 := Lib.hid ha1
    have HA2 := Lib.hid ha2
    have HI := Lib.hid hI
    have HNX := Lib.hid hNX
    have HT := Lib.hid htell
    have i0 : (0 : Int) ≤ (k : Int) := by omega
    have i1 : (k : Int) < (r.L.length : Int) := by omega
    clear hr hp htell hx hat hn hq hI hNX hl ha1 ha2
    go_enter Tryz.func42, Tryz.ntmps42
    go_wp2_with (go_at_call 79; refine (HI.out _ (((Chg.refl _ _).alloc _))).mono ?_; rintro e w1 ⟨rfl, hc⟩; obtain ⟨_, d0, d1⟩ := ref_facts (w := w) rfl (Chg.refl [] _) hc; have HC := Lib.hid ((((Chg.refl [] w).alloc _)).then hc); obtain ⟨e0', e1', e2', f0', f1', f2', f3', f4', f5', f6', fz2, fh2, lh2, lg2⟩ := HT.out _ HC.out; have HB := Lib.hid ((Blk.new w 34 #[.int .i64 (k : Int), .int .u64 q]).chg hc (by simp)); clear hc)
    go_region_held3 (fun w' => w'.cell? ⟨w.heap.size, 0, none⟩ = some (.int .i64 k) ∧ w'.cell? ⟨h, 0, none⟩ = some (.slice (some ⟨gl, 0, none⟩) r.L.length cl) ∧ w'.cell? ⟨gl, k * 7 + 4, none⟩ = some (.slice x.a x.m x.c))
      (first | go_keep)
      (first
        | (go_at_call 85; refine (HNX.out _ HC.out.drew).mono ?_; rintro e w2 ⟨rfl, hc⟩; have HC2 := Lib.hid (HC.out.drew.then hc); obtain ⟨g0', _, _, _, _, _, _, g4', _⟩ := HT.out _ HC2.out; have hb := (HB.out.drew.chg hc (by simp)).cell 0; clear hc))
    all_goals
      go_wp2
      go_ret2
      exact ⟨by rw [← HA1.out, ← HA2.out]; rfl, HC2.out⟩
def rmakeB (b p now : Int) : Bool := badMake b p now
theorem badMake_eq (b p now : Int) : badMake b p now = (decide (b < 1) || decide (4294967296 < b) || decide (p < 1) || decide (4294967296 < p) || decide (1152921504606846976 < now)) := by
  unfold badMake
  rw [Bool.eq_iff_iff]
  simp only [Bool.or_eq_true, Bool.not_eq_true', Bool.and_eq_false_iff, decide_eq_true_eq, decide_eq_false_iff_not]
  omega
set_option maxHeartbeats 3200000 in
set_option maxRecDepth 100000 in
theorem rmake_bad {w : World} {h : Nat} (b p now : Int) (hB : badMake b p now = true) :
    Calls Tryz.prog 34 #[.pointer (some ⟨h, 0, none⟩), .int .u64 b, .int .u64 p, .int .u64 now] w fun e w' => e = .returned (.tuple #[.agg #[.int .i64 0, .int .u64 0], .int .i64 2]) ∧ Chg [] w w' := by
  have hE := badMake_eq b p now
  rw [hB] at hE
  have hE' : decide (b < 1) = true ∨ (decide (b < 1) = false ∧ decide (4294967296 < b) = true) ∨ (decide (b < 1) = false ∧ decide (4294967296 < b) = false ∧ decide (p < 1) = true) ∨ (decide (b < 1) = false ∧ decide (4294967296 < b) = false ∧ decide (p < 1) = false ∧ decide (4294967296 < p) = true) ∨ (decide (b < 1) = false ∧ decide (4294967296 < b) = false ∧ decide (p < 1) = false ∧ decide (4294967296 < p) = false ∧ decide (1152921504606846976 < now) = true) := by
    revert hE
    cases decide (b < 1) <;> cases decide (4294967296 < b) <;> cases decide (p < 1) <;> cases decide (4294967296 < p) <;> cases decide (1152921504606846976 < now) <;> simp
  clear hE hB
  rcases hE' with d1 | ⟨d1, d2⟩ | ⟨d1, d2, d3⟩ | ⟨d1, d2, d3, d4⟩ | ⟨d1, d2, d3, d4, d5⟩
  all_goals
    go_enter Tryz.func34, Tryz.ntmps34
    go_wp2
    refine bodyPost_ret (v := .tuple #[.agg #[.int .i64 0, .int .u64 0], .int .i64 2]) (by simp [results, Tryz.results34, go_sem]) rfl ⟨rfl, by repeat' (first | with_reducible exact Chg.refl _ _ | with_reducible apply Chg.alloc | with_reducible apply Chg.setCell | (with_reducible refine Or.inr ?_; dsimp only; omega))⟩
/-- What a Make of what may be leaves: no place, or a new one. -/
def MkOut (h : Nat) (S : List Nat) (r : RTab) (b p now : Int) (w : World) (e : Ending) (w' : World) : Prop :=
  (r.pick < 0 ∧ e = .returned (.tuple #[.agg #[.int .i64 0, .int .u64 0], .int .i64 3]) ∧ Chg [] w w') ∨
  (0 ≤ r.pick ∧ e = .returned (.tuple #[.agg #[.int .i64 r.pick, .int .u64 (r.genAt r.pick.toNat)], .int .i64 0]) ∧ ∃ A m cc, RTurns h S (r.put ⟨b, p, A, m, cc, 0, [(b, now)]⟩) w w')
theorem Rd.one43 (w : World) (b now : Int) : Rd (w.alloc (.cells #[.int .u64 b, .int .u64 now] 57)) (.slice (some ⟨w.heap.size, 0, none⟩) 1 1) [(b, now)] := (Ro.one w b now).rd
set_option maxHeartbeats 3200000 in
set_option maxRecDepth 100000 in
theorem rmake_any {w : World} {h : Nat} {S : List Nat} {r : RTab} (hr : RefAt w h S r) (h0 : 0 < r.L.length) (hn : r.L.length ≤ 100) (b p now : Int) (hB : badMake b p now = false) :
    Calls Tryz.prog 34 #[.pointer (some ⟨h, 0, none⟩), .int .u64 b, .int .u64 p, .int .u64 now] w fun e w' => MkOut h S r b p now w e w' := by
  have HP := Lib.hid (fun W (hW : Chg [] w W) (A : Option Addr) (m cc : Nat) (hR : Rd W (.slice A m cc) [(b, now)]) => rput_any (hr.quiet hW) h0 hn ⟨b, p, A, m, cc, 0, [(b, now)]⟩ hR)
  have hE := badMake_eq b p now
  rw [hB] at hE
  have hE' : decide (b < 1) = false ∧ decide (4294967296 < b) = false ∧ decide (p < 1) = false ∧ decide (4294967296 < p) = false ∧ decide (1152921504606846976 < now) = false := by
    revert hE
    cases decide (b < 1) <;> cases decide (4294967296 < b) <;> cases decide (p < 1) <;> cases decide (4294967296 < p) <;> cases decide (1152921504606846976 < now) <;> simp
  obtain ⟨d1, d2, d3, d4, d5⟩ := hE'
  have HX := Lib.hid hr.box
  have HD := Lib.hid hr.lt
  clear hE hB hr h0 hn
  go_enter Tryz.func34, Tryz.ntmps34
  go_wp2_with (fail)
  refine (HP.out _ (((Chg.refl _ _).alloc _).alloc _) (some ⟨w.heap.size + 1, 0, none⟩) 1 1 (by have := Rd.one43 (w.alloc (obRef 0 0)) b now; simpa using this)).mono ?_
  rintro e w2 (⟨hp, rfl, hc⟩ | ⟨hp, rfl, hT⟩)
  · have HPK := Lib.hid hp
    obtain ⟨hz, r0, r1, rf⟩ := ref_facts4 (w := w) (n := w.heap.size) rfl ((Chg.refl [] _).alloc _) hc
    have HC := Lib.hid ((((Chg.refl [] w).alloc _).alloc _).then hc)
    clear hc hp
    go_wp2
    refine bodyPost_ret (v := .tuple #[.agg #[.int .i64 0, .int .u64 0], .int .i64 3]) (by simp [results, Tryz.results34, go_sem, hz, r0, r1]) rfl (.inl ⟨HPK.out, rfl, by repeat' (first | with_reducible exact HC.out | with_reducible apply Chg.alloc | with_reducible apply Chg.setCell | (with_reducible refine Or.inr ?_; dsimp only; omega))⟩)
  · have HPK := Lib.hid hp
    obtain ⟨S', t1, t2, t3⟩ := id hT
    have hb := ((Blk.new w 34 #[.int .i64 0, .int .u64 0]).alloc (.cells #[.int .u64 b, .int .u64 now] 57)).chg t3 (HX.out _ (Nat.le_refl _))
    have r0 := hb.cell 0
    have r1 := hb.cell 1
    have rf := hb.frozen
    have hz := hb.lt
    have HB := Lib.hid hb
    have HT := Lib.hid (hT.earlier (((Chg.refl _ _).alloc _).alloc _))
    obtain ⟨P, hP⟩ : ∃ P, P = r.pick := ⟨_, rfl⟩
    obtain ⟨G, hG⟩ : ∃ G, G = r.genAt r.pick.toNat := ⟨_, rfl⟩
    rw [← hG, ← hP]
    have HPP := Lib.hid hP
    have HGG := Lib.hid hG
    clear hp t1 t2 t3 hT hb hP hG
    go_wp2
    refine bodyPost_ret (v := .tuple #[.agg #[.int .i64 P, .int .u64 G], .int .i64 0]) (by simp [results, Tryz.results34, go_sem, hz, r0, r1]) rfl (.inr ⟨HPK.out, by rw [← HPP.out, HGG.out, ← HPP.out], some ⟨w.heap.size + 1, 0, none⟩, 1, 1, ?_⟩)
    refine HT.out.box HB.out (by decide) (by decide) (by decide) (by omega) ?_
    repeat' (first | with_reducible exact Chg.refl _ _ | with_reducible apply Chg.drew | with_reducible apply Chg.setCell | (with_reducible refine Or.inl ?_; simp; done))
end Go.Proofs
end
section
namespace Go.Proofs
open Go.RowKit
set_option linter.unusedVariables false
set_option linter.unusedSimpArgs false
def rsplitE (r : RTab) (i q am now : Int) : Int := if r.is i q then (if rpartE (r.at_ i q) am now = 0 then (if r.pick < 0 then 3 else 0) else rpartE (r.at_ i q) am now) else 11
theorem rput_eq {r : RTab} {k : Nat} {p : Pl} (hk : r.pick = (k : Nat)) (hp : r.L[k]? = some p) (x : Cx) : r.put x = { r with L := r.L.set k { p with there := true, x := x } } := by
  unfold RTab.put; rw [hk, Int.toNat_natCast, hp]
/-- What a Put does to what a ref names: nothing. -/
theorem rput_other {r : RTab} {i q : Int} (hq : r.is i q = true) (hp : 0 ≤ r.pick) (y : Cx) : (r.put y).is i q = true ∧ (r.put y).at_ i q = r.at_ i q ∧ (r.put y).L.length = r.L.length ∧ (r.put y).most = r.most ∧ (r.put y).times = r.times := by
  obtain ⟨k, p, rfl, hk, hth, hg⟩ := ris_iff.1 hq
  obtain ⟨P, hP⟩ := Int.eq_ofNat_of_zero_le hp
  have hb := pickR_bd r.L r.L.length
  have hpk : pickR r.L r.L.length = (P : Nat) := hP
  rw [hpk] at hb
  obtain ⟨pp, hpp⟩ : ∃ pp, r.L[P]? = some pp := ⟨_, List.getElem?_eq_getElem (by omega)⟩
  have hne : k ≠ P := by
    intro e
    subst e
    have := hb.2.2 (by omega)
    unfold thAt at this
    rw [Int.toNat_natCast, hk] at this
    simp [hth] at this
  rw [rput_eq hP hpp]
  have hk' : (r.L.set P { pp with there := true, x := y })[k]? = some p := by rw [List.getElem?_set_ne (fun e => hne e.symm)]; exact hk
  have his : ({ r with L := r.L.set P { pp with there := true, x := y } } : RTab).is (k : Nat) q = true := ris_iff.2 ⟨k, p, rfl, hk', hth, hg⟩
  exact ⟨his, by rw [RTab.at_yes his hk', RTab.at_yes hq hk], by simp, rfl, rfl⟩
set_option maxHeartbeats 3200000 in
set_option maxRecDepth 100000 in
theorem rsplit_no1 {w : World} {h : Nat} {S : List Nat} {r : RTab} (hr : RefAt w h S r) (hn : r.L.length ≤ 100) {i q : Int} (am now : Int) (hq : r.is i q = false) :
    Calls Tryz.prog 38 #[.pointer (some ⟨h, 0, none⟩), .agg #[.int .i64 i, .int .u64 q], .int .u64 am, .int .u64 now] w fun e w' => e = .returned (.tuple #[.agg #[.int .i64 0, .int .u64 0], .int .i64 11]) ∧ Chg [] w w' := by
  have hI := fun W (hW : Chg [] w W) => ris_any (hr.quiet hW) hn i q
  rw [hq] at hI
  have HI := Lib.hid hI
  clear hI hr hn hq
  go_enter Tryz.func38, Tryz.ntmps38
  go_wp2_with (go_at_call 79; refine (HI.out _ (((Chg.refl _ _).alloc _).alloc _)).mono ?_; rintro e w1 ⟨rfl, hc⟩; obtain ⟨hz, r0, r1, rf⟩ := ref_facts4 (w := w.alloc (obRef i q)) (n := w.heap.size + 1) (by simp) (Chg.refl [] _) hc; have HC := Lib.hid ((((Chg.refl [] w).alloc _).alloc _).then hc); clear hc)
  refine bodyPost_ret (v := .tuple #[.agg #[.int .i64 0, .int .u64 0], .int .i64 11]) (by simp [results, Tryz.results38, go_sem, hz, r0, r1]) rfl ⟨rfl, by repeat' (first | with_reducible exact HC.out | with_reducible apply Chg.alloc | with_reducible apply Chg.setCell | (with_reducible refine Or.inr ?_; dsimp only; omega))⟩
set_option maxHeartbeats 3200000 in
set_option maxRecDepth 100000 in
theorem rsplit_no2 {w : World} {h : Nat} {S : List Nat} {r : RTab} (hr : RefAt w h S r) (hn : r.L.length ≤ 100) {i q : Int} (am now : Int) (hq : r.is i q = true) (hk : Ok (r.at_ i q).l) (hl : (r.at_ i q).l.length ≤ 100000) (hne : rpartE (r.at_ i q) am now ≠ 0) :
    Calls Tryz.prog 38 #[.pointer (some ⟨h, 0, none⟩), .agg #[.int .i64 i, .int .u64 q], .int .u64 am, .int .u64 now] w fun e w' => e = .returned (.tuple #[.agg #[.int .i64 0, .int .u64 0], .int .i64 (rpartE (r.at_ i q) am now)]) ∧ Chg [] w w' := by
  have hI := fun W (hW : Chg [] w W) => ris_any (hr.quiet hW) hn i q
  have HPA := Lib.hid (fun W (hW : Chg [] w W) => rpart_any (hr.quiet hW) hq am now hk hl)
  rw [hq] at hI
  have HI := Lib.hid hI
  obtain ⟨E, hE⟩ : ∃ E, E = rpartE (r.at_ i q) am now := ⟨_, rfl⟩
  rw [← hE] at HPA hne ⊢
  have hne' : (E != 0) = true := by simpa using hne
  clear hI hr hn hq hk hl hE hne
  go_enter Tryz.func38, Tryz.ntmps38
  go_wp2_with (first
    | (go_at_call 79; refine (HI.out _ (((Chg.refl _ _).alloc _).alloc _)).mono ?_; rintro e w1 ⟨rfl, hc⟩; obtain ⟨_, d0, d1⟩ := ref_facts (w := w) rfl ((Chg.refl [] _).alloc _) hc; have HC1 := Lib.hid hc; have HC := Lib.hid ((((Chg.refl [] w).alloc _).alloc _).then hc); clear hc)
    | (go_at_call 82; refine (HPA.out _ HC.out).mono ?_; rintro e w2 ⟨rfl, hc⟩; obtain ⟨hz, r0, r1, rf⟩ := ref_facts4 (w := w.alloc (obRef i q)) (n := w.heap.size + 1) (by simp) HC1.out hc; have HC2 := Lib.hid (HC.out.then hc); clear hc))
  refine bodyPost_ret (v := .tuple #[.agg #[.int .i64 0, .int .u64 0], .int .i64 E]) (by simp [results, Tryz.results38, go_sem, hz, r0, r1]) rfl ⟨rfl, by repeat' (first | with_reducible exact HC2.out | with_reducible apply Chg.alloc | with_reducible apply Chg.setCell | (with_reducible refine Or.inr ?_; dsimp only; omega))⟩
theorem rmake_full {w : World} {h : Nat} {S : List Nat} {r : RTab} (hr : RefAt w h S r) (h0 : 0 < r.L.length) (hn : r.L.length ≤ 100) (b p now : Int) (hB : badMake b p now = false) (hp : r.pick < 0) :
    Calls Tryz.prog 34 #[.pointer (some ⟨h, 0, none⟩), .int .u64 b, .int .u64 p, .int .u64 now] w fun e w' => e = .returned (.tuple #[.agg #[.int .i64 0, .int .u64 0], .int .i64 3]) ∧ Chg [] w w' := by
  refine (rmake_any hr h0 hn b p now hB).mono ?_
  rintro e w' (⟨_, h1, h2⟩ | ⟨h1, _⟩)
  · exact ⟨h1, h2⟩
  · omega
theorem rmake_put {w : World} {h : Nat} {S : List Nat} {r : RTab} (hr : RefAt w h S r) (h0 : 0 < r.L.length) (hn : r.L.length ≤ 100) (b p now : Int) (hB : badMake b p now = false) (hp : 0 ≤ r.pick) :
    Calls Tryz.prog 34 #[.pointer (some ⟨h, 0, none⟩), .int .u64 b, .int .u64 p, .int .u64 now] w fun e w' => e = .returned (.tuple #[.agg #[.int .i64 r.pick, .int .u64 (r.genAt r.pick.toNat)], .int .i64 0]) ∧ ∃ A m cc, RTurns h S (r.put ⟨b, p, A, m, cc, 0, [(b, now)]⟩) w w' := by
  refine (rmake_any hr h0 hn b p now hB).mono ?_
  rintro e w' (⟨h1, _⟩ | ⟨_, h1, h2⟩)
  · omega
  · exact ⟨h1, h2⟩
theorem rpartE_0 {x : Cx} {am now : Int} (h : rpartE x am now = 0) : am ≠ 0 ∧ now ≤ 1152921504606846976 ∧ am < x.b ∧ am ≤ thereP x.l now := by
  unfold rpartE at h
  by_cases c1 : (am == 0 || decide (1152921504606846976 < now)) = true
  · rw [if_pos c1] at h; cases h
  · rw [if_neg c1] at h
    by_cases c2 : (decide (x.b ≤ am) || decide (thereP x.l now < am)) = true
    · rw [if_pos c2] at h; cases h
    · simp only [Bool.or_eq_true, beq_iff_eq, decide_eq_true_eq, not_or] at c1 c2
      exact ⟨c1.1, by omega, by omega, by omega⟩
set_option maxHeartbeats 3200000 in
set_option maxRecDepth 100000 in
theorem rsplit_full {w : World} {h : Nat} {S : List Nat} {r : RTab} (hr : RefAt w h S r) (hn : r.L.length ≤ 100) {i q : Int} (am now : Int) (hq : r.is i q = true) (hk : Ok (r.at_ i q).l) (hl : (r.at_ i q).l.length ≤ 100000) (he : rpartE (r.at_ i q) am now = 0) (hm : U64 am)
    (x1 : (r.at_ i q).b ≤ 4294967296) (p0 : 1 ≤ (r.at_ i q).p) (p1 : (r.at_ i q).p ≤ 4294967296) (hpk : r.pick < 0) :
    Calls Tryz.prog 38 #[.pointer (some ⟨h, 0, none⟩), .agg #[.int .i64 i, .int .u64 q], .int .u64 am, .int .u64 now] w fun e w' => e = .returned (.tuple #[.agg #[.int .i64 0, .int .u64 0], .int .i64 3]) ∧ Chg [] w w' := by
  obtain ⟨e1, e2, e3, e4⟩ := rpartE_0 he
  have hI := fun W (hW : Chg [] w W) => ris_any (hr.quiet hW) hn i q
  have hPA := fun W (hW : Chg [] w W) => rpart_any (hr.quiet hW) hq am now hk hl
  rw [hq] at hI
  rw [he] at hPA
  have HPA := Lib.hid hPA
  have HI := Lib.hid hI
  have hBM : badMake am (r.at_ i q).p now = false := by rw [badMake_eq]; have := hm.1; simp; omega
  obtain ⟨k, p, rfl, hp, hat⟩ := ris_open hq
  have hkl := (List.getElem?_eq_some_iff.1 hp).1
  have HMK := Lib.hid (fun W (hW : Chg [] w W) => rmake_full (hr.quiet hW) (by omega) hn am (r.at_ (k : Nat) q).p now hBM hpk)
  rw [hat] at HMK
  obtain ⟨gl, cl, hSS, hne, _, lgw, lhw, htell, _⟩ := hr.open_ hp
  clear hSS
  obtain ⟨x, hx⟩ : ∃ x, x = p.x := ⟨_, rfl⟩
  rw [← hx] at htell HMK
  have HT := Lib.hid htell
  have i0 : (0 : Int) ≤ (k : Int) := by omega
  have i1 : (k : Int) < (r.L.length : Int) := by omega
  clear hI hPA hr hn hq hk hl he hp hat htell hx hBM hpk e1 e2 e3 e4 x1 p0 p1 hm
  go_enter Tryz.func38, Tryz.ntmps38
  go_wp2_with (first
    | (go_at_call 79; refine (HI.out _ (((Chg.refl _ _).alloc _).alloc _)).mono ?_; rintro e w1 ⟨rfl, hc⟩; obtain ⟨_, d0, d1⟩ := ref_facts (w := w) rfl ((Chg.refl [] _).alloc _) hc; have HC1 := Lib.hid hc; have HC := Lib.hid ((((Chg.refl [] w).alloc _).alloc _).then hc); clear hc)
    | (go_at_call 82; refine (HPA.out _ HC.out).mono ?_; rintro e w2 ⟨rfl, hc⟩; obtain ⟨hz, r0, r1, rf⟩ := ref_facts4 (w := w.alloc (obRef (k : Int) q)) (n := w.heap.size + 1) (by simp) HC1.out hc; obtain ⟨_, d2, d3⟩ := ref_facts (w := w) rfl (((Chg.refl [] _).alloc _).then HC1.out) hc; have HC2 := Lib.hid (HC.out.then hc); have HC12 := Lib.hid (HC1.out.then hc); obtain ⟨a0, a1, a2, b0, b1, b2, b3, b4, b5, b6, fz, fh, lh, lg⟩ := HT.out _ HC2.out; clear hc))
  have hq2 : ¬ (w2.heap.size = gl) := by omega
  have hq3 : ¬ (w2.heap.size = h) := by omega
  have hq4 : ¬ (w2.heap.size = w.heap.size) := by omega
  have hq5 : ¬ (w2.heap.size = w.heap.size + 1) := by omega
  go_region_with (first
    | (go_at_call 34; refine (HMK.out _ HC2.out.drew).mono ?_; rintro e w3 ⟨rfl, hc⟩; obtain ⟨hz3, s0, s1, sf⟩ := ref_facts4 (w := w.alloc (obRef (k : Int) q)) (n := w.heap.size + 1) (by simp) HC12.out.drew hc; have HC3 := Lib.hid (HC2.out.drew.then hc); clear hc)
    | (go_at_call 34; refine (HMK.out _ ((HC2.out.alloc _).drew)).mono ?_; rintro e w3 ⟨rfl, hc⟩; obtain ⟨hz3, s0, s1, sf⟩ := ref_facts4 (w := w.alloc (obRef (k : Int) q)) (n := w.heap.size + 1) (by simp) ((HC12.out.alloc _).drew) hc; obtain ⟨hz4, u0, u1, uf⟩ := ref_facts4 (w := w2) rfl ((Chg.refl [] _).drew) hc; have HC3 := Lib.hid ((HC2.out.alloc _).drew.then hc); clear hc))
  all_goals
    go_wp2
    refine bodyPost_ret (v := .tuple #[.agg #[.int .i64 0, .int .u64 0], .int .i64 3]) (by simp [results, Tryz.results38, go_sem, hz3, s0, s1]) rfl ⟨rfl, by repeat' (first | with_reducible exact HC3.out | with_reducible apply Chg.alloc | with_reducible apply Chg.setCell | (with_reducible refine Or.inr ?_; dsimp only; omega))⟩
end Go.Proofs
end
section
namespace Go.Proofs
open Go.RowKit
set_option linter.unusedVariables false
theorem RTurns.box34 {w w' : World} {h : Nat} {S : List Nat} {r r' : RTab} (hr : RefAt w h S r) (hc : Chg S w w') : ∀ (b : Nat) (cs : Array Value), Blk w b 34 cs → Blk w' b 34 cs := fun b cs hb => hb.chg hc (hr.not_box hb (by decide) (by decide))
theorem rsplit_pull {W W' : World} {h : Nat} {S : List Nat} {r : RTab} {y : Cx} (hT : RTurns h S (r.put y) W W') {i q : Int} (hq : r.is i q = true) (hp : 0 ≤ r.pick) (am now : Int) (hk : Ok (r.at_ i q).l) (hn : (r.at_ i q).l.length ≤ 100000) (hm : U64 am) (b0 : 0 ≤ (r.at_ i q).b - am) (b1 : (r.at_ i q).b - am < 18446744073709551616) :
    Calls Tryz.prog 83 #[.pointer (some ⟨h, 0, none⟩), .agg #[.int .i64 i, .int .u64 q], .int .u64 am, .int .u64 now] W' fun e v => e = .returned (.tuple #[]) ∧ (∀ (b : Nat) (cs : Array Value), Blk W' b 34 cs → Blk v b 34 cs) ∧
      ∃ A m cc, RTurns h S ((r.put y).thing i.toNat ⟨(r.at_ i q).b - am, (r.at_ i q).p, A, m, cc, (r.at_ i q).n, (pullP (r.at_ i q).l now am).1⟩) W v := by
  obtain ⟨S3, h1, h2, h3⟩ := hT
  obtain ⟨f1, f2, _⟩ := rput_other hq hp y
  have hc := rpull_ctx h1 f1 am now (by rw [f2]; exact hk) (by rw [f2]; exact hn) hm (by rw [f2]; exact b0) (by rw [f2]; exact b1)
  rw [f2] at hc
  refine hc.mono ?_
  rintro e v ⟨rfl, A, m, cc, hT2⟩
  obtain ⟨S4, k1, k2, k3⟩ := id hT2
  exact ⟨rfl, RTurns.box34 h1 (r' := r) k3, A, m, cc, hT2.trans h2 h3⟩
/-- What a Split leaves. -/
def SpOut (h : Nat) (S : List Nat) (r : RTab) (i q am now : Int) (w w' : World) : Prop :=
  ∃ A1 m1 c1 A m cc, RTurns h S ((r.put ⟨am, (r.at_ i q).p, A1, m1, c1, 0, [(am, now)]⟩).thing i.toNat ⟨(r.at_ i q).b - am, (r.at_ i q).p, A, m, cc, (r.at_ i q).n, (pullP (r.at_ i q).l now am).1⟩) w w'
set_option maxHeartbeats 6400000 in
set_option maxRecDepth 100000 in
theorem rsplit_yes {w : World} {h : Nat} {S : List Nat} {r : RTab} (hr : RefAt w h S r) (hn : r.L.length ≤ 100) {i q : Int} (am now : Int) (hq : r.is i q = true) (hk : Ok (r.at_ i q).l) (hl : (r.at_ i q).l.length ≤ 100000) (he : rpartE (r.at_ i q) am now = 0) (hm : U64 am)
    (x1 : (r.at_ i q).b ≤ 4294967296) (p0 : 1 ≤ (r.at_ i q).p) (p1 : (r.at_ i q).p ≤ 4294967296) (hpk : 0 ≤ r.pick) :
    Calls Tryz.prog 38 #[.pointer (some ⟨h, 0, none⟩), .agg #[.int .i64 i, .int .u64 q], .int .u64 am, .int .u64 now] w fun e w' => e = .returned (.tuple #[.agg #[.int .i64 r.pick, .int .u64 (r.genAt r.pick.toNat)], .int .i64 0]) ∧ SpOut h S r i q am now w w' := by
  obtain ⟨e1, e2, e3, e4⟩ := rpartE_0 he
  have hI := fun W (hW : Chg [] w W) => ris_any (hr.quiet hW) hn i q
  have hPA := fun W (hW : Chg [] w W) => rpart_any (hr.quiet hW) hq am now hk hl
  rw [hq] at hI
  rw [he] at hPA
  have HPA := Lib.hid hPA
  have HI := Lib.hid hI
  have HPULL := Lib.hid (fun (W W' : World) (y : Cx) (hT : RTurns h S (r.put y) W W') => rsplit_pull hT hq hpk am now hk hl hm (by omega) (by have := hm.1; omega))
  have hBM : badMake am (r.at_ i q).p now = false := by rw [badMake_eq]; have := hm.1; simp; omega
  have HX := Lib.hid hr.box
  unfold SpOut
  obtain ⟨k, p, rfl, hp, hat⟩ := ris_open hq
  have hkl := (List.getElem?_eq_some_iff.1 hp).1
  have HMK := Lib.hid (fun W (hW : Chg [] w W) => rmake_put (hr.quiet hW) (by omega) hn am (r.at_ (k : Nat) q).p now hBM hpk)
  rw [hat] at HMK HPULL ⊢
  obtain ⟨gl, cl, hSS, hne, _, lgw, lhw, htell, _⟩ := hr.open_ hp
  clear hSS
  obtain ⟨x, hx⟩ : ∃ x, x = p.x := ⟨_, rfl⟩
  rw [← hx] at htell HMK HPULL ⊢
  have HT := Lib.hid htell
  have i0 : (0 : Int) ≤ (k : Int) := by omega
  have i1 : (k : Int) < (r.L.length : Int) := by omega
  obtain ⟨P, hP⟩ : ∃ P, P = r.pick := ⟨_, rfl⟩
  obtain ⟨G, hG⟩ : ∃ G, G = r.genAt r.pick.toNat := ⟨_, rfl⟩
  rw [← hG, ← hP] at HMK ⊢
  clear hI hPA hr hn hq hk hl he hp hat htell hx hBM hpk e1 e2 e3 e4 x1 p0 p1 hm hP hG
  go_enter Tryz.func38, Tryz.ntmps38
  go_wp2_with (first
    | (go_at_call 79; refine (HI.out _ (((Chg.refl _ _).alloc _).alloc _)).mono ?_; rintro e w1 ⟨rfl, hc⟩; obtain ⟨_, d0, d1⟩ := ref_facts (w := w) rfl ((Chg.refl [] _).alloc _) hc; have HC1 := Lib.hid hc; have HC := Lib.hid ((((Chg.refl [] w).alloc _).alloc _).then hc); clear hc)
    | (go_at_call 82; refine (HPA.out _ HC.out).mono ?_; rintro e w2 ⟨rfl, hc⟩; have HB8 := Lib.hid (((Blk.at (w.alloc (obRef (k : Int) q)) 34 #[.int .i64 0, .int .u64 0] (n := w.heap.size + 1) (by simp)).chg HC1.out (by simp)).chg hc (by simp)); have HB5 := Lib.hid ((((Blk.new w 34 #[.int .i64 (k : Int), .int .u64 q]).alloc (obRef 0 0)).chg HC1.out (by simp)).chg hc (by simp)); have hz := HB8.out.lt; have hz0 := HB5.out.lt; have r0 : w2.cell? ⟨w.heap.size + 1, 0, none⟩ = some (.int .i64 0) := HB8.out.cell 0; have r1 : w2.cell? ⟨w.heap.size + 1, 1, none⟩ = some (.int .u64 0) := HB8.out.cell 1; have d2 : w2.cell? ⟨w.heap.size, 0, none⟩ = some (.int .i64 k) := HB5.out.cell 0; have d3 : w2.cell? ⟨w.heap.size, 1, none⟩ = some (.int .u64 q) := HB5.out.cell 1; have HC2 := Lib.hid (HC.out.then hc); obtain ⟨a0, a1, a2, b0, b1, b2, b3, b4, b5, b6, fz, fh, lh, lg⟩ := HT.out _ HC2.out; clear hc))
  have hq2 : ¬ (w2.heap.size = gl) := by omega
  have hq3 : ¬ (w2.heap.size = h) := by omega
  have hq4 : ¬ (w2.heap.size = w.heap.size) := by omega
  have hq5 : ¬ (w2.heap.size = w.heap.size + 1) := by omega
  go_region_with (first
    | (go_at_call 34; refine (HMK.out _ HC2.out.drew).mono ?_; rintro e w3 ⟨rfl, A1, m1, c1, hT⟩; obtain ⟨S3, t1, t2, t3⟩ := id hT; have HB83 := Lib.hid (HB8.out.drew.chg t3 (HX.out _ (by omega))); have HB53 := Lib.hid (HB5.out.drew.chg t3 (HX.out _ (Nat.le_refl _))); have s0 : w3.cell? ⟨w.heap.size, 0, none⟩ = some (.int .i64 k) := HB53.out.cell 0; have s1 : w3.cell? ⟨w.heap.size, 1, none⟩ = some (.int .u64 q) := HB53.out.cell 1; have hz3 := HB83.out.lt; have hz30 := HB53.out.lt; have HT3 := Lib.hid (hT.earlier HC2.out.drew); clear hT t1 t2 t3)
    | (go_at_call 34; refine (HMK.out _ ((HC2.out.alloc _).drew)).mono ?_; rintro e w3 ⟨rfl, A1, m1, c1, hT⟩; obtain ⟨S3, t1, t2, t3⟩ := id hT; have HB83 := Lib.hid ((HB8.out.alloc _).drew.chg t3 (HX.out _ (by omega))); have HB53 := Lib.hid ((HB5.out.alloc _).drew.chg t3 (HX.out _ (Nat.le_refl _))); have HBN := Lib.hid ((Blk.new w2 34 #[.int .i64 0, .int .u64 0]).drew.chg t3 (HX.out _ (by omega))); have u0 : w3.cell? ⟨w2.heap.size, 0, none⟩ = some (.int .i64 0) := HBN.out.cell 0; have u1 : w3.cell? ⟨w2.heap.size, 1, none⟩ = some (.int .u64 0) := HBN.out.cell 1; have uf := HBN.out.frozen; have s0 : w3.cell? ⟨w.heap.size, 0, none⟩ = some (.int .i64 k) := HB53.out.cell 0; have s1 : w3.cell? ⟨w.heap.size, 1, none⟩ = some (.int .u64 q) := HB53.out.cell 1; have hz3 := HB83.out.lt; have hz30 := HB53.out.lt; have hz4 := HBN.out.lt; have HT3 := Lib.hid (hT.earlier ((HC2.out.alloc _).drew)); clear hT t1 t2 t3))
  all_goals
    first
    | (have HT4 := Lib.hid (HT3.out.later ((Chg.refl [] w3).alloc (.cells #[.int .i64 P, .int .u64 G] 34))); have HBN4 := Lib.hid (Blk.new w3 34 #[.int .i64 P, .int .u64 G]); have HB84 := Lib.hid (HB83.out.alloc (.cells #[.int .i64 P, .int .u64 G] 34))
       go_wp2_with (go_at_call 83; refine (HPULL.out _ _ _ HT4.out).mono ?_; rintro e w5 ⟨rfl, hbx, A, m, cc, hT5⟩; have HB85 := Lib.hid (hbx _ _ HB84.out); have v0 := (hbx _ _ HBN4.out).cell 0; have v1 := (hbx _ _ HBN4.out).cell 1; have y0 := HB85.out.cell 0; have y1 := HB85.out.cell 1; have yf := HB85.out.frozen; have HT5 := Lib.hid hT5; clear hbx hT5)
       refine bodyPost_ret (v := .tuple #[.agg #[.int .i64 P, .int .u64 G], .int .i64 0]) (by simp [results, Tryz.results38, go_sem, y0, y1]) rfl ⟨rfl, A1, m1, c1, A, m, cc, ?_⟩
       refine HT5.out.box HB85.out (by decide) (by decide) (by decide) (by omega) ?_
       repeat' (first | with_reducible exact Chg.refl _ _ | with_reducible apply Chg.drew | with_reducible apply Chg.setCell | (with_reducible refine Or.inl ?_; simp; done)))
    | (have HT4 := Lib.hid (HT3.out.box HBN.out (by decide) (by decide) (by decide) (by omega) (((Chg.refl [w2.heap.size] w3).setCell (p := ⟨w2.heap.size, 0, none⟩) (.inl (by simp)) (.int .i64 P)).setCell (p := ⟨w2.heap.size, 1, none⟩) (.inl (by simp)) (.int .u64 G))); have hbn4 := (HBN.out.set_ 0 (.int .i64 P)).set_ 1 (.int .u64 G); have HBN4 := Lib.hid hbn4; have HB84 := Lib.hid ((HB83.out.far (p := ⟨w2.heap.size, 0, none⟩) (show w.heap.size + 1 ≠ w2.heap.size by omega) (.int .i64 P)).far (p := ⟨w2.heap.size, 1, none⟩) (show w.heap.size + 1 ≠ w2.heap.size by omega) (.int .u64 G)); clear hbn4
       go_wp2_with (go_at_call 83; refine (HPULL.out _ _ _ HT4.out).mono ?_; rintro e w5 ⟨rfl, hbx, A, m, cc, hT5⟩; have HB85 := Lib.hid (hbx _ _ HB84.out); have v0 := (hbx _ _ HBN4.out).cell 0; have v1 := (hbx _ _ HBN4.out).cell 1; have y0 := HB85.out.cell 0; have y1 := HB85.out.cell 1; have yf := HB85.out.frozen; have HT5 := Lib.hid hT5; clear hbx hT5)
       refine bodyPost_ret (v := .tuple #[.agg #[.int .i64 P, .int .u64 G], .int .i64 0]) (by simp [results, Tryz.results38, go_sem, y0, y1]) rfl ⟨rfl, A1, m1, c1, A, m, cc, ?_⟩
       refine HT5.out.box HB85.out (by decide) (by decide) (by decide) (by omega) ?_
       repeat' (first | with_reducible exact Chg.refl _ _ | with_reducible apply Chg.drew | with_reducible apply Chg.setCell | (with_reducible refine Or.inl ?_; simp; done)))
end Go.Proofs
end
section
namespace Go.Proofs
open Go.RowKit
set_option linter.unusedVariables false
theorem two_facts {w W w2 : World} {i q j p : Int} (hW : Chg [] ((w.alloc (obRef i q)).alloc (obRef j p)) W) (hc : Chg [] W w2) :
    w.heap.size < w2.heap.size ∧ w.heap.size + 1 < w2.heap.size ∧ w2.cell? ⟨w.heap.size, 0, none⟩ = some (.int .i64 i) ∧ w2.cell? ⟨w.heap.size, 1, none⟩ = some (.int .u64 q) ∧ w2.cell? ⟨w.heap.size + 1, 0, none⟩ = some (.int .i64 j) ∧ w2.cell? ⟨w.heap.size + 1, 1, none⟩ = some (.int .u64 p) ∧ Chg [] w w2 := by
  have h1 := (((Blk.new w 34 #[.int .i64 i, .int .u64 q]).alloc (obRef j p)).chg hW (by simp)).chg hc (by simp)
  have h2 := ((Blk.at (w.alloc (obRef i q)) 34 #[.int .i64 j, .int .u64 p] (n := w.heap.size + 1) (by simp)).chg hW (by simp)).chg hc (by simp)
  exact ⟨h1.lt, h2.lt, h1.cell 0, h1.cell 1, h2.cell 0, h2.cell 1, (((Chg.refl [] w).alloc _).alloc _).then (hW.then hc)⟩
set_option maxHeartbeats 6400000 in
set_option maxRecDepth 100000 in
theorem rdonate_a {w : World} {h : Nat} {S : List Nat} {r : RTab} (hr : RefAt w h S r) (hn : r.L.length ≤ 100) {fi fq ti tq : Int} (am now : Int) (hf : r.is fi fq = false) :
    Calls Tryz.prog 39 #[.pointer (some ⟨h, 0, none⟩), .agg #[.int .i64 fi, .int .u64 fq], .agg #[.int .i64 ti, .int .u64 tq], .int .u64 am, .int .u64 now] w fun e w' => e = .returned (.int .i64 11) ∧ Chg [] w w' := by
  have hIF := fun W (hW : Chg [] w W) => ris_any (hr.quiet hW) hn fi fq
  have hIT := fun W (hW : Chg [] w W) => ris_any (hr.quiet hW) hn ti tq
  rw [hf] at hIF
  have HIF := Lib.hid hIF
  clear hr hn hf hIF hIT
  go_enter Tryz.func39, Tryz.ntmps39
  go_wp2_with (go_at_call 79; (with_reducible refine (HIF.out _ (((Chg.refl _ _).alloc _).alloc _)).mono ?_); rintro e w1 ⟨rfl, hc⟩; obtain ⟨l0, l1, d0, d1, d2, d3, hcc⟩ := two_facts (w := w) (Chg.refl [] _) hc; have HC1 := Lib.hid hc; have HC := Lib.hid hcc; clear hc hcc)
  go_ret
  exact ⟨rfl, HC.out⟩
set_option maxHeartbeats 6400000 in
set_option maxRecDepth 100000 in
theorem rdonate_b {w : World} {h : Nat} {S : List Nat} {r : RTab} (hr : RefAt w h S r) (hn : r.L.length ≤ 100) {fi fq ti tq : Int} (am now : Int) (hf : r.is fi fq = true) (ht : r.is ti tq = false) :
    Calls Tryz.prog 39 #[.pointer (some ⟨h, 0, none⟩), .agg #[.int .i64 fi, .int .u64 fq], .agg #[.int .i64 ti, .int .u64 tq], .int .u64 am, .int .u64 now] w fun e w' => e = .returned (.int .i64 11) ∧ Chg [] w w' := by
  have hIF := fun W (hW : Chg [] w W) => ris_any (hr.quiet hW) hn fi fq
  have hIT := fun W (hW : Chg [] w W) => ris_any (hr.quiet hW) hn ti tq
  rw [hf] at hIF
  rw [ht] at hIT
  have HIF := Lib.hid hIF
  have HIT := Lib.hid hIT
  clear hr hn hf hIF ht hIT
  go_enter Tryz.func39, Tryz.ntmps39
  go_wp2_with (first
    | (go_at_call 79; (with_reducible refine (HIF.out _ (((Chg.refl _ _).alloc _).alloc _)).mono ?_); rintro e w1 ⟨rfl, hc⟩; obtain ⟨l0, l1, d0, d1, d2, d3, hcc⟩ := two_facts (w := w) (Chg.refl [] _) hc; have HC1 := Lib.hid hc; have HC := Lib.hid hcc; clear hc hcc)
    | (go_at_call 79; (with_reducible refine (HIT.out _ HC.out).mono ?_); rintro e w2 ⟨rfl, hc⟩; obtain ⟨m0, m1, f0, f1, f2, f3, hcc⟩ := two_facts (w := w) HC1.out hc; have HC12 := Lib.hid (HC1.out.then hc); have HC2 := Lib.hid hcc; clear hc hcc))
  go_ret
  exact ⟨rfl, HC2.out⟩
set_option maxHeartbeats 6400000 in
set_option maxRecDepth 100000 in
theorem rdonate_c {w : World} {h : Nat} {S : List Nat} {r : RTab} (hr : RefAt w h S r) (hn : r.L.length ≤ 100) {fi fq ti tq : Int} (am now : Int) (hf : r.is fi fq = true) (ht : r.is ti tq = true) (he : fi = ti) :
    Calls Tryz.prog 39 #[.pointer (some ⟨h, 0, none⟩), .agg #[.int .i64 fi, .int .u64 fq], .agg #[.int .i64 ti, .int .u64 tq], .int .u64 am, .int .u64 now] w fun e w' => e = .returned (.int .i64 2) ∧ Chg [] w w' := by
  have hIF := fun W (hW : Chg [] w W) => ris_any (hr.quiet hW) hn fi fq
  have hIT := fun W (hW : Chg [] w W) => ris_any (hr.quiet hW) hn ti tq
  rw [hf] at hIF
  rw [ht] at hIT
  subst he
  have HIF := Lib.hid hIF
  have HIT := Lib.hid hIT
  have hb : (fi == fi) = true := by simp
  clear hr hn hf hIF ht hIT
  go_enter Tryz.func39, Tryz.ntmps39
  go_wp2_with (first
    | (go_at_call 79; (with_reducible refine (HIF.out _ (((Chg.refl _ _).alloc _).alloc _)).mono ?_); rintro e w1 ⟨rfl, hc⟩; obtain ⟨l0, l1, d0, d1, d2, d3, hcc⟩ := two_facts (w := w) (Chg.refl [] _) hc; have HC1 := Lib.hid hc; have HC := Lib.hid hcc; clear hc hcc)
    | (go_at_call 79; (with_reducible refine (HIT.out _ HC.out).mono ?_); rintro e w2 ⟨rfl, hc⟩; obtain ⟨m0, m1, f0, f1, f2, f3, hcc⟩ := two_facts (w := w) HC1.out hc; have HC12 := Lib.hid (HC1.out.then hc); have HC2 := Lib.hid hcc; clear hc hcc))
  go_ret
  exact ⟨rfl, HC2.out⟩
set_option maxHeartbeats 6400000 in
set_option maxRecDepth 100000 in
theorem rdonate_d {w : World} {h : Nat} {S : List Nat} {r : RTab} (hr : RefAt w h S r) (hn : r.L.length ≤ 100) {fi fq ti tq : Int} (am now : Int) (hf : r.is fi fq = true) (ht : r.is ti tq = true) (he : fi ≠ ti) (hk : Ok (r.at_ fi fq).l) (hl : (r.at_ fi fq).l.length ≤ 100000) (hp : rpartE (r.at_ fi fq) am now ≠ 0) :
    Calls Tryz.prog 39 #[.pointer (some ⟨h, 0, none⟩), .agg #[.int .i64 fi, .int .u64 fq], .agg #[.int .i64 ti, .int .u64 tq], .int .u64 am, .int .u64 now] w fun e w' => e = .returned (.int .i64 (rpartE (r.at_ fi fq) am now)) ∧ Chg [] w w' := by
  have hIF := fun W (hW : Chg [] w W) => ris_any (hr.quiet hW) hn fi fq
  have hIT := fun W (hW : Chg [] w W) => ris_any (hr.quiet hW) hn ti tq
  have hPA := fun W (hW : Chg [] w W) => rpart_any (hr.quiet hW) hf am now hk hl
  rw [hf] at hIF
  rw [ht] at hIT
  obtain ⟨k, p, rfl, hpp, hat⟩ := ris_open ht
  obtain ⟨gl, cl, hSS, hne, _, lgw, lhw, htell, _⟩ := hr.open_ hpp
  clear hSS
  have HT := Lib.hid htell
  obtain ⟨E, hE⟩ : ∃ E, E = rpartE (r.at_ fi fq) am now := ⟨_, rfl⟩
  rw [← hE] at hPA hp ⊢
  have HPA := Lib.hid hPA
  have HIF := Lib.hid hIF
  have HIT := Lib.hid hIT
  have hb : (fi == ((k : Nat) : Int)) = false := by simpa using he
  have hb2 : (E != 0) = true := by simpa using hp
  clear hr hn hf hIF ht hIT he hk hl hp hE hPA hpp hat htell
  go_enter Tryz.func39, Tryz.ntmps39
  go_wp2_with (first
    | (go_at_call 79; (with_reducible refine (HIF.out _ (((Chg.refl _ _).alloc _).alloc _)).mono ?_); rintro e w1 ⟨rfl, hc⟩; obtain ⟨l0, l1, d0, d1, d2, d3, hcc⟩ := two_facts (w := w) (Chg.refl [] _) hc; have HC1 := Lib.hid hc; have HC := Lib.hid hcc; clear hc hcc)
    | (go_at_call 79; (with_reducible refine (HIT.out _ HC.out).mono ?_); rintro e w2 ⟨rfl, hc⟩; obtain ⟨m0, m1, f0, f1, f2, f3, hcc⟩ := two_facts (w := w) HC1.out hc; have HC12 := Lib.hid (HC1.out.then hc); have HC2 := Lib.hid hcc; clear hc hcc)
    | (go_at_call 82; refine (HPA.out _ HC2.out).mono ?_; rintro e w3 ⟨rfl, hc⟩; obtain ⟨n0, n1, g0, g1, g2, g3, hcc⟩ := two_facts (w := w) HC12.out hc; have HC13 := Lib.hid (HC12.out.then hc); have HC3 := Lib.hid hcc; obtain ⟨a0, a1, a2, b0, b1, b2, b3, b4, b5, b6, fz, fh, lh, lg⟩ := HT.out _ HC3.out; clear hc hcc))
  go_ret
  exact ⟨rfl, HC3.out⟩
set_option maxHeartbeats 6400000 in
set_option maxRecDepth 100000 in
theorem rdonate_e {w : World} {h : Nat} {S : List Nat} {r : RTab} (hr : RefAt w h S r) (hn : r.L.length ≤ 100) {fi fq ti tq : Int} (am now : Int) (hf : r.is fi fq = true) (ht : r.is ti tq = true) (he : fi ≠ ti) (hk : Ok (r.at_ fi fq).l) (hl : (r.at_ fi fq).l.length ≤ 100000) (hk2 : Ok (r.at_ ti tq).l) (hl2 : (r.at_ ti tq).l.length ≤ 100000) (hp : rpartE (r.at_ fi fq) am now = 0) (hm : U64 am) (x1 : (r.at_ fi fq).b ≤ 4294967296) (y0 : 0 ≤ (r.at_ ti tq).b) (y1 : (r.at_ ti tq).b ≤ 4294967296) (ho : 4294967296 < (r.at_ ti tq).b + am) :
    Calls Tryz.prog 39 #[.pointer (some ⟨h, 0, none⟩), .agg #[.int .i64 fi, .int .u64 fq], .agg #[.int .i64 ti, .int .u64 tq], .int .u64 am, .int .u64 now] w fun e w' => e = .returned (.int .i64 6) ∧ Chg [] w w' := by
  have hIF := fun W (hW : Chg [] w W) => ris_any (hr.quiet hW) hn fi fq
  have hIT := fun W (hW : Chg [] w W) => ris_any (hr.quiet hW) hn ti tq
  obtain ⟨q1, q2, q3, q4⟩ := rpartE_0 hp
  have hPA := fun W (hW : Chg [] w W) => rpart_any (hr.quiet hW) hf am now hk hl
  have hGV := fun W (hW : Chg [] w W) => rgive_any ((hr.quiet hW).rd ti tq).inn hk2 hl2 (now := now) (most := r.most) hm
  rw [hp] at hPA
  rw [hf] at hIF
  rw [ht] at hIT
  obtain ⟨k, p, rfl, hpp, hat⟩ := ris_open ht
  obtain ⟨gl, cl, hSS, hne, _, lgw, lhw, htell, hset, _⟩ := hr.open_ hpp
  clear hSS
  rw [hat] at hGV y0 y1 ho
  obtain ⟨y, hy⟩ : ∃ y, y = p.x := ⟨_, rfl⟩
  rw [← hy] at htell hGV y0 y1 ho
  obtain ⟨M, hM⟩ : ∃ M, M = r.most := ⟨_, rfl⟩
  rw [← hM] at htell hGV
  obtain ⟨gvl, hgvl⟩ : ∃ gvl, gvl = (giveP y.l now am M).1 := ⟨_, rfl⟩
  obtain ⟨gve, hgve⟩ : ∃ gve, gve = (giveP y.l now am M).2 := ⟨_, rfl⟩
  rw [← hgvl, ← hgve] at hGV
  have d1 : decide (4294967296 < y.b + am) = true := by simpa using ho
  have HT := Lib.hid htell
  have HPA := Lib.hid hPA
  have HIF := Lib.hid hIF
  have HIT := Lib.hid hIT
  have HGV := Lib.hid hGV
  have hb : (fi == ((k : Nat) : Int)) = false := by simpa using he
  have e1 : IntKind.u64.wrap (y.b + am) = y.b + am := by rw [IntKind.wrap_u64]; have := hm.1; omega
  have i0 : (0 : Int) ≤ (k : Int) := by omega
  have i1 : (k : Int) < (r.L.length : Int) := by have := (List.getElem?_eq_some_iff.1 hpp).1; omega
  clear hr hn hf hIF ht hIT he hk hl hp hPA hpp hat htell hset hGV hgvl hk2 hl2 hm q1 q2 q3 q4 x1 y0 y1 hM hy hgve ho
  go_enter Tryz.func39, Tryz.ntmps39
  go_wp2_with (first
    | (go_at_call 79; (with_reducible refine (HIF.out _ (((Chg.refl _ _).alloc _).alloc _)).mono ?_); rintro e w1 ⟨rfl, hc⟩; obtain ⟨l0, l1, d0, d1, d2, d3, hcc⟩ := two_facts (w := w) (Chg.refl [] _) hc; have HC1 := Lib.hid hc; have HC := Lib.hid hcc; clear hc hcc)
    | (go_at_call 79; (with_reducible refine (HIT.out _ HC.out).mono ?_); rintro e w2 ⟨rfl, hc⟩; obtain ⟨m0, m1, f0, f1, f2, f3, hcc⟩ := two_facts (w := w) HC1.out hc; have HC12 := Lib.hid (HC1.out.then hc); have HC2 := Lib.hid hcc; clear hc hcc)
    | (go_at_call 82; refine (HPA.out _ HC2.out).mono ?_; rintro e w3 ⟨rfl, hc⟩; obtain ⟨n0, n1, g0, g1, g2, g3, hcc⟩ := two_facts (w := w) HC12.out hc; have HC13 := Lib.hid (HC12.out.then hc); have HC3 := Lib.hid hcc; obtain ⟨a0, a1, a2, b0, b1, b2, b3, b4, b5, b6, fz, fh, lh, lg⟩ := HT.out _ HC3.out; clear hc hcc))
  have hq2 : ¬ (w3.heap.size = gl) := by omega
  have hq3 : ¬ (w3.heap.size = h) := by omega
  have hq4 : ¬ (w3.heap.size = w.heap.size) := by omega
  have hq5 : ¬ (w3.heap.size = w.heap.size + 1) := by omega
  go_region
  go_wp2
  go_ret
  exact ⟨rfl, by repeat' (first | with_reducible exact HC3.out | with_reducible apply Chg.alloc | with_reducible apply Chg.drew)⟩
set_option maxHeartbeats 6400000 in
set_option maxRecDepth 100000 in
theorem rdonate_f {w : World} {h : Nat} {S : List Nat} {r : RTab} (hr : RefAt w h S r) (hn : r.L.length ≤ 100) {fi fq ti tq : Int} (am now : Int) (hf : r.is fi fq = true) (ht : r.is ti tq = true) (he : fi ≠ ti) (hk : Ok (r.at_ fi fq).l) (hl : (r.at_ fi fq).l.length ≤ 100000) (hk2 : Ok (r.at_ ti tq).l) (hl2 : (r.at_ ti tq).l.length ≤ 100000) (hp : rpartE (r.at_ fi fq) am now = 0) (hm : U64 am) (x1 : (r.at_ fi fq).b ≤ 4294967296) (y0 : 0 ≤ (r.at_ ti tq).b) (y1 : (r.at_ ti tq).b ≤ 4294967296) (ho : ¬ 4294967296 < (r.at_ ti tq).b + am) (hg : (giveP (r.at_ ti tq).l now am r.most).2 ≠ 0) :
    Calls Tryz.prog 39 #[.pointer (some ⟨h, 0, none⟩), .agg #[.int .i64 fi, .int .u64 fq], .agg #[.int .i64 ti, .int .u64 tq], .int .u64 am, .int .u64 now] w fun e w' => e = .returned (.int .i64 (giveP (r.at_ ti tq).l now am r.most).2) ∧ Chg [] w w' := by
  have hIF := fun W (hW : Chg [] w W) => ris_any (hr.quiet hW) hn fi fq
  have hIT := fun W (hW : Chg [] w W) => ris_any (hr.quiet hW) hn ti tq
  obtain ⟨q1, q2, q3, q4⟩ := rpartE_0 hp
  have hPA := fun W (hW : Chg [] w W) => rpart_any (hr.quiet hW) hf am now hk hl
  have hGV := fun W (hW : Chg [] w W) => rgive_any ((hr.quiet hW).rd ti tq).inn hk2 hl2 (now := now) (most := r.most) hm
  rw [hp] at hPA
  rw [hf] at hIF
  rw [ht] at hIT
  obtain ⟨k, p, rfl, hpp, hat⟩ := ris_open ht
  obtain ⟨gl, cl, hSS, hne, _, lgw, lhw, htell, hset, _⟩ := hr.open_ hpp
  clear hSS
  rw [hat] at hGV y0 y1 ho hg ⊢
  obtain ⟨y, hy⟩ : ∃ y, y = p.x := ⟨_, rfl⟩
  rw [← hy] at htell hGV y0 y1 ho hg ⊢
  obtain ⟨M, hM⟩ : ∃ M, M = r.most := ⟨_, rfl⟩
  rw [← hM] at htell hGV hg ⊢
  obtain ⟨gvl, hgvl⟩ : ∃ gvl, gvl = (giveP y.l now am M).1 := ⟨_, rfl⟩
  obtain ⟨gve, hgve⟩ : ∃ gve, gve = (giveP y.l now am M).2 := ⟨_, rfl⟩
  rw [← hgvl, ← hgve] at hGV
  rw [← hgve] at hg ⊢
  have d1 : decide (4294967296 < y.b + am) = false := by simpa using ho
  have d2 : (gve != 0) = true := by simpa using hg
  have HT := Lib.hid htell
  have HPA := Lib.hid hPA
  have HIF := Lib.hid hIF
  have HIT := Lib.hid hIT
  have HGV := Lib.hid hGV
  have hb : (fi == ((k : Nat) : Int)) = false := by simpa using he
  have e1 : IntKind.u64.wrap (y.b + am) = y.b + am := by rw [IntKind.wrap_u64]; have := hm.1; omega
  have i0 : (0 : Int) ≤ (k : Int) := by omega
  have i1 : (k : Int) < (r.L.length : Int) := by have := (List.getElem?_eq_some_iff.1 hpp).1; omega
  clear hr hn hf hIF ht hIT he hk hl hp hPA hpp hat htell hset hGV hgvl hk2 hl2 hm q1 q2 q3 q4 x1 y0 y1 hM hy hgve ho hg
  go_enter Tryz.func39, Tryz.ntmps39
  go_wp2_with (first
    | (go_at_call 79; (with_reducible refine (HIF.out _ (((Chg.refl _ _).alloc _).alloc _)).mono ?_); rintro e w1 ⟨rfl, hc⟩; obtain ⟨l0, l1, d0, d1, d2, d3, hcc⟩ := two_facts (w := w) (Chg.refl [] _) hc; have HC1 := Lib.hid hc; have HC := Lib.hid hcc; clear hc hcc)
    | (go_at_call 79; (with_reducible refine (HIT.out _ HC.out).mono ?_); rintro e w2 ⟨rfl, hc⟩; obtain ⟨m0, m1, f0, f1, f2, f3, hcc⟩ := two_facts (w := w) HC1.out hc; have HC12 := Lib.hid (HC1.out.then hc); have HC2 := Lib.hid hcc; clear hc hcc)
    | (go_at_call 82; refine (HPA.out _ HC2.out).mono ?_; rintro e w3 ⟨rfl, hc⟩; obtain ⟨n0, n1, g0, g1, g2, g3, hcc⟩ := two_facts (w := w) HC12.out hc; have HC13 := Lib.hid (HC12.out.then hc); have HC3 := Lib.hid hcc; obtain ⟨a0, a1, a2, b0, b1, b2, b3, b4, b5, b6, fz, fh, lh, lg⟩ := HT.out _ HC3.out; clear hc hcc))
  have hq2 : ¬ (w3.heap.size = gl) := by omega
  have hq3 : ¬ (w3.heap.size = h) := by omega
  have hq4 : ¬ (w3.heap.size = w.heap.size) := by omega
  have hq5 : ¬ (w3.heap.size = w.heap.size + 1) := by omega
  go_region
  go_wp2
  go_region_held3 (fun w' => w'.cell? ⟨w3.heap.size, 2, none⟩ = some (.slice y.a y.m y.c) ∧ w'.cell? ⟨h, 2, none⟩ = some (.int .i64 M))
    (first | go_keep)
    (first
      | (go_at_call 84; refine (HGV.out _ (by exact ((HC3.out.alloc _).drew.drew))).mono ?_; rintro e w4 ⟨v4, rfl, hmn⟩; obtain ⟨A4, c4, rfl, _⟩ := hmn.1.open_; have hcc := hmn.2.2; obtain ⟨k0, k1, k2, k3, kf, kl⟩ := cx4_facts (w1 := w3) ((Chg.refl [] _).drew.drew) hcc; obtain ⟨o0, o1, j0, j1, j2, j3, hc4⟩ := two_facts (w := w) ((HC13.out.alloc _).drew.drew) hcc; have HC4 := Lib.hid hc4; have HMN := Lib.hid hmn.1; have HBX := Lib.hid ((Blk.new w3 43 #[.int .u64 y.b, .int .u64 y.p, .slice y.a y.m y.c, .int .i64 y.n]).drew.drew.chg hcc (by simp)); have HQ4 := Lib.hid (((HC13.out.alloc _).drew.drew).then hcc); obtain ⟨aa0, aa1, aa2, bb0, bb1, bb2, bb3, bb4, bb5, bb6, ffz, ffh, llh, llg⟩ := HT.out _ HC4.out; clear hmn hcc hc4))
  all_goals
    go_wp2
    go_ret
    exact ⟨rfl, HC4.out⟩
end Go.Proofs
end
section
namespace Go.Proofs
open Go.RowKit
set_option linter.unusedVariables false
theorem rthing_other {r : RTab} {fi fq : Int} {k : Nat} (hf : r.is fi fq = true) (hne : fi ≠ (k : Nat)) (y : Cx) : (r.thing k y).is fi fq = true ∧ (r.thing k y).at_ fi fq = r.at_ fi fq := by
  obtain ⟨j, p, rfl, hj, hth, hg⟩ := ris_iff.1 hf
  have hjk : j ≠ k := by omega
  have h1 : (r.thing k y).L[j]? = some p := by
    unfold RTab.thing
    cases hk : r.L[k]? with
    | none => exact hj
    | some pp => simp only; rw [List.getElem?_set_ne (fun e => hjk e.symm)]; exact hj
  have h2 : (r.thing k y).is (j : Nat) fq = true := ris_iff.2 ⟨j, p, rfl, h1, hth, hg⟩
  exact ⟨h2, by rw [RTab.at_yes h2 h1, RTab.at_yes hf hj]⟩
theorem rdonate_pull {W W' : World} {h : Nat} {S : List Nat} {r : RTab} {y : Cx} {k : Nat} (hT : RTurns h S (r.thing k y) W W') {fi fq : Int} (hf : r.is fi fq = true) (hne : fi ≠ (k : Nat)) (am now : Int) (hk : Ok (r.at_ fi fq).l) (hn : (r.at_ fi fq).l.length ≤ 100000) (hm : U64 am) (b0 : 0 ≤ (r.at_ fi fq).b - am) (b1 : (r.at_ fi fq).b - am < 18446744073709551616) :
    Calls Tryz.prog 83 #[.pointer (some ⟨h, 0, none⟩), .agg #[.int .i64 fi, .int .u64 fq], .int .u64 am, .int .u64 now] W' fun e v => e = .returned (.tuple #[]) ∧
      ∃ A m cc, RTurns h S ((r.thing k y).thing fi.toNat ⟨(r.at_ fi fq).b - am, (r.at_ fi fq).p, A, m, cc, (r.at_ fi fq).n, (pullP (r.at_ fi fq).l now am).1⟩) W v := by
  obtain ⟨S3, h1, h2, h3⟩ := hT
  obtain ⟨f1, f2⟩ := rthing_other hf hne y
  have hc := rpull_ctx h1 f1 am now (by rw [f2]; exact hk) (by rw [f2]; exact hn) hm (by rw [f2]; exact b0) (by rw [f2]; exact b1)
  rw [f2] at hc
  refine hc.mono ?_
  rintro e v ⟨rfl, A, m, cc, hT2⟩
  exact ⟨rfl, A, m, cc, hT2.trans h2 h3⟩
/-- What a Donate leaves. -/
def DnOut (h : Nat) (S : List Nat) (r : RTab) (fi fq : Int) (k : Nat) (y : Cx) (am now : Int) (w w' : World) : Prop :=
  ∃ A m cc A' m' cc', RTurns h S ((r.thing k ⟨y.b + am, y.p, A', m', cc', y.n, (giveP y.l now am r.most).1⟩).thing fi.toNat ⟨(r.at_ fi fq).b - am, (r.at_ fi fq).p, A, m, cc, (r.at_ fi fq).n, (pullP (r.at_ fi fq).l now am).1⟩) w w'
set_option maxHeartbeats 6400000 in
set_option maxRecDepth 100000 in
theorem rdonate_yes {w : World} {h : Nat} {S : List Nat} {r : RTab} (hr : RefAt w h S r) (hn : r.L.length ≤ 100) {fi fq ti tq : Int} (am now : Int) (hf : r.is fi fq = true) (ht : r.is ti tq = true) (he : fi ≠ ti) (hk : Ok (r.at_ fi fq).l) (hl : (r.at_ fi fq).l.length ≤ 100000) (hk2 : Ok (r.at_ ti tq).l) (hl2 : (r.at_ ti tq).l.length ≤ 100000) (hp : rpartE (r.at_ fi fq) am now = 0) (hm : U64 am) (x1 : (r.at_ fi fq).b ≤ 4294967296) (y0 : 0 ≤ (r.at_ ti tq).b) (y1 : (r.at_ ti tq).b ≤ 4294967296) (ho : ¬ 4294967296 < (r.at_ ti tq).b + am) (hg : (giveP (r.at_ ti tq).l now am r.most).2 = 0) :
    Calls Tryz.prog 39 #[.pointer (some ⟨h, 0, none⟩), .agg #[.int .i64 fi, .int .u64 fq], .agg #[.int .i64 ti, .int .u64 tq], .int .u64 am, .int .u64 now] w fun e w' => e = .returned (.int .i64 0) ∧ DnOut h S r fi fq ti.toNat (r.at_ ti tq) am now w w' := by
  have hIF := fun W (hW : Chg [] w W) => ris_any (hr.quiet hW) hn fi fq
  have hIT := fun W (hW : Chg [] w W) => ris_any (hr.quiet hW) hn ti tq
  obtain ⟨q1, q2, q3, q4⟩ := rpartE_0 hp
  have hPA := fun W (hW : Chg [] w W) => rpart_any (hr.quiet hW) hf am now hk hl
  have hGV := fun W (hW : Chg [] w W) => rgive_any ((hr.quiet hW).rd ti tq).inn hk2 hl2 (now := now) (most := r.most) hm
  have hPULL := fun (W W' : World) (y : Cx) (k : Nat) (hne : fi ≠ (k : Nat)) (hT : RTurns h S (r.thing k y) W W') => rdonate_pull hT hf hne am now hk hl hm (by omega) (by have := hm.1; omega)
  unfold DnOut
  rw [hp] at hPA
  rw [hf] at hIF
  rw [ht] at hIT
  obtain ⟨k, p, rfl, hpp, hat⟩ := ris_open ht
  obtain ⟨gl, cl, hSS, hne, _, lgw, lhw, htell, hset, _⟩ := hr.open_ hpp
  clear hSS
  rw [hat] at hGV y0 y1 ho hg ⊢
  obtain ⟨y, hy⟩ : ∃ y, y = p.x := ⟨_, rfl⟩
  rw [← hy] at htell hGV y0 y1 ho hg ⊢
  obtain ⟨M, hM⟩ : ∃ M, M = r.most := ⟨_, rfl⟩
  rw [← hM] at htell hGV hg ⊢
  obtain ⟨gvl, hgvl⟩ : ∃ gvl, gvl = (giveP y.l now am M).1 := ⟨_, rfl⟩
  obtain ⟨gve, hgve⟩ : ∃ gve, gve = (giveP y.l now am M).2 := ⟨_, rfl⟩
  rw [← hgvl, ← hgve] at hGV
  rw [← hgve] at hg
  rw [← hgvl]
  subst hg
  have d1 : decide (4294967296 < y.b + am) = false := by simpa using ho
  have HT := Lib.hid htell
  have HPA := Lib.hid hPA
  have HIF := Lib.hid hIF
  have HIT := Lib.hid hIT
  have HGV := Lib.hid hGV
  have hb : (fi == ((k : Nat) : Int)) = false := by simpa using he
  have e1 : IntKind.u64.wrap (y.b + am) = y.b + am := by rw [IntKind.wrap_u64]; have := hm.1; omega
  have i0 : (0 : Int) ≤ (k : Int) := by omega
  have i1 : (k : Int) < (r.L.length : Int) := by have := (List.getElem?_eq_some_iff.1 hpp).1; omega
  have HPULL := Lib.hid (fun (W W' : World) (y : Cx) (hT : RTurns h S (r.thing k y) W W') => hPULL W W' y k he hT)
  have HSET := Lib.hid hset
  clear hr hn hf hIF ht hIT he hk hl hp hPA hpp hat htell hset hGV hgvl hk2 hl2 hm q1 q2 q3 q4 x1 y0 y1 hM hy ho hPULL hgve
  go_enter Tryz.func39, Tryz.ntmps39
  go_wp2_with (first
    | (go_at_call 79; (with_reducible refine (HIF.out _ (((Chg.refl _ _).alloc _).alloc _)).mono ?_); rintro e w1 ⟨rfl, hc⟩; obtain ⟨l0, l1, d0, d1, d2, d3, hcc⟩ := two_facts (w := w) (Chg.refl [] _) hc; have HC1 := Lib.hid hc; have HC := Lib.hid hcc; clear hc hcc)
    | (go_at_call 79; (with_reducible refine (HIT.out _ HC.out).mono ?_); rintro e w2 ⟨rfl, hc⟩; obtain ⟨m0, m1, f0, f1, f2, f3, hcc⟩ := two_facts (w := w) HC1.out hc; have HC12 := Lib.hid (HC1.out.then hc); have HC2 := Lib.hid hcc; clear hc hcc)
    | (go_at_call 82; refine (HPA.out _ HC2.out).mono ?_; rintro e w3 ⟨rfl, hc⟩; obtain ⟨n0, n1, g0, g1, g2, g3, hcc⟩ := two_facts (w := w) HC12.out hc; have HC13 := Lib.hid (HC12.out.then hc); have HC3 := Lib.hid hcc; obtain ⟨a0, a1, a2, b0, b1, b2, b3, b4, b5, b6, fz, fh, lh, lg⟩ := HT.out _ HC3.out; clear hc hcc))
  have hq2 : ¬ (w3.heap.size = gl) := by omega
  have hq3 : ¬ (w3.heap.size = h) := by omega
  have hq4 : ¬ (w3.heap.size = w.heap.size) := by omega
  have hq5 : ¬ (w3.heap.size = w.heap.size + 1) := by omega
  go_region
  go_wp2
  go_region_held3 (fun w' => w'.cell? ⟨w3.heap.size, 2, none⟩ = some (.slice y.a y.m y.c) ∧ w'.cell? ⟨h, 2, none⟩ = some (.int .i64 M))
    (first | go_keep)
    (first
      | (go_at_call 84; refine (HGV.out _ (by exact ((HC3.out.alloc _).drew.drew))).mono ?_; rintro e w4 ⟨v4, rfl, hmn⟩; obtain ⟨A4, c4, rfl, _⟩ := hmn.1.open_; have hcc := hmn.2.2; obtain ⟨k0, k1, k2, k3, kf, kl⟩ := cx4_facts (w1 := w3) ((Chg.refl [] _).drew.drew) hcc; obtain ⟨o0, o1, j0, j1, j2, j3, hc4⟩ := two_facts (w := w) ((HC13.out.alloc _).drew.drew) hcc; have HC4 := Lib.hid hc4; have HMN := Lib.hid hmn.1; have HBX := Lib.hid ((Blk.new w3 43 #[.int .u64 y.b, .int .u64 y.p, .slice y.a y.m y.c, .int .i64 y.n]).drew.drew.chg hcc (by simp)); have HQ4 := Lib.hid (((HC13.out.alloc _).drew.drew).then hcc); obtain ⟨aa0, aa1, aa2, bb0, bb1, bb2, bb3, bb4, bb5, bb6, ffz, ffh, llh, llg⟩ := HT.out _ HC4.out; clear hmn hcc hc4))
  all_goals
    have HR9 := Lib.hid (HMN.out.keep (Off.cons HBX.out (by decide) (Off.nil _)) (((Chg.refl [w3.heap.size] w4).setCell (p := ⟨w3.heap.size, 2, none⟩) (.inl (by simp)) (.slice A4 gvl.length c4)).setCell (p := ⟨w3.heap.size, 0, none⟩) (.inl (by simp)) (.int .u64 (y.b + am))))
    have HC9 := Lib.hid ((HC4.out.setCell (p := ⟨w3.heap.size, 2, none⟩) (.inr (by dsimp only; omega)) (.slice A4 gvl.length c4)).setCell (p := ⟨w3.heap.size, 0, none⟩) (.inr (by dsimp only; omega)) (.int .u64 (y.b + am)))
    have HTT := Lib.hid (HSET.out _ HC9.out ⟨y.b + am, y.p, A4, gvl.length, c4, y.n, gvl⟩ HR9.out)
    have hgw : ¬ (gl = w.heap.size) := by omega
    have hgw2 : ¬ (w.heap.size = gl) := by omega
    have hgw3 : ¬ (gl = w.heap.size + 1) := by omega
    have hgw4 : ¬ (w.heap.size + 1 = gl) := by omega
    go_wp2
    go_still_tail 9, (by kernel_rfl)
    (try change wpStill _ _ (World.drew _) _ _ _)
    (repeat still_step)
    (try refine wpStill_nil ?_)
    (try change wpList _ _ _ _ _ (World.drew _))
    have HTD := Lib.hid (HTT.out.later ((Chg.refl _ _).drew))
    go_wp2_with (go_at_call 83; refine (HPULL.out _ _ _ HTD.out).mono ?_; rintro e w5 ⟨rfl, A, m, cc, hT⟩; have HT5 := Lib.hid hT; clear hT)
    go_ret
    exact ⟨rfl, A, m, cc, A4, gvl.length, c4, HT5.out⟩
end Go.Proofs
end
