import Derived.Test.YtelkndhifkmpiaaHeH
namespace Go.Proofs
open Go.RowKit
set_option linter.unusedVariables false

/-- The first one of the one at i and the k right below it that were looked at. -/
structure Best (a : Nat → Tm) (n i k f : Nat) : Prop where
  lt : f < n
  way : f = i ∨ (par f = i ∧ 0 < f ∧ Tm.lt (a f) (a i))
  least : ∀ c, 2 * i + 1 ≤ c → c < 2 * i + 1 + k → c < n → ¬ Tm.lt (a c) (a f)
theorem Best.start (a : Nat → Tm) {n i : Nat} (h : i < n) : Best a n i 0 i := ⟨h, .inl rfl, fun c h1 h2 => by omega⟩
theorem Best.turn {a : Nat → Tm} {n i k f : Nat} (h : Best a n i k f) (hk : k < 2) (hc : 2 * i + 1 + k < n) (hl : Tm.lt (a (2 * i + 1 + k)) (a f)) : Best a n i (k + 1) (2 * i + 1 + k) := by
  refine ⟨hc, .inr ⟨by unfold par; omega, by omega, ?_⟩, fun c h1 h2 h3 h4 => ?_⟩
  · rcases h.way with rfl | ⟨_, _, hw⟩
    · exact hl
    · exact Tm.trans hl hw
  · by_cases e : c = 2 * i + 1 + k
    · subst e; exact Tm.irrefl _ h4
    · exact h.least c h1 (by omega) h3 (Tm.trans h4 hl)
theorem Best.same {a : Nat → Tm} {n i k f : Nat} (h : Best a n i k f) (hl : ¬ Tm.lt (a (2 * i + 1 + k)) (a f)) : Best a n i (k + 1) f := by
  refine ⟨h.lt, h.way, fun c h1 h2 h3 => ?_⟩
  by_cases e : c = 2 * i + 1 + k
  · subst e; exact hl
  · exact h.least c h1 (by omega) h3
/-- What first tells. -/
structure First (a : Nat → Tm) (n i f : Nat) : Prop where
  lt : f < n
  way : f = i ∨ (par f = i ∧ 0 < f ∧ Tm.lt (a f) (a i))
  least : ∀ c, 0 < c → c < n → par c = i → ¬ Tm.lt (a c) (a f)
theorem Best.end_ {a : Nat → Tm} {n i k f : Nat} (h : Best a n i k f) (hk : k = 2 ∨ n ≤ 2 * i + 1 + k) : First a n i f :=
  ⟨h.lt, h.way, fun c h1 h2 h3 => h.least c (by unfold par at h3; omega) (by unfold par at h3; omega) h2⟩
set_option maxHeartbeats 3200000 in
set_option maxRecDepth 100000 in
theorem first_any {w : World} {g h b c m p : Nat} {ts : List Tm} (H : Hm w g h b c m p ts) {i : Nat} (hi : i < ts.length) (hn : ts.length ≤ 100000) :
    Calls Try.prog 50 #[.pointer (some ⟨g, 0, none⟩), .int .i64 (i : Nat)] w fun e w' => ∃ f : Nat, e = .returned (.int .i64 f) ∧ First (at_ ts) ts.length i f ∧ Chg [] w w' := by
  have HB := Lib.hid (Best.start (at_ ts) hi)
  have hA := fun W k f (hW : Chg [] w W) hk hf => (H.quiet hW).ahead (i := k) (j := f) hk hf hn
  have HA := Lib.hid hA
  obtain ⟨f0, HH, _⟩ := H
  have lg := HH.lt g (by simp)
  have c0 := HH.head.1
  obtain ⟨n, hnn⟩ : ∃ n, n = ts.length := ⟨_, rfl⟩
  rw [← hnn] at HA HB c0 hi hn ⊢
  clear hnn HH hA
  go_enter Try.func50, Try.ntmps50
  go_wp2
  go_loopg [5, 6] 2 (fun gh s5 s6 wx => ∃ k f : Nat, k + gh = 2 ∧ s6 = .int .i64 ((2 * i + 1 + k : Nat) : Int) ∧ s5 = .int .i64 f ∧ Hid (Best (at_ ts) n i k f ∧ Chg [] w wx))
  case atStart => exact ⟨0, i, rfl, by go_num, rfl, Lib.hid ⟨HB.out, Chg.refl _ _⟩⟩
  case round =>
    obtain ⟨k, f, hk, rfl, rfl, HR⟩ := hrel
    have e0 := (HR.out.2.cell (p := ⟨g, 0, none⟩) lg (by simp)).trans c0
    by_cases hk2 : k = 2
    · subst hk2
      have d : ¬ ((2 : Int) * i + 1 + 2 ≤ 2 * i + 2) := by omega
      go_wp2
      go_ret
      exact ⟨f, rfl, HR.out.1.end_ (.inl rfl), HR.out.2⟩
    · have d : (2 : Int) * i + 1 + k ≤ 2 * i + 2 := by omega
      by_cases hc : 2 * i + 1 + k < n
      · have d2 : (2 : Int) * i + 1 + k < n := by omega
        have ha := HA.out _ (2 * i + 1 + k) f HR.out.2 hc HR.out.1.lt
        by_cases hl : Tm.lt (at_ ts (2 * i + 1 + k)) (at_ ts f)
        · rw [decide_eq_true hl] at ha
          have HT := Lib.hid (HR.out.1.turn (by omega) hc hl)
          clear hl
          go_wp2_with (go_at_call 44; refine ha.mono ?_; rintro e w1 ⟨rfl, hc1⟩; have HC := Lib.hid hc1; clear hc1)
          go_roundg (1 - k)
          case measure => omega
          case rel => exact ⟨k + 1, 2 * i + 1 + k, by omega, by go_num, by go_num, Lib.hid ⟨HT.out, HR.out.2.then HC.out⟩⟩
        · rw [decide_eq_false hl] at ha
          have HT := Lib.hid (HR.out.1.same hl)
          clear hl
          go_wp2_with (go_at_call 44; refine ha.mono ?_; rintro e w1 ⟨rfl, hc1⟩; have HC := Lib.hid hc1; clear hc1)
          go_roundg (1 - k)
          case measure => omega
          case rel => exact ⟨k + 1, f, by omega, by go_num, rfl, Lib.hid ⟨HT.out, HR.out.2.then HC.out⟩⟩
      · have d2 : ¬ ((2 : Int) * i + 1 + k < n) := by omega
        go_wp2
        go_ret
        exact ⟨f, rfl, HR.out.1.end_ (.inr (by omega)), HR.out.2⟩
/-- In the midst of down. -/
structure DnMid (w : World) (g h b c m p : Nat) (ts : List Tm) (j f : Nat) (ts1 : List Tm) (w1 : World) : Prop where
  hm : Hm w1 g h b c m p ts1
  perm : ts1.Perm ts
  dn : DownI (at_ ts1) ts.length j
  lt : j < ts.length
  fi : First (at_ ts1) ts.length j f
  chg : Chg [g, h, b] w w1
/-- What down comes to: a heap. -/
def DnEnds (w : World) (g h b c m p : Nat) (ts : List Tm) (w' : World) : Prop :=
  ∃ ts', ts'.Perm ts ∧ HeapO (at_ ts') ts.length ∧ Hm w' g h b c m p ts' ∧ Chg [g, h, b] w w'
theorem DnMid.stop {w w1 : World} {g h b c m p j : Nat} {ts ts1 : List Tm} (H : DnMid w g h b c m p ts j j ts1 w1) : DnEnds w g h b c m p ts w1 :=
  ⟨ts1, H.perm, H.dn.stop H.fi.least, H.hm, H.chg⟩
theorem DnMid.go {w w1 w2 w3 : World} {g h b c m p j f f2 : Nat} {ts ts1 : List Tm} (H : DnMid w g h b c m p ts j f ts1 w1) (hne : f ≠ j) (h2 : Hm w2 g h b c m p (swp ts1 j f)) (hc : Chg [g, h, b] w1 w2) (hf : First (at_ (swp ts1 j f)) ts.length f f2) (hc3 : Chg [] w2 w3) :
    DnMid w g h b c m p ts f f2 (swp ts1 j f) w3 ∧ j < f := by
  have e := H.perm.length_eq
  have hlt := H.lt
  have hfl := H.fi.lt
  obtain ⟨h3, h4, h5⟩ := H.fi.way.resolve_left hne
  have := par_lt h4
  refine ⟨⟨h2.quiet hc3, (swp_perm (by omega) (by omega)).trans H.perm, ?_, by omega, hf, (H.chg.trans hc (fun k hk => .inl hk)).then hc3⟩, by omega⟩
  rw [swp_at (by omega) (by omega)]
  exact H.dn.step h3 h4 hfl h5 H.fi.least
set_option maxHeartbeats 3200000 in
set_option maxRecDepth 100000 in
theorem down_any {w : World} {g h b c m p : Nat} {ts : List Tm} (H : Hm w g h b c m p ts) {i : Nat} (hi : i < ts.length) (hn : ts.length ≤ 100000) (hm : m ≤ 1000000) (hH : DownI (at_ ts) ts.length i) :
    Calls Try.prog 43 #[.pointer (some ⟨g, 0, none⟩), .int .i64 (i : Nat)] w fun e w' => e = .returned (.tuple #[]) ∧ DnEnds w g h b c m p ts w' := by
  have HF := first_any H hi hn
  have hS := fun f w1 (hf : First (at_ ts) ts.length i f) (hc : Chg [] w w1) => (⟨H.quiet hc, List.Perm.refl _, hH, hi, hf, hc.any⟩ : DnMid w g h b c m p ts i f ts w1)
  have HS := Lib.hid hS
  have HN := Lib.hid hn
  have HI := Lib.hid hi
  clear hS H hH hi hn
  go_enter Try.func43, Try.ntmps43
  go_wp2_with (go_at_call 50; refine HF.mono ?_; rintro e w1 ⟨f, rfl, hf, hc⟩; have HM := Lib.hid (HS.out f w1 hf hc); clear hf hc HF)
  go_loopg [1, 4] (ts.length - i) (fun gh s1 s4 wx => ∃ (j f : Nat) (ts1 : List Tm), j + gh = ts.length ∧ s1 = .int .i64 j ∧ s4 = .int .i64 f ∧ Hid (DnMid w g h b c m p ts j f ts1 wx))
  case atStart => exact ⟨i, f, ts, by have := HI.out; omega, rfl, rfl, HM⟩
  case round =>
    obtain ⟨j, f, ts1, hg, rfl, rfl, HR⟩ := hrel
    by_cases hfj : f = j
    · subst hfj
      have HE := Lib.hid HR.out.stop
      clear HR
      go_wp2
      go_end0
      exact ⟨rfl, HE.out⟩
    · have hne : ¬ ((f : Int) = (j : Int)) := by omega
      have e := HR.out.perm.length_eq
      have hfl := HR.out.fi.lt
      have hjl := HR.out.lt
      have hN := HN.out
      have HSw := HR.out.hm.swap (i := j) (j := f) (by omega) (by omega) (by omega) hm
      have HFi := Lib.hid (fun W (h2 : Hm W g h b c m p (swp ts1 j f)) => first_any h2 (i := f) (by rw [swp_len]; omega) (by rw [swp_len]; omega))
      have HGo := Lib.hid (fun w2 w3 f2 (h2 : Hm w2 g h b c m p (swp ts1 j f)) (hc : Chg [g, h, b] wr w2) hf (hc3 : Chg [] w2 w3) => HR.out.go (f2 := f2) hfj h2 hc hf hc3)
      have HE := Lib.hid (show (swp ts1 j f).length = ts.length by rw [swp_len]; exact e)
      clear e hfl hjl hN
      go_wp2_with (first
        | (go_at_call 42; refine HSw.mono ?_; rintro e w2 ⟨rfl, h2, hc2⟩; have H2 := Lib.hid h2; have HC2 := Lib.hid hc2; clear h2 hc2 HSw)
        | (go_at_call 50; refine (HFi.out _ H2.out).mono ?_; rintro e w3 ⟨f2, rfl, hf2, hc3⟩; rw [HE.out] at hf2; have HN2 := Lib.hid (HGo.out _ _ _ H2.out HC2.out hf2 hc3); clear hf2 hc3))
      have hjf := HN2.out.2
      have hfl := HN2.out.1.lt
      go_roundg (ts.length - f)
      case measure => omega
      case rel => exact ⟨f, f2, _, by omega, rfl, rfl, Lib.hid HN2.out.1⟩
end Go.Proofs
