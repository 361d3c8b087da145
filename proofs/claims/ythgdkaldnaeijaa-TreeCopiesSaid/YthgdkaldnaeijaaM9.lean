import Derived.Test.YthgdkaldnaeijaaM8
import Derived.Test.YthgdkaldnaeijaaM5
section
namespace Go.Proofs
open Go.RowKit
set_option linter.unusedVariables false
set_option linter.unusedSimpArgs false

theorem ints_same {w : World} {v1 v2 : Value} {l : List Nat} (h1 : Rd w v1 (iN l)) (h2 : Rd w v2 (iN l)) (hl : l.length ≤ 8192) : Calls Try.prog 21 #[v1, v2] w fun e w' => e = .returned (.bool true) ∧ Chg [] w w' := by
  have := rsame_any h1 h2 (by rw [iN_len]; exact hl) (by rw [iN_len]; exact hl)
  rw [beq_self_eq_true] at this
  exact this
section
variable {w : World} {f d : Nat} {S T K : List Nat} {t : Fo} {m : Nat}
theorem cparent_no {h : Nat} {c : Tr} (H : TreeAt w h S c) (hs : Sim c t) {i : Int} (hi : t.has i = false) : Calls Try.prog 25 #[ptr h, .int .i64 i] w fun e w' => e = .returned (.tuple #[.int .i64 0, .bool false]) ∧ Chg [] w w' :=
  pa_no H hs.lenN (fun hh => by rw [hs.has, hi] at hh; cases hh.1)
theorem cparent_root {h : Nat} {c : Tr} (H : TreeAt w h S c) (hs : Sim c t) {n : Nat} (hn : t.there n = true) (hp : t.par n = none) : Calls Try.prog 25 #[ptr h, .int .i64 (n : Nat)] w fun e w' => e = .returned (.tuple #[.int .i64 0, .bool false]) ∧ Chg [] w w' :=
  pa_no H hs.lenN (fun hh => by rw [(hs.node n hn).2.2.1, hp] at hh; exact hh.2 rfl)
theorem cparent_kid {h : Nat} {c : Tr} (H : TreeAt w h S c) (hs : Sim c t) {n p : Nat} (hn : t.there n = true) (hp : t.par n = some p) : Calls Try.prog 25 #[ptr h, .int .i64 (n : Nat)] w fun e w' => e = .returned (.tuple #[.int .i64 (p : Nat), .bool true]) ∧ Chg [] w w' :=
  pa_yes H hs.lenN (hs.node n hn).2.1 (by rw [(hs.node n hn).2.2.1, hp]; rfl)
/-- What the two forests answer, in every world in which nothing turned. -/
structure Looks (w : World) (f d : Nat) (t : Fo) : Prop where
  wf : t.WF
  one : 1 ≤ t.size
  big : t.size ≤ 4096
  flen : ∀ W, Chg [] w W → Calls Try.prog 20 #[ptr f] W fun e w' => e = .returned (.int .i64 (t.len : Nat)) ∧ Chg [] W w'
  dlen : ∀ W, Chg [] w W → Calls Try.prog 35 #[ptr d] W fun e w' => e = .returned (.int .i64 (t.len : Nat)) ∧ W = w'
  fsize : ∀ W, Chg [] w W → Calls Try.prog 31 #[ptr f] W fun e w' => e = .returned (.int .i64 (t.size : Nat)) ∧ W = w'
  froots : ∀ W, Chg [] w W → Calls Try.prog 22 #[ptr f] W fun e w' => News W w' e t.roots
  droots : ∃ g cl A cc, ∀ W, Chg [] w W → W.cell? ⟨d, 0, none⟩ = some (.slice (some ⟨g, 0, none⟩) t.size cl) ∧ d < W.heap.size ∧ W.cell? ⟨d, 1, none⟩ = some (.slice A t.roots.length cc) ∧ Rd W (.slice A t.roots.length cc) (iN t.roots)
  fno : ∀ W, Chg [] w W → ∀ i, t.has i = false → Calls Try.prog 25 #[ptr f, .int .i64 i] W fun e w' => e = .returned (.tuple #[.int .i64 0, .bool false]) ∧ Chg [] W w'
  froot : ∀ W, Chg [] w W → ∀ n, t.there n = true → t.par n = none → Calls Try.prog 25 #[ptr f, .int .i64 (n : Nat)] W fun e w' => e = .returned (.tuple #[.int .i64 0, .bool false]) ∧ Chg [] W w'
  fkid : ∀ W, Chg [] w W → ∀ n p, t.there n = true → t.par n = some p → Calls Try.prog 25 #[ptr f, .int .i64 (n : Nat)] W fun e w' => e = .returned (.tuple #[.int .i64 (p : Nat), .bool true]) ∧ Chg [] W w'
  fhas : ∀ W, Chg [] w W → ∀ i, Calls Try.prog 23 #[ptr f, .int .i64 i] W fun e w' => e = .returned (.bool (t.has i)) ∧ Chg [] W w'
  dhas : ∀ W, Chg [] w W → ∀ i, Calls Try.prog 17 #[ptr d, .int .i64 i] W fun e w' => e = .returned (.bool (t.has i)) ∧ W = w'
  fkids : ∀ W, Chg [] w W → ∀ i, Calls Try.prog 19 #[ptr f, .int .i64 i] W fun e w' => News W w' e (t.kidsI i)
  fdesc : ∀ W, Chg [] w W → ∀ i l, Below' t i l → Calls Try.prog 28 #[ptr f, .int .i64 i] W fun e w' => News W w' e l
  ddesc : ∀ W, Chg [] w W → ∀ i l, Below' t i l → Calls Try.prog 36 #[ptr d, .int .i64 i] W fun e w' => News W w' e l
  funder : ∀ W, Chg [] w W → ∀ i j (b : Bool), (b = true ↔ t.under i j) → Calls Try.prog 24 #[ptr f, .int .i64 i, .int .i64 j] W fun e w' => e = .returned (.bool b) ∧ Chg [] W w'
  dunder : ∀ W, Chg [] w W → ∀ i j (b : Bool), (b = true ↔ t.under i j) → Calls Try.prog 37 #[ptr d, .int .i64 i, .int .i64 j] W fun e w' => e = .returned (.bool b) ∧ Chg [] W w'
  place : ∀ k, k < t.size → ∃ g cl A cc fz, ∀ W, Chg [] w W → W.cell? ⟨d, 0, none⟩ = some (.slice (some ⟨g, 0, none⟩) t.size cl) ∧ d < W.heap.size ∧ g < W.heap.size ∧ (0 : Int) ≤ (k : Int) ∧ (k : Int) < (t.size : Int) ∧
    W.cell? ⟨g, k * 4, none⟩ = some (.bool (t.there k)) ∧ W.cell? ⟨g, k * 4 + 1, none⟩ = some (.int .i64 (oI (t.par k))) ∧ W.cell? ⟨g, k * 4 + 2, none⟩ = some (.slice A (t.kids k).length cc) ∧ W.cell? ⟨g, k * 4 + 3, none⟩ = some (.int .i64 fz) ∧ Rd W (.slice A (t.kids k).length cc) (iN (t.kids k))
theorem Pair.looks (h : Pair w f d S T K t m) : Looks w f d t := by
  obtain ⟨c, r, H, hs, R, hr, hap⟩ := h
  have hcnt := hs.count
  refine ⟨hs.wf, hs.one, hs.big, fun W hc => ?_, fun W hc => rlen_any (R.quiet hc) hr, fun W hc => ?_, fun W hc => croots_any (H.quiet hc) hs, R.roots hr, fun W hc i hi => cparent_no (H.quiet hc) hs hi, fun W hc n hn hp => cparent_root (H.quiet hc) hs hn hp, fun W hc n p hn hp => cparent_kid (H.quiet hc) hs hn hp, fun W hc i => ?_, fun W hc i => rhas_any (R.quiet hc) hr i, fun W hc i => ckids_any (H.quiet hc) hs i, fun W hc i l hl => cdesc_any (H.quiet hc) hs hl, fun W hc i l hl => rdesc_any (R.quiet hc) hr hl, fun W hc i j b hb => cunder_any (H.quiet hc) hs i j hb, fun W hc i j b hb => runder_any (R.quiet hc) hr i j hb, fun k hk => R.place hr hk⟩
  · have := len_any (H.quiet hc) hcnt.2 hs.lenN
    rw [hcnt.1] at this
    exact this
  · have := size_any (H.quiet hc)
    rw [hs.size] at this
    exact this
  · have := has_any (H.quiet hc) hs.lenN i
    rw [hs.has] at this
    exact this
set_option maxHeartbeats 12800000 in
set_option maxRecDepth 100000 in
theorem same_look (hlk : Looks w f d t) : Calls Try.prog 14 #[ptr f, ptr d] w fun e w' => e = .returned (.bool true) ∧ Chg [] w w' := by
  have HL := Lib.hid hlk
  obtain ⟨g, cl, rA, rc, hro⟩ := hlk.droots
  have HRO := Lib.hid hro
  obtain ⟨a0, la, a1, _⟩ := hro w (Chg.refl _ _)
  obtain ⟨s, hs⟩ : ∃ s, s = t.size := ⟨_, rfl⟩
  obtain ⟨ln, hln⟩ : ∃ s, s = t.len := ⟨_, rfl⟩
  obtain ⟨R, hR⟩ : ∃ R, R = t.roots := ⟨_, rfl⟩
  have hRl : R.length ≤ 8192 := by rw [hR]; have := hlk.wf.row_len none; have := hlk.big; exact Nat.le_trans (hlk.wf.row_len none) (by omega)
  have HFL := Lib.hid hlk.flen
  have HDL := Lib.hid hlk.dlen
  have HSZ := Lib.hid hlk.fsize
  have HFR := Lib.hid hlk.froots
  have HB := Lib.hid hlk.big
  have HBE := Lib.hid (fun i => Below'.exists hlk.wf i)
  have HI1 := Lib.hid (fun (W : World) (v1 v2 : Value) (h1 : Rd W v1 (iN R)) (h2 : Rd W v2 (iN R)) => ints_same h1 h2 hRl)
  rw [← hs] at a0 HRO HSZ HB
  rw [← hln] at HFL HDL
  rw [← hR] at a1 HRO HFR
  have HS := Lib.hid hs
  have e1 : ((ln : Int) != (ln : Int)) = false := by simp
  have e2 : ((s : Int) != (s : Int)) = false := by simp
  have HC := Lib.hid ((Chg.refl [] w).drew)
  clear hlk hro hs hln hR
  go_enter Try.func14, Try.ntmps14
  go_wp2
  go_region_held3 (fun w' => w'.cell? ⟨d, 0, none⟩ = some (.slice (some ⟨g, 0, none⟩) s cl) ∧ w'.cell? ⟨d, 1, none⟩ = some (.slice rA R.length rc))
    (first | go_keep)
    (first
      | (go_at_call 20; refine (HFL.out _ HC.out).mono ?_; rintro e w1 ⟨rfl, hc⟩; have HC := Lib.hid (HC.out.then hc); obtain ⟨k0, _, k1, _⟩ := HRO.out _ HC.out; clear hc)
      | (go_at_call 35; refine (HDL.out _ HC.out).mono ?_; rintro e w1 ⟨rfl, rfl⟩)
      | (go_at_call 31; refine (HSZ.out _ HC.out).mono ?_; rintro e w1 ⟨rfl, rfl⟩)
      | (go_at_call 22; refine (HFR.out _ HC.out).mono ?_; rintro e w1 ⟨A1, c1, rfl, hf⟩; have HR1 := Lib.hid hf.rd; have HC := Lib.hid (HC.out.then hf.2.2); obtain ⟨k2, _, k3, _⟩ := HRO.out _ HC.out; clear hf)
      | (go_at_call 21; refine (HI1.out _ _ _ HR1.out (HRO.out _ HC.out).2.2.2).mono ?_; rintro e w1 ⟨rfl, hc⟩; have HC := Lib.hid (HC.out.then hc); obtain ⟨k4, _, k5, _⟩ := HRO.out _ HC.out; clear hc))
  all_goals
    clear a0 la a1
    go_wp2
    go_loopg [5] (s + 2) (fun gh iv wr => ∃ (k : Nat) (i : Int), k + gh = s + 2 ∧ iv = .int .i64 i ∧ Hid (i = (k : Int) - 1) ∧ Hid (Chg [] w wr))
    case atStart => exact ⟨0, -1, by omega, rfl, Lib.hid (by simp), Lib.hid HC.out⟩
    case round =>
      obtain ⟨k, i, hk, rfl, HK, HCW⟩ := hrel
      obtain ⟨a0, la, a1, _⟩ := HRO.out wr HCW.out
      have hik := HK.out
      have hbig := HB.out
      by_cases hlt : k < s + 2
      · have d1 : decide (i ≤ (s : Int)) = true := by simp; omega
        have ei : IntKind.i64.wrap (i + 1) = i + 1 := IntWalk.i64_in _ (by omega)
        cases hh : t.has i with
        | false =>
          have H25 := Lib.hid (HL.out.fno wr HCW.out i hh)
          have H23 := Lib.hid (fun W (hc : Chg [] w W) => HL.out.fhas W hc i)
          have H17 := Lib.hid (fun W (hc : Chg [] w W) => HL.out.dhas W hc i)
          have H19 := Lib.hid (fun W (hc : Chg [] w W) => HL.out.fkids W hc i)
          have H28 := Lib.hid (fun W (hc : Chg [] w W) => HL.out.fdesc W hc i [] (by unfold Below'; rw [hh]; simp))
          have H24a := Lib.hid (fun W (hc : Chg [] w W) => HL.out.funder W hc i 0 false ⟨fun h => (by cases h), fun hu => (by have := (hu.2.2.there HL.out.wf).2; unfold Fo.has at hh; simp [hu.1, this] at hh)⟩)
          have H24b := Lib.hid (fun W (hc : Chg [] w W) => HL.out.funder W hc 0 i false ⟨fun h => (by cases h), fun hu => (by have := (hu.2.2.there HL.out.wf).1; unfold Fo.has at hh; simp [hu.2.1, this] at hh)⟩)
          rw [hh] at H23 H17
          rw [Fo.kidsI_no HL.out.wf hh] at H19
          clear hh hik
          go_wp2_with (first
            | (go_at_call 25; refine H25.out.mono ?_; rintro e w2 ⟨rfl, hc⟩; have HC2 := Lib.hid (HCW.out.then hc); clear hc)
            | (go_at_call 23; refine (H23.out _ HC2.out).mono ?_; rintro e w3 ⟨rfl, hc⟩; have HC3 := Lib.hid (HC2.out.then hc); clear hc)
            | (go_at_call 17; refine (H17.out _ HC3.out).mono ?_; rintro e w4 ⟨rfl, rfl⟩)
            | (go_at_call 19; refine (H19.out _ HC3.out).mono ?_; rintro e w5 ⟨A5, c5, rfl, hf⟩; have HC5 := Lib.hid (HC3.out.then hf.2.2); clear hf)
            | (go_at_call 28; refine (H28.out _ HC5.out).mono ?_; rintro e w6 ⟨A6, c6, rfl, hf⟩; have HC6 := Lib.hid (HC5.out.then hf.2.2); clear hf)
            | (go_at_call 24; (with_reducible refine (H24b.out _ HC7.out).mono ?_); rintro e w8 ⟨rfl, hc⟩; have HC8 := Lib.hid (HC7.out.then hc); clear hc)
            | (go_at_call 24; (with_reducible refine (H24a.out _ HC6.out).mono ?_); rintro e w7 ⟨rfl, hc⟩; have HC7 := Lib.hid (HC6.out.then hc); clear hc))
          go_roundg (s + 2 - k - 1)
          case measure => omega
          case rel => exact ⟨k + 1, i + 1, by omega, rfl, Lib.hid (by rw [HK.out]; omega), Lib.hid HC8.out⟩
        | true =>
          obtain ⟨n, rfl⟩ : ∃ n : Nat, i = (n : Nat) := Int.eq_ofNat_of_zero_le (by unfold Fo.has at hh; simp at hh; omega)
          rw [t.has_nat] at hh
          have hns : n < s := by rw [HS.out]; exact HL.out.wf.lt n hh
          obtain ⟨g2, cl2, kA, kc, fz, hpl⟩ := HL.out.place n (by rw [← HS.out]; exact hns)
          obtain ⟨l, hl⟩ := HBE.out ((n : Nat) : Int)
          have hll : l.length ≤ 8192 := by have := hl.len HL.out.wf; have := HL.out.big; omega
          have hkl : (t.kids n).length ≤ 8192 := by have := HL.out.wf.row_len (some n); have := HL.out.big; exact Nat.le_trans (HL.out.wf.row_len (some n)) (by omega)
          have H23 := Lib.hid (fun W (hc : Chg [] w W) => HL.out.fhas W hc ((n : Nat) : Int))
          have H17 := Lib.hid (fun W (hc : Chg [] w W) => HL.out.dhas W hc ((n : Nat) : Int))
          have HCK := Lib.hid (fun W (hc : Chg [] w W) => HL.out.fkids W hc ((n : Nat) : Int))
          have HDS := Lib.hid (fun W (hc : Chg [] w W) => HL.out.fdesc W hc ((n : Nat) : Int) l hl)
          have HRD := Lib.hid (fun W (hc : Chg [] w W) => HL.out.ddesc W hc ((n : Nat) : Int) l hl)
          rw [t.has_nat, hh] at H23 H17
          rw [show t.kidsI ((n : Nat) : Int) = t.kids n by unfold Fo.kidsI; rw [if_pos (by omega), Int.toNat_natCast]] at HCK
          have HI1 := Lib.hid (fun (W : World) (v1 v2 : Value) (h1 : Rd W v1 (iN (t.kids n))) (h2 : Rd W v2 (iN (t.kids n))) => ints_same h1 h2 hkl)
          have HI2 := Lib.hid (fun (W : World) (v1 v2 : Value) (h1 : Rd W v1 (iN l)) (h2 : Rd W v2 (iN l)) => ints_same h1 h2 hll)
          have H25k := Lib.hid (fun p hp => HL.out.fkid wr HCW.out n p hh hp)
          have H25r := Lib.hid (fun hp => HL.out.froot wr HCW.out n hh hp)
          have j0 : (0 : Int) ≤ (n : Int) := by omega
          have j1 : (n : Int) < (s : Int) := by omega
          have hdn : decide ((n : Int) < 0) = false := by simp
          obtain ⟨ks, hks⟩ : ∃ ks, ks = t.kids n := ⟨_, rfl⟩
          rw [← hks] at HCK HI1 hpl
          rw [← HS.out] at hpl
          have hg2 : g2 = g ∧ cl2 = cl := by
            have q1 := (hpl w (Chg.refl _ _)).1
            have q2 := (HRO.out w (Chg.refl _ _)).1
            rw [q1] at q2
            simp only [Option.some.injEq, Value.slice.injEq, Addr.mk.injEq, and_true, true_and] at q2
            exact q2
          obtain ⟨rfl, rfl⟩ := hg2
          have HSK := Lib.hid (fun W (hc : Chg [] w W) => (hpl W hc).2.2.2.2.2.2.2.2.2)
          cases hp : t.par n with
          | some p =>
            rw [hp] at hpl
            have HSS := Lib.hid (fun W (hc : Chg [] w W) => show W.cell? ⟨d, 0, none⟩ = some (.slice (some ⟨g2, 0, none⟩) s cl2) ∧ W.cell? ⟨g2, n * 4 + 1, none⟩ = some (.int .i64 ((p : Nat) : Int)) ∧ W.cell? ⟨g2, n * 4 + 2, none⟩ = some (.slice kA ks.length kc) from ⟨(hpl W hc).1, (hpl W hc).2.2.2.2.2.2.1, (hpl W hc).2.2.2.2.2.2.2.1⟩)
            have H25 := Lib.hid (H25k.out p hp)
            have hp0 : decide ((0 : Int) ≤ ((p : Nat) : Int)) = true := by simp
            have hpp : (((p : Nat) : Int) != ((p : Nat) : Int)) = false := by simp
            clear hh hik hpl hl hp H25k H25r hks hll hkl hns
            go_wp2_with (first
              | (go_at_call 25; refine H25.out.mono ?_; rintro e w2 ⟨rfl, hc⟩; have HC2 := Lib.hid (HCW.out.then hc); clear hc)
              | (go_at_call 23; refine (H23.out _ HC2.out).mono ?_; rintro e w3 ⟨rfl, hc⟩; have HC := Lib.hid (HC2.out.then hc); clear hc)
              | (go_at_call 17; refine (H17.out _ HC.out).mono ?_; rintro e w4 ⟨rfl, rfl⟩))
            refine wp_region_held_drew (S := fun w' => w'.cell? ⟨d, 0, none⟩ = some (.slice (some ⟨g2, 0, none⟩) s cl2) ∧ w'.cell? ⟨g2, n * 4 + 1, none⟩ = some (.int .i64 ((p : Nat) : Int)) ∧ w'.cell? ⟨g2, n * 4 + 2, none⟩ = some (.slice kA ks.length kc)) (by kernel_rfl) (HSS.out _ (HC.out.drew)) (fun hHeld => ?_)
            have HC := Lib.hid HC.out.drew
            simp only [List.setIfInBounds_toArray, List.size_toArray, List.length_cons, List.length_nil, Array.replicate]
            refine wpAnyH_take (i := 0) (v := ?_) rfl (by kernel_rfl) (by kernel_rfl) (by kernel_rfl) (fun _ _ _ h => h) (Or.inl ⟨by rfl, ?_⟩) hHeld ?_
            rotate_left
            · (intro w' hSw; obtain ⟨s0, s1, s2⟩ := hSw; go_simp; try with_reducible rfl)
            simp only [Act.put, List.getElem_toArray, List.getElem_cons_succ, List.getElem_cons_zero, List.setIfInBounds_toArray, List.set_cons_zero, List.set_cons_succ]
            refine wpAnyH_take (i := 1) (v := ?_) rfl (by kernel_rfl) (by kernel_rfl) (by kernel_rfl) (fun _ _ _ h => h) (Or.inl ⟨by rfl, ?_⟩) hHeld ?_
            rotate_left
            · (intro w' hSw; obtain ⟨s0, s1, s2⟩ := hSw; go_simp; try with_reducible rfl)
            simp only [Act.put, List.getElem_toArray, List.getElem_cons_succ, List.getElem_cons_zero, List.setIfInBounds_toArray, List.set_cons_zero, List.set_cons_succ]
            refine wpAnyH_take (i := 2) (v := ?_) rfl (by kernel_rfl) (by kernel_rfl) (by kernel_rfl) (fun _ _ _ h => h) (Or.inl ⟨by rfl, ?_⟩) hHeld ?_
            rotate_left
            · (intro w' hSw; obtain ⟨s0, s1, s2⟩ := hSw; go_simp; try with_reducible rfl)
            simp only [Act.put, List.getElem_toArray, List.getElem_cons_succ, List.getElem_cons_zero, List.setIfInBounds_toArray, List.set_cons_zero, List.set_cons_succ]
            refine wpAnyH_take (i := 3) (v := ?_) rfl (by kernel_rfl) (by kernel_rfl) (by kernel_rfl) (fun _ _ _ h => h) (Or.inl ⟨by rfl, ?_⟩) hHeld ?_
            rotate_left
            · (intro w' hSw; obtain ⟨s0, s1, s2⟩ := hSw; go_simp; try with_reducible rfl)
            simp only [Act.put, List.getElem_toArray, List.getElem_cons_succ, List.getElem_cons_zero, List.setIfInBounds_toArray, List.set_cons_zero, List.set_cons_succ]
            refine wpAnyH_take (i := 4) (v := ?_) rfl (by kernel_rfl) (by kernel_rfl) (by kernel_rfl) (fun _ _ _ h => h) (Or.inl ⟨by rfl, ?_⟩) hHeld ?_
            rotate_left
            · (intro w' hSw; obtain ⟨s0, s1, s2⟩ := hSw; go_simp; try with_reducible rfl)
            simp only [Act.put, List.getElem_toArray, List.getElem_cons_succ, List.getElem_cons_zero, List.setIfInBounds_toArray, List.set_cons_zero, List.set_cons_succ]
            refine wpAnyH_take (i := 5) (v := ?_) rfl (by kernel_rfl) (by kernel_rfl) (by kernel_rfl) (fun _ _ _ h => h) (Or.inl ⟨by rfl, ?_⟩) hHeld ?_
            rotate_left
            · (intro w' hSw; obtain ⟨s0, s1, s2⟩ := hSw; go_simp; try with_reducible rfl)
            simp only [Act.put, List.getElem_toArray, List.getElem_cons_succ, List.getElem_cons_zero, List.setIfInBounds_toArray, List.set_cons_zero, List.set_cons_succ]
            refine wpAnyH_take (i := 6) (v := ?_) rfl (by kernel_rfl) (by kernel_rfl) (by kernel_rfl) (fun _ _ _ h => h) (Or.inl ⟨by rfl, ?_⟩) hHeld ?_
            rotate_left
            · (intro w' hSw; obtain ⟨s0, s1, s2⟩ := hSw; go_simp; try with_reducible rfl)
            simp only [Act.put, List.getElem_toArray, List.getElem_cons_succ, List.getElem_cons_zero, List.setIfInBounds_toArray, List.set_cons_zero, List.set_cons_succ]
            refine wpAnyH_take (i := 7) (v := ?_) rfl (by kernel_rfl) (by kernel_rfl) (by kernel_rfl) (fun _ _ _ h => h) (Or.inl ⟨by rfl, ?_⟩) hHeld ?_
            rotate_left
            · (intro w' hSw; obtain ⟨s0, s1, s2⟩ := hSw; go_simp; try with_reducible rfl)
            simp only [Act.put, List.getElem_toArray, List.getElem_cons_succ, List.getElem_cons_zero, List.setIfInBounds_toArray, List.set_cons_zero, List.set_cons_succ]
            refine wpAnyH_take (i := 8) (v := ?_) rfl (by kernel_rfl) (by kernel_rfl) (by kernel_rfl) (fun _ _ _ h => h) (Or.inl ⟨by rfl, ?_⟩) hHeld ?_
            rotate_left
            · (intro w' hSw; obtain ⟨s0, s1, s2⟩ := hSw; go_simp; try with_reducible rfl)
            simp only [Act.put, List.getElem_toArray, List.getElem_cons_succ, List.getElem_cons_zero, List.setIfInBounds_toArray, List.set_cons_zero, List.set_cons_succ]
            refine wpAnyH_take (i := 9) (v := ?_) rfl (by kernel_rfl) (by kernel_rfl) (by kernel_rfl) (fun _ _ _ h => h) (Or.inl ⟨by rfl, ?_⟩) hHeld ?_
            rotate_left
            · (intro w' hSw; obtain ⟨s0, s1, s2⟩ := hSw; go_simp; try with_reducible rfl)
            simp only [Act.put, List.getElem_toArray, List.getElem_cons_succ, List.getElem_cons_zero, List.setIfInBounds_toArray, List.set_cons_zero, List.set_cons_succ]
            refine wpAnyH_take (i := 10) (v := ?_) rfl (by kernel_rfl) (by kernel_rfl) (by kernel_rfl) (fun _ _ _ h => h) (Or.inl ⟨by rfl, ?_⟩) hHeld ?_
            rotate_left
            · (intro w' hSw; obtain ⟨s0, s1, s2⟩ := hSw; go_simp; try with_reducible rfl)
            simp only [Act.put, List.getElem_toArray, List.getElem_cons_succ, List.getElem_cons_zero, List.setIfInBounds_toArray, List.set_cons_zero, List.set_cons_succ]
            refine wpAnyH_take (i := 11) (v := ?_) rfl (by kernel_rfl) (by kernel_rfl) (by kernel_rfl) (fun _ _ _ h => h) (Or.inl ⟨by rfl, ?_⟩) hHeld ?_
            rotate_left
            · (intro w' hSw; obtain ⟨s0, s1, s2⟩ := hSw; go_simp; try with_reducible rfl)
            simp only [Act.put, List.getElem_toArray, List.getElem_cons_succ, List.getElem_cons_zero, List.setIfInBounds_toArray, List.set_cons_zero, List.set_cons_succ]
            refine wpAnyH_take (i := 12) (v := ?_) rfl (by kernel_rfl) (by kernel_rfl) (by kernel_rfl) (fun _ _ _ h => h) (Or.inl ⟨by rfl, ?_⟩) hHeld ?_
            rotate_left
            · (intro w' hSw; obtain ⟨s0, s1, s2⟩ := hSw; go_simp; try with_reducible rfl)
            simp only [Act.put, List.getElem_toArray, List.getElem_cons_succ, List.getElem_cons_zero, List.setIfInBounds_toArray, List.set_cons_zero, List.set_cons_succ]
            refine wpAnyH_take (i := 13) (v := ?_) rfl (by kernel_rfl) (by kernel_rfl) (by kernel_rfl) (fun _ _ _ h => h) (Or.inl ⟨by rfl, ?_⟩) hHeld ?_
            rotate_left
            · (intro w' hSw; obtain ⟨s0, s1, s2⟩ := hSw; go_simp; try with_reducible rfl)
            simp only [Act.put, List.getElem_toArray, List.getElem_cons_succ, List.getElem_cons_zero, List.setIfInBounds_toArray, List.set_cons_zero, List.set_cons_succ]
            refine wpAnyH_take (i := 14) (v := ?_) rfl (by kernel_rfl) (by kernel_rfl) (by kernel_rfl) (fun _ _ _ h => h) (Or.inl ⟨by rfl, ?_⟩) hHeld ?_
            rotate_left
            · (intro w' hSw; obtain ⟨s0, s1, s2⟩ := hSw; go_simp; try with_reducible rfl)
            simp only [Act.put, List.getElem_toArray, List.getElem_cons_succ, List.getElem_cons_zero, List.setIfInBounds_toArray, List.set_cons_zero, List.set_cons_succ]
            refine wpAnyH_take (i := 15) (v := ?_) rfl (by kernel_rfl) (by kernel_rfl) (by kernel_rfl) (fun _ _ _ h => h) (Or.inl ⟨by rfl, ?_⟩) hHeld ?_
            rotate_left
            · (intro w' hSw; obtain ⟨s0, s1, s2⟩ := hSw; go_simp; try with_reducible rfl)
            simp only [Act.put, List.getElem_toArray, List.getElem_cons_succ, List.getElem_cons_zero, List.setIfInBounds_toArray, List.set_cons_zero, List.set_cons_succ]
            refine wpAnyH_take (i := 16) (v := ?_) rfl (by kernel_rfl) (by kernel_rfl) (by kernel_rfl) (fun _ _ _ h => h) (Or.inl ⟨by rfl, ?_⟩) hHeld ?_
            rotate_left
            · (intro w' hSw; obtain ⟨s0, s1, s2⟩ := hSw; go_simp; try with_reducible rfl)
            simp only [Act.put, List.getElem_toArray, List.getElem_cons_succ, List.getElem_cons_zero, List.setIfInBounds_toArray, List.set_cons_zero, List.set_cons_succ]
            refine wpAnyH_take (i := 17) (v := ?_) rfl (by kernel_rfl) (by kernel_rfl) (by kernel_rfl) (fun _ _ _ h => h) (Or.inl ⟨by rfl, ?_⟩) hHeld ?_
            rotate_left
            · (intro w' hSw; obtain ⟨s0, s1, s2⟩ := hSw; go_simp; try with_reducible rfl)
            simp only [Act.put, List.getElem_toArray, List.getElem_cons_succ, List.getElem_cons_zero, List.setIfInBounds_toArray, List.set_cons_zero, List.set_cons_succ]
            refine wpAnyH_take (i := 18) (v := ?_) rfl (by kernel_rfl) (by kernel_rfl) (by kernel_rfl) (fun _ _ _ h => h) (Or.inl ⟨by rfl, ?_⟩) hHeld ?_
            rotate_left
            · (intro w' hSw; obtain ⟨s0, s1, s2⟩ := hSw; go_simp; try with_reducible rfl)
            simp only [Act.put, List.getElem_toArray, List.getElem_cons_succ, List.getElem_cons_zero, List.setIfInBounds_toArray, List.set_cons_zero, List.set_cons_succ]
            refine wpAnyH_take (i := 19) (v := ?_) rfl (by kernel_rfl) (by kernel_rfl) (by kernel_rfl) (fun _ _ _ h => h) (Or.inl ⟨by rfl, ?_⟩) hHeld ?_
            rotate_left
            · (intro w' hSw; obtain ⟨s0, s1, s2⟩ := hSw; go_simp; try with_reducible rfl)
            simp only [Act.put, List.getElem_toArray, List.getElem_cons_succ, List.getElem_cons_zero, List.setIfInBounds_toArray, List.set_cons_zero, List.set_cons_succ]
            refine wpAnyH_take (i := 20) (v := ?_) rfl (by kernel_rfl) (by kernel_rfl) (by kernel_rfl) (fun _ _ _ h => h) (Or.inl ⟨by rfl, ?_⟩) hHeld ?_
            rotate_left
            · (intro w' hSw; obtain ⟨s0, s1, s2⟩ := hSw; go_simp; try with_reducible rfl)
            simp only [Act.put, List.getElem_toArray, List.getElem_cons_succ, List.getElem_cons_zero, List.setIfInBounds_toArray, List.set_cons_zero, List.set_cons_succ]
            refine wpAnyH_take (i := 21) (v := ?_) rfl (by kernel_rfl) (by kernel_rfl) (by kernel_rfl) (fun _ _ _ h => h) (Or.inl ⟨by rfl, ?_⟩) hHeld ?_
            rotate_left
            · (intro w' hSw; obtain ⟨s0, s1, s2⟩ := hSw; go_simp; try with_reducible rfl)
            simp only [Act.put, List.getElem_toArray, List.getElem_cons_succ, List.getElem_cons_zero, List.setIfInBounds_toArray, List.set_cons_zero, List.set_cons_succ]
            refine wpAnyH_take (i := 22) (v := ?_) rfl (by kernel_rfl) (by kernel_rfl) (by kernel_rfl) (fun _ _ _ h => h) (Or.inl ⟨by rfl, ?_⟩) hHeld ?_
            rotate_left
            · (intro w' hSw; obtain ⟨s0, s1, s2⟩ := hSw; go_simp; try with_reducible rfl)
            simp only [Act.put, List.getElem_toArray, List.getElem_cons_succ, List.getElem_cons_zero, List.setIfInBounds_toArray, List.set_cons_zero, List.set_cons_succ]
            refine wpAnyH_take (i := 23) (v := ?_) rfl (by kernel_rfl) (by kernel_rfl) (by kernel_rfl) (fun _ _ _ h => h) (Or.inl ⟨by rfl, ?_⟩) hHeld ?_
            rotate_left
            · (intro w' hSw; obtain ⟨s0, s1, s2⟩ := hSw; go_simp; try with_reducible rfl)
            simp only [Act.put, List.getElem_toArray, List.getElem_cons_succ, List.getElem_cons_zero, List.setIfInBounds_toArray, List.set_cons_zero, List.set_cons_succ]
            refine wpAnyH_take (i := 24) (v := ?_) rfl (by kernel_rfl) (by kernel_rfl) (by kernel_rfl) (fun _ _ _ h => h) (Or.inl ⟨by rfl, ?_⟩) hHeld ?_
            rotate_left
            · (intro w' hSw; obtain ⟨s0, s1, s2⟩ := hSw; go_simp; try with_reducible rfl)
            simp only [Act.put, List.getElem_toArray, List.getElem_cons_succ, List.getElem_cons_zero, List.setIfInBounds_toArray, List.set_cons_zero, List.set_cons_succ]
            refine wpAnyH_take (i := 25) (v := ?_) rfl (by kernel_rfl) (by kernel_rfl) (by kernel_rfl) (fun _ _ _ h => h) (Or.inl ⟨by rfl, ?_⟩) hHeld ?_
            rotate_left
            · (intro w' hSw; obtain ⟨s0, s1, s2⟩ := hSw; go_simp; try with_reducible rfl)
            simp only [Act.put, List.getElem_toArray, List.getElem_cons_succ, List.getElem_cons_zero, List.setIfInBounds_toArray, List.set_cons_zero, List.set_cons_succ]
            refine wpAnyH_take (i := 26) (v := ?_) rfl (by kernel_rfl) (by kernel_rfl) (by kernel_rfl) (fun _ _ _ h => h) (Or.inl ⟨by rfl, ?_⟩) hHeld ?_
            rotate_left
            · (intro w' hSw; obtain ⟨s0, s1, s2⟩ := hSw; go_simp; try with_reducible rfl)
            simp only [Act.put, List.getElem_toArray, List.getElem_cons_succ, List.getElem_cons_zero, List.setIfInBounds_toArray, List.set_cons_zero, List.set_cons_succ]
            refine wpAnyH_take (i := 27) (v := ?_) rfl (by kernel_rfl) (by kernel_rfl) (by kernel_rfl) (fun _ _ _ h => h) (Or.inl ⟨by rfl, ?_⟩) hHeld ?_
            rotate_left
            · (intro w' hSw; obtain ⟨s0, s1, s2⟩ := hSw; go_simp; try with_reducible rfl)
            simp only [Act.put, List.getElem_toArray, List.getElem_cons_succ, List.getElem_cons_zero, List.setIfInBounds_toArray, List.set_cons_zero, List.set_cons_succ]
            refine wpAnyH_take (i := 28) (v := ?_) rfl (by kernel_rfl) (by kernel_rfl) (by kernel_rfl) (fun _ _ _ h => h) (Or.inl ⟨by rfl, ?_⟩) hHeld ?_
            rotate_left
            · (intro w' hSw; obtain ⟨s0, s1, s2⟩ := hSw; go_simp; try with_reducible rfl)
            simp only [Act.put, List.getElem_toArray, List.getElem_cons_succ, List.getElem_cons_zero, List.setIfInBounds_toArray, List.set_cons_zero, List.set_cons_succ]
            refine wpAnyH_take (i := 29) (v := ?_) rfl (by kernel_rfl) (by kernel_rfl) (by kernel_rfl) (fun _ _ _ h => h) (Or.inl ⟨by rfl, ?_⟩) hHeld ?_
            rotate_left
            · (intro w' hSw; obtain ⟨s0, s1, s2⟩ := hSw; go_simp; try with_reducible rfl)
            simp only [Act.put, List.getElem_toArray, List.getElem_cons_succ, List.getElem_cons_zero, List.setIfInBounds_toArray, List.set_cons_zero, List.set_cons_succ]
            refine wpAnyH_take (i := 30) (v := undef) rfl (by kernel_rfl) (by kernel_rfl) (by kernel_rfl) (fun _ _ _ h => h) (Or.inr ⟨by kernel_rfl, rfl⟩) hHeld ?_
            simp only [Act.put, List.getElem_toArray, List.getElem_cons_succ, List.getElem_cons_zero, List.setIfInBounds_toArray, List.set_cons_zero, List.set_cons_succ]
            refine wpAnyH_take (i := 31) (v := undef) rfl (by kernel_rfl) (by kernel_rfl) (by kernel_rfl) (fun _ _ _ h => h) (Or.inr ⟨by kernel_rfl, rfl⟩) hHeld ?_
            simp only [Act.put, List.getElem_toArray, List.getElem_cons_succ, List.getElem_cons_zero, List.setIfInBounds_toArray, List.set_cons_zero, List.set_cons_succ]
            refine wpAnyH_take (i := 32) (v := ?_) rfl (by kernel_rfl) (by kernel_rfl) (by kernel_rfl) (fun _ _ _ h => h) (Or.inl ⟨by rfl, ?_⟩) hHeld ?_
            rotate_left
            · (intro w' hSw; obtain ⟨s0, s1, s2⟩ := hSw; go_simp; try with_reducible rfl)
            simp only [Act.put, List.getElem_toArray, List.getElem_cons_succ, List.getElem_cons_zero, List.setIfInBounds_toArray, List.set_cons_zero, List.set_cons_succ]
            refine wpAnyH_take (i := 33) (v := ?_) rfl (by kernel_rfl) (by kernel_rfl) (by kernel_rfl) (fun _ _ _ h => h) (Or.inl ⟨by rfl, ?_⟩) hHeld ?_
            rotate_left
            · (intro w' hSw; obtain ⟨s0, s1, s2⟩ := hSw; go_simp; try with_reducible rfl)
            simp only [Act.put, List.getElem_toArray, List.getElem_cons_succ, List.getElem_cons_zero, List.setIfInBounds_toArray, List.set_cons_zero, List.set_cons_succ]
            refine wpAnyH_take (i := 34) (v := ?_) rfl (by kernel_rfl) (by kernel_rfl) (by kernel_rfl) (fun _ _ _ h => h) (Or.inl ⟨by rfl, ?_⟩) hHeld ?_
            rotate_left
            · (intro w' hSw; obtain ⟨s0, s1, s2⟩ := hSw; go_simp; try with_reducible rfl)
            simp only [Act.put, List.getElem_toArray, List.getElem_cons_succ, List.getElem_cons_zero, List.setIfInBounds_toArray, List.set_cons_zero, List.set_cons_succ]
            refine wpAnyH_take (i := 35) (v := ?_) rfl (by kernel_rfl) (by kernel_rfl) (by kernel_rfl) (fun _ _ _ h => h) (Or.inl ⟨by rfl, ?_⟩) hHeld ?_
            rotate_left
            · (intro w' hSw; obtain ⟨s0, s1, s2⟩ := hSw; go_simp; try with_reducible rfl)
            simp only [Act.put, List.getElem_toArray, List.getElem_cons_succ, List.getElem_cons_zero, List.setIfInBounds_toArray, List.set_cons_zero, List.set_cons_succ]
            refine wpAnyH_take (i := 36) (v := ?_) rfl (by kernel_rfl) (by kernel_rfl) (by kernel_rfl) (fun _ _ _ h => h) (Or.inl ⟨by rfl, ?_⟩) hHeld ?_
            rotate_left
            · (intro w' hSw; obtain ⟨s0, s1, s2⟩ := hSw; go_simp; try with_reducible rfl)
            simp only [Act.put, List.getElem_toArray, List.getElem_cons_succ, List.getElem_cons_zero, List.setIfInBounds_toArray, List.set_cons_zero, List.set_cons_succ]
            refine wpAnyH_take (i := 38) (v := ?_) rfl (by kernel_rfl) (by kernel_rfl) (by kernel_rfl) (fun _ _ _ h => h) (Or.inl ⟨by rfl, ?_⟩) hHeld ?_
            rotate_left
            · (intro w' hSw; obtain ⟨s0, s1, s2⟩ := hSw; go_simp; try with_reducible rfl)
            simp only [Act.put, List.getElem_toArray, List.getElem_cons_succ, List.getElem_cons_zero, List.setIfInBounds_toArray, List.set_cons_zero, List.set_cons_succ]
            refine wpAnyH_take (i := 39) (v := ?_) rfl (by kernel_rfl) (by kernel_rfl) (by kernel_rfl) (fun _ _ _ h => h) (Or.inl ⟨by rfl, ?_⟩) hHeld ?_
            rotate_left
            · (intro w' hSw; obtain ⟨s0, s1, s2⟩ := hSw; go_simp; try with_reducible rfl)
            simp only [Act.put, List.getElem_toArray, List.getElem_cons_succ, List.getElem_cons_zero, List.setIfInBounds_toArray, List.set_cons_zero, List.set_cons_succ]
            refine wpAnyH_take (i := 40) (v := ?_) rfl (by kernel_rfl) (by kernel_rfl) (by kernel_rfl) (fun _ _ _ h => h) (Or.inl ⟨by rfl, ?_⟩) hHeld ?_
            rotate_left
            · (intro w' hSw; obtain ⟨s0, s1, s2⟩ := hSw; go_simp; try with_reducible rfl)
            simp only [Act.put, List.getElem_toArray, List.getElem_cons_succ, List.getElem_cons_zero, List.setIfInBounds_toArray, List.set_cons_zero, List.set_cons_succ]
            refine wpAnyH_take (i := 41) (v := ?_) rfl (by kernel_rfl) (by kernel_rfl) (by kernel_rfl) (fun _ _ _ h => h) (Or.inl ⟨by rfl, ?_⟩) hHeld ?_
            rotate_left
            · (intro w' hSw; obtain ⟨s0, s1, s2⟩ := hSw; go_simp; try with_reducible rfl)
            simp only [Act.put, List.getElem_toArray, List.getElem_cons_succ, List.getElem_cons_zero, List.setIfInBounds_toArray, List.set_cons_zero, List.set_cons_succ]
            refine wpAnyH_take (i := 42) (v := ?_) rfl (by kernel_rfl) (by kernel_rfl) (by kernel_rfl) (fun _ _ _ h => h) (Or.inl ⟨by rfl, ?_⟩) hHeld ?_
            rotate_left
            · (intro w' hSw; obtain ⟨s0, s1, s2⟩ := hSw; go_simp; try with_reducible rfl)
            simp only [Act.put, List.getElem_toArray, List.getElem_cons_succ, List.getElem_cons_zero, List.setIfInBounds_toArray, List.set_cons_zero, List.set_cons_succ]
            refine wpAnyH_take (i := 43) (v := ?_) rfl (by kernel_rfl) (by kernel_rfl) (by kernel_rfl) (fun _ _ _ h => h) (Or.inl ⟨by rfl, ?_⟩) hHeld ?_
            rotate_left
            · (intro w' hSw; obtain ⟨s0, s1, s2⟩ := hSw; go_simp; try with_reducible rfl)
            simp only [Act.put, List.getElem_toArray, List.getElem_cons_succ, List.getElem_cons_zero, List.setIfInBounds_toArray, List.set_cons_zero, List.set_cons_succ]
            refine wpAnyH_take (i := 44) (v := ?_) rfl (by kernel_rfl) (by kernel_rfl) (by kernel_rfl) (fun _ _ _ h => h) (Or.inl ⟨by rfl, ?_⟩) hHeld ?_
            rotate_left
            · (intro w' hSw; obtain ⟨s0, s1, s2⟩ := hSw; go_simp; try with_reducible rfl)
            simp only [Act.put, List.getElem_toArray, List.getElem_cons_succ, List.getElem_cons_zero, List.setIfInBounds_toArray, List.set_cons_zero, List.set_cons_succ]
            refine wpAnyH_take (i := 45) (v := ?_) rfl (by kernel_rfl) (by kernel_rfl) (by kernel_rfl) (fun _ _ _ h => h) (Or.inl ⟨by rfl, ?_⟩) hHeld ?_
            rotate_left
            · (intro w' hSw; obtain ⟨s0, s1, s2⟩ := hSw; go_simp; try with_reducible rfl)
            simp only [Act.put, List.getElem_toArray, List.getElem_cons_succ, List.getElem_cons_zero, List.setIfInBounds_toArray, List.set_cons_zero, List.set_cons_succ]
            refine wpAnyH_ready (rs := [37]) (by kernel_rfl) (by simp) ?_
            refine AllReadyH.cons rfl (fun K hK => ?_) AllReadyH.nil
            go_simp
            refine (HCK.out _ HC.out).mono ?_
            rintro e w2 ⟨A1, c1, rfl, hf⟩
            have HR1 := Lib.hid hf.rd
            have HC := Lib.hid (HC.out.then hf.2.2)
            clear hf
            refine hK.out _ _ (HSS.out _ HC.out) (fun hHeld => ?_)
            clear hK K
            simp only [Act.put, List.getElem_toArray, List.getElem_cons_succ, List.getElem_cons_zero, List.setIfInBounds_toArray, List.set_cons_zero, List.set_cons_succ]
            refine wpAnyH_ready (rs := [46]) (by kernel_rfl) (by simp) ?_
            refine AllReadyH.cons rfl (fun K hK => ?_) AllReadyH.nil
            go_simp
            refine (HI1.out _ _ _ HR1.out (HSK.out _ HC.out)).mono ?_
            rintro e w3 ⟨rfl, hc⟩
            have HC := Lib.hid (HC.out.then hc)
            clear hc
            refine hK.out _ _ (HSS.out _ HC.out) (fun hHeld => ?_)
            clear hK K
            simp only [Act.put, List.getElem_toArray, List.getElem_cons_succ, List.getElem_cons_zero, List.setIfInBounds_toArray, List.set_cons_zero, List.set_cons_succ]
            refine wpAnyH_take (i := 47) (v := ?_) rfl (by kernel_rfl) (by kernel_rfl) (by kernel_rfl) (fun _ _ _ h => h) (Or.inl ⟨by rfl, ?_⟩) hHeld ?_
            rotate_left
            · (intro w' hSw; obtain ⟨s0, s1, s2⟩ := hSw; go_simp; try with_reducible rfl)
            simp only [Act.put, List.getElem_toArray, List.getElem_cons_succ, List.getElem_cons_zero, List.setIfInBounds_toArray, List.set_cons_zero, List.set_cons_succ]
            refine wpAnyH_take (i := 48) (v := ?_) rfl (by kernel_rfl) (by kernel_rfl) (by kernel_rfl) (fun _ _ _ h => h) (Or.inl ⟨by rfl, ?_⟩) hHeld ?_
            rotate_left
            · (intro w' hSw; obtain ⟨s0, s1, s2⟩ := hSw; go_simp; try with_reducible rfl)
            simp only [Act.put, List.getElem_toArray, List.getElem_cons_succ, List.getElem_cons_zero, List.setIfInBounds_toArray, List.set_cons_zero, List.set_cons_succ]
            refine wpAnyH_take (i := 49) (v := ?_) rfl (by kernel_rfl) (by kernel_rfl) (by kernel_rfl) (fun _ _ _ h => h) (Or.inl ⟨by rfl, ?_⟩) hHeld ?_
            rotate_left
            · (intro w' hSw; obtain ⟨s0, s1, s2⟩ := hSw; go_simp; try with_reducible rfl)
            simp only [Act.put, List.getElem_toArray, List.getElem_cons_succ, List.getElem_cons_zero, List.setIfInBounds_toArray, List.set_cons_zero, List.set_cons_succ]
            refine wpAnyH_take (i := 50) (v := ?_) rfl (by kernel_rfl) (by kernel_rfl) (by kernel_rfl) (fun _ _ _ h => h) (Or.inl ⟨by rfl, ?_⟩) hHeld ?_
            rotate_left
            · (intro w' hSw; obtain ⟨s0, s1, s2⟩ := hSw; go_simp; try with_reducible rfl)
            simp only [Act.put, List.getElem_toArray, List.getElem_cons_succ, List.getElem_cons_zero, List.setIfInBounds_toArray, List.set_cons_zero, List.set_cons_succ]
            refine wpAnyH_take (i := 51) (v := ?_) rfl (by kernel_rfl) (by kernel_rfl) (by kernel_rfl) (fun _ _ _ h => h) (Or.inl ⟨by rfl, ?_⟩) hHeld ?_
            rotate_left
            · (intro w' hSw; obtain ⟨s0, s1, s2⟩ := hSw; go_simp; try with_reducible rfl)
            simp only [Act.put, List.getElem_toArray, List.getElem_cons_succ, List.getElem_cons_zero, List.setIfInBounds_toArray, List.set_cons_zero, List.set_cons_succ]
            refine wpAnyH_take (i := 53) (v := ?_) rfl (by kernel_rfl) (by kernel_rfl) (by kernel_rfl) (fun _ _ _ h => h) (Or.inl ⟨by rfl, ?_⟩) hHeld ?_
            rotate_left
            · (intro w' hSw; obtain ⟨s0, s1, s2⟩ := hSw; go_simp; try with_reducible rfl)
            simp only [Act.put, List.getElem_toArray, List.getElem_cons_succ, List.getElem_cons_zero, List.setIfInBounds_toArray, List.set_cons_zero, List.set_cons_succ]
            refine wpAnyH_take (i := 54) (v := ?_) rfl (by kernel_rfl) (by kernel_rfl) (by kernel_rfl) (fun _ _ _ h => h) (Or.inl ⟨by rfl, ?_⟩) hHeld ?_
            rotate_left
            · (intro w' hSw; obtain ⟨s0, s1, s2⟩ := hSw; go_simp; try with_reducible rfl)
            simp only [Act.put, List.getElem_toArray, List.getElem_cons_succ, List.getElem_cons_zero, List.setIfInBounds_toArray, List.set_cons_zero, List.set_cons_succ]
            refine wpAnyH_ready (rs := [52]) (by kernel_rfl) (by simp) ?_
            refine AllReadyH.cons rfl (fun K hK => ?_) AllReadyH.nil
            go_simp
            refine (HDS.out _ HC.out).mono ?_
            rintro e w4 ⟨A2, c2, rfl, hf⟩
            have HR2 := Lib.hid hf.rd
            have HC := Lib.hid (HC.out.then hf.2.2)
            clear hf
            refine hK.out _ _ (HSS.out _ HC.out) (fun hHeld => ?_)
            clear hK K
            simp only [Act.put, List.getElem_toArray, List.getElem_cons_succ, List.getElem_cons_zero, List.setIfInBounds_toArray, List.set_cons_zero, List.set_cons_succ]
            refine wpAnyH_ready (rs := [55]) (by kernel_rfl) (by simp) ?_
            refine AllReadyH.cons rfl (fun K hK => ?_) AllReadyH.nil
            go_simp
            refine (HRD.out _ HC.out).mono ?_
            rintro e w5 ⟨A3, c3, rfl, hf⟩
            have HR2 := Lib.hid (HR2.out.quiet hf.2.2)
            have HR3 := Lib.hid hf.rd
            have HC := Lib.hid (HC.out.then hf.2.2)
            clear hf
            refine hK.out _ _ (HSS.out _ HC.out) (fun hHeld => ?_)
            clear hK K
            simp only [Act.put, List.getElem_toArray, List.getElem_cons_succ, List.getElem_cons_zero, List.setIfInBounds_toArray, List.set_cons_zero, List.set_cons_succ]
            refine wpAnyH_ready (rs := [56]) (by kernel_rfl) (by simp) ?_
            refine AllReadyH.cons rfl (fun K hK => ?_) AllReadyH.nil
            go_simp
            refine (HI2.out _ _ _ HR2.out HR3.out).mono ?_
            rintro e w6 ⟨rfl, hc⟩
            have HC := Lib.hid (HC.out.then hc)
            clear hc
            refine hK.out _ _ (HSS.out _ HC.out) (fun hHeld => ?_)
            clear hK K
            simp only [Act.put, List.getElem_toArray, List.getElem_cons_succ, List.getElem_cons_zero, List.setIfInBounds_toArray, List.set_cons_zero, List.set_cons_succ]
            refine wpAnyH_take (i := 57) (v := ?_) rfl (by kernel_rfl) (by kernel_rfl) (by kernel_rfl) (fun _ _ _ h => h) (Or.inl ⟨by rfl, ?_⟩) hHeld ?_
            rotate_left
            · (intro w' hSw; obtain ⟨s0, s1, s2⟩ := hSw; go_simp; try with_reducible rfl)
            simp only [Act.put, List.getElem_toArray, List.getElem_cons_succ, List.getElem_cons_zero, List.setIfInBounds_toArray, List.set_cons_zero, List.set_cons_succ]
            refine wpAnyH_take (i := 58) (v := ?_) rfl (by kernel_rfl) (by kernel_rfl) (by kernel_rfl) (fun _ _ _ h => h) (Or.inl ⟨by rfl, ?_⟩) hHeld ?_
            rotate_left
            · (intro w' hSw; obtain ⟨s0, s1, s2⟩ := hSw; go_simp; try with_reducible rfl)
            simp only [Act.put, List.getElem_toArray, List.getElem_cons_succ, List.getElem_cons_zero, List.setIfInBounds_toArray, List.set_cons_zero, List.set_cons_succ]
            refine wpAnyH_done (by kernel_rfl) ?_ _
            go_wp2
            go_loopg [8] s (fun gh kv wy => ∃ q : Nat, q + gh = s ∧ kv = .int .i64 q ∧ Hid (Chg [] w wy))
            case atStart => exact ⟨0, by omega, rfl, Lib.hid HC.out⟩
            case round =>
              obtain ⟨q, hq, rfl, HQ⟩ := hrel
              obtain ⟨z0, lz, _, _⟩ := HRO.out wr HQ.out
              by_cases hql : q < s
              · obtain ⟨b, hb⟩ : ∃ b : Bool, b = true ↔ t.under ((q : Nat) : Int) ((n : Nat) : Int) := by
                  by_cases hu : t.under ((q : Nat) : Int) ((n : Nat) : Int)
                  · exact ⟨true, by simp [hu]⟩
                  · exact ⟨false, by simp [hu]⟩
                have HU1 := Lib.hid (HL.out.funder wr HQ.out _ _ b hb)
                have HU2 := Lib.hid (fun W (hcw : Chg [] w W) => HL.out.dunder W hcw _ _ b hb)
                have nb : (b != b) = false := by simp
                have d2 : decide ((q : Int) < (s : Int)) = true := by simp; omega
                clear hb
                go_wp2_with (first
                  | (go_at_call 24; refine HU1.out.mono ?_; rintro e w8 ⟨rfl, hc⟩; have HC8 := Lib.hid (HQ.out.then hc); clear hc)
                  | (go_at_call 37; refine (HU2.out _ HC8.out).mono ?_; rintro e w9 ⟨rfl, hc⟩; have HC9 := Lib.hid (HC8.out.then hc); clear hc))
                go_roundg (s - q - 1)
                case measure => omega
                case rel => exact ⟨q + 1, by omega, by go_num, Lib.hid HC9.out⟩
              · obtain rfl : q = s := by omega
                have d2 : decide ((q : Int) < (q : Int)) = false := by simp
                go_wp2
                go_roundg (q + 2 - k - 1)
                case measure => omega
                case rel => exact ⟨k + 1, ((n : Nat) : Int) + 1, by omega, rfl, Lib.hid (by have := HK.out; omega), Lib.hid HQ.out⟩

          | none =>
            rw [hp] at hpl
            have HSS := Lib.hid (fun W (hc : Chg [] w W) => show W.cell? ⟨d, 0, none⟩ = some (.slice (some ⟨g2, 0, none⟩) s cl2) ∧ W.cell? ⟨g2, n * 4 + 1, none⟩ = some (.int .i64 (-1)) ∧ W.cell? ⟨g2, n * 4 + 2, none⟩ = some (.slice kA ks.length kc) from ⟨(hpl W hc).1, (hpl W hc).2.2.2.2.2.2.1, (hpl W hc).2.2.2.2.2.2.2.1⟩)
            have H25 := Lib.hid (H25r.out hp)
            clear hh hik hpl hl hp H25k H25r hks hll hkl hns
            go_wp2_with (first
              | (go_at_call 25; refine H25.out.mono ?_; rintro e w2 ⟨rfl, hc⟩; have HC2 := Lib.hid (HCW.out.then hc); clear hc)
              | (go_at_call 23; refine (H23.out _ HC2.out).mono ?_; rintro e w3 ⟨rfl, hc⟩; have HC := Lib.hid (HC2.out.then hc); clear hc)
              | (go_at_call 17; refine (H17.out _ HC.out).mono ?_; rintro e w4 ⟨rfl, rfl⟩))
            refine wp_region_held_drew (S := fun w' => w'.cell? ⟨d, 0, none⟩ = some (.slice (some ⟨g2, 0, none⟩) s cl2) ∧ w'.cell? ⟨g2, n * 4 + 1, none⟩ = some (.int .i64 (-1)) ∧ w'.cell? ⟨g2, n * 4 + 2, none⟩ = some (.slice kA ks.length kc)) (by kernel_rfl) (HSS.out _ (HC.out.drew)) (fun hHeld => ?_)
            have HC := Lib.hid HC.out.drew
            simp only [List.setIfInBounds_toArray, List.size_toArray, List.length_cons, List.length_nil, Array.replicate]
            refine wpAnyH_take (i := 0) (v := ?_) rfl (by kernel_rfl) (by kernel_rfl) (by kernel_rfl) (fun _ _ _ h => h) (Or.inl ⟨by rfl, ?_⟩) hHeld ?_
            rotate_left
            · (intro w' hSw; obtain ⟨s0, s1, s2⟩ := hSw; go_simp; try with_reducible rfl)
            simp only [Act.put, List.getElem_toArray, List.getElem_cons_succ, List.getElem_cons_zero, List.setIfInBounds_toArray, List.set_cons_zero, List.set_cons_succ]
            refine wpAnyH_take (i := 1) (v := ?_) rfl (by kernel_rfl) (by kernel_rfl) (by kernel_rfl) (fun _ _ _ h => h) (Or.inl ⟨by rfl, ?_⟩) hHeld ?_
            rotate_left
            · (intro w' hSw; obtain ⟨s0, s1, s2⟩ := hSw; go_simp; try with_reducible rfl)
            simp only [Act.put, List.getElem_toArray, List.getElem_cons_succ, List.getElem_cons_zero, List.setIfInBounds_toArray, List.set_cons_zero, List.set_cons_succ]
            refine wpAnyH_take (i := 2) (v := ?_) rfl (by kernel_rfl) (by kernel_rfl) (by kernel_rfl) (fun _ _ _ h => h) (Or.inl ⟨by rfl, ?_⟩) hHeld ?_
            rotate_left
            · (intro w' hSw; obtain ⟨s0, s1, s2⟩ := hSw; go_simp; try with_reducible rfl)
            simp only [Act.put, List.getElem_toArray, List.getElem_cons_succ, List.getElem_cons_zero, List.setIfInBounds_toArray, List.set_cons_zero, List.set_cons_succ]
            refine wpAnyH_take (i := 3) (v := ?_) rfl (by kernel_rfl) (by kernel_rfl) (by kernel_rfl) (fun _ _ _ h => h) (Or.inl ⟨by rfl, ?_⟩) hHeld ?_
            rotate_left
            · (intro w' hSw; obtain ⟨s0, s1, s2⟩ := hSw; go_simp; try with_reducible rfl)
            simp only [Act.put, List.getElem_toArray, List.getElem_cons_succ, List.getElem_cons_zero, List.setIfInBounds_toArray, List.set_cons_zero, List.set_cons_succ]
            refine wpAnyH_take (i := 4) (v := ?_) rfl (by kernel_rfl) (by kernel_rfl) (by kernel_rfl) (fun _ _ _ h => h) (Or.inl ⟨by rfl, ?_⟩) hHeld ?_
            rotate_left
            · (intro w' hSw; obtain ⟨s0, s1, s2⟩ := hSw; go_simp; try with_reducible rfl)
            simp only [Act.put, List.getElem_toArray, List.getElem_cons_succ, List.getElem_cons_zero, List.setIfInBounds_toArray, List.set_cons_zero, List.set_cons_succ]
            refine wpAnyH_take (i := 5) (v := ?_) rfl (by kernel_rfl) (by kernel_rfl) (by kernel_rfl) (fun _ _ _ h => h) (Or.inl ⟨by rfl, ?_⟩) hHeld ?_
            rotate_left
            · (intro w' hSw; obtain ⟨s0, s1, s2⟩ := hSw; go_simp; try with_reducible rfl)
            simp only [Act.put, List.getElem_toArray, List.getElem_cons_succ, List.getElem_cons_zero, List.setIfInBounds_toArray, List.set_cons_zero, List.set_cons_succ]
            refine wpAnyH_take (i := 6) (v := ?_) rfl (by kernel_rfl) (by kernel_rfl) (by kernel_rfl) (fun _ _ _ h => h) (Or.inl ⟨by rfl, ?_⟩) hHeld ?_
            rotate_left
            · (intro w' hSw; obtain ⟨s0, s1, s2⟩ := hSw; go_simp; try with_reducible rfl)
            simp only [Act.put, List.getElem_toArray, List.getElem_cons_succ, List.getElem_cons_zero, List.setIfInBounds_toArray, List.set_cons_zero, List.set_cons_succ]
            refine wpAnyH_take (i := 7) (v := ?_) rfl (by kernel_rfl) (by kernel_rfl) (by kernel_rfl) (fun _ _ _ h => h) (Or.inl ⟨by rfl, ?_⟩) hHeld ?_
            rotate_left
            · (intro w' hSw; obtain ⟨s0, s1, s2⟩ := hSw; go_simp; try with_reducible rfl)
            simp only [Act.put, List.getElem_toArray, List.getElem_cons_succ, List.getElem_cons_zero, List.setIfInBounds_toArray, List.set_cons_zero, List.set_cons_succ]
            refine wpAnyH_take (i := 8) (v := ?_) rfl (by kernel_rfl) (by kernel_rfl) (by kernel_rfl) (fun _ _ _ h => h) (Or.inl ⟨by rfl, ?_⟩) hHeld ?_
            rotate_left
            · (intro w' hSw; obtain ⟨s0, s1, s2⟩ := hSw; go_simp; try with_reducible rfl)
            simp only [Act.put, List.getElem_toArray, List.getElem_cons_succ, List.getElem_cons_zero, List.setIfInBounds_toArray, List.set_cons_zero, List.set_cons_succ]
            refine wpAnyH_take (i := 9) (v := ?_) rfl (by kernel_rfl) (by kernel_rfl) (by kernel_rfl) (fun _ _ _ h => h) (Or.inl ⟨by rfl, ?_⟩) hHeld ?_
            rotate_left
            · (intro w' hSw; obtain ⟨s0, s1, s2⟩ := hSw; go_simp; try with_reducible rfl)
            simp only [Act.put, List.getElem_toArray, List.getElem_cons_succ, List.getElem_cons_zero, List.setIfInBounds_toArray, List.set_cons_zero, List.set_cons_succ]
            refine wpAnyH_take (i := 10) (v := ?_) rfl (by kernel_rfl) (by kernel_rfl) (by kernel_rfl) (fun _ _ _ h => h) (Or.inl ⟨by rfl, ?_⟩) hHeld ?_
            rotate_left
            · (intro w' hSw; obtain ⟨s0, s1, s2⟩ := hSw; go_simp; try with_reducible rfl)
            simp only [Act.put, List.getElem_toArray, List.getElem_cons_succ, List.getElem_cons_zero, List.setIfInBounds_toArray, List.set_cons_zero, List.set_cons_succ]
            refine wpAnyH_take (i := 11) (v := ?_) rfl (by kernel_rfl) (by kernel_rfl) (by kernel_rfl) (fun _ _ _ h => h) (Or.inl ⟨by rfl, ?_⟩) hHeld ?_
            rotate_left
            · (intro w' hSw; obtain ⟨s0, s1, s2⟩ := hSw; go_simp; try with_reducible rfl)
            simp only [Act.put, List.getElem_toArray, List.getElem_cons_succ, List.getElem_cons_zero, List.setIfInBounds_toArray, List.set_cons_zero, List.set_cons_succ]
            refine wpAnyH_take (i := 12) (v := ?_) rfl (by kernel_rfl) (by kernel_rfl) (by kernel_rfl) (fun _ _ _ h => h) (Or.inl ⟨by rfl, ?_⟩) hHeld ?_
            rotate_left
            · (intro w' hSw; obtain ⟨s0, s1, s2⟩ := hSw; go_simp; try with_reducible rfl)
            simp only [Act.put, List.getElem_toArray, List.getElem_cons_succ, List.getElem_cons_zero, List.setIfInBounds_toArray, List.set_cons_zero, List.set_cons_succ]
            refine wpAnyH_take (i := 13) (v := ?_) rfl (by kernel_rfl) (by kernel_rfl) (by kernel_rfl) (fun _ _ _ h => h) (Or.inl ⟨by rfl, ?_⟩) hHeld ?_
            rotate_left
            · (intro w' hSw; obtain ⟨s0, s1, s2⟩ := hSw; go_simp; try with_reducible rfl)
            simp only [Act.put, List.getElem_toArray, List.getElem_cons_succ, List.getElem_cons_zero, List.setIfInBounds_toArray, List.set_cons_zero, List.set_cons_succ]
            refine wpAnyH_take (i := 14) (v := undef) rfl (by kernel_rfl) (by kernel_rfl) (by kernel_rfl) (fun _ _ _ h => h) (Or.inr ⟨by kernel_rfl, rfl⟩) hHeld ?_
            simp only [Act.put, List.getElem_toArray, List.getElem_cons_succ, List.getElem_cons_zero, List.setIfInBounds_toArray, List.set_cons_zero, List.set_cons_succ]
            refine wpAnyH_take (i := 15) (v := undef) rfl (by kernel_rfl) (by kernel_rfl) (by kernel_rfl) (fun _ _ _ h => h) (Or.inr ⟨by kernel_rfl, rfl⟩) hHeld ?_
            simp only [Act.put, List.getElem_toArray, List.getElem_cons_succ, List.getElem_cons_zero, List.setIfInBounds_toArray, List.set_cons_zero, List.set_cons_succ]
            refine wpAnyH_take (i := 16) (v := undef) rfl (by kernel_rfl) (by kernel_rfl) (by kernel_rfl) (fun _ _ _ h => h) (Or.inr ⟨by kernel_rfl, rfl⟩) hHeld ?_
            simp only [Act.put, List.getElem_toArray, List.getElem_cons_succ, List.getElem_cons_zero, List.setIfInBounds_toArray, List.set_cons_zero, List.set_cons_succ]
            refine wpAnyH_take (i := 17) (v := undef) rfl (by kernel_rfl) (by kernel_rfl) (by kernel_rfl) (fun _ _ _ h => h) (Or.inr ⟨by kernel_rfl, rfl⟩) hHeld ?_
            simp only [Act.put, List.getElem_toArray, List.getElem_cons_succ, List.getElem_cons_zero, List.setIfInBounds_toArray, List.set_cons_zero, List.set_cons_succ]
            refine wpAnyH_take (i := 18) (v := undef) rfl (by kernel_rfl) (by kernel_rfl) (by kernel_rfl) (fun _ _ _ h => h) (Or.inr ⟨by kernel_rfl, rfl⟩) hHeld ?_
            simp only [Act.put, List.getElem_toArray, List.getElem_cons_succ, List.getElem_cons_zero, List.setIfInBounds_toArray, List.set_cons_zero, List.set_cons_succ]
            refine wpAnyH_take (i := 19) (v := undef) rfl (by kernel_rfl) (by kernel_rfl) (by kernel_rfl) (fun _ _ _ h => h) (Or.inr ⟨by kernel_rfl, rfl⟩) hHeld ?_
            simp only [Act.put, List.getElem_toArray, List.getElem_cons_succ, List.getElem_cons_zero, List.setIfInBounds_toArray, List.set_cons_zero, List.set_cons_succ]
            refine wpAnyH_take (i := 20) (v := undef) rfl (by kernel_rfl) (by kernel_rfl) (by kernel_rfl) (fun _ _ _ h => h) (Or.inr ⟨by kernel_rfl, rfl⟩) hHeld ?_
            simp only [Act.put, List.getElem_toArray, List.getElem_cons_succ, List.getElem_cons_zero, List.setIfInBounds_toArray, List.set_cons_zero, List.set_cons_succ]
            refine wpAnyH_take (i := 21) (v := undef) rfl (by kernel_rfl) (by kernel_rfl) (by kernel_rfl) (fun _ _ _ h => h) (Or.inr ⟨by kernel_rfl, rfl⟩) hHeld ?_
            simp only [Act.put, List.getElem_toArray, List.getElem_cons_succ, List.getElem_cons_zero, List.setIfInBounds_toArray, List.set_cons_zero, List.set_cons_succ]
            refine wpAnyH_take (i := 22) (v := undef) rfl (by kernel_rfl) (by kernel_rfl) (by kernel_rfl) (fun _ _ _ h => h) (Or.inr ⟨by kernel_rfl, rfl⟩) hHeld ?_
            simp only [Act.put, List.getElem_toArray, List.getElem_cons_succ, List.getElem_cons_zero, List.setIfInBounds_toArray, List.set_cons_zero, List.set_cons_succ]
            refine wpAnyH_take (i := 23) (v := undef) rfl (by kernel_rfl) (by kernel_rfl) (by kernel_rfl) (fun _ _ _ h => h) (Or.inr ⟨by kernel_rfl, rfl⟩) hHeld ?_
            simp only [Act.put, List.getElem_toArray, List.getElem_cons_succ, List.getElem_cons_zero, List.setIfInBounds_toArray, List.set_cons_zero, List.set_cons_succ]
            refine wpAnyH_take (i := 24) (v := ?_) rfl (by kernel_rfl) (by kernel_rfl) (by kernel_rfl) (fun _ _ _ h => h) (Or.inl ⟨by rfl, ?_⟩) hHeld ?_
            rotate_left
            · (intro w' hSw; obtain ⟨s0, s1, s2⟩ := hSw; go_simp; try with_reducible rfl)
            simp only [Act.put, List.getElem_toArray, List.getElem_cons_succ, List.getElem_cons_zero, List.setIfInBounds_toArray, List.set_cons_zero, List.set_cons_succ]
            refine wpAnyH_take (i := 25) (v := ?_) rfl (by kernel_rfl) (by kernel_rfl) (by kernel_rfl) (fun _ _ _ h => h) (Or.inl ⟨by rfl, ?_⟩) hHeld ?_
            rotate_left
            · (intro w' hSw; obtain ⟨s0, s1, s2⟩ := hSw; go_simp; try with_reducible rfl)
            simp only [Act.put, List.getElem_toArray, List.getElem_cons_succ, List.getElem_cons_zero, List.setIfInBounds_toArray, List.set_cons_zero, List.set_cons_succ]
            refine wpAnyH_take (i := 26) (v := ?_) rfl (by kernel_rfl) (by kernel_rfl) (by kernel_rfl) (fun _ _ _ h => h) (Or.inl ⟨by rfl, ?_⟩) hHeld ?_
            rotate_left
            · (intro w' hSw; obtain ⟨s0, s1, s2⟩ := hSw; go_simp; try with_reducible rfl)
            simp only [Act.put, List.getElem_toArray, List.getElem_cons_succ, List.getElem_cons_zero, List.setIfInBounds_toArray, List.set_cons_zero, List.set_cons_succ]
            refine wpAnyH_take (i := 27) (v := ?_) rfl (by kernel_rfl) (by kernel_rfl) (by kernel_rfl) (fun _ _ _ h => h) (Or.inl ⟨by rfl, ?_⟩) hHeld ?_
            rotate_left
            · (intro w' hSw; obtain ⟨s0, s1, s2⟩ := hSw; go_simp; try with_reducible rfl)
            simp only [Act.put, List.getElem_toArray, List.getElem_cons_succ, List.getElem_cons_zero, List.setIfInBounds_toArray, List.set_cons_zero, List.set_cons_succ]
            refine wpAnyH_take (i := 28) (v := ?_) rfl (by kernel_rfl) (by kernel_rfl) (by kernel_rfl) (fun _ _ _ h => h) (Or.inl ⟨by rfl, ?_⟩) hHeld ?_
            rotate_left
            · (intro w' hSw; obtain ⟨s0, s1, s2⟩ := hSw; go_simp; try with_reducible rfl)
            simp only [Act.put, List.getElem_toArray, List.getElem_cons_succ, List.getElem_cons_zero, List.setIfInBounds_toArray, List.set_cons_zero, List.set_cons_succ]
            refine wpAnyH_take (i := 29) (v := ?_) rfl (by kernel_rfl) (by kernel_rfl) (by kernel_rfl) (fun _ _ _ h => h) (Or.inl ⟨by rfl, ?_⟩) hHeld ?_
            rotate_left
            · (intro w' hSw; obtain ⟨s0, s1, s2⟩ := hSw; go_simp; try with_reducible rfl)
            simp only [Act.put, List.getElem_toArray, List.getElem_cons_succ, List.getElem_cons_zero, List.setIfInBounds_toArray, List.set_cons_zero, List.set_cons_succ]
            refine wpAnyH_take (i := 30) (v := ?_) rfl (by kernel_rfl) (by kernel_rfl) (by kernel_rfl) (fun _ _ _ h => h) (Or.inl ⟨by rfl, ?_⟩) hHeld ?_
            rotate_left
            · (intro w' hSw; obtain ⟨s0, s1, s2⟩ := hSw; go_simp; try with_reducible rfl)
            simp only [Act.put, List.getElem_toArray, List.getElem_cons_succ, List.getElem_cons_zero, List.setIfInBounds_toArray, List.set_cons_zero, List.set_cons_succ]
            refine wpAnyH_take (i := 31) (v := ?_) rfl (by kernel_rfl) (by kernel_rfl) (by kernel_rfl) (fun _ _ _ h => h) (Or.inl ⟨by rfl, ?_⟩) hHeld ?_
            rotate_left
            · (intro w' hSw; obtain ⟨s0, s1, s2⟩ := hSw; go_simp; try with_reducible rfl)
            simp only [Act.put, List.getElem_toArray, List.getElem_cons_succ, List.getElem_cons_zero, List.setIfInBounds_toArray, List.set_cons_zero, List.set_cons_succ]
            refine wpAnyH_take (i := 32) (v := ?_) rfl (by kernel_rfl) (by kernel_rfl) (by kernel_rfl) (fun _ _ _ h => h) (Or.inl ⟨by rfl, ?_⟩) hHeld ?_
            rotate_left
            · (intro w' hSw; obtain ⟨s0, s1, s2⟩ := hSw; go_simp; try with_reducible rfl)
            simp only [Act.put, List.getElem_toArray, List.getElem_cons_succ, List.getElem_cons_zero, List.setIfInBounds_toArray, List.set_cons_zero, List.set_cons_succ]
            refine wpAnyH_take (i := 33) (v := ?_) rfl (by kernel_rfl) (by kernel_rfl) (by kernel_rfl) (fun _ _ _ h => h) (Or.inl ⟨by rfl, ?_⟩) hHeld ?_
            rotate_left
            · (intro w' hSw; obtain ⟨s0, s1, s2⟩ := hSw; go_simp; try with_reducible rfl)
            simp only [Act.put, List.getElem_toArray, List.getElem_cons_succ, List.getElem_cons_zero, List.setIfInBounds_toArray, List.set_cons_zero, List.set_cons_succ]
            refine wpAnyH_take (i := 34) (v := ?_) rfl (by kernel_rfl) (by kernel_rfl) (by kernel_rfl) (fun _ _ _ h => h) (Or.inl ⟨by rfl, ?_⟩) hHeld ?_
            rotate_left
            · (intro w' hSw; obtain ⟨s0, s1, s2⟩ := hSw; go_simp; try with_reducible rfl)
            simp only [Act.put, List.getElem_toArray, List.getElem_cons_succ, List.getElem_cons_zero, List.setIfInBounds_toArray, List.set_cons_zero, List.set_cons_succ]
            refine wpAnyH_take (i := 35) (v := ?_) rfl (by kernel_rfl) (by kernel_rfl) (by kernel_rfl) (fun _ _ _ h => h) (Or.inl ⟨by rfl, ?_⟩) hHeld ?_
            rotate_left
            · (intro w' hSw; obtain ⟨s0, s1, s2⟩ := hSw; go_simp; try with_reducible rfl)
            simp only [Act.put, List.getElem_toArray, List.getElem_cons_succ, List.getElem_cons_zero, List.setIfInBounds_toArray, List.set_cons_zero, List.set_cons_succ]
            refine wpAnyH_take (i := 36) (v := ?_) rfl (by kernel_rfl) (by kernel_rfl) (by kernel_rfl) (fun _ _ _ h => h) (Or.inl ⟨by rfl, ?_⟩) hHeld ?_
            rotate_left
            · (intro w' hSw; obtain ⟨s0, s1, s2⟩ := hSw; go_simp; try with_reducible rfl)
            simp only [Act.put, List.getElem_toArray, List.getElem_cons_succ, List.getElem_cons_zero, List.setIfInBounds_toArray, List.set_cons_zero, List.set_cons_succ]
            refine wpAnyH_take (i := 38) (v := ?_) rfl (by kernel_rfl) (by kernel_rfl) (by kernel_rfl) (fun _ _ _ h => h) (Or.inl ⟨by rfl, ?_⟩) hHeld ?_
            rotate_left
            · (intro w' hSw; obtain ⟨s0, s1, s2⟩ := hSw; go_simp; try with_reducible rfl)
            simp only [Act.put, List.getElem_toArray, List.getElem_cons_succ, List.getElem_cons_zero, List.setIfInBounds_toArray, List.set_cons_zero, List.set_cons_succ]
            refine wpAnyH_take (i := 39) (v := ?_) rfl (by kernel_rfl) (by kernel_rfl) (by kernel_rfl) (fun _ _ _ h => h) (Or.inl ⟨by rfl, ?_⟩) hHeld ?_
            rotate_left
            · (intro w' hSw; obtain ⟨s0, s1, s2⟩ := hSw; go_simp; try with_reducible rfl)
            simp only [Act.put, List.getElem_toArray, List.getElem_cons_succ, List.getElem_cons_zero, List.setIfInBounds_toArray, List.set_cons_zero, List.set_cons_succ]
            refine wpAnyH_take (i := 40) (v := ?_) rfl (by kernel_rfl) (by kernel_rfl) (by kernel_rfl) (fun _ _ _ h => h) (Or.inl ⟨by rfl, ?_⟩) hHeld ?_
            rotate_left
            · (intro w' hSw; obtain ⟨s0, s1, s2⟩ := hSw; go_simp; try with_reducible rfl)
            simp only [Act.put, List.getElem_toArray, List.getElem_cons_succ, List.getElem_cons_zero, List.setIfInBounds_toArray, List.set_cons_zero, List.set_cons_succ]
            refine wpAnyH_take (i := 41) (v := ?_) rfl (by kernel_rfl) (by kernel_rfl) (by kernel_rfl) (fun _ _ _ h => h) (Or.inl ⟨by rfl, ?_⟩) hHeld ?_
            rotate_left
            · (intro w' hSw; obtain ⟨s0, s1, s2⟩ := hSw; go_simp; try with_reducible rfl)
            simp only [Act.put, List.getElem_toArray, List.getElem_cons_succ, List.getElem_cons_zero, List.setIfInBounds_toArray, List.set_cons_zero, List.set_cons_succ]
            refine wpAnyH_take (i := 42) (v := ?_) rfl (by kernel_rfl) (by kernel_rfl) (by kernel_rfl) (fun _ _ _ h => h) (Or.inl ⟨by rfl, ?_⟩) hHeld ?_
            rotate_left
            · (intro w' hSw; obtain ⟨s0, s1, s2⟩ := hSw; go_simp; try with_reducible rfl)
            simp only [Act.put, List.getElem_toArray, List.getElem_cons_succ, List.getElem_cons_zero, List.setIfInBounds_toArray, List.set_cons_zero, List.set_cons_succ]
            refine wpAnyH_take (i := 43) (v := ?_) rfl (by kernel_rfl) (by kernel_rfl) (by kernel_rfl) (fun _ _ _ h => h) (Or.inl ⟨by rfl, ?_⟩) hHeld ?_
            rotate_left
            · (intro w' hSw; obtain ⟨s0, s1, s2⟩ := hSw; go_simp; try with_reducible rfl)
            simp only [Act.put, List.getElem_toArray, List.getElem_cons_succ, List.getElem_cons_zero, List.setIfInBounds_toArray, List.set_cons_zero, List.set_cons_succ]
            refine wpAnyH_take (i := 44) (v := ?_) rfl (by kernel_rfl) (by kernel_rfl) (by kernel_rfl) (fun _ _ _ h => h) (Or.inl ⟨by rfl, ?_⟩) hHeld ?_
            rotate_left
            · (intro w' hSw; obtain ⟨s0, s1, s2⟩ := hSw; go_simp; try with_reducible rfl)
            simp only [Act.put, List.getElem_toArray, List.getElem_cons_succ, List.getElem_cons_zero, List.setIfInBounds_toArray, List.set_cons_zero, List.set_cons_succ]
            refine wpAnyH_take (i := 45) (v := ?_) rfl (by kernel_rfl) (by kernel_rfl) (by kernel_rfl) (fun _ _ _ h => h) (Or.inl ⟨by rfl, ?_⟩) hHeld ?_
            rotate_left
            · (intro w' hSw; obtain ⟨s0, s1, s2⟩ := hSw; go_simp; try with_reducible rfl)
            simp only [Act.put, List.getElem_toArray, List.getElem_cons_succ, List.getElem_cons_zero, List.setIfInBounds_toArray, List.set_cons_zero, List.set_cons_succ]
            refine wpAnyH_ready (rs := [37]) (by kernel_rfl) (by simp) ?_
            refine AllReadyH.cons rfl (fun K hK => ?_) AllReadyH.nil
            go_simp
            refine (HCK.out _ HC.out).mono ?_
            rintro e w2 ⟨A1, c1, rfl, hf⟩
            have HR1 := Lib.hid hf.rd
            have HC := Lib.hid (HC.out.then hf.2.2)
            clear hf
            refine hK.out _ _ (HSS.out _ HC.out) (fun hHeld => ?_)
            clear hK K
            simp only [Act.put, List.getElem_toArray, List.getElem_cons_succ, List.getElem_cons_zero, List.setIfInBounds_toArray, List.set_cons_zero, List.set_cons_succ]
            refine wpAnyH_ready (rs := [46]) (by kernel_rfl) (by simp) ?_
            refine AllReadyH.cons rfl (fun K hK => ?_) AllReadyH.nil
            go_simp
            refine (HI1.out _ _ _ HR1.out (HSK.out _ HC.out)).mono ?_
            rintro e w3 ⟨rfl, hc⟩
            have HC := Lib.hid (HC.out.then hc)
            clear hc
            refine hK.out _ _ (HSS.out _ HC.out) (fun hHeld => ?_)
            clear hK K
            simp only [Act.put, List.getElem_toArray, List.getElem_cons_succ, List.getElem_cons_zero, List.setIfInBounds_toArray, List.set_cons_zero, List.set_cons_succ]
            refine wpAnyH_take (i := 47) (v := ?_) rfl (by kernel_rfl) (by kernel_rfl) (by kernel_rfl) (fun _ _ _ h => h) (Or.inl ⟨by rfl, ?_⟩) hHeld ?_
            rotate_left
            · (intro w' hSw; obtain ⟨s0, s1, s2⟩ := hSw; go_simp; try with_reducible rfl)
            simp only [Act.put, List.getElem_toArray, List.getElem_cons_succ, List.getElem_cons_zero, List.setIfInBounds_toArray, List.set_cons_zero, List.set_cons_succ]
            refine wpAnyH_take (i := 48) (v := ?_) rfl (by kernel_rfl) (by kernel_rfl) (by kernel_rfl) (fun _ _ _ h => h) (Or.inl ⟨by rfl, ?_⟩) hHeld ?_
            rotate_left
            · (intro w' hSw; obtain ⟨s0, s1, s2⟩ := hSw; go_simp; try with_reducible rfl)
            simp only [Act.put, List.getElem_toArray, List.getElem_cons_succ, List.getElem_cons_zero, List.setIfInBounds_toArray, List.set_cons_zero, List.set_cons_succ]
            refine wpAnyH_take (i := 49) (v := ?_) rfl (by kernel_rfl) (by kernel_rfl) (by kernel_rfl) (fun _ _ _ h => h) (Or.inl ⟨by rfl, ?_⟩) hHeld ?_
            rotate_left
            · (intro w' hSw; obtain ⟨s0, s1, s2⟩ := hSw; go_simp; try with_reducible rfl)
            simp only [Act.put, List.getElem_toArray, List.getElem_cons_succ, List.getElem_cons_zero, List.setIfInBounds_toArray, List.set_cons_zero, List.set_cons_succ]
            refine wpAnyH_take (i := 50) (v := ?_) rfl (by kernel_rfl) (by kernel_rfl) (by kernel_rfl) (fun _ _ _ h => h) (Or.inl ⟨by rfl, ?_⟩) hHeld ?_
            rotate_left
            · (intro w' hSw; obtain ⟨s0, s1, s2⟩ := hSw; go_simp; try with_reducible rfl)
            simp only [Act.put, List.getElem_toArray, List.getElem_cons_succ, List.getElem_cons_zero, List.setIfInBounds_toArray, List.set_cons_zero, List.set_cons_succ]
            refine wpAnyH_take (i := 51) (v := ?_) rfl (by kernel_rfl) (by kernel_rfl) (by kernel_rfl) (fun _ _ _ h => h) (Or.inl ⟨by rfl, ?_⟩) hHeld ?_
            rotate_left
            · (intro w' hSw; obtain ⟨s0, s1, s2⟩ := hSw; go_simp; try with_reducible rfl)
            simp only [Act.put, List.getElem_toArray, List.getElem_cons_succ, List.getElem_cons_zero, List.setIfInBounds_toArray, List.set_cons_zero, List.set_cons_succ]
            refine wpAnyH_take (i := 53) (v := ?_) rfl (by kernel_rfl) (by kernel_rfl) (by kernel_rfl) (fun _ _ _ h => h) (Or.inl ⟨by rfl, ?_⟩) hHeld ?_
            rotate_left
            · (intro w' hSw; obtain ⟨s0, s1, s2⟩ := hSw; go_simp; try with_reducible rfl)
            simp only [Act.put, List.getElem_toArray, List.getElem_cons_succ, List.getElem_cons_zero, List.setIfInBounds_toArray, List.set_cons_zero, List.set_cons_succ]
            refine wpAnyH_take (i := 54) (v := ?_) rfl (by kernel_rfl) (by kernel_rfl) (by kernel_rfl) (fun _ _ _ h => h) (Or.inl ⟨by rfl, ?_⟩) hHeld ?_
            rotate_left
            · (intro w' hSw; obtain ⟨s0, s1, s2⟩ := hSw; go_simp; try with_reducible rfl)
            simp only [Act.put, List.getElem_toArray, List.getElem_cons_succ, List.getElem_cons_zero, List.setIfInBounds_toArray, List.set_cons_zero, List.set_cons_succ]
            refine wpAnyH_ready (rs := [52]) (by kernel_rfl) (by simp) ?_
            refine AllReadyH.cons rfl (fun K hK => ?_) AllReadyH.nil
            go_simp
            refine (HDS.out _ HC.out).mono ?_
            rintro e w4 ⟨A2, c2, rfl, hf⟩
            have HR2 := Lib.hid hf.rd
            have HC := Lib.hid (HC.out.then hf.2.2)
            clear hf
            refine hK.out _ _ (HSS.out _ HC.out) (fun hHeld => ?_)
            clear hK K
            simp only [Act.put, List.getElem_toArray, List.getElem_cons_succ, List.getElem_cons_zero, List.setIfInBounds_toArray, List.set_cons_zero, List.set_cons_succ]
            refine wpAnyH_ready (rs := [55]) (by kernel_rfl) (by simp) ?_
            refine AllReadyH.cons rfl (fun K hK => ?_) AllReadyH.nil
            go_simp
            refine (HRD.out _ HC.out).mono ?_
            rintro e w5 ⟨A3, c3, rfl, hf⟩
            have HR2 := Lib.hid (HR2.out.quiet hf.2.2)
            have HR3 := Lib.hid hf.rd
            have HC := Lib.hid (HC.out.then hf.2.2)
            clear hf
            refine hK.out _ _ (HSS.out _ HC.out) (fun hHeld => ?_)
            clear hK K
            simp only [Act.put, List.getElem_toArray, List.getElem_cons_succ, List.getElem_cons_zero, List.setIfInBounds_toArray, List.set_cons_zero, List.set_cons_succ]
            refine wpAnyH_ready (rs := [56]) (by kernel_rfl) (by simp) ?_
            refine AllReadyH.cons rfl (fun K hK => ?_) AllReadyH.nil
            go_simp
            refine (HI2.out _ _ _ HR2.out HR3.out).mono ?_
            rintro e w6 ⟨rfl, hc⟩
            have HC := Lib.hid (HC.out.then hc)
            clear hc
            refine hK.out _ _ (HSS.out _ HC.out) (fun hHeld => ?_)
            clear hK K
            simp only [Act.put, List.getElem_toArray, List.getElem_cons_succ, List.getElem_cons_zero, List.setIfInBounds_toArray, List.set_cons_zero, List.set_cons_succ]
            refine wpAnyH_take (i := 57) (v := ?_) rfl (by kernel_rfl) (by kernel_rfl) (by kernel_rfl) (fun _ _ _ h => h) (Or.inl ⟨by rfl, ?_⟩) hHeld ?_
            rotate_left
            · (intro w' hSw; obtain ⟨s0, s1, s2⟩ := hSw; go_simp; try with_reducible rfl)
            simp only [Act.put, List.getElem_toArray, List.getElem_cons_succ, List.getElem_cons_zero, List.setIfInBounds_toArray, List.set_cons_zero, List.set_cons_succ]
            refine wpAnyH_take (i := 58) (v := ?_) rfl (by kernel_rfl) (by kernel_rfl) (by kernel_rfl) (fun _ _ _ h => h) (Or.inl ⟨by rfl, ?_⟩) hHeld ?_
            rotate_left
            · (intro w' hSw; obtain ⟨s0, s1, s2⟩ := hSw; go_simp; try with_reducible rfl)
            simp only [Act.put, List.getElem_toArray, List.getElem_cons_succ, List.getElem_cons_zero, List.setIfInBounds_toArray, List.set_cons_zero, List.set_cons_succ]
            refine wpAnyH_done (by kernel_rfl) ?_ _
            go_wp2
            go_loopg [8] s (fun gh kv wy => ∃ q : Nat, q + gh = s ∧ kv = .int .i64 q ∧ Hid (Chg [] w wy))
            case atStart => exact ⟨0, by omega, rfl, Lib.hid HC.out⟩
            case round =>
              obtain ⟨q, hq, rfl, HQ⟩ := hrel
              obtain ⟨z0, lz, _, _⟩ := HRO.out wr HQ.out
              by_cases hql : q < s
              · obtain ⟨b, hb⟩ : ∃ b : Bool, b = true ↔ t.under ((q : Nat) : Int) ((n : Nat) : Int) := by
                  by_cases hu : t.under ((q : Nat) : Int) ((n : Nat) : Int)
                  · exact ⟨true, by simp [hu]⟩
                  · exact ⟨false, by simp [hu]⟩
                have HU1 := Lib.hid (HL.out.funder wr HQ.out _ _ b hb)
                have HU2 := Lib.hid (fun W (hcw : Chg [] w W) => HL.out.dunder W hcw _ _ b hb)
                have nb : (b != b) = false := by simp
                have d2 : decide ((q : Int) < (s : Int)) = true := by simp; omega
                clear hb
                go_wp2_with (first
                  | (go_at_call 24; refine HU1.out.mono ?_; rintro e w8 ⟨rfl, hc⟩; have HC8 := Lib.hid (HQ.out.then hc); clear hc)
                  | (go_at_call 37; refine (HU2.out _ HC8.out).mono ?_; rintro e w9 ⟨rfl, hc⟩; have HC9 := Lib.hid (HC8.out.then hc); clear hc))
                go_roundg (s - q - 1)
                case measure => omega
                case rel => exact ⟨q + 1, by omega, by go_num, Lib.hid HC9.out⟩
              · obtain rfl : q = s := by omega
                have d2 : decide ((q : Int) < (q : Int)) = false := by simp
                go_wp2
                go_roundg (q + 2 - k - 1)
                case measure => omega
                case rel => exact ⟨k + 1, ((n : Nat) : Int) + 1, by omega, rfl, Lib.hid (by have := HK.out; omega), Lib.hid HQ.out⟩

      · have d1 : decide (i ≤ (s : Int)) = false := by simp; omega
        clear hik
        go_wp2
        go_ret
        exact ⟨rfl, HCW.out⟩
end
end Go.Proofs
end
section
namespace Go.Proofs
open Go.RowKit
set_option linter.unusedVariables false
theorem same_ok : SameOk := fun w W f d t m h => by
  obtain ⟨S, T, K, h1, _⟩ := h
  exact same_look h1.looks
theorem plays_any (n : Int) (V : Value) (acts : List ActT) (w : World) (hV : ActsT w V acts) :
    Calls Try.prog 3 #[.int .i64 n, V] w fun e w' => e = .returned (.bool true) ∧ Chg [] w w' :=
  plays_of (Lib.hid same_ok) n V acts w hV
end Go.Proofs
end
section
namespace Go.Proofs
open Go.RowKit
set_option linter.unusedVariables false
set_option linter.unusedSimpArgs false

/-- A node's parent, as it is told. -/
def parI (t : Fo) (i : Int) : Int × Bool := if t.has i then (match t.par i.toNat with | some p => (((p : Nat) : Int), true) | none => (0, false)) else (0, false)
theorem cpar_any {w : World} {h : Nat} {S : List Nat} {c : Tr} {t : Fo} (H : TreeAt w h S c) (hs : Sim c t) (i : Int) : Calls Try.prog 25 #[ptr h, .int .i64 i] w fun e w' => e = .returned (.tuple #[.int .i64 (parI t i).1, .bool (parI t i).2]) ∧ Chg [] w w' := by
  cases hi : t.has i with
  | false =>
    have e : parI t i = (0, false) := by simp [parI, hi]
    rw [e]
    exact pa_no H hs.lenN (fun hh => by rw [hs.has, hi] at hh; cases hh.1)
  | true =>
    obtain ⟨n, rfl⟩ : ∃ n : Nat, i = n := ⟨i.toNat, by
      by_cases h0 : 0 ≤ i
      · omega
      · rw [Fo.has_neg _ (by omega)] at hi; cases hi⟩
    have hn : t.there n = true := by rw [← Fo.has_nat]; exact hi
    cases hp : t.par n with
    | none =>
      have e : parI t (n : Nat) = (0, false) := by simp [parI, hi, hp]
      rw [e]
      exact pa_no H hs.lenN (fun hh => by rw [(hs.node n hn).2.2.1, hp] at hh; exact hh.2 rfl)
    | some p =>
      have e : parI t (n : Nat) = (((p : Nat) : Int), true) := by simp [parI, hi, hp]
      rw [e]
      exact pa_yes H hs.lenN (hs.node n hn).2.1 (by rw [(hs.node n hn).2.2.1, hp]; rfl)
/-- The program's forest at f is t; its copy at o and the document's at d are u. -/
def Was (w W : World) (f o d : Nat) (t u : Fo) : Prop :=
  ∃ S So T K c co r m, TreeAt W f S c ∧ Sim c t ∧ TreeAt W o So co ∧ Sim co u ∧ RefAt W d T K r ∧ RSim r u m ∧ (∀ k ∈ S, w.heap.size ≤ k) ∧ (∀ k ∈ So, k ∉ S) ∧ (∀ k ∈ S, k ∉ T ∧ k ∉ K) ∧ Chg [] w W
section
variable {w W W' : World} {f o d : Nat} {t u t' : Fo} {m : Nat}
theorem Was.chg (h : Was w W f o d t u) : Chg [] w W := by obtain ⟨_, _, _, _, _, _, _, _, _, _, _, _, _, _, _, _, _, h⟩ := h; exact h
theorem Was.quiet (h : Was w W f o d t u) (hc : Chg [] W W') : Was w W' f o d t u := by
  obtain ⟨S, So, T, K, c, co, r, m, h1, h2, h3, h4, h5, h6, h7, h8, h9, h10⟩ := h
  exact ⟨S, So, T, K, c, co, r, m, h1.quiet hc, h2, h3.quiet hc, h4, h5.quiet hc, h6, h7, h8, h9, h10.then hc⟩
theorem Was.mk {S So T K : List Nat} {c co c' : Tr} {r : Rf} (h1 : TreeAt W f S c) (h3 : TreeAt W o So co) (h4 : Sim co u) (h5 : RefAt W d T K r) (h6 : RSim r u m) (h7 : ∀ k ∈ S, w.heap.size ≤ k) (h8 : ∀ k ∈ So, k ∉ S) (h9 : ∀ k ∈ S, k ∉ T ∧ k ∉ K) (h10 : Chg [] w W)
    (hs : Sim c' t') (hT : Turns f S c' W W') : Was w W' f o d t' u := by
  obtain ⟨S', a1, a2, a3⟩ := hT
  have hlo := h3.lt
  have hT1 := h5.ltT
  have hK1 := h5.ltK
  have hz := h10.size
  refine ⟨S', So, T, K, c', co, r, m, a1, hs, h3.chg a3 h8, h4, h5.chg a3 (fun k hk hkS => (h9 k hkS).1 hk) (fun k hk hkS => (h9 k hkS).2 hk), h6, fun k hk => ?_, fun k hk hkS => ?_, fun k hk => ⟨fun hkT => ?_, fun hkK => ?_⟩, h10.trans a3 (fun k hk => .inr (h7 k hk))⟩
  · rcases a2 k hk with h | h
    · exact h7 k h
    · omega
  · rcases a2 k hkS with h | h
    · exact h8 k hk h
    · have := hlo k hk; omega
  · rcases a2 k hk with h | h
    · exact (h9 k h).1 hkT
    · have := hT1 k hkT; omega
  · rcases a2 k hk with h | h
    · exact (h9 k h).2 hkK
    · have := hK1 k hkK; omega
theorem Was.prune (h : Was w W f o d t u) {i : Int} {l : List Nat} (hb : Below' t i l) :
    Calls Try.prog 16 #[ptr f, .int .i64 i] W fun e W' => ∃ A cc, e = .returned (.tuple #[.slice A l.length cc, .int .i64 (t.noE i)]) ∧ Was w W' f o d (t.pruneI i l) u := by
  obtain ⟨S, So, T, K, c, co, r, m, h1, h2, h3, h4, h5, h6, h7, h8, h9, h10⟩ := h
  refine (cprune_any h1 h2 hb).mono ?_
  rintro e W' ⟨A, cc, rfl, _, _, c', a1, a2⟩
  exact ⟨A, cc, rfl, Was.mk h1 h3 h4 h5 h6 h7 h8 h9 h10 a1 a2⟩
theorem Was.drop (h : Was w W f o d t u) (i : Int) :
    Calls Try.prog 26 #[ptr f, .int .i64 i] W fun e W' => e = .returned (.int .i64 (t.noE i)) ∧ Was w W' f o d (t.dropI i) u := by
  obtain ⟨S, So, T, K, c, co, r, m, h1, h2, h3, h4, h5, h6, h7, h8, h9, h10⟩ := h
  refine (cdrop_any h1 h2 i).mono ?_
  rintro e W' ⟨rfl, c', a1, a2⟩
  exact ⟨rfl, Was.mk h1 h3 h4 h5 h6 h7 h8 h9 h10 a1 a2⟩
theorem Mid.copy (h : Mid w W f d t m) : Calls Try.prog 15 #[ptr f] W fun e W' => ∃ o, e = .returned (ptr o) ∧ Was w W' f o d t t := by
  obtain ⟨S, T, K, ⟨c, r, a1, a2, a3, a4, a5⟩, h2, h3, h4, h5⟩ := h
  have hlt := a1.lt
  refine (copy_any a1 (by have := a2.size; have := a2.one; omega) a2.lenN (by have := a2.count.2; have := a2.lenN; omega)).mono ?_
  rintro e W' ⟨rfl, So, b1, b2, b3⟩
  exact ⟨_, rfl, S, So, T, K, c, c, r, m, a1.quiet b3, a2, b1, a2, a3.quiet b3, a4, h2, fun k hk hkS => by have := hlt k hkS; have := b2 k hk; omega, a5, h5.then b3⟩
theorem Was.wf (h : Was w W f o d t u) : t.WF ∧ u.WF ∧ t.size ≤ 4096 ∧ u.size ≤ 4096 := by
  obtain ⟨S, So, T, K, c, co, r, m, h1, h2, h3, h4, h5, h6, h7, h8, h9, h10⟩ := h
  exact ⟨h2.wf, h4.wf, h2.big, h4.big⟩
theorem Was.fhas (h : Was w W f o d t u) {i : Int} {b : Bool} (hb : t.has i = b) : Calls Try.prog 23 #[ptr f, .int .i64 i] W fun e W' => e = .returned (.bool b) ∧ Was w W' f o d t u := by
  have hh := h
  obtain ⟨S, So, T, K, c, co, r, m, h1, h2, h3, h4, h5, h6, h7, h8, h9, h10⟩ := h
  have := has_any h1 h2.lenN i
  rw [h2.has, hb] at this
  exact this.mono fun e W' ⟨a, hc⟩ => ⟨a, hh.quiet hc⟩
theorem Was.ohas (h : Was w W f o d t u) {i : Int} {b : Bool} (hb : u.has i = b) : Calls Try.prog 23 #[ptr o, .int .i64 i] W fun e W' => e = .returned (.bool b) ∧ Was w W' f o d t u := by
  have hh := h
  obtain ⟨S, So, T, K, c, co, r, m, h1, h2, h3, h4, h5, h6, h7, h8, h9, h10⟩ := h
  have := has_any h3 h4.lenN i
  rw [h4.has, hb] at this
  exact this.mono fun e W' ⟨a, hc⟩ => ⟨a, hh.quiet hc⟩
theorem Was.dhas (h : Was w W f o d t u) {i : Int} {b : Bool} (hb : u.has i = b) : Calls Try.prog 17 #[ptr d, .int .i64 i] W fun e W' => e = .returned (.bool b) ∧ Was w W' f o d t u := by
  have hh := h
  obtain ⟨S, So, T, K, c, co, r, m, h1, h2, h3, h4, h5, h6, h7, h8, h9, h10⟩ := h
  have := rhas_any h5 h6 i
  rw [hb] at this
  exact this.mono fun e W' ⟨a, hc⟩ => ⟨a, by subst hc; exact hh⟩
theorem Was.flen (h : Was w W f o d t u) {n : Nat} (hn : t.len = n) : Calls Try.prog 20 #[ptr f] W fun e W' => e = .returned (.int .i64 (n : Nat)) ∧ Was w W' f o d t u := by
  have hh := h
  obtain ⟨S, So, T, K, c, co, r, m, h1, h2, h3, h4, h5, h6, h7, h8, h9, h10⟩ := h
  have hcnt := h2.count
  have := len_any h1 hcnt.2 h2.lenN
  rw [hcnt.1, hn] at this
  exact this.mono fun e W' ⟨a, hc⟩ => ⟨a, hh.quiet hc⟩
theorem Was.olen (h : Was w W f o d t u) {n : Nat} (hn : u.len = n) : Calls Try.prog 20 #[ptr o] W fun e W' => e = .returned (.int .i64 (n : Nat)) ∧ Was w W' f o d t u := by
  have hh := h
  obtain ⟨S, So, T, K, c, co, r, m, h1, h2, h3, h4, h5, h6, h7, h8, h9, h10⟩ := h
  have hcnt := h4.count
  have := len_any h3 hcnt.2 h4.lenN
  rw [hcnt.1, hn] at this
  exact this.mono fun e W' ⟨a, hc⟩ => ⟨a, hh.quiet hc⟩
/-- A list that is told. -/
def Told (w W W' : World) (f o d : Nat) (t u : Fo) (l : List Nat) (e : Ending) : Prop := ∃ A cc, e = .returned (.slice A l.length cc) ∧ Rd W' (.slice A l.length cc) (iN l) ∧ Was w W' f o d t u ∧ Chg [] W W'
theorem News.told {l : List Nat} {e : Ending} (h : Was w W f o d t u) (hn : News W W' e l) : Told w W W' f o d t u l e := by
  obtain ⟨A, cc, rfl, hf⟩ := hn
  exact ⟨A, cc, rfl, hf.rd, h.quiet hf.2.2, hf.2.2⟩
theorem Was.froots (h : Was w W f o d t u) {l : List Nat} (hl : t.roots = l) : Calls Try.prog 22 #[ptr f] W fun e W' => Told w W W' f o d t u l e := by
  have hh := h
  obtain ⟨S, So, T, K, c, co, r, m, h1, h2, h3, h4, h5, h6, h7, h8, h9, h10⟩ := h
  have := croots_any h1 h2
  rw [hl] at this
  exact this.mono fun e W' hn => hn.told hh
theorem Was.oroots (h : Was w W f o d t u) {l : List Nat} (hl : u.roots = l) : Calls Try.prog 22 #[ptr o] W fun e W' => Told w W W' f o d t u l e := by
  have hh := h
  obtain ⟨S, So, T, K, c, co, r, m, h1, h2, h3, h4, h5, h6, h7, h8, h9, h10⟩ := h
  have := croots_any h3 h4
  rw [hl] at this
  exact this.mono fun e W' hn => hn.told hh
theorem Was.fkids (h : Was w W f o d t u) {i : Int} {l : List Nat} (hl : t.kidsI i = l) : Calls Try.prog 19 #[ptr f, .int .i64 i] W fun e W' => Told w W W' f o d t u l e := by
  have hh := h
  obtain ⟨S, So, T, K, c, co, r, m, h1, h2, h3, h4, h5, h6, h7, h8, h9, h10⟩ := h
  have := ckids_any h1 h2 i
  rw [hl] at this
  exact this.mono fun e W' hn => hn.told hh
theorem Was.okids (h : Was w W f o d t u) {i : Int} {l : List Nat} (hl : u.kidsI i = l) : Calls Try.prog 19 #[ptr o, .int .i64 i] W fun e W' => Told w W W' f o d t u l e := by
  have hh := h
  obtain ⟨S, So, T, K, c, co, r, m, h1, h2, h3, h4, h5, h6, h7, h8, h9, h10⟩ := h
  have := ckids_any h3 h4 i
  rw [hl] at this
  exact this.mono fun e W' hn => hn.told hh
theorem Was.fpar (h : Was w W f o d t u) {i : Int} {p : Int} {b : Bool} (hp : parI t i = (p, b)) : Calls Try.prog 25 #[ptr f, .int .i64 i] W fun e W' => e = .returned (.tuple #[.int .i64 p, .bool b]) ∧ Was w W' f o d t u := by
  have hh := h
  obtain ⟨S, So, T, K, c, co, r, m, h1, h2, h3, h4, h5, h6, h7, h8, h9, h10⟩ := h
  have := cpar_any h1 h2 i
  rw [hp] at this
  exact this.mono fun e W' ⟨a, hc⟩ => ⟨a, hh.quiet hc⟩
theorem Was.opar (h : Was w W f o d t u) {i : Int} {p : Int} {b : Bool} (hp : parI u i = (p, b)) : Calls Try.prog 25 #[ptr o, .int .i64 i] W fun e W' => e = .returned (.tuple #[.int .i64 p, .bool b]) ∧ Was w W' f o d t u := by
  have hh := h
  obtain ⟨S, So, T, K, c, co, r, m, h1, h2, h3, h4, h5, h6, h7, h8, h9, h10⟩ := h
  have := cpar_any h3 h4 i
  rw [hp] at this
  exact this.mono fun e W' ⟨a, hc⟩ => ⟨a, hh.quiet hc⟩
theorem Was.funder (h : Was w W f o d t u) {i j : Int} {b : Bool} (hb : b = true ↔ t.under i j) : Calls Try.prog 24 #[ptr f, .int .i64 i, .int .i64 j] W fun e W' => e = .returned (.bool b) ∧ Was w W' f o d t u := by
  have hh := h
  obtain ⟨S, So, T, K, c, co, r, m, h1, h2, h3, h4, h5, h6, h7, h8, h9, h10⟩ := h
  exact (cunder_any h1 h2 i j hb).mono fun e W' ⟨a, hc⟩ => ⟨a, hh.quiet hc⟩
theorem Was.ounder (h : Was w W f o d t u) {i j : Int} {b : Bool} (hb : b = true ↔ u.under i j) : Calls Try.prog 24 #[ptr o, .int .i64 i, .int .i64 j] W fun e W' => e = .returned (.bool b) ∧ Was w W' f o d t u := by
  have hh := h
  obtain ⟨S, So, T, K, c, co, r, m, h1, h2, h3, h4, h5, h6, h7, h8, h9, h10⟩ := h
  exact (cunder_any h3 h4 i j hb).mono fun e W' ⟨a, hc⟩ => ⟨a, hh.quiet hc⟩
theorem Was.same (h : Was w W f o d t u) {b : Bool} (hb : b = true ↔ Alike t u) : Calls Try.prog 18 #[ptr f, ptr o] W fun e W' => e = .returned (.bool b) ∧ Was w W' f o d t u := by
  have hh := h
  obtain ⟨S, So, T, K, c, co, r, m, h1, h2, h3, h4, h5, h6, h7, h8, h9, h10⟩ := h
  exact (same_any h1 h3 h2.lenN h4.lenN (by rw [h2.size]; exact h2.big) (hb.trans (same_alike h2 h4).symm)).mono fun e W' ⟨a, hc⟩ => ⟨a, hh.quiet hc⟩
theorem Was.ints {l : List Nat} {v1 v2 : Value} (h : Was w W f o d t u) (h1 : Rd W v1 (iN l)) (h2 : Rd W v2 (iN l)) (hl : l.length ≤ 8192) : Calls Try.prog 21 #[v1, v2] W fun e W' => e = .returned (.bool true) ∧ Was w W' f o d t u :=
  (ints_same' h1 h2 hl).mono fun e W' ⟨a, hc⟩ => ⟨a, h.quiet hc⟩
theorem Was.known (h : Was w W f o d t u) : Calls Try.prog 10 #[] W fun e W' => e = .returned (.bool true) ∧ Was w W' f o d t u :=
  (known_any W).mono fun e W' ⟨a, hc⟩ => ⟨a, h.quiet hc⟩
end
end Go.Proofs
end
