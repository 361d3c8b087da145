import Derived.Test.YtihodeaeacgdpaaReK
namespace Go.Proofs
open Go.RowKit
set_option linter.unusedVariables false

theorem rdueK_len (l : List Rf) (now : Int) : ∀ k, (rdueK l now k).length ≤ k
  | 0 => by simp [rdueK]
  | k + 1 => by
    have ih := rdueK_len l now k
    unfold rdueK
    split
    · split
      · simp
      · rename_i h; rw [h] at ih; simp at ih ⊢; omega
    · simp; omega
theorem Ro.set1 {w : World} {g cap n : Nat} {a t : Int} {r : List Rf} (h : Ro w (.slice (some ⟨g, 0, none⟩) n cap) ((a, t) :: r)) (a' : Int) : Ro (w.setCell ⟨g, 0, none⟩ (.int .u64 a')) (.slice (some ⟨g, 0, none⟩) n cap) ((a', t) :: r) := by
  have hm : n = ((a, t) :: r).length := by obtain ⟨A', c', hv, _⟩ := h.rd.open_; injection hv
  subst hm
  have := Row.set_ h (j := 0) (by simp) (.int .u64 a')
  exact this
theorem Ro.set2 {w : World} {g cap n : Nat} {a t : Int} {r : List Rf} (h : Ro w (.slice (some ⟨g, 0, none⟩) n cap) ((a, t) :: r)) (t' : Int) : Ro (w.setCell ⟨g, 1, none⟩ (.int .u64 t')) (.slice (some ⟨g, 0, none⟩) n cap) ((a, t') :: r) := by
  have hm : n = ((a, t) :: r).length := by obtain ⟨A', c', hv, _⟩ := h.rd.open_; injection hv
  subst hm
  have := Row.set_ h (j := 1) (by simp; omega) (.int .u64 t')
  exact this
/-- What a row of one at least looks like. -/
theorem Ro.head {w : World} {v : Value} {a t : Int} {r : List Rf} (h : Ro w v ((a, t) :: r)) : ∃ g cap, v = .slice (some ⟨g, 0, none⟩) (r.length + 1) cap ∧ foot v = [g] ∧ r.length + 1 ≤ cap ∧ g < w.heap.size ∧
    w.cell? ⟨g, 0, none⟩ = some (.int .u64 a) ∧ w.cell? ⟨g, 1, none⟩ = some (.int .u64 t) ∧ ∀ k, w.frozen? ⟨g, k, none⟩ = false := by
  obtain ⟨g, cap, hv, hf, hc, hcell, hfz, hg⟩ := Row.form h (by simp)
  exact ⟨g, cap, hv, hf, hc, hg, hcell 0 _ rfl, hcell 1 _ rfl, hfz⟩
theorem Own.set1 {w0 w : World} {g cap n : Nat} {a t : Int} {r : List Rf} (h : Own w0 w (.slice (some ⟨g, 0, none⟩) n cap) ((a, t) :: r)) (a' : Int) : Own w0 (w.setCell ⟨g, 0, none⟩ (.int .u64 a')) (.slice (some ⟨g, 0, none⟩) n cap) ((a', t) :: r) :=
  ⟨h.1.set1 a', h.2.1, h.2.2.setCell (p := ⟨g, 0, none⟩) (.inr (h.2.1 g (by simp [foot_some]))) _⟩
theorem Own.set2 {w0 w : World} {g cap n : Nat} {a t : Int} {r : List Rf} (h : Own w0 w (.slice (some ⟨g, 0, none⟩) n cap) ((a, t) :: r)) (t' : Int) : Own w0 (w.setCell ⟨g, 1, none⟩ (.int .u64 t')) (.slice (some ⟨g, 0, none⟩) n cap) ((a, t') :: r) :=
  ⟨h.1.set2 t', h.2.1, h.2.2.setCell (p := ⟨g, 1, none⟩) (.inr (h.2.1 g (by simp [foot_some]))) _⟩
theorem Own.drew {w0 w : World} {v : Value} {l : List Rf} (h : Own w0 w v l) : Own w0 w.drew v l := ⟨Row.drew h.1, h.2.1, h.2.2.drew⟩
theorem Own.drewN {w0 w : World} {v : Value} {l : List Rf} (h : Own w0 w v l) (n : Nat) : Own w0 (w.drewN n) v l := ⟨Row.drewN h.1 n, h.2.1, h.2.2.drewN n⟩
set_option maxHeartbeats 6400000 in
set_option maxRecDepth 100000 in
/-- The document's Due. -/
theorem rdue_any {w : World} {v : Value} {l : List Rf} (h : In w v l) (hk : Ok l) (hm : mayP l = true) (hn : l.length ≤ 100000) (now : Int) :
    Calls Try.prog 22 #[v, .int .u64 now] w fun e w' => ∃ v', e = .returned v' ∧ Own w w' v' (dueL l now) := by
  obtain ⟨hsf, hff⟩ := mayP_iff.1 hm
  have HEND := Lib.hid (rdueK_all (now := now) hff)
  obtain ⟨A, c, rfl, _, _, _, hcell⟩ := h.open_
  obtain ⟨n, e1⟩ : ∃ n, n = l.length := ⟨_, rfl⟩
  rw [← e1] at hn HEND ⊢
  have HN := Lib.hid e1
  have HC := Lib.hid hcell
  have HK := Lib.hid hk
  have HSF := Lib.hid hsf
  have HFF := Lib.hid hff
  have HSP := Lib.hid (fun k x (hx : l[k]? = some x) => due_split (now := now) hff hx)
  clear h e1 hcell hk hsf hff hm
  go_enter Try.func22, Try.ntmps22
  go_wp2
  go_loopg [5, 6] n (fun gh s i wx => ∃ k : Nat, k + gh = n ∧ i = .int .i64 k ∧ Hid (Own w wx s (rdueK l now k)))
  case atStart => exact ⟨0, by omega, rfl, Lib.hid (Own.nil (Chg.refl _ _))⟩
  case round =>
    obtain ⟨k, hk, rfl, HR⟩ := hrel
    by_cases hlt : k < n
    · have k0 : (0 : Int) ≤ (k : Int) := by omega
      have k1 : (k : Int) < (n : Int) := by omega
      obtain ⟨x, hx⟩ : ∃ x, l[k]? = some x := ⟨_, List.getElem?_eq_getElem (by rw [← HN.out]; exact hlt)⟩
      obtain ⟨b, o, rfl, lb, p0, p1⟩ := HC.out k x hx
      have hc := HR.out.2.2
      have x0 := (hc.cell (p := ⟨b, o + k * 2, none⟩) lb (by simp)).trans p0
      have x1 := (hc.cell (p := ⟨b, o + k * 2 + 1, none⟩) lb (by simp)).trans p1
      have hnext : rdueK l now (k + 1) = if 0 < k ∧ x.2 ≤ now then (match rdueK l now k with | [] => [] | y :: r => (y.1 + x.1, x.2) :: r) else rdueK l now k ++ [x] := by
        rw [rdueK]
        rw [hx]
        rfl
      by_cases hcase : 0 < k ∧ x.2 ≤ now
      · have hlow := rdueK_low HFF.out (now := now) k hcase.1 (Nat.le_of_lt ((HSP.out k x hx).1 hcase.2))
        rw [if_pos hcase, hlow] at hnext
        have hsum := sumP_snoc hx
        have hsle := sumP_le HK.out (k + 1)
        have hs0 := sumP_nonneg (HK.out.take k)
        have hxo := (HK.out.at hx).1.1
        have hown := HR.out
        rw [hlow] at hown
        obtain ⟨g, cap, rfl, hfo, hcap, lg, y0, y1, hfz⟩ := hown.1.head
        have hgw := hown.2.1 g (by simp [foot_some])
        have hne : b ≠ g := by omega
        have hne' : g ≠ b := by omega
        obtain ⟨xa, xt⟩ := x
        simp only at x0 x1 hnext hsum hxo hcase
        obtain ⟨S, hS⟩ : ∃ S, S = sumP (l.take k) := ⟨_, rfl⟩
        obtain ⟨T, hT⟩ : ∃ T, T = aheadP l k := ⟨_, rfl⟩
        rw [← hS] at hown y0 hnext hsum hs0
        rw [← hT] at hown y1
        have hwr : IntKind.u64.wrap (S + xa) = S + xa := by rw [IntKind.wrap_u64]; have := HSF.out; omega
        have i4 : decide (0 < (k : Int)) = true := by simp; omega
        have i5 : decide (0 < k) = true := by simp; omega
        have i6 : (0 : Int) < (k : Int) := by omega
        have i7 : decide ((k : Int) > 0) = true := by simp; omega
        have i8 : decide (xt ≤ now) = true := by simpa using hcase.2
        have f0 := hfz 0
        have f1 := hfz 1
        have HO := Lib.hid hown
        have HX := Lib.hid hnext
        clear hx hc p0 p1 hcase hlow hsum hsle hs0 hxo hown hfo hcap hfz hgw hS hT hnext
        go_wp2
        go_region
        all_goals
          go_wp2
          go_roundg (n - k - 1)
          case measure => omega
          case rel => exact ⟨k + 1, by omega, by go_num, Lib.hid (by rw [HX.out]; first | exact ((HO.out.drew).set1 _).set2 _ | exact (((HO.out.set1 _).drew).set2 _) | exact (((HO.out.set1 _).set2 _).drew))⟩
      · rw [if_neg hcase] at hnext
        have HX := Lib.hid hnext
        have HL := Lib.hid (rdueK_len l now k)
        obtain ⟨A5, c5, rfl, _⟩ := HR.out.rd.open_
        obtain ⟨m, hm⟩ : ∃ m, m = (rdueK l now k).length := ⟨_, rfl⟩
        have HO := Lib.hid HR.out
        rw [← hm] at HO ⊢
        have HM := Lib.hid hm
        have HB9 := Lib.hid (show m + 1 ≤ 1000000 by have := HL.out; omega)
        obtain ⟨xa, xt⟩ := x
        simp only at x0 x1 HX hcase
        by_cases h0 : 0 < k
        · have i4 : decide (0 < (k : Int)) = true := by simp; omega
          have i5 : decide (0 < k) = true := by simp; omega
          have i6 : (0 : Int) < (k : Int) := by omega
          have i7 : decide ((k : Int) > 0) = true := by simp; omega
          have i8 : decide (xt ≤ now) = false := by simp; omega
          clear hx hc p0 p1 hcase hm HR hnext
          go_wp2_with (at_builtin; refine wpList_append_rs (xs := rdueK l now k) (l := [(xa, xt)]) (n := m) (m := 1) (N := m + 1) _ rfl _ _ rfl (by rfl) (by rfl) (by have := Row.alloc HO.out.1 (.cells #[.int .u64 xa, .int .u64 xt] 35); rw [← HM.out] at this; exact this) (Rs.one (Blk.new _ 35 _)) HB9.out rfl ?_; intro A6 c6 w6 hr hg hf; have H7 := Lib.hid ((HO.out.later ((Chg.refl [] _).alloc (.cells #[.int .u64 xa, .int .u64 xt] 35))).append (by rw [List.length_append, ← HM.out]; rfl) hr hg hf); clear hr hg hf)
          go_roundg (n - k - 1)
          case measure => omega
          case rel => exact ⟨k + 1, by omega, by go_num, Lib.hid (by rw [HX.out]; exact H7.out)⟩
        · obtain rfl : k = 0 := by omega
          clear hx hc p0 p1 hcase hm HR hnext
          simp only [Nat.zero_mul, Nat.add_zero] at x0 x1
          go_wp2_with (at_builtin; refine wpList_append_rs (xs := rdueK l now 0) (l := [(xa, xt)]) (n := m) (m := 1) (N := m + 1) _ rfl _ _ rfl (by rfl) (by rfl) (by have := Row.alloc HO.out.1 (.cells #[.int .u64 xa, .int .u64 xt] 35); rw [← HM.out] at this; exact this) (Rs.one (Blk.new _ 35 _)) HB9.out rfl ?_; intro A6 c6 w6 hr hg hf; have H7 := Lib.hid ((HO.out.later ((Chg.refl [] _).alloc (.cells #[.int .u64 xa, .int .u64 xt] 35))).append (by rw [List.length_append, ← HM.out]; rfl) hr hg hf); clear hr hg hf)
          go_roundg (n - 1)
          case measure => omega
          case rel => exact ⟨1, by omega, by go_num, Lib.hid (by rw [HX.out]; exact H7.out)⟩
    · obtain rfl : k = n := by omega
      have HO := Lib.hid HR.out
      rw [HEND.out] at HO
      obtain ⟨A5, c5, rfl, _⟩ := HO.out.rd.open_
      clear HR
      go_wp2
      go_ret
      exact ⟨_, rfl, HO.out⟩
end Go.Proofs
