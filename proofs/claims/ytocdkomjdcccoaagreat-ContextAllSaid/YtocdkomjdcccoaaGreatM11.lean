import Derived.Test.YtocdkomjdcccoaaGreatM8
import Derived.Test.YtocdkomjdcccoaaGreatM10
import Derived.Sort.AssemblyPlain
section
namespace Go.Proofs
open Go.RowKit Go.Sort
set_option linter.unusedVariables false

/-! ### slices.Sort of numbers -/
/-- The row at block g, of room cap, holds the numbers d; of the blocks that were there at most g has turned. -/
def Ud (w wx : World) (g cap : Nat) (d : Array Int) : Prop := Un wx (.slice (some ⟨g, 0, none⟩) d.size cap) d.toList ∧ Chg [g] w wx
section
variable {w wx w' : World} {g cap : Nat} {d : Array Int}
theorem Ud.cell (h : Ud w wx g cap d) {j : Nat} (hj : j < d.size) : wx.cell? ⟨g, j, none⟩ = some (.int .u64 d[j]!) := by
  obtain ⟨g', e, _, q⟩ := h.1.at_ (k := j) (x := d[j]!) (by rw [getElem!_pos d j hj, Array.getElem?_toList, Array.getElem?_eq_getElem hj])
  cases e
  exact q
theorem Ud.frozen (h : Ud w wx g cap d) (hn : 0 < d.size) (j : Nat) : wx.frozen? ⟨g, j, none⟩ = false := by
  obtain ⟨g', c, hv, _, _, _, hf, _⟩ := Row.form h.1 (by simpa using hn)
  simp only [Value.slice.injEq, Option.some.injEq, Addr.mk.injEq] at hv
  obtain ⟨⟨rfl, _⟩, _⟩ := hv
  exact hf j
theorem Ud.drewN (h : Ud w wx g cap d) (q : Nat) : Ud w (wx.drewN q) g cap d := ⟨Row.drewN h.1 q, h.2.drewN q⟩
theorem Ud.drew (h : Ud w wx g cap d) : Ud w wx.drew g cap d := ⟨Row.drew h.1, h.2.drew⟩
theorem Ud.set_ (h : Ud w wx g cap d) {j : Nat} (hj : j < d.size) (x : Int) : Ud w (wx.setCell ⟨g, j, none⟩ (.int .u64 x)) g cap (d.setIfInBounds j x) := by
  have hr : Row wx 32 1 (.slice (some ⟨g, 0, none⟩) d.size cap) d.size (u64s d.toList) := by have := h.1; unfold Un at this; simpa using this
  have h1 := Row.set_ hr (j := j) (by omega) (.int .u64 x)
  refine ⟨?_, h.2.setCell (p := ⟨g, j, none⟩) (.inl (by simp)) _⟩
  unfold Un
  rw [Array.length_toList, Array.size_setIfInBounds]
  have e : u64s (d.setIfInBounds j x).toList = (u64s d.toList).set j (.int .u64 x) := by unfold u64s; rw [Array.toList_setIfInBounds, List.map_set]
  rw [e]
  exact h1
theorem swpU_size (d : Array Int) (i j : Nat) : (swp d i j).size = d.size := by unfold swp; simp
/-- A swap, in memory. -/
theorem Ud.swap (h : Ud w wx g cap d) {i j : Nat} (hi : i < d.size) (hj : j < d.size) : Ud w ((wx.setCell ⟨g, i, none⟩ (.int .u64 d[j]!)).setCell ⟨g, j, none⟩ (.int .u64 d[i]!)) g cap (swp d i j) :=
  (h.set_ hi _).set_ (by simpa using hj) _
theorem Ud.then_ {w0 : World} (h0 : Chg [g] w0 w) (h : Ud w wx g cap d) : Ud w0 wx g cap d := ⟨h.1, h0.trans h.2 (fun k hk => .inl hk)⟩
end
theorem isNaN_u (x : Int) (w : World) : Calls Tryz.prog 143 #[.int .u64 x] w fun e w' => e = .returned (.bool false) ∧ w = w' := by
  have h : (x != x) = false := by simp
  go_enter Tryz.func143, Tryz.ntmps143
  go_wp2
  go_ret
  exact ⟨rfl, rfl⟩
theorem less_u (x y : Int) (w : World) : Calls Tryz.prog 131 #[.int .u64 x, .int .u64 y] w fun e w' => e = .returned (.bool (ltInt x y)) ∧ w = w' := by
  unfold ltInt
  go_enter Tryz.func131, Tryz.ntmps131
  go_wp2_with (go_at_call 143; refine (isNaN_u _ _).mono ?_; rintro e w' ⟨rfl, rfl⟩)
  go_ret
  exact ⟨rfl, rfl⟩
theorem swp_comm (d : Array Int) {i j : Nat} (h : i ≠ j) : (d.setIfInBounds j d[i]!).setIfInBounds i d[j]! = swp d i j := by
  unfold swp
  refine Array.ext_getElem? fun k => ?_
  rw [Array.getElem?_setIfInBounds, Array.getElem?_setIfInBounds, Array.getElem?_setIfInBounds, Array.getElem?_setIfInBounds]
  by_cases h1 : i = k
  · subst h1
    have : ¬ j = i := fun e => h e.symm
    simp [this]
  · by_cases h2 : j = k
    · subst h2; simp [h1]
    · simp [h1, h2]
theorem Ud.swap' {w wx : World} {g cap : Nat} {d : Array Int} (h : Ud w wx g cap d) {i j : Nat} (hi : i < d.size) (hj : j < d.size) (hne : i ≠ j) : Ud w ((wx.setCell ⟨g, j, none⟩ (.int .u64 d[i]!)).setCell ⟨g, i, none⟩ (.int .u64 d[j]!)) g cap (swp d i j) := by
  rw [← swp_comm d hne]
  exact (h.set_ hj _).set_ (by simpa using hi) _
theorem insI_go (a j : Nat) (d : Array Int) (hj : a < j + 1) (hl : ltInt d[j + 1]! d[j]! = true) : insInner ltInt a (j + 1) d = insInner ltInt a j (swp d (j + 1) j) := by
  rw [insInner, if_pos (by simp [hl]; omega)]
theorem insI_no (a j : Nat) (d : Array Int) (hl : ltInt d[j + 1]! d[j]! = false) : insInner ltInt a (j + 1) d = d := by
  rw [insInner, if_neg (by simp [hl])]
theorem insI_end (a j : Nat) (d : Array Int) (h : j ≤ a) : insInner ltInt a j d = d := by
  cases j with
  | zero => rw [insInner]
  | succ k => rw [insInner, if_neg (by simp; omega)]
theorem insO_go (a b i : Nat) (d : Array Int) (h : i < b) : insOuter ltInt a b i d = insOuter ltInt a b (i + 1) (insInner ltInt a i d) := by rw [insOuter, if_pos h]
theorem insO_end (a b i : Nat) (d : Array Int) (h : ¬ i < b) : insOuter ltInt a b i d = d := by rw [insOuter, if_neg h]
set_option maxHeartbeats 6400000 in
set_option maxRecDepth 100000 in
theorem ins_u {w0 w : World} {g cap : Nat} {d : Array Int} (h : Ud w0 w g cap d) (a b : Nat) (hab : a ≤ b) (hb : b ≤ d.size) (hsz : d.size ≤ 100000) :
    Calls Tryz.prog 125 #[.slice (some ⟨g, 0, none⟩) d.size cap, .int .i64 a, .int .i64 b] w fun e w' => e = .returned (.tuple #[]) ∧ Ud w0 w' g cap (insertionSort ltInt d a b) := by
  obtain ⟨n, hn⟩ : ∃ n, n = d.size := ⟨_, rfl⟩
  have HI0 := Lib.hid (show Ud w0 w g cap d ∧ d.size = n ∧ insOuter ltInt a b (a + 1) d = insertionSort ltInt d a b from ⟨h, hn.symm, rfl⟩)
  rw [← hn] at hb hsz ⊢
  obtain ⟨R, hR⟩ : ∃ R, R = insertionSort ltInt d a b := ⟨_, rfl⟩
  rw [← hR] at HI0 ⊢
  clear h hn hR
  go_enter Tryz.func125, Tryz.ntmps125
  go_wp2
  go_loopg [6] (b + 1) (fun gi s6 wx => ∃ (i : Nat) (dk : Array Int), (i + gi = a + b + 2 ∧ a < i ∧ i ≤ b + 1) ∧ s6 = .int .i64 i ∧ Hid (Ud w0 wx g cap dk ∧ dk.size = n ∧ insOuter ltInt a b i dk = R))
  case atStart => exact ⟨a + 1, d, ⟨by omega, by omega, by omega⟩, by go_num, Lib.hid HI0.out⟩
  case round =>
    obtain ⟨i, dk, ⟨hi, hai, hib⟩, rfl, HR⟩ := hrel
    by_cases hlt : i < b
    · have k1 : (i : Int) < (b : Int) := by omega
      have k2 : decide ((i : Int) < (b : Int)) = true := by simpa using hlt
      have HIN := Lib.hid (show Ud w0 wr g cap dk ∧ dk.size = n ∧ insInner ltInt a i dk = insInner ltInt a i dk from ⟨HR.out.1, HR.out.2.1, rfl⟩)
      go_wp2
      go_loopg [7] i (fun gj s7 wy => ∃ (j : Nat) (dj : Array Int), j = gj ∧ (a ≤ j ∧ j ≤ i) ∧ s7 = .int .i64 j ∧ Hid (Ud w0 wy g cap dj ∧ dj.size = n ∧ insInner ltInt a j dj = insInner ltInt a i dk))
      case atStart => exact ⟨i, dk, rfl, ⟨by omega, Nat.le_refl _⟩, rfl, Lib.hid ⟨HIN.out.1, HIN.out.2.1, rfl⟩⟩
      case round =>
        obtain ⟨j, dj, rfl, ⟨haj, hji⟩, rfl, HJ⟩ := hrel
        have f0 := HJ.out.1.frozen (by rw [HJ.out.2.1]; omega) j
        have hout : ∀ q, insInner ltInt a j dj = dj → Ud w0 (wr.drewN q) g cap dj ∧ dj.size = n ∧ insOuter ltInt a b (i + 1) dj = R := fun q hq =>
          ⟨HJ.out.1.drewN q, HJ.out.2.1, by rw [← HR.out.2.2, insO_go _ _ _ _ hlt, ← HJ.out.2.2, hq]⟩
        have HOUT := Lib.hid hout
        clear hout
        by_cases haj' : a < j
        · obtain ⟨p, hp⟩ : ∃ p, j = p + 1 := ⟨j - 1, by omega⟩
          have f1 := HJ.out.1.frozen (by rw [HJ.out.2.1]; omega) p
          have c0 := HJ.out.1.cell (j := j) (by rw [HJ.out.2.1]; omega)
          have c1 := HJ.out.1.cell (j := p) (by rw [HJ.out.2.1]; omega)
          have hne1 : ¬ p = j := by omega
          have hne2 : ¬ j = p := by omega
          have hs1 := fun q => (HJ.out.1.drewN q).swap (i := j) (j := p) (by rw [HJ.out.2.1]; omega) (by rw [HJ.out.2.1]; omega)
          have hs2 := fun q => (HJ.out.1.drewN q).swap' (i := j) (j := p) (by rw [HJ.out.2.1]; omega) (by rw [HJ.out.2.1]; omega) (by omega)
          have hgo := insI_go a p dj (by omega)
          have hno := insI_no a p dj
          rw [← hp] at hgo hno
          obtain ⟨x, hx⟩ : ∃ x, x = dj[j]! := ⟨_, rfl⟩
          obtain ⟨y, hy⟩ : ∃ y, y = dj[p]! := ⟨_, rfl⟩
          rw [← hx] at c0 hs1 hs2 hgo hno
          rw [← hy] at c1 hs1 hs2 hgo hno
          have i0 : (0 : Int) ≤ (j : Int) := by omega
          have i1 : (j : Int) < (n : Int) := by omega
          have i2 : (0 : Int) ≤ (p : Int) := by omega
          have i3 : (p : Int) < (n : Int) := by omega
          have i4 : IntKind.i64.wrap ((j : Int) - 1) = (p : Int) := by rw [IntWalk.i64_in _ (by omega)]; omega
          have g1 : decide ((j : Int) > (a : Int)) = true := by simp; omega
          have g1' : decide ((a : Int) < (j : Int)) = true := by simp; omega
          have g1'' : decide (a < j) = true := by simp; omega
          have hL : ∀ W, Calls Tryz.prog 131 #[.int .u64 x, .int .u64 y] W fun e w' => e = .returned (.bool (ltInt x y)) ∧ w' = W := fun W => (less_u x y W).mono fun e w' ⟨h1, h2⟩ => ⟨h1, h2.symm⟩
          have HP := Lib.hid hp
          clear hp
          cases hl : ltInt x y with
          | true =>
            rw [hl] at hL
            have HS1 := Lib.hid hs1
            have HS2 := Lib.hid hs2
            have HGO := Lib.hid (hgo hl)
            clear hs1 hs2 hgo hno hx hy hl
            go_wp2
            go_quiet ((go_at_call 131; exact Calls.quiet_of_same (hL _)))
            go_wp2
            go_region
            all_goals
              go_wp2
              go_roundg p
              case measure => have := HP.out; omega
              case rel =>
                have hp := HP.out
                first
                  | exact ⟨p, _, rfl, ⟨by omega, by omega⟩, rfl, Lib.hid ⟨HS1.out _, by rw [swpU_size]; exact HJ.out.2.1, by rw [← HGO.out]; exact HJ.out.2.2⟩⟩
                  | exact ⟨p, _, rfl, ⟨by omega, by omega⟩, rfl, Lib.hid ⟨HS2.out _, by rw [swpU_size]; exact HJ.out.2.1, by rw [← HGO.out]; exact HJ.out.2.2⟩⟩
          | false =>
            rw [hl] at hL
            have HNO := Lib.hid (hno hl)
            clear hs1 hs2 hgo hno hx hy hl
            go_wp2
            go_quiet ((go_at_call 131; exact Calls.quiet_of_same (hL _)))
            go_wp2
            go_roundg (a + b + 2 - (i + 1))
            case measure => omega
            case rel => exact ⟨i + 1, dj, ⟨by omega, by omega, by omega⟩, by go_num, Lib.hid (HOUT.out _ HNO.out)⟩
        · have g1 : decide ((j : Int) > (a : Int)) = false := by simp; omega
          have g1' : decide ((a : Int) < (j : Int)) = false := by simp; omega
          have g1'' : decide (a < j) = false := by simp; omega
          have HEN := Lib.hid (insI_end a j dj (by omega))
          go_wp2
          go_quiet (fail)
          go_wp2
          go_roundg (a + b + 2 - (i + 1))
          case measure => omega
          case rel => exact ⟨i + 1, dj, ⟨by omega, by omega, by omega⟩, by go_num, Lib.hid (HOUT.out _ HEN.out)⟩
    · have k1 : ¬ (i : Int) < (b : Int) := by omega
      have k2 : decide ((i : Int) < (b : Int)) = false := by simpa using hlt
      have HE := Lib.hid (show R = dk by rw [← HR.out.2.2, insO_end _ _ _ _ hlt])
      go_wp2
      go_end0
      exact ⟨rfl, by rw [HE.out]; exact HR.out.1⟩
end Go.Proofs
end
section
namespace Go.Proofs
open Go.RowKit Go.Sort
set_option linter.unusedVariables false

set_option maxHeartbeats 3200000 in
set_option maxRecDepth 100000 in
theorem ins_none (v : Value) (A : Option Addr) (c : Nat) (hv : v = .slice A 0 c) (w : World) : Calls Tryz.prog 125 #[v, .int .i64 0, .int .i64 0] w fun e w' => e = .returned (.tuple #[]) ∧ w = w' := by
  subst hv
  go_enter Tryz.func125, Tryz.ntmps125
  go_wp2
  go_loopg [6] 0 (fun gi s6 wx => gi = 0 ∧ s6 = .int .i64 1 ∧ wx = w)
  case atStart => exact ⟨rfl, rfl, rfl⟩
  case round =>
    obtain ⟨hg, rfl, rfl⟩ := hrel
    go_wp2
    go_end0
    exact ⟨rfl, rfl⟩
set_option maxHeartbeats 3200000 in
set_option maxRecDepth 100000 in
/-- pdqsort of few. -/
theorem pdq_few {w : World} {A : Option Addr} {c n : Nat} {Q : World → Prop} (hn : n ≤ 12) (limit : Int) (hI : Calls Tryz.prog 125 #[.slice A n c, .int .i64 0, .int .i64 (n : Nat)] w fun e w' => e = .returned (.tuple #[]) ∧ Q w') :
    Calls Tryz.prog 118 #[.slice A n c, .int .i64 0, .int .i64 (n : Nat), .int .i64 limit] w fun e w' => e = .returned (.tuple #[]) ∧ Q w' := by
  have g1 : decide ((n : Int) ≤ 12) = true := by simp; omega
  have g2 : IntKind.i64.wrap ((n : Int) - 0) = (n : Int) := by rw [IntWalk.i64_in _ (by omega)]; omega
  have g3 : IntKind.i64.wrap (n : Int) = (n : Int) := by rw [IntWalk.i64_in _ (by omega)]
  have HI := Lib.hid hI
  clear hI
  go_enter Tryz.func118, Tryz.ntmps118
  go_wp2
  go_loopg [1, 2, 3, 8, 9] 0 (fun gi s1 s2 s3 s8 s9 wx => gi = 0 ∧ s1 = .int .i64 0 ∧ s2 = .int .i64 (n : Nat) ∧ wx = w)
  case atStart => exact ⟨rfl, rfl, rfl, rfl⟩
  case round =>
    obtain ⟨hg, rfl, rfl, rfl⟩ := hrel
    go_wp2_with (go_at_call 125; refine HI.out.mono ?_; rintro e w' ⟨rfl, h1⟩; have H1 := Lib.hid h1; clear h1)
    refine bodyPost_ret (results_none rfl _ _ _) rfl ?_
    exact ⟨rfl, H1.out⟩
theorem sort_few {w : World} {A : Option Addr} {c n : Nat} {Q : World → Prop} (hn : n ≤ 12) (hI : Calls Tryz.prog 125 #[.slice A n c, .int .i64 0, .int .i64 (n : Nat)] w fun e w' => e = .returned (.tuple #[]) ∧ Q w') :
    Calls Tryz.prog 100 #[.slice A n c] w fun e w' => e = .returned (.tuple #[]) ∧ Q w' := by
  have HI := Lib.hid (fun limit => pdq_few hn limit hI)
  have g2 : IntKind.u64.wrap (n : Int) = (n : Int) := by rw [IntKind.wrap_u64]; omega
  have hb := Tryz.bits_Len (n : Int) w (by omega) (by omega)
  obtain ⟨L, hL⟩ : ∃ L : Int, L = (Lib.bitLen (n : Int).toNat : Int) := ⟨_, rfl⟩
  rw [← hL] at hb
  clear hI hL
  go_enter Tryz.func100, Tryz.ntmps100
  go_wp2_with (first
    | (go_at_call 119; refine hb.mono ?_; rintro e w' ⟨rfl, rfl⟩)
    | (go_at_call 118; refine (HI.out _).mono ?_; rintro e w' ⟨rfl, h1⟩; have H1 := Lib.hid h1; clear h1))
  go_end0
  exact ⟨rfl, H1.out⟩
theorem sorted_list {d : Array Int} (h : SortedIn ltInt 0 d.size d) : d.toList.Pairwise (fun x y => x ≤ y) := by
  rw [List.pairwise_iff_getElem]
  intro i j hi hj hij
  have := h i j (Nat.zero_le _) hij (by simpa using hj)
  rw [getElem!_pos d j (by simpa using hj), getElem!_pos d i (by simpa using hi)] at this
  unfold ltInt at this
  simp at this
  simpa using this
theorem perm_list {d d' : Array Int} (h : PermIn 0 d.size d d') : d'.toList.Perm d.toList := by
  have h1 := h.2.2
  rw [Array.extract_size] at h1
  have h2 : d'.extract 0 d.size = d' := by rw [← h.1, Array.extract_size]
  rwa [h2] at h1
theorem sorts_12 : Sorts 12 := by
  intro w v U hU hn
  rcases hU.2 with ⟨rfl, h0⟩ | ⟨g, cap, cur, rfl, hg, hc, hm, hs, ht⟩
  · have e : U = [] := List.eq_nil_of_length_eq_zero h0
    subst e
    exact (sort_few (Q := fun w' => w = w') (by simp) (ins_none _ _ _ rfl w)).mono fun e w' ⟨h1, h2⟩ => ⟨h1, [], by rw [← h2]; exact hU, List.Perm.refl _, List.Pairwise.nil, by rw [← h2]; exact Chg.refl _ _⟩
  · have hd : Ud w w g cap U.toArray := ⟨by simpa using hU, Chg.refl _ _⟩
    have hi := ins_u hd 0 U.length (Nat.zero_le _) (by simp) (by simp; omega)
    have hp := insertionSort_holds (lt := ltInt) swo_ltInt U.toArray 0 U.length (Nat.zero_le _) (by simp)
    have hz : U.toArray.size = U.length := by simp
    rw [hz] at hi
    refine (sort_few (Q := fun w' => Ud w w' g cap (insertionSort ltInt U.toArray 0 U.length)) hn hi).mono fun e w' ⟨h1, h2⟩ => ?_
    rw [← hz] at hp h2
    have hsz : (insertionSort ltInt U.toArray 0 U.toArray.size).size = U.length := by rw [hp.1.1]; simp
    refine ⟨h1, (insertionSort ltInt U.toArray 0 U.toArray.size).toList, ?_, by simpa using perm_list hp.1, sorted_list (by rw [hsz, ← hz]; exact hp.2), by simpa [foot_some] using h2.2⟩
    have := h2.1
    rw [hsz] at this
    exact this
theorem Sorts.less {N M : Nat} (h : Sorts N) (hm : M ≤ N) : Sorts M := fun w v U hU hn => h w v U hU (by omega)
end Go.Proofs
end
section
namespace Go.Proofs
open Go.RowKit Go.Sort
set_option linter.unusedVariables false

theorem pi_swp {d dk : Array Int} {a b i j : Nat} (h : PermIn a b d dk) (hi : a ≤ i) (hi' : i < b) (hj : a ≤ j) (hj' : j < b) (hb : b ≤ d.size) : PermIn a b d (swp dk i j) :=
  permIn_trans _ _ _ a b h (swp_permIn dk a b i j hi hi' hj hj' (by rw [h.1]; exact hb))
set_option maxHeartbeats 6400000 in
set_option maxRecDepth 100000 in
theorem reverse_u {w0 w : World} {g cap : Nat} {d : Array Int} (h : Ud w0 w g cap d) (a b : Nat) (hab : a < b) (hb : b ≤ d.size) (hsz : d.size ≤ 100000) :
    Calls Tryz.prog 129 #[.slice (some ⟨g, 0, none⟩) d.size cap, .int .i64 a, .int .i64 b] w fun e w' => e = .returned (.tuple #[]) ∧ ∃ d', Ud w0 w' g cap d' ∧ PermIn a b d d' := by
  obtain ⟨n, hn⟩ : ∃ n, n = d.size := ⟨_, rfl⟩
  have HB := Lib.hid hb
  have HI0 := Lib.hid (show Ud w0 w g cap d ∧ d.size = n ∧ PermIn a b d d from ⟨h, hn.symm, permIn_refl d a b⟩)
  rw [← hn] at hb hsz ⊢
  have k0 : IntKind.i64.wrap ((b : Int) - 1) = ((b - 1 : Nat) : Int) := by rw [IntWalk.i64_in _ (by omega)]; omega
  clear h hn
  go_enter Tryz.func129, Tryz.ntmps129
  go_wp2
  go_loopg [6, 7] b (fun gh s6 s7 wx => ∃ (i j : Nat) (dk : Array Int), (a ≤ i ∧ j < b ∧ j + 1 - i ≤ gh) ∧ s6 = .int .i64 i ∧ s7 = .int .i64 j ∧ Hid (Ud w0 wx g cap dk ∧ dk.size = n ∧ PermIn a b d dk))
  case atStart => exact ⟨a, b - 1, d, ⟨by omega, by omega, by omega⟩, rfl, rfl, Lib.hid HI0.out⟩
  case round =>
    obtain ⟨i, j, dk, ⟨hi, hj, hij⟩, rfl, rfl, HR⟩ := hrel
    by_cases hlt : i < j
    · have k1 : decide ((i : Int) < (j : Int)) = true := by simpa using hlt
      have k2 : (i : Int) < (j : Int) := by omega
      have f0 := HR.out.1.frozen (by rw [HR.out.2.1]; omega) i
      have f1 := HR.out.1.frozen (by rw [HR.out.2.1]; omega) j
      have c0 := HR.out.1.cell (j := i) (by rw [HR.out.2.1]; omega)
      have c1 := HR.out.1.cell (j := j) (by rw [HR.out.2.1]; omega)
      have hs1 := fun q => (HR.out.1.drewN q).swap (i := i) (j := j) (by rw [HR.out.2.1]; omega) (by rw [HR.out.2.1]; omega)
      have hs2 := fun q => (HR.out.1.drewN q).swap' (i := i) (j := j) (by rw [HR.out.2.1]; omega) (by rw [HR.out.2.1]; omega) (by omega)
      obtain ⟨x, hx⟩ : ∃ x, x = dk[i]! := ⟨_, rfl⟩
      obtain ⟨y, hy⟩ : ∃ y, y = dk[j]! := ⟨_, rfl⟩
      rw [← hx] at c0 hs1 hs2
      rw [← hy] at c1 hs1 hs2
      have i0 : (0 : Int) ≤ (i : Int) := by omega
      have i1 : (i : Int) < (n : Int) := by omega
      have i2 : (0 : Int) ≤ (j : Int) := by omega
      have i3 : (j : Int) < (n : Int) := by omega
      have i4 : IntKind.i64.wrap ((j : Int) - 1) = ((j - 1 : Nat) : Int) := by rw [IntWalk.i64_in _ (by omega)]; omega
      have i5 : IntKind.i64.wrap ((i : Int) + 1) = ((i + 1 : Nat) : Int) := by rw [IntWalk.i64_in _ (by omega)]; omega
      have hne1 : ¬ i = j := by omega
      have hne2 : ¬ j = i := by omega
      have HS1 := Lib.hid hs1
      have HS2 := Lib.hid hs2
      have HLT := Lib.hid hlt
      clear hs1 hs2 hx hy hlt
      go_wp2
      go_region
      all_goals
        go_wp2
        go_roundg (j - 1 + 1 - (i + 1))
        case measure => have := HLT.out; omega
        case rel =>
          have hl := HLT.out
          have hP := pi_swp HR.out.2.2 (i := i) (j := j) hi (by omega) (by omega) (by omega) HB.out
          first
            | exact ⟨i + 1, j - 1, _, ⟨by omega, by omega, by omega⟩, by first | rfl | go_num, by first | rfl | go_num, Lib.hid ⟨HS1.out _, by rw [swpU_size]; exact HR.out.2.1, hP⟩⟩
            | exact ⟨i + 1, j - 1, _, ⟨by omega, by omega, by omega⟩, by first | rfl | go_num, by first | rfl | go_num, Lib.hid ⟨HS2.out _, by rw [swpU_size]; exact HR.out.2.1, hP⟩⟩
            | exact ⟨i + 1, j - 1, _, ⟨by omega, by omega, by omega⟩, by first | rfl | go_num, by first | rfl | go_num, Lib.hid ⟨by simpa using HS1.out 0, by rw [swpU_size]; exact HR.out.2.1, hP⟩⟩
    · have k1 : decide ((i : Int) < (j : Int)) = false := by simpa using hlt
      have k2 : ¬ (i : Int) < (j : Int) := by omega
      go_wp2
      go_end0
      exact ⟨rfl, dk, HR.out.1, HR.out.2.2⟩
/-- A row, and a counter beside it. -/
def Pv (w0 wx : World) (g cap : Nat) (d : Array Int) (s : Nat) : Prop := Ud w0 wx g cap d ∧ (∃ k, Blk wx s 3 #[.int .i64 k]) ∧ s ≠ g ∧ w0.heap.size ≤ s
set_option maxHeartbeats 6400000 in
set_option maxRecDepth 100000 in
theorem order2_u {w0 w : World} {g cap s : Nat} {d : Array Int} (h : Pv w0 w g cap d s) (a b : Nat) (ha : a < d.size) (hb : b < d.size) (hsz : d.size ≤ 100000) :
    Calls Tryz.prog 144 #[.slice (some ⟨g, 0, none⟩) d.size cap, .int .i64 a, .int .i64 b, .pointer (some ⟨s, 0, none⟩)] w fun e w' => (∃ p q : Nat, e = .returned (.tuple #[.int .i64 p, .int .i64 q]) ∧ ((p = a ∧ q = b) ∨ (p = b ∧ q = a))) ∧ Pv w0 w' g cap d s := by
  obtain ⟨h1, ⟨k, hk⟩, h3, h4⟩ := h
  obtain ⟨n, hn⟩ : ∃ n, n = d.size := ⟨_, rfl⟩
  have c0 := h1.cell (j := a) ha
  have c1 := h1.cell (j := b) hb
  obtain ⟨x, hx⟩ : ∃ x, x = d[a]! := ⟨_, rfl⟩
  obtain ⟨y, hy⟩ : ∃ y, y = d[b]! := ⟨_, rfl⟩
  rw [← hx] at c0
  rw [← hy] at c1
  have s0 := hk.cell 0
  have f0 := hk.frozen 0
  rw [← hn] at ha hb hsz ⊢
  have i0 : (0 : Int) ≤ (a : Int) := by omega
  have i1 : (a : Int) < (n : Int) := by omega
  have i2 : (0 : Int) ≤ (b : Int) := by omega
  have i3 : (b : Int) < (n : Int) := by omega
  have hL : ∀ W, Calls Tryz.prog 131 #[.int .u64 y, .int .u64 x] W fun e w' => e = .returned (.bool (ltInt y x)) ∧ w' = W := fun W => (less_u y x W).mono fun e w' ⟨h1, h2⟩ => ⟨h1, h2.symm⟩
  have HF := Lib.hid (show ∀ q v, Blk ((w.drewN q).setCell ⟨s, 0, none⟩ v) s 3 #[v] from fun q v => by have := (hk.drewN q).set_ 0 v; simpa using this)
  have HU := Lib.hid h1
  have HK := Lib.hid hk
  have H3 := Lib.hid h3
  have H4 := Lib.hid h4
  have HSZ := Lib.hid hn
  clear h1 hk h3 h4 hx hy hn
  cases hl : ltInt y x with
  | true =>
    rw [hl] at hL
    clear hl
    go_enter Tryz.func144, Tryz.ntmps144
    go_wp2
    go_quiet ((go_at_call 131; exact Calls.quiet_of_same (hL _)))
    go_wp2
    go_ret2
    refine ⟨⟨b, a, rfl, .inr ⟨rfl, rfl⟩⟩, ?_⟩
    refine ⟨⟨Row.far ((HU.out.1 : Un _ _ _).drewN _) (by simp [foot_some]; exact H3.out) _, (HU.out.2.drewN _).setCell (p := ⟨s, 0, none⟩) (.inr H4.out) _⟩, ⟨_, HF.out _ _⟩, H3.out, H4.out⟩
  | false =>
    rw [hl] at hL
    clear hl
    go_enter Tryz.func144, Tryz.ntmps144
    go_wp2
    go_quiet ((go_at_call 131; exact Calls.quiet_of_same (hL _)))
    go_wp2
    go_ret2
    exact ⟨⟨a, b, rfl, .inl ⟨rfl, rfl⟩⟩, HU.out.drewN _, ⟨k, HK.out.drewN _⟩, H3.out, H4.out⟩
set_option maxHeartbeats 3200000 in
set_option maxRecDepth 100000 in
theorem median_u {w0 w : World} {g cap s : Nat} {d : Array Int} (h : Pv w0 w g cap d s) (a b c : Nat) (ha : a < d.size) (hb : b < d.size) (hc : c < d.size) (hsz : d.size ≤ 100000) :
    Calls Tryz.prog 142 #[.slice (some ⟨g, 0, none⟩) d.size cap, .int .i64 a, .int .i64 b, .int .i64 c, .pointer (some ⟨s, 0, none⟩)] w fun e w' => (∃ p : Nat, e = .returned (.int .i64 p) ∧ (p = a ∨ p = b ∨ p = c)) ∧ Pv w0 w' g cap d s := by
  have H1 := order2_u h a b ha hb hsz
  have HO := Lib.hid (fun W (hW : Pv w0 W g cap d s) p q (hp : p < d.size) (hq : q < d.size) => order2_u hW p q hp hq hsz)
  obtain ⟨n, hn⟩ : ∃ n, n = d.size := ⟨_, rfl⟩
  rw [← hn] at H1 HO ha hb hc ⊢
  clear h hn
  go_enter Tryz.func142, Tryz.ntmps142
  go_wp2_with (fail)
  refine H1.mono ?_
  rintro e w1 ⟨⟨p, q, rfl, hpq⟩, h1⟩
  have hp : p < n := by omega
  have hq : q < n := by omega
  go_wp2_with (fail)
  refine (HO.out _ h1 q c hq hc).mono ?_
  rintro e w2 ⟨⟨p2, q2, rfl, hpq2⟩, h2⟩
  have hp2 : p2 < n := by omega
  go_wp2_with (fail)
  refine (HO.out _ h2 p p2 hp hp2).mono ?_
  rintro e w3 ⟨⟨p3, q3, rfl, hpq3⟩, h3⟩
  go_wp2
  go_ret
  exact ⟨⟨q3, rfl, by omega⟩, h3⟩
theorem medadj_u {w0 w : World} {g cap s : Nat} {d : Array Int} (h : Pv w0 w g cap d s) (a : Nat) (ha : 1 ≤ a) (ha' : a + 1 < d.size) (hsz : d.size ≤ 100000) :
    Calls Tryz.prog 141 #[.slice (some ⟨g, 0, none⟩) d.size cap, .int .i64 a, .pointer (some ⟨s, 0, none⟩)] w fun e w' => (∃ p : Nat, e = .returned (.int .i64 p) ∧ (p = a - 1 ∨ p = a ∨ p = a + 1)) ∧ Pv w0 w' g cap d s := by
  have H1 := median_u h (a - 1) a (a + 1) (by omega) (by omega) ha' hsz
  have k0 : IntKind.i64.wrap ((a : Int) - 1) = ((a - 1 : Nat) : Int) := by rw [IntWalk.i64_in _ (by omega)]; omega
  have k1 : IntKind.i64.wrap ((a : Int) + 1) = ((a + 1 : Nat) : Int) := by rw [IntWalk.i64_in _ (by omega)]; omega
  obtain ⟨n, hn⟩ : ∃ n, n = d.size := ⟨_, rfl⟩
  obtain ⟨p, hp⟩ : ∃ p, p = a - 1 := ⟨_, rfl⟩
  obtain ⟨q, hq⟩ : ∃ p, p = a + 1 := ⟨_, rfl⟩
  have HPQ := Lib.hid (show p = a - 1 ∧ q = a + 1 from ⟨hp, hq⟩)
  rw [← hn, ← hp, ← hq] at H1
  rw [← hp] at k0
  rw [← hq] at k1
  rw [← hn, ← hp, ← hq]
  clear h hn hp hq
  go_enter Tryz.func141, Tryz.ntmps141
  go_wp2_with (fail)
  refine H1.mono ?_
  rintro e w1 ⟨⟨r, rfl, hr⟩, h1⟩
  go_wp2
  go_ret
  exact ⟨⟨r, rfl, hr⟩, h1⟩
end Go.Proofs
end
section
namespace Go.Proofs
open Go.RowKit Go.Sort
set_option linter.unusedVariables false

set_option maxHeartbeats 6400000 in
set_option maxRecDepth 100000 in
theorem pivot_few {w0 w : World} {g cap : Nat} {d : Array Int} (h : Ud w0 w g cap d) (a b : Nat) (hab : a + 12 < b) (hb : b ≤ d.size) (hsz : d.size ≤ 100000) (hbig : b - a < 50) :
    Calls Tryz.prog 128 #[.slice (some ⟨g, 0, none⟩) d.size cap, .int .i64 a, .int .i64 b] w fun e w' => (∃ (p : Nat) (hint : Int), e = .returned (.tuple #[.int .i64 p, .int .i64 hint]) ∧ a ≤ p ∧ p < b) ∧ Ud w0 w' g cap d := by
  have hgl : g < w.heap.size := by
    have h1 := h.1
    unfold Un at h1
    exact h1.lt g (by simp [foot_some])
  have hP : Pv w0 (w.alloc (.cells #[.int .i64 0] 3)) g cap d w.heap.size := ⟨⟨Row.alloc h.1 _, h.2.alloc _⟩, ⟨0, Blk.new _ _ _⟩, by omega, h.2.size⟩
  have HP := Lib.hid hP
  have HM := Lib.hid (fun W (hW : Pv w0 W g cap d w.heap.size) p (hp : 1 ≤ p) (hp' : p + 1 < d.size) => medadj_u hW p hp hp' hsz)
  have HD := Lib.hid (fun W (hW : Pv w0 W g cap d w.heap.size) p q r (hp : p < d.size) (hq : q < d.size) (hr : r < d.size) => median_u hW p q r hp hq hr hsz)
  have HRD := Lib.hid (fun W (hW : Pv w0 W g cap d w.heap.size) => (hW.2.1 : ∃ k, Blk W w.heap.size 3 #[.int .i64 k]))
  obtain ⟨n, hn⟩ : ∃ n, n = d.size := ⟨_, rfl⟩
  obtain ⟨L, hL⟩ : ∃ L, L = b - a := ⟨_, rfl⟩
  obtain ⟨q, hq⟩ : ∃ q, q = L / 4 := ⟨_, rfl⟩
  obtain ⟨I, hI⟩ : ∃ I, I = a + q := ⟨_, rfl⟩
  obtain ⟨J, hJ⟩ : ∃ J, J = a + q * 2 := ⟨_, rfl⟩
  obtain ⟨K, hK⟩ : ∃ K, K = a + q * 3 := ⟨_, rfl⟩
  rw [← hn] at HM HD hb hsz ⊢
  have k0 : IntKind.i64.wrap ((b : Int) - (a : Int)) = (L : Int) := by rw [IntWalk.i64_in _ (by omega)]; omega
  have k1 : IntKind.i64.wrap (Int.tdiv (L : Int) 4) = (q : Int) := by rw [Int.tdiv_eq_ediv_of_nonneg (by omega), IntWalk.i64_in _ (by omega)]; omega
  have k1' : Int.tdiv (L : Int) 4 = (q : Int) := by rw [Int.tdiv_eq_ediv_of_nonneg (by omega)]; omega
  have k2 : decide ((L : Int) ≥ 8) = true := by simp; omega
  have k2' : decide ((8 : Int) ≤ (L : Int)) = true := by simp; omega
  have k2'' : decide ((L : Int) ≥ 50) = false := by simp; omega
  have k2n : decide ((50 : Int) ≤ (L : Int)) = false := by simp; omega
  have k3 : IntKind.i64.wrap ((q : Int)) = (q : Int) := by rw [IntWalk.i64_in _ (by omega)]
  have k4 : IntKind.i64.wrap ((a : Int) + (q : Int)) = (I : Int) := by rw [IntWalk.i64_in _ (by omega)]; omega
  have k5 : IntKind.i64.wrap ((q : Int) * 2) = (q : Int) * 2 := by rw [IntWalk.i64_in _ (by omega)]
  have k6 : IntKind.i64.wrap ((q : Int) * 3) = (q : Int) * 3 := by rw [IntWalk.i64_in _ (by omega)]
  have k7 : IntKind.i64.wrap ((a : Int) + (q : Int) * 2) = (J : Int) := by rw [IntWalk.i64_in _ (by omega)]; omega
  have k8 : IntKind.i64.wrap ((a : Int) + (q : Int) * 3) = (K : Int) := by rw [IntWalk.i64_in _ (by omega)]; omega
  have HQ := Lib.hid (show a + 1 < I ∧ I + 1 < J ∧ J + 1 < K ∧ K + 1 < b ∧ b ≤ n from by omega)
  clear h hn hL hP hq hI hJ hK
  go_enter Tryz.func128, Tryz.ntmps128
  go_wp2_with (fail)
  refine (HD.out _ HP.out I J K (by have := HQ.out; omega) (by have := HQ.out; omega) (by have := HQ.out; omega)).mono ?_
  rintro e w4 ⟨⟨p4, rfl, hp4⟩, h4⟩
  have hq4 : a ≤ p4 ∧ p4 < b := by have := HQ.out; omega
  obtain ⟨c, hc⟩ := HRD.out _ h4
  have hcc := hc.cell 0
  have H4 := Lib.hid h4
  clear hp4 h4 hc
  have H5 := Lib.hid hq4
  clear hq4
  by_cases z1 : c = 0
  · subst z1
    go_wp2
    go_ret2
    exact ⟨⟨p4, _, rfl, H5.out.1, H5.out.2⟩, H4.out.1⟩
  · have z1' : (c == 0) = false := by simpa using z1
    by_cases z2 : c = 12
    · subst z2
      go_wp2
      go_ret2
      exact ⟨⟨p4, _, rfl, H5.out.1, H5.out.2⟩, H4.out.1⟩
    · have z2' : (c == 12) = false := by simpa using z2
      go_wp2
      go_ret2
      exact ⟨⟨p4, _, rfl, H5.out.1, H5.out.2⟩, H4.out.1⟩
set_option maxHeartbeats 6400000 in
set_option maxRecDepth 100000 in
theorem pivot_many {w0 w : World} {g cap : Nat} {d : Array Int} (h : Ud w0 w g cap d) (a b : Nat) (hab : a + 12 < b) (hb : b ≤ d.size) (hsz : d.size ≤ 100000) (hbig : 50 ≤ b - a) :
    Calls Tryz.prog 128 #[.slice (some ⟨g, 0, none⟩) d.size cap, .int .i64 a, .int .i64 b] w fun e w' => (∃ (p : Nat) (hint : Int), e = .returned (.tuple #[.int .i64 p, .int .i64 hint]) ∧ a ≤ p ∧ p < b) ∧ Ud w0 w' g cap d := by
  have hgl : g < w.heap.size := by
    have h1 := h.1
    unfold Un at h1
    exact h1.lt g (by simp [foot_some])
  have hP : Pv w0 (w.alloc (.cells #[.int .i64 0] 3)) g cap d w.heap.size := ⟨⟨Row.alloc h.1 _, h.2.alloc _⟩, ⟨0, Blk.new _ _ _⟩, by omega, h.2.size⟩
  have HP := Lib.hid hP
  have HM := Lib.hid (fun W (hW : Pv w0 W g cap d w.heap.size) p (hp : 1 ≤ p) (hp' : p + 1 < d.size) => medadj_u hW p hp hp' hsz)
  have HD := Lib.hid (fun W (hW : Pv w0 W g cap d w.heap.size) p q r (hp : p < d.size) (hq : q < d.size) (hr : r < d.size) => median_u hW p q r hp hq hr hsz)
  have HRD := Lib.hid (fun W (hW : Pv w0 W g cap d w.heap.size) => (hW.2.1 : ∃ k, Blk W w.heap.size 3 #[.int .i64 k]))
  obtain ⟨n, hn⟩ : ∃ n, n = d.size := ⟨_, rfl⟩
  obtain ⟨L, hL⟩ : ∃ L, L = b - a := ⟨_, rfl⟩
  obtain ⟨q, hq⟩ : ∃ q, q = L / 4 := ⟨_, rfl⟩
  obtain ⟨I, hI⟩ : ∃ I, I = a + q := ⟨_, rfl⟩
  obtain ⟨J, hJ⟩ : ∃ J, J = a + q * 2 := ⟨_, rfl⟩
  obtain ⟨K, hK⟩ : ∃ K, K = a + q * 3 := ⟨_, rfl⟩
  rw [← hn] at HM HD hb hsz ⊢
  have k0 : IntKind.i64.wrap ((b : Int) - (a : Int)) = (L : Int) := by rw [IntWalk.i64_in _ (by omega)]; omega
  have k1 : IntKind.i64.wrap (Int.tdiv (L : Int) 4) = (q : Int) := by rw [Int.tdiv_eq_ediv_of_nonneg (by omega), IntWalk.i64_in _ (by omega)]; omega
  have k1' : Int.tdiv (L : Int) 4 = (q : Int) := by rw [Int.tdiv_eq_ediv_of_nonneg (by omega)]; omega
  have k2 : decide ((L : Int) ≥ 8) = true := by simp; omega
  have k2' : decide ((8 : Int) ≤ (L : Int)) = true := by simp; omega
  have k2'' : decide ((L : Int) ≥ 50) = true := by simp; omega
  have k2n : decide ((50 : Int) ≤ (L : Int)) = true := by simp; omega
  have k3 : IntKind.i64.wrap ((q : Int)) = (q : Int) := by rw [IntWalk.i64_in _ (by omega)]
  have k4 : IntKind.i64.wrap ((a : Int) + (q : Int)) = (I : Int) := by rw [IntWalk.i64_in _ (by omega)]; omega
  have k5 : IntKind.i64.wrap ((q : Int) * 2) = (q : Int) * 2 := by rw [IntWalk.i64_in _ (by omega)]
  have k6 : IntKind.i64.wrap ((q : Int) * 3) = (q : Int) * 3 := by rw [IntWalk.i64_in _ (by omega)]
  have k7 : IntKind.i64.wrap ((a : Int) + (q : Int) * 2) = (J : Int) := by rw [IntWalk.i64_in _ (by omega)]; omega
  have k8 : IntKind.i64.wrap ((a : Int) + (q : Int) * 3) = (K : Int) := by rw [IntWalk.i64_in _ (by omega)]; omega
  have HQ := Lib.hid (show a + 1 < I ∧ I + 1 < J ∧ J + 1 < K ∧ K + 1 < b ∧ b ≤ n from by omega)
  clear h hn hL hP hq hI hJ hK
  go_enter Tryz.func128, Tryz.ntmps128
  go_wp2_with (fail)
  refine (HM.out _ HP.out I (by have := HQ.out; omega) (by have := HQ.out; omega)).mono ?_
  rintro e w1 ⟨⟨p1, rfl, hp1⟩, h1⟩
  have hq1 : a ≤ p1 ∧ p1 < b := by have := HQ.out; omega
  clear hp1
  go_wp2_with (fail)
  refine (HM.out _ h1 J (by have := HQ.out; omega) (by have := HQ.out; omega)).mono ?_
  rintro e w2 ⟨⟨p2, rfl, hp2⟩, h2⟩
  have hq2 : a ≤ p2 ∧ p2 < b := by have := HQ.out; omega
  clear hp2
  go_wp2_with (fail)
  refine (HM.out _ h2 K (by have := HQ.out; omega) (by have := HQ.out; omega)).mono ?_
  rintro e w3 ⟨⟨p3, rfl, hp3⟩, h3⟩
  have hq3 : a ≤ p3 ∧ p3 < b := by have := HQ.out; omega
  clear hp3
  go_wp2_with (fail)
  refine (HD.out _ h3 p1 p2 p3 (by have := HQ.out; omega) (by have := HQ.out; omega) (by have := HQ.out; omega)).mono ?_
  rintro e w4 ⟨⟨p4, rfl, hp4⟩, h4⟩
  have hq4 : a ≤ p4 ∧ p4 < b := by have := HQ.out; omega
  obtain ⟨c, hc⟩ := HRD.out _ h4
  have hcc := hc.cell 0
  have H4 := Lib.hid h4
  clear hp4 h4 hc
  have H5 := Lib.hid hq4
  clear hq4
  by_cases z1 : c = 0
  · subst z1
    go_wp2
    go_ret2
    exact ⟨⟨p4, _, rfl, H5.out.1, H5.out.2⟩, H4.out.1⟩
  · have z1' : (c == 0) = false := by simpa using z1
    by_cases z2 : c = 12
    · subst z2
      go_wp2
      go_ret2
      exact ⟨⟨p4, _, rfl, H5.out.1, H5.out.2⟩, H4.out.1⟩
    · have z2' : (c == 12) = false := by simpa using z2
      go_wp2
      go_ret2
      exact ⟨⟨p4, _, rfl, H5.out.1, H5.out.2⟩, H4.out.1⟩
theorem pivot_u {w0 w : World} {g cap : Nat} {d : Array Int} (h : Ud w0 w g cap d) (a b : Nat) (hab : a + 12 < b) (hb : b ≤ d.size) (hsz : d.size ≤ 100000) :
    Calls Tryz.prog 128 #[.slice (some ⟨g, 0, none⟩) d.size cap, .int .i64 a, .int .i64 b] w fun e w' => (∃ (p : Nat) (hint : Int), e = .returned (.tuple #[.int .i64 p, .int .i64 hint]) ∧ a ≤ p ∧ p < b) ∧ Ud w0 w' g cap d := by
  rcases Nat.lt_or_ge (b - a) 50 with hl | hl
  · exact pivot_few h a b hab hb hsz hl
  · exact pivot_many h a b hab hb hsz hl
end Go.Proofs
end
section
namespace Go.Proofs
open Go.RowKit Go.Sort
set_option linter.unusedVariables false

theorem quiet_sum {P : Program} {k : Nat} {vs : Array Value} {v : Value} {W : World} {a b : Nat} (h : ∀ W, Calls P k vs W fun e w' => e = .returned v ∧ w' = W) : Calls P k vs (W.drewN (a + b)) fun e w' => e = .returned v ∧ ∃ n, w' = W.drewN (a + n) :=
  (h _).mono fun e w' ⟨h1, h2⟩ => ⟨h1, b, h2⟩
theorem sift_end {hi first r : Nat} {d : Array Int} (h : ¬ 2 * r + 1 < hi) : siftDown ltInt hi first r d = d := by
  rw [siftDown, dif_pos (by omega)]
theorem sift_1 {hi first r : Nat} {d : Array Int} (h : 2 * r + 1 < hi) (h1 : ¬ 2 * r + 2 < hi) : siftDown ltInt hi first r d = if ltInt d[first + r]! d[first + (2 * r + 1)]! then siftDown ltInt hi first (2 * r + 1) (swp d (first + r) (first + (2 * r + 1))) else d := by
  rw [siftDown, dif_neg (by omega), if_neg (by simp; omega)]
  cases ltInt d[first + r]! d[first + (2 * r + 1)]! <;> rfl
theorem sift_2 {hi first r : Nat} {d : Array Int} (h : 2 * r + 2 < hi) (hl : ltInt d[first + (2 * r + 1)]! d[first + (2 * r + 2)]! = false) : siftDown ltInt hi first r d = if ltInt d[first + r]! d[first + (2 * r + 1)]! then siftDown ltInt hi first (2 * r + 1) (swp d (first + r) (first + (2 * r + 1))) else d := by
  have e : first + (2 * r + 1) + 1 = first + (2 * r + 2) := by omega
  rw [siftDown, dif_neg (by omega), e, hl, if_neg (by simp)]
  cases ltInt d[first + r]! d[first + (2 * r + 1)]! <;> rfl
theorem sift_3 {hi first r : Nat} {d : Array Int} (h : 2 * r + 2 < hi) (hl : ltInt d[first + (2 * r + 1)]! d[first + (2 * r + 2)]! = true) : siftDown ltInt hi first r d = if ltInt d[first + r]! d[first + (2 * r + 2)]! then siftDown ltInt hi first (2 * r + 2) (swp d (first + r) (first + (2 * r + 2))) else d := by
  have e : first + (2 * r + 1) + 1 = first + (2 * r + 2) := by omega
  rw [siftDown, dif_neg (by omega), e, hl, if_pos (by simp; omega), dif_pos h]
  cases ltInt d[first + r]! d[first + (2 * r + 2)]! <;> rfl

set_option maxHeartbeats 6400000 in
set_option maxRecDepth 100000 in
theorem sift_u {w0 w : World} {g cap : Nat} {d : Array Int} (h : Ud w0 w g cap d) (lo hi first : Nat) (hb : first + hi ≤ d.size) (hlo : lo ≤ d.size) (hsz : d.size ≤ 100000) :
    Calls Tryz.prog 138 #[.slice (some ⟨g, 0, none⟩) d.size cap, .int .i64 lo, .int .i64 hi, .int .i64 first] w fun e w' => e = .returned (.tuple #[]) ∧ Ud w0 w' g cap (siftDown ltInt hi first lo d) := by
  obtain ⟨n, hn⟩ : ∃ n, n = d.size := ⟨_, rfl⟩
  have HI0 := Lib.hid (show Ud w0 w g cap d ∧ d.size = n ∧ siftDown ltInt hi first lo d = siftDown ltInt hi first lo d from ⟨h, hn.symm, rfl⟩)
  rw [← hn] at hb hlo hsz ⊢
  obtain ⟨R, hR⟩ : ∃ R, R = siftDown ltInt hi first lo d := ⟨_, rfl⟩
  rw [← hR] at HI0 ⊢
  clear h hn
  have HR0 := Lib.hid hR
  clear hR
  go_enter Tryz.func138, Tryz.ntmps138
  go_wp2
  go_loopg [8] (hi - lo) (fun gi s8 wx => ∃ (r : Nat) (dk : Array Int), (gi = hi - r ∧ r ≤ n) ∧ s8 = .int .i64 r ∧ Hid (Ud w0 wx g cap dk ∧ dk.size = n ∧ siftDown ltInt hi first r dk = R))
  case atStart => exact ⟨lo, d, ⟨rfl, hlo⟩, by go_num, Lib.hid ⟨HI0.out.1, HI0.out.2.1, HR0.out.symm⟩⟩
  case round =>
    obtain ⟨r, dk, ⟨hg, hrn⟩, rfl, HR⟩ := hrel
    obtain ⟨p, hp⟩ : ∃ p, p = 2 * r + 1 := ⟨_, rfl⟩
    obtain ⟨q, hq⟩ : ∃ q, q = 2 * r + 2 := ⟨_, rfl⟩
    have m0 : IntKind.i64.wrap (2 * (r : Int)) = 2 * (r : Int) := by rw [IntWalk.i64_in _ (by omega)]
    have m1 : IntKind.i64.wrap (2 * (r : Int) + 1) = (p : Int) := by rw [IntWalk.i64_in _ (by omega)]; omega
    have m2 : IntKind.i64.wrap ((p : Int) + 1) = (q : Int) := by rw [IntWalk.i64_in _ (by omega)]; omega
    by_cases hlt : p < hi
    · have k1 : decide ((p : Int) ≥ (hi : Int)) = false := by simpa using hlt
      have k1' : decide ((hi : Int) ≤ (p : Int)) = false := by simpa using hlt
      have k1'' : ¬ (hi : Int) ≤ (p : Int) := by omega
      have k1n : decide (hi ≤ p) = false := by simpa using hlt
      obtain ⟨A, hA⟩ : ∃ A, A = first + r := ⟨_, rfl⟩
      obtain ⟨B, hB⟩ : ∃ B, B = first + p := ⟨_, rfl⟩
      obtain ⟨C, hC⟩ : ∃ C, C = first + q := ⟨_, rfl⟩
      have m3 : IntKind.i64.wrap ((first : Int) + (r : Int)) = (A : Int) := by rw [IntWalk.i64_in _ (by omega)]; omega
      have m4 : IntKind.i64.wrap ((first : Int) + (p : Int)) = (B : Int) := by rw [IntWalk.i64_in _ (by omega)]; omega
      have m5 : IntKind.i64.wrap ((B : Int) + 1) = (C : Int) := by rw [IntWalk.i64_in _ (by omega)]; omega
      have m6 : IntKind.i64.wrap ((first : Int) + (q : Int)) = (C : Int) := by rw [IntWalk.i64_in _ (by omega)]; omega
      have c0 := HR.out.1.cell (j := A) (by rw [HR.out.2.1]; omega)
      have c1 := HR.out.1.cell (j := B) (by rw [HR.out.2.1]; omega)
      have f0 := HR.out.1.frozen (by rw [HR.out.2.1]; omega) A
      have f1 := HR.out.1.frozen (by rw [HR.out.2.1]; omega) B
      have hs1 := fun q => (HR.out.1.drewN q).swap (i := A) (j := B) (by rw [HR.out.2.1]; omega) (by rw [HR.out.2.1]; omega)
      have hs2 := fun q => (HR.out.1.drewN q).swap' (i := A) (j := B) (by rw [HR.out.2.1]; omega) (by rw [HR.out.2.1]; omega) (by omega)
      have e1 := sift_1 (hi := hi) (first := first) (r := r) (d := dk) (by omega)
      rw [← hp, ← hq, ← hA, ← hB] at e1
      obtain ⟨x, hx⟩ : ∃ x, x = dk[A]! := ⟨_, rfl⟩
      obtain ⟨y, hy⟩ : ∃ y, y = dk[B]! := ⟨_, rfl⟩
      rw [← hx] at c0 hs1 hs2 e1
      rw [← hy] at c1 hs1 hs2 e1
      have i0 : (0 : Int) ≤ (A : Int) := by omega
      have i1 : (A : Int) < (n : Int) := by omega
      have i2 : (0 : Int) ≤ (B : Int) := by omega
      have i3 : (B : Int) < (n : Int) := by omega
      have hAB : ¬ A = B := by omega
      have hBA : ¬ B = A := by omega
      have hless : ∀ u v, ∀ W, Calls Tryz.prog 131 #[.int .u64 u, .int .u64 v] W fun e w' => e = .returned (.bool (ltInt u v)) ∧ w' = W := fun u v W => (less_u u v W).mono fun e w' ⟨h1, h2⟩ => ⟨h1, h2.symm⟩
      have hLx := hless x y
      by_cases hq2 : q < hi
      · have k2 : decide ((q : Int) < (hi : Int)) = true := by simpa using hq2
        have k2' : (q : Int) < (hi : Int) := by omega
        have k2n : decide (q < hi) = true := by simpa using hq2
        have c2 := HR.out.1.cell (j := C) (by rw [HR.out.2.1]; omega)
        have f2 := HR.out.1.frozen (by rw [HR.out.2.1]; omega) C
        have ht1 := fun q => (HR.out.1.drewN q).swap (i := A) (j := C) (by rw [HR.out.2.1]; omega) (by rw [HR.out.2.1]; omega)
        have ht2 := fun q => (HR.out.1.drewN q).swap' (i := A) (j := C) (by rw [HR.out.2.1]; omega) (by rw [HR.out.2.1]; omega) (by omega)
        have e2 := sift_2 (hi := hi) (first := first) (r := r) (d := dk) (by omega)
        have e3 := sift_3 (hi := hi) (first := first) (r := r) (d := dk) (by omega)
        rw [← hp, ← hq, ← hA, ← hB, ← hC] at e2 e3
        obtain ⟨z, hz⟩ : ∃ z, z = dk[C]! := ⟨_, rfl⟩
        rw [← hx] at ht1 ht2 e2 e3
        rw [← hy] at e2 e3
        rw [← hz] at c2 ht1 ht2 e2 e3
        have i4 : (0 : Int) ≤ (C : Int) := by omega
        have i5 : (C : Int) < (n : Int) := by omega
        have hAC : ¬ A = C := by omega
        have hCA : ¬ C = A := by omega
        have hL1 := hless y z
        have hLz := hless x z
        have HN := Lib.hid (show r < p ∧ p < hi ∧ r < q ∧ q < hi ∧ hi ≤ n from by omega)
        clear hless hx hy hz hp hq hA hB hC e1
        cases hl1 : ltInt y z with
        | true =>
          rw [hl1] at hL1
          have e := e3 hl1
          clear e2 e3 hs1 hs2 hLx hl1
          cases hl : ltInt x z with
          | true =>
            rw [hl] at hLz e
            rw [if_pos rfl] at e
            have HS1 := Lib.hid ht1
            have HS2 := Lib.hid ht2
            have E := Lib.hid e
            clear ht1 ht2 hl e
            go_wp2
            go_quiet ((go_at_call 131; exact Calls.quiet_of_same (hL1 _)))
            go_wp2
            go_quiet ((go_at_call 131; first | exact Calls.quiet_of_same (hLz _) | exact quiet_sum hLz))
            go_wp2
            go_region
            all_goals
              go_wp2
              go_roundg (hi - q)
              case measure => have := HN.out; omega
              case rel =>
                have hn := HN.out
                first
                  | exact ⟨q, _, ⟨rfl, by omega⟩, rfl, Lib.hid ⟨HS1.out _, by rw [swpU_size]; exact HR.out.2.1, by rw [← E.out]; exact HR.out.2.2⟩⟩
                  | exact ⟨q, _, ⟨rfl, by omega⟩, rfl, Lib.hid ⟨HS2.out _, by rw [swpU_size]; exact HR.out.2.1, by rw [← E.out]; exact HR.out.2.2⟩⟩
          | false =>
            rw [hl] at hLz e
            rw [if_neg (by simp)] at e
            have E := Lib.hid e
            clear ht1 ht2 hl e
            go_wp2
            go_quiet ((go_at_call 131; exact Calls.quiet_of_same (hL1 _)))
            go_wp2
            go_quiet ((go_at_call 131; first | exact Calls.quiet_of_same (hLz _) | exact quiet_sum hLz))
            go_wp2
            refine bodyPost_ret (results_none rfl _ _ _) rfl ?_
            exact ⟨rfl, by rw [← HR.out.2.2, E.out]; exact (HR.out.1.drewN _).drewN _⟩
        | false =>
          rw [hl1] at hL1
          have e := e2 hl1
          clear e2 e3 ht1 ht2 hLz hl1
          cases hl : ltInt x y with
          | true =>
            rw [hl] at hLx e
            rw [if_pos rfl] at e
            have HS1 := Lib.hid hs1
            have HS2 := Lib.hid hs2
            have E := Lib.hid e
            clear hs1 hs2 hl e
            go_wp2
            go_quiet ((go_at_call 131; exact Calls.quiet_of_same (hL1 _)))
            go_wp2
            go_quiet ((go_at_call 131; first | exact Calls.quiet_of_same (hLx _) | exact quiet_sum hLx))
            go_wp2
            go_region
            all_goals
              go_wp2
              go_roundg (hi - p)
              case measure => have := HN.out; omega
              case rel =>
                have hn := HN.out
                first
                  | exact ⟨p, _, ⟨rfl, by omega⟩, rfl, Lib.hid ⟨HS1.out _, by rw [swpU_size]; exact HR.out.2.1, by rw [← E.out]; exact HR.out.2.2⟩⟩
                  | exact ⟨p, _, ⟨rfl, by omega⟩, rfl, Lib.hid ⟨HS2.out _, by rw [swpU_size]; exact HR.out.2.1, by rw [← E.out]; exact HR.out.2.2⟩⟩
          | false =>
            rw [hl] at hLx e
            rw [if_neg (by simp)] at e
            have E := Lib.hid e
            clear hs1 hs2 hl e
            go_wp2
            go_quiet ((go_at_call 131; exact Calls.quiet_of_same (hL1 _)))
            go_wp2
            go_quiet ((go_at_call 131; first | exact Calls.quiet_of_same (hLx _) | exact quiet_sum hLx))
            go_wp2
            refine bodyPost_ret (results_none rfl _ _ _) rfl ?_
            exact ⟨rfl, by rw [← HR.out.2.2, E.out]; exact (HR.out.1.drewN _).drewN _⟩
      · have k2 : decide ((q : Int) < (hi : Int)) = false := by simpa using hq2
        have k2' : ¬ (q : Int) < (hi : Int) := by omega
        have k2n : decide (q < hi) = false := by simpa using hq2
        have e := e1 (by omega)
        have HN := Lib.hid (show r < p ∧ p < hi ∧ hi ≤ n from by omega)
        clear hless hx hy hp hq hA hB hC e1
        cases hl : ltInt x y with
        | true =>
          rw [hl] at hLx e
          rw [if_pos rfl] at e
          have HS1 := Lib.hid hs1
          have HS2 := Lib.hid hs2
          have E := Lib.hid e
          clear hs1 hs2 hl e
          go_wp2
          go_quiet (fail)
          go_wp2
          go_quiet ((go_at_call 131; first | exact Calls.quiet_of_same (hLx _) | exact quiet_sum hLx))
          go_wp2
          go_region
          all_goals
            go_wp2
            go_roundg (hi - p)
            case measure => have := HN.out; omega
            case rel =>
              have hn := HN.out
              first
                | exact ⟨p, _, ⟨rfl, by omega⟩, rfl, Lib.hid ⟨HS1.out _, by rw [swpU_size]; exact HR.out.2.1, by rw [← E.out]; exact HR.out.2.2⟩⟩
                | exact ⟨p, _, ⟨rfl, by omega⟩, rfl, Lib.hid ⟨HS2.out _, by rw [swpU_size]; exact HR.out.2.1, by rw [← E.out]; exact HR.out.2.2⟩⟩
        | false =>
          rw [hl] at hLx e
          rw [if_neg (by simp)] at e
          have E := Lib.hid e
          clear hs1 hs2 hl e
          go_wp2
          go_quiet (fail)
          go_wp2
          go_quiet ((go_at_call 131; first | exact Calls.quiet_of_same (hLx _) | exact quiet_sum hLx))
          go_wp2
          refine bodyPost_ret (results_none rfl _ _ _) rfl ?_
          exact ⟨rfl, by rw [← HR.out.2.2, E.out]; exact (HR.out.1.drewN _).drewN _⟩
    · have k1 : decide ((p : Int) ≥ (hi : Int)) = true := by simp; omega
      have k1' : decide ((hi : Int) ≤ (p : Int)) = true := by simp; omega
      have k1'' : (hi : Int) ≤ (p : Int) := by omega
      have k1n : decide (hi ≤ p) = true := by simp; omega
      have HE := Lib.hid (show R = dk by rw [← HR.out.2.2, sift_end (by omega)])
      clear hp hq hg
      go_wp2
      go_end0
      exact ⟨rfl, by rw [HE.out]; exact HR.out.1⟩
end Go.Proofs
end
section
namespace Go.Proofs
open Go.RowKit Go.Sort
set_option linter.unusedVariables false

theorem sift_size (hi first : Nat) : ∀ (m r : Nat) (d : Array Int), hi - r ≤ m → (siftDown ltInt hi first r d).size = d.size := by
  intro m
  induction m with
  | zero => intro r d h; rw [sift_end (by omega)]
  | succ m ih =>
    intro r d h
    by_cases h1 : 2 * r + 1 < hi
    · by_cases h2 : 2 * r + 2 < hi
      · cases hl : ltInt d[first + (2 * r + 1)]! d[first + (2 * r + 2)]! with
        | true =>
          rw [sift_3 h2 hl]
          split
          · rw [ih _ _ (by omega), swpU_size]
          · rfl
        | false =>
          rw [sift_2 h2 hl]
          split
          · rw [ih _ _ (by omega), swpU_size]
          · rfl
      · rw [sift_1 h1 h2]
        split
        · rw [ih _ _ (by omega), swpU_size]
        · rfl
    · rw [sift_end h1]
theorem sift_sz (hi first r : Nat) (d : Array Int) : (siftDown ltInt hi first r d).size = d.size := sift_size hi first _ r d (Nat.le_refl _)

set_option maxHeartbeats 6400000 in
set_option maxRecDepth 100000 in
theorem heap_u {w0 w : World} {g cap : Nat} {d : Array Int} (h : Ud w0 w g cap d) (a b : Nat) (hab : a < b) (hb : b ≤ d.size) (hsz : d.size ≤ 100000) :
    Calls Tryz.prog 126 #[.slice (some ⟨g, 0, none⟩) d.size cap, .int .i64 a, .int .i64 b] w fun e w' => e = .returned (.tuple #[]) ∧ Ud w0 w' g cap (heapSort ltInt d a b) := by
  obtain ⟨n, hn⟩ : ∃ n, n = d.size := ⟨_, rfl⟩
  obtain ⟨L, hL⟩ : ∃ L, L = b - a := ⟨_, rfl⟩
  obtain ⟨M, hM⟩ : ∃ M, M = (L - 1) / 2 := ⟨_, rfl⟩
  obtain ⟨N, hN⟩ : ∃ N, N = L - 1 := ⟨_, rfl⟩
  obtain ⟨R, hR⟩ : ∃ R, R = heapSort ltInt d a b := ⟨_, rfl⟩
  have hR1 : heapPop ltInt a L (heapBuild ltInt L a (M + 1) d) = R := by rw [hR, hM, hL]; rfl
  have HI0 := Lib.hid (show Ud w0 w g cap d ∧ d.size = n ∧ heapPop ltInt a L (heapBuild ltInt L a (M + 1) d) = R from ⟨h, hn.symm, hR1⟩)
  rw [← hn] at hb hsz ⊢
  rw [← hR]
  have HS := Lib.hid (fun (W : World) (e : Array Int) (hW : Ud w0 W g cap e) (he : e.size = n) (lo hi : Nat) (h1 : a + hi ≤ n) (h2 : lo ≤ n) =>
    show Calls Tryz.prog 138 #[.slice (some ⟨g, 0, none⟩) n cap, .int .i64 lo, .int .i64 hi, .int .i64 a] W fun e' w' => e' = .returned (.tuple #[]) ∧ Ud w0 w' g cap (siftDown ltInt hi a lo e) by
      rw [← he]; exact sift_u hW lo hi a (by omega) (by omega) (by omega))
  have k0 : IntKind.i64.wrap ((b : Int) - (a : Int)) = (L : Int) := by rw [IntWalk.i64_in _ (by omega)]; omega
  have k1 : IntKind.i64.wrap ((L : Int) - 1) = (N : Int) := by rw [IntWalk.i64_in _ (by omega)]; omega
  have k2 : Int.tdiv (N : Int) 2 = (M : Int) := by rw [Int.tdiv_eq_ediv_of_nonneg (by omega)]; omega
  have k3 : IntKind.i64.wrap ((M : Int)) = (M : Int) := by rw [IntWalk.i64_in _ (by omega)]
  have HL := Lib.hid (show a + L ≤ n ∧ M < L ∧ N + 1 = L ∧ 0 < L ∧ n ≤ 100000 from by omega)
  clear h hn hL hM hN hR hR1
  go_enter Tryz.func126, Tryz.ntmps126
  go_wp2
  go_loopg [9] (M + 1) (fun gi s9 wx => ∃ (m : Nat) (dk : Array Int), gi = m ∧ m ≤ M + 1 ∧ s9 = .int .i64 ((m : Int) - 1) ∧ Hid (Ud w0 wx g cap dk ∧ dk.size = n ∧ heapPop ltInt a L (heapBuild ltInt L a m dk) = R))
  case atStart => exact ⟨M + 1, d, rfl, Nat.le_refl _, by first | rfl | go_num | (congr 1; omega), Lib.hid HI0.out⟩
  case round =>
    obtain ⟨m, dk, hgm, hg, rfl, HR⟩ := hrel
    by_cases hz : 0 < m
    · obtain ⟨p, rfl⟩ : ∃ p, m = p + 1 := ⟨m - 1, by omega⟩
      have e1 : (((p + 1 : Nat) : Int) - 1) = (p : Int) := by omega
      rw [e1]
      have j1 : decide ((p : Int) ≥ 0) = true := by simp
      have j1' : decide ((0 : Int) ≤ (p : Int)) = true := by simp
      have j1'' : (0 : Int) ≤ (p : Int) := by omega
      have j2 : IntKind.i64.wrap ((p : Int) - 1) = (p : Int) - 1 := by have := HL.out; rw [IntWalk.i64_in _ (by omega)]
      have hS := HS.out _ _ HR.out.1 HR.out.2.1 p L (by have := HL.out; omega) (by have := HL.out; omega)
      clear e1
      go_wp2_with (go_at_call 138; refine hS.mono ?_; rintro e w' ⟨rfl, h1⟩; have H1 := Lib.hid h1; clear h1)
      go_roundg p
      case measure => omega
      case rel => exact ⟨p, _, rfl, by omega, rfl, Lib.hid ⟨H1.out, by rw [sift_sz]; exact HR.out.2.1, by rw [← HR.out.2.2]; rfl⟩⟩
    · have e0 : m = 0 := by omega
      subst e0
      have HR1 := Lib.hid (show Ud w0 wr g cap dk ∧ dk.size = n ∧ heapPop ltInt a L dk = R from HR.out)
      have j3 : ((L : Nat) : Int) = (N : Int) + 1 := by have := HL.out; omega
      clear j3
      go_wp2
      go_loopg [10] L (fun gj s10 wy => ∃ (m : Nat) (dj : Array Int), gj = m ∧ m ≤ L ∧ s10 = .int .i64 ((m : Int) - 1) ∧ Hid (Ud w0 wy g cap dj ∧ dj.size = n ∧ heapPop ltInt a m dj = R))
      case atStart => exact ⟨L, dk, rfl, Nat.le_refl _, by first | rfl | go_num | (congr 1; have := HL.out; omega), Lib.hid ⟨HR1.out.1, HR1.out.2.1, HR1.out.2.2⟩⟩
      case round =>
        obtain ⟨m, dj, hgm, hgj, rfl, HJ⟩ := hrel
        by_cases hzj : 0 < m
        · obtain ⟨p, rfl⟩ : ∃ p, m = p + 1 := ⟨m - 1, by omega⟩
          have hl := HL.out
          have e1 : (((p + 1 : Nat) : Int) - 1) = (p : Int) := by omega
          rw [e1]
          obtain ⟨q, hq⟩ : ∃ q, q = a + p := ⟨_, rfl⟩
          have j1 : decide ((p : Int) ≥ 0) = true := by simp
          have j1' : decide ((0 : Int) ≤ (p : Int)) = true := by simp
          have j1'' : (0 : Int) ≤ (p : Int) := by omega
          have j2 : IntKind.i64.wrap ((p : Int) - 1) = (p : Int) - 1 := by rw [IntWalk.i64_in _ (by omega)]
          have j4 : IntKind.i64.wrap ((a : Int) + (p : Int)) = (q : Int) := by rw [IntWalk.i64_in _ (by omega)]; omega
          have i0 : (0 : Int) ≤ (a : Int) := by omega
          have i1 : (a : Int) < (n : Int) := by omega
          have i2 : (0 : Int) ≤ (q : Int) := by omega
          have i3 : (q : Int) < (n : Int) := by omega
          have c0 := HJ.out.1.cell (j := a) (by rw [HJ.out.2.1]; omega)
          have c1 := HJ.out.1.cell (j := q) (by rw [HJ.out.2.1]; omega)
          have f0 := HJ.out.1.frozen (by rw [HJ.out.2.1]; omega) a
          have f1 := HJ.out.1.frozen (by rw [HJ.out.2.1]; omega) q
          have hs1 := fun t => (HJ.out.1.drewN t).swap (i := a) (j := q) (by rw [HJ.out.2.1]; omega) (by rw [HJ.out.2.1]; omega)
          obtain ⟨x, hx⟩ : ∃ x, x = dj[a]! := ⟨_, rfl⟩
          obtain ⟨y, hy⟩ : ∃ y, y = dj[q]! := ⟨_, rfl⟩
          have HG := Lib.hid (show heapPop ltInt a p (siftDown ltInt p a 0 (swp dj a q)) = R by rw [← HJ.out.2.2, hq]; rfl)
          have HSZ := Lib.hid (show (swp dj a q).size = n by rw [swpU_size]; exact HJ.out.2.1)
          have HP := Lib.hid (show p + 1 ≤ L from hgj)
          have HM := Lib.hid hgm
          by_cases hqa : q = a
          · subst hqa
            rw [← hx] at c0 hs1
            have HS1 := Lib.hid hs1
            have HS2 := Lib.hid hs1
            clear hs1 hx hy hq e1 c1 f1 hl hgj hgm i2 i3
            go_wp2
            go_region
            all_goals
              go_wp2_with (go_at_call 138; refine Calls.mono (by first | exact HS.out _ _ (HS1.out _) HSZ.out 0 p (by have := HL.out; have := HP.out; omega) (Nat.zero_le _) | exact HS.out _ _ (HS2.out _) HSZ.out 0 p (by have := HL.out; have := HP.out; omega) (Nat.zero_le _) | exact HS.out _ _ (by simpa using HS1.out _) HSZ.out 0 p (by have := HL.out; have := HP.out; omega) (Nat.zero_le _)) ?_; rintro e w' ⟨rfl, h1⟩; have H1 := Lib.hid h1; clear h1)
              go_roundg p
              case measure => have := HM.out; omega
              case rel => exact ⟨p, _, rfl, by have := HP.out; omega, rfl, Lib.hid ⟨H1.out, by rw [sift_sz]; exact HSZ.out, HG.out⟩⟩
          · have hs2 := fun t => (HJ.out.1.drewN t).swap' (i := a) (j := q) (by rw [HJ.out.2.1]; omega) (by rw [HJ.out.2.1]; omega) (fun e => hqa e.symm)
            rw [← hx] at c0 hs1 hs2
            rw [← hy] at c1 hs1 hs2
            have hne1 : ¬ a = q := fun e => hqa e.symm
            have HS1 := Lib.hid hs1
            have HS2 := Lib.hid hs2
            clear hs1 hs2 hx hy hq e1 hl hgj hgm
            go_wp2
            go_region
            all_goals
              go_wp2_with (go_at_call 138; refine Calls.mono (by first | exact HS.out _ _ (HS1.out _) HSZ.out 0 p (by have := HL.out; have := HP.out; omega) (Nat.zero_le _) | exact HS.out _ _ (HS2.out _) HSZ.out 0 p (by have := HL.out; have := HP.out; omega) (Nat.zero_le _) | exact HS.out _ _ (by simpa using HS1.out _) HSZ.out 0 p (by have := HL.out; have := HP.out; omega) (Nat.zero_le _)) ?_; rintro e w' ⟨rfl, h1⟩; have H1 := Lib.hid h1; clear h1)
              go_roundg p
              case measure => have := HM.out; omega
              case rel => exact ⟨p, _, rfl, by have := HP.out; omega, rfl, Lib.hid ⟨H1.out, by rw [sift_sz]; exact HSZ.out, HG.out⟩⟩
        · have e0 : m = 0 := by omega
          subst e0
          have HR2 := Lib.hid (show dj = R from HJ.out.2.2)
          go_wp2
          go_end0
          exact ⟨rfl, by rw [← HR2.out]; exact HJ.out.1⟩
end Go.Proofs
end
section
namespace Go.Proofs
open Go.RowKit Go.Sort
set_option linter.unusedVariables false

/-- A row, and a random number's block beside it. -/
def Xv (w0 wx : World) (g cap : Nat) (d : Array Int) (s : Nat) : Prop := Ud w0 wx g cap d ∧ (∃ k : Nat, k < 18446744073709551616 ∧ Blk wx s 166 #[.int .u64 k]) ∧ s ≠ g ∧ w0.heap.size ≤ s
theorem Xv.swap {w0 wx : World} {g cap s : Nat} {d : Array Int} (h : Xv w0 wx g cap d s) {i j : Nat} (hi : i < d.size) (hj : j < d.size) : Xv w0 ((wx.setCell ⟨g, i, none⟩ (.int .u64 d[j]!)).setCell ⟨g, j, none⟩ (.int .u64 d[i]!)) g cap (swp d i j) s := by
  obtain ⟨h1, ⟨k, hk, hb⟩, h3, h4⟩ := h
  exact ⟨h1.swap hi hj, ⟨k, hk, (hb.far h3 _).far h3 _⟩, h3, h4⟩
theorem Xv.swap' {w0 wx : World} {g cap s : Nat} {d : Array Int} (h : Xv w0 wx g cap d s) {i j : Nat} (hi : i < d.size) (hj : j < d.size) (hne : i ≠ j) : Xv w0 ((wx.setCell ⟨g, j, none⟩ (.int .u64 d[i]!)).setCell ⟨g, i, none⟩ (.int .u64 d[j]!)) g cap (swp d i j) s := by
  obtain ⟨h1, ⟨k, hk, hb⟩, h3, h4⟩ := h
  exact ⟨h1.swap' hi hj hne, ⟨k, hk, (hb.far h3 _).far h3 _⟩, h3, h4⟩
theorem Xv.drewN {w0 wx : World} {g cap s : Nat} {d : Array Int} (h : Xv w0 wx g cap d s) (q : Nat) : Xv w0 (wx.drewN q) g cap d s := by
  obtain ⟨h1, ⟨k, hk, hb⟩, h3, h4⟩ := h
  exact ⟨h1.drewN q, ⟨k, hk, hb.drewN q⟩, h3, h4⟩
theorem next_u {w0 w : World} {g cap s : Nat} {d : Array Int} (h : Xv w0 w g cap d s) :
    Calls Tryz.prog 140 #[.pointer (some ⟨s, 0, none⟩)] w fun e w' => (∃ k : Nat, k < 18446744073709551616 ∧ e = .returned (.int .u64 k)) ∧ Xv w0 w' g cap d s := by
  obtain ⟨h1, ⟨k, hk, hb⟩, h3, h4⟩ := h
  have hn := AnyF.xorshift_Next Tryz.xorNextL s 0 k hk w (by have := hb.cell 0; simpa using this) (hb.frozen 0)
  refine Calls.mono (f := 140) hn ?_
  rintro e w' ⟨rfl, rfl⟩
  refine ⟨⟨_, xorNextN_lt k hk, rfl⟩, Ud.drewN ⟨Row.far h1.1 (by simp [foot_some]; exact h3) _, h1.2.setCell (p := ⟨s, 0, none⟩) (.inr h4) _⟩ 3, ⟨_, xorNextN_lt k hk, ?_⟩, h3, h4⟩
  have := (hb.set_ 0 (.int .u64 (xorNextN k : Nat))).drewN 3
  simpa using this
set_option maxHeartbeats 6400000 in
set_option maxRecDepth 100000 in
theorem breaks_u {w0 w : World} {g cap : Nat} {d : Array Int} (h : Ud w0 w g cap d) (a b : Nat) (hab : a + 12 < b) (hb : b ≤ d.size) (hsz : d.size ≤ 100000) :
    Calls Tryz.prog 127 #[.slice (some ⟨g, 0, none⟩) d.size cap, .int .i64 a, .int .i64 b] w fun e w' => e = .returned (.tuple #[]) ∧ ∃ d', Ud w0 w' g cap d' ∧ PermIn a b d d' := by
  have hgl : g < w.heap.size := by
    have h1 := h.1
    unfold Un at h1
    exact h1.lt g (by simp [foot_some])
  obtain ⟨n, hn⟩ : ∃ n, n = d.size := ⟨_, rfl⟩
  obtain ⟨L, hL⟩ : ∃ L, L = b - a := ⟨_, rfl⟩
  have hP0 : ∀ k : Nat, k < 18446744073709551616 → Xv w0 (w.alloc (.cells #[.int .u64 k] 166)) g cap d w.heap.size := fun k hk =>
    ⟨⟨Row.alloc h.1 _, h.2.alloc _⟩, ⟨k, hk, Blk.new _ _ _⟩, by omega, h.2.size⟩
  have HP := Lib.hid (show Xv w0 (w.alloc (.cells #[.int .u64 L] 166)) g cap d w.heap.size ∧ d.size = n ∧ PermIn a b d d from ⟨hP0 L (by omega), hn.symm, permIn_refl d a b⟩)
  have HB := Lib.hid hb
  rw [← hn] at hb hsz ⊢
  obtain ⟨M, hM⟩ : ∃ M : Nat, M = 1 <<< bitsLen L := ⟨_, rfl⟩
  have hM1 : 1 ≤ M := by rw [hM, Nat.one_shiftLeft]; exact Nat.two_pow_pos _
  have hM2 : M ≤ 2 * L := by rw [hM, Nat.one_shiftLeft]; exact two_pow_bitsLen_le (by omega)
  have hNP : ∀ W, Calls Tryz.prog 139 #[.int .i64 (L : Int)] W fun e w' => e = .returned (.int .u64 (M : Int)) ∧ w' = W := by rw [hM]; exact fun W => AnyF.nextPowerOfTwo Tryz.pow2L L (by omega) W
  obtain ⟨q, hq⟩ : ∃ q, q = L / 4 := ⟨_, rfl⟩
  obtain ⟨J, hJ⟩ : ∃ J, J = a + q * 2 := ⟨_, rfl⟩
  obtain ⟨U, hU⟩ : ∃ U, U = J - 1 := ⟨_, rfl⟩
  obtain ⟨V, hV⟩ : ∃ V, V = J + 1 := ⟨_, rfl⟩
  obtain ⟨N, hN⟩ : ∃ N, N = M - 1 := ⟨_, rfl⟩
  have k0 : IntKind.i64.wrap ((b : Int) - (a : Int)) = (L : Int) := by rw [IntWalk.i64_in _ (by omega)]; omega
  have k1' : Int.tdiv (L : Int) 4 = (q : Int) := by rw [Int.tdiv_eq_ediv_of_nonneg (by omega)]; omega
  have k1 : IntKind.i64.wrap (Int.tdiv (L : Int) 4) = (q : Int) := by rw [k1', IntWalk.i64_in _ (by omega)]
  have k2 : decide ((L : Int) ≥ 8) = true := by simp; omega
  have k2' : decide ((8 : Int) ≤ (L : Int)) = true := by simp; omega
  have k3 : IntKind.i64.wrap ((q : Int)) = (q : Int) := by rw [IntWalk.i64_in _ (by omega)]
  have k5 : IntKind.i64.wrap ((q : Int) * 2) = (q : Int) * 2 := by rw [IntWalk.i64_in _ (by omega)]
  have k7 : IntKind.i64.wrap ((a : Int) + (q : Int) * 2) = (J : Int) := by rw [IntWalk.i64_in _ (by omega)]; omega
  have k8 : IntKind.i64.wrap ((J : Int) - 1) = (U : Int) := by rw [IntWalk.i64_in _ (by omega)]; omega
  have k9 : IntKind.i64.wrap ((J : Int) + 1) = (V : Int) := by rw [IntWalk.i64_in _ (by omega)]; omega
  have k10 : IntKind.u64.wrap ((M : Int) - 1) = (N : Int) := by rw [IntKind.wrap_u64]; omega
  have k11 : IntKind.u64.wrap (L : Int) = (L : Int) := by rw [IntKind.wrap_u64]; omega
  have HQ := Lib.hid (show a < U ∧ U ≤ V ∧ V < b ∧ b ≤ n ∧ N < 2 * L ∧ a + L = b ∧ n ≤ 100000 from by omega)
  clear h hn hL hP0 hq hJ hU hV hN hM hM1 hM2 hgl hab hb
  go_enter Tryz.func127, Tryz.ntmps127
  go_wp2_with (go_at_call 139; refine (hNP _).mono ?_; rintro e w' ⟨rfl, rfl⟩)
  go_loopg [9, 10] (V + 1 - U) (fun gi s9 s10 wx => ∃ (i : Nat) (dk : Array Int), (gi = V + 1 - i ∧ U ≤ i ∧ i ≤ V + 1) ∧ s9 = .int .i64 i ∧ Hid (Xv w0 wx g cap dk w.heap.size ∧ dk.size = n ∧ PermIn a b d dk))
  case atStart => exact ⟨U, d, ⟨rfl, Nat.le_refl _, by have := HQ.out; omega⟩, rfl, Lib.hid HP.out⟩
  case round =>
    obtain ⟨i, dk, ⟨hg, hUi, hiV⟩, rfl, HR⟩ := hrel
    by_cases hlt : i ≤ V
    · have k20 : decide ((i : Int) ≤ (V : Int)) = true := by simpa using hlt
      have k20' : (i : Int) ≤ (V : Int) := by omega
      have k21 : IntKind.i64.wrap ((i : Int) + 1) = ((i + 1 : Nat) : Int) := by have := HQ.out; rw [IntWalk.i64_in _ (by omega)]; omega
      have HX := Lib.hid (next_u HR.out.1)
      have HG := Lib.hid (show V + 1 - (i + 1) < V + 1 - i ∧ i ≤ V ∧ U ≤ i from by omega)
      have HGG := Lib.hid hg
      clear hg hUi hiV hlt
      go_wp2_with (fail)
      refine HX.out.mono ?_
      rintro e w1 ⟨⟨X, hX, rfl⟩, hx1⟩
      obtain ⟨O, hO⟩ : ∃ O : Nat, O = X &&& N := ⟨_, rfl⟩
      have lO : O ≤ N := by rw [hO]; exact Nat.and_le_right
      have eAnd : bits .and .u64 (X : Int) (N : Int) = (O : Int) := by rw [bits_and_u64_nat _ _ hX (by have := HQ.out; omega), hO]
      have eO : IntKind.i64.wrap (O : Int) = (O : Int) := by have := HQ.out; rw [IntWalk.i64_in _ (by omega)]
      have hfin : ∀ Y, a ≤ Y → Y < b → PermIn a b d (swp dk i Y) ∧ (swp dk i Y).size = n := fun Y h1 h2 => ⟨pi_swp HR.out.2.2 (by have := HQ.out; have := HG.out; omega) (by have := HQ.out; have := HG.out; omega) h1 h2 HB.out, by rw [swpU_size]; exact HR.out.2.1⟩
      have HFIN := Lib.hid hfin
      have HX1 := Lib.hid hx1
      have i0 : (0 : Int) ≤ (i : Int) := by omega
      have i1 : (i : Int) < (n : Int) := by have := HQ.out; have := HG.out; omega
      have c0 := hx1.1.cell (j := i) (by rw [HR.out.2.1]; omega)
      have f0 := hx1.1.frozen (by rw [HR.out.2.1]; omega) i
      clear hfin hx1 hX hO HX
      by_cases hLO : L ≤ O
      · have k22 : decide ((O : Int) ≥ (L : Int)) = true := by simpa using hLO
        have k22' : decide ((L : Int) ≤ (O : Int)) = true := by simpa using hLO
        have k22'' : (L : Int) ≤ (O : Int) := by omega
        obtain ⟨T, hT⟩ : ∃ T, T = O - L := ⟨_, rfl⟩
        obtain ⟨Y, hY⟩ : ∃ Y, Y = a + T := ⟨_, rfl⟩
        have k23 : IntKind.i64.wrap ((O : Int) - (L : Int)) = (T : Int) := by have := HQ.out; rw [IntWalk.i64_in _ (by omega)]; omega
        have k24 : IntKind.i64.wrap ((a : Int) + (T : Int)) = (Y : Int) := by have := HQ.out; rw [IntWalk.i64_in _ (by omega)]; omega
        have hY2 : a ≤ Y ∧ Y < b := by have := HQ.out; omega
        have HY := Lib.hid hY2
        have i2 : (0 : Int) ≤ (Y : Int) := by omega
        have i3 : (Y : Int) < (n : Int) := by have := HQ.out; omega
        have hs1 := fun q => (HX1.out.drewN q).swap (i := i) (j := Y) (by rw [HR.out.2.1]; omega) (by rw [HR.out.2.1]; have := HQ.out; omega)
        by_cases hiY : i = Y
        · obtain ⟨x, hx⟩ : ∃ x, x = dk[i]! := ⟨_, rfl⟩
          rw [← hiY] at hs1 k24 i2 i3 HY
          rw [← hx] at c0 hs1
          have HS1 := Lib.hid hs1
          clear hs1 hx hY hY2 hiY lO hLO
          clear hT
          go_wp2
          go_region
          all_goals
            go_wp2
            go_roundg (V + 1 - (i + 1))
            case measure => have := HG.out; have := HGG.out; omega
            case rel =>
              have hg := HG.out
              have hq := HQ.out
              have hy := HY.out
              first
                | exact ⟨i + 1, _, ⟨rfl, by omega, by omega⟩, by first | rfl | go_num, Lib.hid ⟨HS1.out _, (HFIN.out _ hy.1 hy.2).2, (HFIN.out _ hy.1 hy.2).1⟩⟩
                | exact ⟨i + 1, _, ⟨rfl, by omega, by omega⟩, by first | rfl | go_num, Lib.hid ⟨by simpa using HS1.out _, (HFIN.out _ hy.1 hy.2).2, (HFIN.out _ hy.1 hy.2).1⟩⟩
        · have hne : ¬ Y = i := fun e => hiY e.symm
          have c1 := HX1.out.1.cell (j := Y) (by rw [HR.out.2.1]; have := HQ.out; omega)
          have f1 := HX1.out.1.frozen (by rw [HR.out.2.1]; omega) Y
          have hs2 := fun q => (HX1.out.drewN q).swap' (i := i) (j := Y) (by rw [HR.out.2.1]; omega) (by rw [HR.out.2.1]; have := HQ.out; omega) hiY
          obtain ⟨x, hx⟩ : ∃ x, x = dk[i]! := ⟨_, rfl⟩
          obtain ⟨y, hy⟩ : ∃ y, y = dk[Y]! := ⟨_, rfl⟩
          rw [← hx] at c0 hs1 hs2
          rw [← hy] at c1 hs1 hs2
          have HS1 := Lib.hid hs1
          have HS2 := Lib.hid hs2
          clear hs1 hs2 hx hy hY hY2 lO hLO
          clear hT
          go_wp2
          go_region
          all_goals
            go_wp2
            go_roundg (V + 1 - (i + 1))
            case measure => have := HG.out; have := HGG.out; omega
            case rel =>
              have hg := HG.out
              have hq := HQ.out
              have hy := HY.out
              first
                | exact ⟨i + 1, _, ⟨rfl, by omega, by omega⟩, by first | rfl | go_num, Lib.hid ⟨HS1.out _, (HFIN.out _ hy.1 hy.2).2, (HFIN.out _ hy.1 hy.2).1⟩⟩
                | exact ⟨i + 1, _, ⟨rfl, by omega, by omega⟩, by first | rfl | go_num, Lib.hid ⟨HS2.out _, (HFIN.out _ hy.1 hy.2).2, (HFIN.out _ hy.1 hy.2).1⟩⟩
      · have k22 : decide ((O : Int) ≥ (L : Int)) = false := by simpa using hLO
        have k22' : decide ((L : Int) ≤ (O : Int)) = false := by simpa using hLO
        have k22'' : ¬ (L : Int) ≤ (O : Int) := by omega
        obtain ⟨Y, hY⟩ : ∃ Y, Y = a + O := ⟨_, rfl⟩
        have k24 : IntKind.i64.wrap ((a : Int) + (O : Int)) = (Y : Int) := by have := HQ.out; rw [IntWalk.i64_in _ (by omega)]; omega
        have hY2 : a ≤ Y ∧ Y < b := by have := HQ.out; omega
        have HY := Lib.hid hY2
        have i2 : (0 : Int) ≤ (Y : Int) := by omega
        have i3 : (Y : Int) < (n : Int) := by have := HQ.out; omega
        have hs1 := fun q => (HX1.out.drewN q).swap (i := i) (j := Y) (by rw [HR.out.2.1]; omega) (by rw [HR.out.2.1]; have := HQ.out; omega)
        by_cases hiY : i = Y
        · obtain ⟨x, hx⟩ : ∃ x, x = dk[i]! := ⟨_, rfl⟩
          rw [← hiY] at hs1 k24 i2 i3 HY
          rw [← hx] at c0 hs1
          have HS1 := Lib.hid hs1
          clear hs1 hx hY hY2 hiY lO hLO
          go_wp2
          go_region
          all_goals
            go_wp2
            go_roundg (V + 1 - (i + 1))
            case measure => have := HG.out; have := HGG.out; omega
            case rel =>
              have hg := HG.out
              have hq := HQ.out
              have hy := HY.out
              first
                | exact ⟨i + 1, _, ⟨rfl, by omega, by omega⟩, by first | rfl | go_num, Lib.hid ⟨HS1.out _, (HFIN.out _ hy.1 hy.2).2, (HFIN.out _ hy.1 hy.2).1⟩⟩
                | exact ⟨i + 1, _, ⟨rfl, by omega, by omega⟩, by first | rfl | go_num, Lib.hid ⟨by simpa using HS1.out _, (HFIN.out _ hy.1 hy.2).2, (HFIN.out _ hy.1 hy.2).1⟩⟩
        · have hne : ¬ Y = i := fun e => hiY e.symm
          have c1 := HX1.out.1.cell (j := Y) (by rw [HR.out.2.1]; have := HQ.out; omega)
          have f1 := HX1.out.1.frozen (by rw [HR.out.2.1]; omega) Y
          have hs2 := fun q => (HX1.out.drewN q).swap' (i := i) (j := Y) (by rw [HR.out.2.1]; omega) (by rw [HR.out.2.1]; have := HQ.out; omega) hiY
          obtain ⟨x, hx⟩ : ∃ x, x = dk[i]! := ⟨_, rfl⟩
          obtain ⟨y, hy⟩ : ∃ y, y = dk[Y]! := ⟨_, rfl⟩
          rw [← hx] at c0 hs1 hs2
          rw [← hy] at c1 hs1 hs2
          have HS1 := Lib.hid hs1
          have HS2 := Lib.hid hs2
          clear hs1 hs2 hx hy hY hY2 lO hLO
          go_wp2
          go_region
          all_goals
            go_wp2
            go_roundg (V + 1 - (i + 1))
            case measure => have := HG.out; have := HGG.out; omega
            case rel =>
              have hg := HG.out
              have hq := HQ.out
              have hy := HY.out
              first
                | exact ⟨i + 1, _, ⟨rfl, by omega, by omega⟩, by first | rfl | go_num, Lib.hid ⟨HS1.out _, (HFIN.out _ hy.1 hy.2).2, (HFIN.out _ hy.1 hy.2).1⟩⟩
                | exact ⟨i + 1, _, ⟨rfl, by omega, by omega⟩, by first | rfl | go_num, Lib.hid ⟨HS2.out _, (HFIN.out _ hy.1 hy.2).2, (HFIN.out _ hy.1 hy.2).1⟩⟩
    · have k20 : decide ((i : Int) ≤ (V : Int)) = false := by simpa using hlt
      have k20' : ¬ (i : Int) ≤ (V : Int) := by omega
      go_wp2
      go_end0
      exact ⟨rfl, dk, HR.out.1.1, HR.out.2.2⟩
end Go.Proofs
end
