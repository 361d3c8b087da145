import Derived.Test.YtihodeaeacgdpaaReZa
namespace Go.Proofs
open Go.RowKit Go.Sort
set_option linter.unusedVariables false

set_option maxHeartbeats 3200000 in
set_option maxRecDepth 100000 in
theorem ins_none (v : Value) (A : Option Addr) (c : Nat) (hv : v = .slice A 0 c) (w : World) : Calls Try.prog 48 #[v, .int .i64 0, .int .i64 0] w fun e w' => e = .returned (.tuple #[]) ∧ w = w' := by
  subst hv
  go_enter Try.func48, Try.ntmps48
  go_wp2
  go_loopg [6] 0 (fun gi s6 wx => gi = 0 ∧ s6 = .int .i64 1 ∧ wx = w)
  case atStart => exact ⟨rfl, rfl, rfl⟩
  case round =>
    obtain ⟨hg, rfl, rfl⟩ := hrel
    go_wp2
    go_end0
    exact ⟨rfl, rfl⟩
set_option maxHeartbeats 3200000 in
set_option maxRecDepth 100000 in
/-- pdqsort of few. -/
theorem pdq_few {w : World} {A : Option Addr} {c n : Nat} {Q : World → Prop} (hn : n ≤ 12) (limit : Int) (hI : Calls Try.prog 48 #[.slice A n c, .int .i64 0, .int .i64 (n : Nat)] w fun e w' => e = .returned (.tuple #[]) ∧ Q w') :
    Calls Try.prog 42 #[.slice A n c, .int .i64 0, .int .i64 (n : Nat), .int .i64 limit] w fun e w' => e = .returned (.tuple #[]) ∧ Q w' := by
  have g1 : decide ((n : Int) ≤ 12) = true := by simp; omega
  have g2 : IntKind.i64.wrap ((n : Int) - 0) = (n : Int) := by rw [IntWalk.i64_in _ (by omega)]; omega
  have g3 : IntKind.i64.wrap (n : Int) = (n : Int) := by rw [IntWalk.i64_in _ (by omega)]
  have HI := Lib.hid hI
  clear hI
  go_enter Try.func42, Try.ntmps42
  go_wp2
  go_loopg [1, 2, 3, 8, 9] 0 (fun gi s1 s2 s3 s8 s9 wx => gi = 0 ∧ s1 = .int .i64 0 ∧ s2 = .int .i64 (n : Nat) ∧ wx = w)
  case atStart => exact ⟨rfl, rfl, rfl, rfl⟩
  case round =>
    obtain ⟨hg, rfl, rfl, rfl⟩ := hrel
    go_wp2_with (go_at_call 48; refine HI.out.mono ?_; rintro e w' ⟨rfl, h1⟩; have H1 := Lib.hid h1; clear h1)
    refine bodyPost_ret (results_none rfl _ _ _) rfl ?_
    exact ⟨rfl, H1.out⟩
theorem sort_few {w : World} {A : Option Addr} {c n : Nat} {Q : World → Prop} (hn : n ≤ 12) (hI : Calls Try.prog 48 #[.slice A n c, .int .i64 0, .int .i64 (n : Nat)] w fun e w' => e = .returned (.tuple #[]) ∧ Q w') :
    Calls Try.prog 31 #[.slice A n c] w fun e w' => e = .returned (.tuple #[]) ∧ Q w' := by
  have HI := Lib.hid (fun limit => pdq_few hn limit hI)
  have g2 : IntKind.u64.wrap (n : Int) = (n : Int) := by rw [IntKind.wrap_u64]; omega
  have hb := Try.bits_Len (n : Int) w (by omega) (by omega)
  obtain ⟨L, hL⟩ : ∃ L : Int, L = (Lib.bitLen (n : Int).toNat : Int) := ⟨_, rfl⟩
  rw [← hL] at hb
  clear hI hL
  go_enter Try.func31, Try.ntmps31
  go_wp2_with (first
    | (go_at_call 43; refine hb.mono ?_; rintro e w' ⟨rfl, rfl⟩)
    | (go_at_call 42; refine (HI.out _).mono ?_; rintro e w' ⟨rfl, h1⟩; have H1 := Lib.hid h1; clear h1))
  go_end0
  exact ⟨rfl, H1.out⟩
theorem sorted_list {d : Array Int} (h : SortedIn ltInt 0 d.size d) : d.toList.Pairwise (fun x y => x ≤ y) := by
  rw [List.pairwise_iff_getElem]
  intro i j hi hj hij
  have := h i j (Nat.zero_le _) hij (by simpa using hj)
  rw [getElem!_pos d j (by simpa using hj), getElem!_pos d i (by simpa using hi)] at this
  unfold ltInt at this
  simp at this
  simpa using this
theorem perm_list {d d' : Array Int} (h : PermIn 0 d.size d d') : d'.toList.Perm d.toList := by
  have h1 := h.2.2
  rw [Array.extract_size] at h1
  have h2 : d'.extract 0 d.size = d' := by rw [← h.1, Array.extract_size]
  rwa [h2] at h1
theorem sorts_12 : Sorts 12 := by
  intro w v U hU hn
  rcases hU.2 with ⟨rfl, h0⟩ | ⟨g, cap, cur, rfl, hg, hc, hm, hs, ht⟩
  · have e : U = [] := List.eq_nil_of_length_eq_zero h0
    subst e
    exact (sort_few (Q := fun w' => w = w') (by simp) (ins_none _ _ _ rfl w)).mono fun e w' ⟨h1, h2⟩ => ⟨h1, [], by rw [← h2]; exact hU, List.Perm.refl _, List.Pairwise.nil, by rw [← h2]; exact Chg.refl _ _⟩
  · have hd : Ud w w g cap U.toArray := ⟨by simpa using hU, Chg.refl _ _⟩
    have hi := ins_u hd 0 U.length (Nat.zero_le _) (by simp) (by simp; omega)
    have hp := insertionSort_holds (lt := ltInt) swo_ltInt U.toArray 0 U.length (Nat.zero_le _) (by simp)
    have hz : U.toArray.size = U.length := by simp
    rw [hz] at hi
    refine (sort_few (Q := fun w' => Ud w w' g cap (insertionSort ltInt U.toArray 0 U.length)) hn hi).mono fun e w' ⟨h1, h2⟩ => ?_
    rw [← hz] at hp h2
    have hsz : (insertionSort ltInt U.toArray 0 U.toArray.size).size = U.length := by rw [hp.1.1]; simp
    refine ⟨h1, (insertionSort ltInt U.toArray 0 U.toArray.size).toList, ?_, by simpa using perm_list hp.1, sorted_list (by rw [hsz, ← hz]; exact hp.2), by simpa [foot_some] using h2.2⟩
    have := h2.1
    rw [hsz] at this
    exact this
theorem Sorts.less {N M : Nat} (h : Sorts N) (hm : M ≤ N) : Sorts M := fun w v U hU hn => h w v U hU (by omega)
end Go.Proofs
