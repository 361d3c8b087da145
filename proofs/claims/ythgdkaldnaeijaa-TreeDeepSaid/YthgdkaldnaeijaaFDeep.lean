/-
  A forest of one row of nodes, however deep, is told, and pruned, and all its places are free then (stage 12).
-/
import Derived.Test.YthgdkaldnaeijaaM9
import Derived.Test.YthgdkaldnaeijaaM7
import Derived.Deep.RegionWith
import Derived.Test.YthgdkaldnaeijaaRows
import Derived.WalkKit
import Derived.Below
import Derived.ChangeSame
import Derived.Test.YthgdkaldnaeijaaM8
import Derived.ProofKit
import Derived.OpenShut
section
namespace Go.Proofs
open Go.RowKit
set_option linter.unusedVariables false
set_option linter.unusedSimpArgs false

/-- A row of k nodes, each the child of the one ahead, of N places. -/
def ch (N k : Nat) : Fo where
  size := N
  there := fun i => decide (i < k)
  par := fun i => if 0 < i ∧ i < k then some (i - 1) else none
  kids := fun i => if i + 1 < k then [i + 1] else []
  roots := if k = 0 then [] else [0]
  free := List.range' k (N - k)
theorem ch_new (N : Nat) : Fo.new N = ch N 0 := by
  unfold Fo.new ch
  simp [List.range_eq_range']
theorem ch_free {N k : Nat} (h : k < N) : (ch N k).free = k :: List.range' (k + 1) (N - (k + 1)) := by
  show List.range' k (N - k) = _
  rw [show N - k = (N - (k + 1)) + 1 by omega, List.range'_succ]
theorem ch_has (N k i : Nat) : (ch N k).has (i : Nat) = decide (i < k) := by rw [Fo.has_nat]; rfl
theorem ch_adds {N k : Nat} (h : k < N) : (ch N k).addE ((k : Int) - 1) = 0 ∧ (ch N k).addN ((k : Int) - 1) = (k : Nat) ∧ (ch N k).add ((k : Int) - 1) = ch N (k + 1) := by
  have hE : (ch N k).addE ((k : Int) - 1) = 0 := by
    unfold Fo.addE
    rw [if_neg, if_neg]
    · rw [ch_free h]; simp
    · rintro ⟨h0, h1⟩
      obtain ⟨j, rfl⟩ : ∃ j, k = j + 1 := ⟨k - 1, by omega⟩
      rw [show (((j + 1 : Nat) : Int) - 1) = (j : Nat) by omega, ch_has] at h1
      simp at h1
  refine ⟨hE, ?_, ?_⟩
  · unfold Fo.addN
    rw [if_pos hE, ch_free h]; rfl
  · unfold Fo.add
    rw [if_pos hE, ch_free h]
    simp only [List.headD_cons, List.tail_cons]
    cases k with
    | zero =>
      show (ch N 0).addAt (optI ((0 : Nat) - 1 : Int)) 0 _ = _
      have : optI (((0 : Nat) : Int) - 1) = none := rfl
      rw [this]
      unfold Fo.addAt Fo.setRow ch Fo.row
      simp only [Fo.mk.injEq]
      refine ⟨trivial, ?_, ?_, ?_, by simp, by simp⟩
      · funext i; unfold upd; by_cases hi : i = 0 <;> simp [hi] 
      · funext i; unfold upd; by_cases hi : i = 0
        · simp [hi]
        · simp [hi]
      · funext i; simp
    | succ j =>
      have : optI (((j + 1 : Nat) : Int) - 1) = some j := by
        unfold optI; rw [if_neg (by omega)]; congr 1; omega
      rw [this]
      unfold Fo.addAt Fo.setRow ch Fo.row
      simp only [Fo.mk.injEq]
      refine ⟨trivial, ?_, ?_, ?_, ?_, by simp⟩
      · funext i; unfold upd; by_cases hi : i = j + 1
        · simp [hi]
        · simp [hi]; omega
      · funext i; unfold upd; by_cases hi : i = j + 1
        · simp [hi]
        · simp [hi]
          by_cases h2 : 0 < i ∧ i < j + 1
          · rw [if_pos h2, if_pos (by omega)]
          · rw [if_neg h2, if_neg (by omega)]
      · funext i; unfold upd; by_cases hi : i = j
        · simp [hi]
        · simp [hi]
          by_cases h2 : i + 1 < j + 1
          · rw [if_pos (by omega), if_pos (by omega)]
          · rw [if_neg (by omega), if_neg (by omega)]
      · simp
theorem ch_full {N : Nat} (h : 1 ≤ N) : (ch N N).addE 0 = 3 := by
  unfold Fo.addE
  rw [if_neg, if_pos]
  · show List.range' N (N - N) = []
    simp
  · rintro ⟨_, h1⟩
    have := ch_has N N 0
    rw [show ((0 : Nat) : Int) = 0 from rfl, h1] at this
    simp at this; omega
theorem ch_stay {N : Nat} (h : 1 ≤ N) : (ch N N).add 0 = ch N N := by
  unfold Fo.add
  rw [ch_full h, if_neg (by omega)]
theorem ch_pre {N : Nat} : ∀ (m i : Nat), i + m = N → 0 < m → Pre (ch N N) [i] (List.range' i m)
  | 0, i, _, h => by omega
  | 1, i, h, _ => by
    rw [List.range'_succ]
    refine .cons ?_
    have : (ch N N).kids i = [] := by show (if i + 1 < N then [i + 1] else []) = []; rw [if_neg (by omega)]
    rw [this]
    exact .nil
  | m + 2, i, h, _ => by
    rw [List.range'_succ]
    refine .cons ?_
    have : (ch N N).kids i = [i + 1] := by show (if i + 1 < N then [i + 1] else []) = _; rw [if_pos (by omega)]
    rw [this]
    exact ch_pre (m + 1) (i + 1) (by omega) (by omega)
theorem ch_below {N : Nat} (h : 2 ≤ N) : Pre (ch N N) ((ch N N).kids 0) (List.range' 1 (N - 1)) := by
  have : (ch N N).kids 0 = [1] := by show (if 0 + 1 < N then [0 + 1] else []) = _; rw [if_pos (by omega)]
  rw [this]
  exact ch_pre (N - 1) 1 (by omega) (by omega)
theorem ch_below' {N : Nat} (h : 2 ≤ N) : Below' (ch N N) 0 (List.range' 1 (N - 1)) := by
  unfold Below'
  rw [if_pos]
  · exact ch_below h
  · have := ch_has N N 0
    rw [show ((0 : Nat) : Int) = 0 from rfl] at this
    rw [this]; simp; omega
theorem ch_under {N : Nat} (h : 2 ≤ N) : (true = true ↔ (ch N N).under (((N - 1 : Nat) : Nat) : Int) 0) := by
  refine ⟨fun _ => ⟨by omega, by omega, ?_⟩, fun _ => rfl⟩
  have := (ch_below h).desc (N - 1)
  exact this.1 (by rw [List.mem_range']; exact ⟨N - 2, by omega, by omega⟩)
theorem ch_over {N : Nat} (hw : (ch N N).WF) : (false = true ↔ (ch N N).under 0 (((N - 1 : Nat) : Nat) : Int)) := by
  refine ⟨fun h => by simp at h, ?_⟩
  rintro ⟨_, _, ha⟩
  exact (ha.root hw (show (ch N N).par 0 = none from by show (if 0 < 0 ∧ 0 < N then some (0 - 1) else none) = none; rw [if_neg (by omega)])).elim
/-- Behind the prune. -/
abbrev chP (N : Nat) : Fo := (ch N N).prune 0 (List.range' 1 (N - 1))
theorem chP_free {N : Nat} (h : 2 ≤ N) : ∃ r, (chP N).free = (N - 1) :: r ∧ r.length = N - 2 := by
  obtain ⟨M, rfl⟩ : ∃ M, N = M + 2 := ⟨N - 2, by omega⟩
  have : (chP (M + 2)).free = (List.range' 1 (M + 1)).reverse ++ List.range' (M + 2) (M + 2 - (M + 2)) := rfl
  rw [this, show M + 2 - (M + 2) = 0 by omega, List.range'_concat]
  refine ⟨(List.range' 1 M).reverse, ?_, by simp⟩
  simp
  omega
theorem chP_adds {N : Nat} (h : 2 ≤ N) : (chP N).addE 0 = 0 ∧ (chP N).addN 0 = ((N - 1 : Nat) : Nat) := by
  obtain ⟨r, h1, h2⟩ := chP_free h
  have hE : (chP N).addE 0 = 0 := by
    unfold Fo.addE
    rw [if_neg, if_neg (by rw [h1]; simp)]
    rintro ⟨_, h3⟩
    have : (chP N).has ((0 : Nat) : Int) = true := by
      rw [Fo.has_nat]
      show (decide (0 < N) && !decide (0 ∈ List.range' 1 (N - 1))) = true
      have h0 : 0 ∉ List.range' 1 (N - 1) := by rw [List.mem_range']; rintro ⟨i, _, h⟩; omega
      have h9 : decide (0 < N) = true := by simp; omega
      have h8 : decide (0 ∈ List.range' 1 (N - 1)) = false := decide_eq_false h0
      rw [h9, h8]; rfl
    rw [show ((0 : Nat) : Int) = 0 from rfl, h3] at this
    simp at this
  exact ⟨hE, by unfold Fo.addN; rw [if_pos hE, h1]; rfl⟩
theorem chP_len {N : Nat} (h : 2 ≤ N) (hw : ((chP N).add 0).WF) : ((chP N).add 0).len = 2 := by
  obtain ⟨r, h1, h2⟩ := chP_free h
  have hE := (chP_adds h).1
  have h3 := hw.len
  have h4 : ((chP N).add 0).free = r := by unfold Fo.add; rw [if_pos hE, Fo.addAt_free, h1]; rfl
  have h5 : ((chP N).add 0).size = N := by unfold Fo.add; rw [if_pos hE, Fo.addAt_size]; rfl
  rw [h4, h5, h2] at h3
  omega
section
variable {w W : World} {f : Nat} {t : Fo} {X : List Nat}
theorem CodeAt.wf (h : CodeAt w W f t X) : t.WF := by obtain ⟨S, c, h1, h2, h3, h4, h5⟩ := h; exact h2.wf
theorem CodeAt.len (h : CodeAt w W f t X) {n : Nat} (hn : t.len = n) : Calls Try.prog 20 #[ptr f] W fun e W' => e = .returned (.int .i64 (n : Nat)) ∧ Chg [] W W' := by
  obtain ⟨S, c, h1, h2, h3, h4, h5⟩ := h
  have hcnt := h2.count
  have := len_any h1 hcnt.2 h2.lenN
  rw [hcnt.1, hn] at this
  exact this
theorem CodeAt.under (h : CodeAt w W f t X) {i j : Int} {b : Bool} (hb : b = true ↔ t.under i j) : Calls Try.prog 24 #[ptr f, .int .i64 i, .int .i64 j] W fun e W' => e = .returned (.bool b) ∧ Chg [] W W' := by
  obtain ⟨S, c, h1, h2, h3, h4, h5⟩ := h
  exact cunder_any h1 h2 i j hb
end
end Go.Proofs
end
section
namespace Go.Proofs
open Go.RowKit
set_option linter.unusedVariables false
set_option linter.unusedSimpArgs false

set_option maxHeartbeats 25600000 in
set_option maxRecDepth 100000 in
theorem deep_any (n : Int) (w : World) : Calls Try.prog 6 #[.int .i64 n] w fun e w' => e = .returned (.bool true) ∧ Chg [] w w' := by
  have HK := Lib.hid known_any
  by_cases h1 : n < 2
  · have d1 : decide (n < 2) = true := by simpa using h1
    go_enter Try.func6, Try.ntmps6
    go_wp2_with (go_at_call 10; refine (HK.out _).mono ?_; rintro e w2 ⟨rfl, hc⟩)
    go_ret
    exact ⟨rfl, hc⟩
  have d1 : decide (n < 2) = false := by simpa using h1
  by_cases h2 : 4096 < n
  · have d2 : decide (n > 4096) = true := by simpa using h2
    have d3 : decide (4096 < n) = true := by simpa using h2
    go_enter Try.func6, Try.ntmps6
    go_wp2_with (go_at_call 10; refine (HK.out _).mono ?_; rintro e w2 ⟨rfl, hc⟩)
    go_ret
    exact ⟨rfl, hc⟩
  have d2 : decide (n > 4096) = false := by simpa using h2
  have d3 : decide (4096 < n) = false := by simpa using h2
  obtain ⟨s, rfl⟩ : ∃ s : Nat, n = s := ⟨n.toNat, by omega⟩
  have hs2 : 2 ≤ s := by omega
  have hs4 : s ≤ 4096 := by omega
  have HN := Lib.hid (fun W (h0 : Chg [] w W) => show Calls Try.prog 11 #[.int .i64 (s : Nat)] W (fun e W' => ∃ f, e = .returned (.tuple #[ptr f, .int .i64 0]) ∧ CodeAt w W' f (ch s 0) []) from by
    have := CodeAt.new (show 1 ≤ s by omega) hs4 h0
    rw [ch_new] at this
    exact this)
  go_enter Try.func6, Try.ntmps6
  go_wp2_with (go_at_call 11; refine (HN.out _ (Chg.refl _ _)).mono ?_; rintro e w2 ⟨f, rfl, hf⟩; have HQ := Lib.hid hf; clear hf)
  clear HN
  go_loopg [5] s (fun gh iv wr => ∃ (k : Nat), k + gh = s ∧ iv = .int .i64 k ∧ Hid (CodeAt w wr f (ch s k) []))
  case atStart => exact ⟨0, by omega, rfl, HQ⟩
  case round =>
    clear HQ
    obtain ⟨k, hk, rfl, HQ⟩ := hrel
    by_cases hlt : k < s
    · have e1 : decide ((k : Int) < (s : Int)) = true := by simp; omega
      have HA := Lib.hid (fun W (hq : CodeAt w W f (ch s k) []) => show Calls Try.prog 27 #[ptr f, .int .i64 ((k : Int) - 1)] W (fun e W' => e = .returned (.tuple #[.int .i64 (k : Nat), .int .i64 0]) ∧ CodeAt w W' f (ch s (k + 1)) []) from by
        obtain ⟨a1, a2, a3⟩ := ch_adds hlt
        refine (hq.add ((k : Int) - 1)).mono ?_
        rintro e W' ⟨h1, h2, _⟩
        rw [a1, a2] at h1
        rw [a3] at h2
        exact ⟨h1, h2⟩)
      have e2 : (((k : Nat) : Int) != ((k : Nat) : Int)) = false := by simp
      go_wp2_with (go_at_call 27; refine (HA.out _ HQ.out).mono ?_; rintro e w3 ⟨rfl, hq⟩; have HQ := Lib.hid hq; clear hq)
      go_roundg (s - k - 1)
      case measure => omega
      case rel => exact ⟨k + 1, by omega, by go_num, HQ⟩
    · obtain rfl : k = s := by omega
      have e1 : decide ((k : Int) < (k : Int)) = false := by simp
      have HA := Lib.hid (fun W (hq : CodeAt w W f (ch k k) []) => show Calls Try.prog 27 #[ptr f, .int .i64 0] W (fun e W' => ∃ x, e = .returned (.tuple #[.int .i64 x, .int .i64 3]) ∧ CodeAt w W' f (ch k k) []) from by
        refine (hq.add 0).mono ?_
        rintro e W' ⟨h1, h2, _⟩
        rw [ch_full (by omega)] at h1
        rw [ch_stay (by omega)] at h2
        exact ⟨_, h1, h2⟩)
      have HD := Lib.hid (fun W (hq : CodeAt w W f (ch k k) []) => show Calls Try.prog 28 #[ptr f, .int .i64 0] W (fun e W' => ∃ A cc, e = .returned (.slice A (k - 1) cc) ∧ Rd W' (.slice A (k - 1) cc) (iN (List.range' 1 (k - 1))) ∧ CodeAt w W' f (ch k k) []) from by
        have := hq.desc (ch_below' hs2)
        rw [List.length_range'] at this
        exact this.mono fun e W' ⟨A, cc, h1, h2, _, h4⟩ => ⟨A, cc, h1, h2, hq.quiet h4⟩)
      have HU1 := Lib.hid (fun W (hq : CodeAt w W f (ch k k) []) => hq.under (ch_under hs2))
      have HU2 := Lib.hid (fun W (hq : CodeAt w W f (ch k k) []) => hq.under (ch_over hq.wf))
      have e3 : ((k : Nat) : Int) - 1 = ((k - 1 : Nat) : Int) := by omega
      have e4 : (((k - 1 : Nat) : Int) != ((k - 1 : Nat) : Int)) = false := by simp
      obtain ⟨q, hq⟩ : ∃ q, k - 1 = q := ⟨_, rfl⟩
      rw [hq] at HD HU1 HU2 e3 e4
      have hq1 : 1 ≤ q := by omega
      have hq2 : q ≤ 4095 := by omega
      have HKQ := Lib.hid hq
      have HS2 := Lib.hid hs2
      clear hq
      go_wp2_with (first
        | (go_at_call 27; refine (HA.out _ HQ.out).mono ?_; rintro e w3 ⟨x, rfl, hq⟩; have HQ := Lib.hid hq; clear hq)
        | (go_at_call 28; refine (HD.out _ HQ.out).mono ?_; rintro e w4 ⟨A, cc, rfl, hr, hq⟩; have HR := Lib.hid hr; have HQ := Lib.hid hq; clear hr hq)
        | (go_at_call 24; refine (HU1.out _ HQ.out).mono ?_; rintro e w5 ⟨rfl, hc⟩; have HR := Lib.hid (HR.out.quiet hc); have HQ := Lib.hid (HQ.out.quiet hc); clear hc HU1)
        | (go_at_call 24; refine (HU2.out _ HQ.out).mono ?_; rintro e w6 ⟨rfl, hc⟩; have HR := Lib.hid (HR.out.quiet hc); have HQ := Lib.hid (HQ.out.quiet hc); clear hc))
      clear HA HD HU2
      go_loopg [11] q (fun gh iv wr => ∃ (p : Nat), p + gh = q ∧ iv = .int .i64 p ∧ Hid (CodeAt w wr f (ch k k) []) ∧ Hid (Rd wr (.slice A q cc) (iN (List.range' 1 q))))
      case atStart => exact ⟨0, by omega, rfl, HQ, HR⟩
      case round =>
        clear HQ HR
        obtain ⟨p, hp, rfl, HQ, HR⟩ := hrel
        by_cases hlt2 : p < q
        · have e5 : decide ((p : Int) < (q : Int)) = true := by simp; omega
          have e6 : (((p : Nat) : Int) + 1 != ((p : Nat) : Int) + 1) = false := by simp
          obtain ⟨A', c', hv, _, _, _, o1⟩ := HR.out.open_
          simp only [Value.slice.injEq] at hv
          obtain ⟨rfl, h91, h92⟩ := hv
          obtain ⟨b, o, hA, hb, hcell⟩ := o1 p (((p : Nat) : Int) + 1) (by
            unfold iN
            rw [List.getElem?_map, List.getElem?_range' (by omega)]
            simp; omega)
          subst hA
          have p0 : (0 : Int) ≤ (p : Int) := by omega
          have p1 : (p : Int) < (q : Int) := by omega
          clear h91 h92 o1
          go_wp2
          go_roundg (q - p - 1)
          case measure => omega
          case rel => exact ⟨p + 1, by omega, by go_num, HQ, HR⟩
        · have e5 : decide ((p : Int) < (q : Int)) = false := by simp; omega
          have HP := Lib.hid (fun W (hq : CodeAt w W f (ch k k) []) => show Calls Try.prog 16 #[ptr f, .int .i64 0] W (fun e W' => ∃ A cc, e = .returned (.tuple #[.slice A q cc, .int .i64 0]) ∧ CodeAt w W' f (chP k) []) from by
            have := hq.prune (n := 0) (by show decide (0 < k) = true; simp; have := HS2.out; omega) (ch_below HS2.out)
            rw [List.length_range', HKQ.out] at this
            refine this.mono ?_
            rintro e W' ⟨A, cc, h1, _, ⟨S, c, g1, g2, g3, g4, g5⟩, _⟩
            exact ⟨A, cc, h1, S, c, g1, by rw [← HKQ.out] at g2; exact g2, g3, g4, fun x hx => by cases hx⟩)
          have HA := Lib.hid (fun W (hq : CodeAt w W f (chP k) []) => show Calls Try.prog 27 #[ptr f, .int .i64 0] W (fun e W' => e = .returned (.tuple #[.int .i64 (q : Nat), .int .i64 0]) ∧ CodeAt w W' f ((chP k).add 0) []) from by
            obtain ⟨a1, a2⟩ := chP_adds HS2.out
            refine (hq.add 0).mono ?_
            rintro e W' ⟨h1, h2, _⟩
            rw [a1, a2, HKQ.out] at h1
            exact ⟨h1, h2⟩)
          have HL := Lib.hid (fun W (hq : CodeAt w W f ((chP k).add 0) []) => hq.len (chP_len HS2.out hq.wf))
          have e7 : (((q : Nat) : Int) == ((q : Nat) : Int)) = true := by simp
          have HKN := Lib.hid (fun W (hq : CodeAt w W f ((chP k).add 0) []) => show Calls Try.prog 10 #[] W (fun e W' => e = .returned (.bool true) ∧ Chg [] w W') from (known_any W).mono fun e W' ⟨h1, h2⟩ => ⟨h1, hq.chg0.then h2⟩)
          go_wp2_with (first
            | (go_at_call 16; refine (HP.out _ HQ.out).mono ?_; rintro e w7 ⟨A7, c7, rfl, hq⟩; have HQ := Lib.hid hq; clear hq)
            | (go_at_call 27; refine (HA.out _ HQ.out).mono ?_; rintro e w8 ⟨rfl, hq⟩; have HQ := Lib.hid hq; clear hq)
            | (go_at_call 20; refine (HL.out _ HQ.out).mono ?_; rintro e w9 ⟨rfl, hc⟩; have HQ := Lib.hid (HQ.out.quiet hc); clear hc)
            | (go_at_call 10; refine (HKN.out _ HQ.out).mono ?_; rintro e w10 ⟨rfl, hc⟩))
          go_ret
          exact ⟨rfl, hc⟩
end Go.Proofs
end
section
namespace Go.Proofs.Ythgdkaldnaeijaa.treeDeep
open Go.ChangeShapes Go.WideShapes Go.ChangeAt Go.RowKit
set_option linter.unusedVariables false

theorem own : ownKnob Try.prog.godebug = none := by kernel_rfl

set_option maxRecDepth 100000 in
theorem lifted (os : Os) (started : os.Started) (H : Type) (enc : TypeId × Value → H) :
    ReturnsInHanded {} Try.checked os 6 .any (Rows.treeDeepSpec.pre6 enc Try.prog Try.f6 Rows.treeDeepRow.domain false) (Rows.treeDeepSpec.post enc Try.prog Try.f6 false true false false) := by
  refine returnsInHanded_of_change (C := Try.checked) own started (by kernel_rfl) Try.func6
    (ChangeSpec.witness6 (enc := enc) (C := Try.checked) false ⟨#[], #[.int .i64 0], []⟩ 8 (by kernel_rfl) (by kernel_rfl) (by kernel_rfl) (by kernel_rfl)) ?_
  intro W base args ds gs before hval0 hW hcnd _
  have hval : ∀ (j : Nat) t v, Try.f6.params[j]? = some t → args[j]? = some v → Value.okWide Try.prog W .any base t v := hval0
  have hW' := hW
  obtain ⟨p, q, hA0, hV, rfl, hfz, hnd⟩ := hW
  have hA : DataW.TrodAll enc Try.prog W 0 (fun _ => true) true Try.f6.params.toList args.toList ds p := hA0
  rw [Try.params6] at hA hval
  obtain ⟨v0, vs0, d0, ds0, p0, q0, hargs, rfl, rfl, h0, r0⟩ := trodAll_cons hA
  obtain ⟨rfl, rfl, rfl⟩ := trodAll_nil r0
  obtain rfl : args = #[v0] := by cases args; simp_all
  obtain ⟨rfl, rfl⟩ := trodVars_none hV
  obtain ⟨a0, rfl, rfl, rfl, w0⟩ := open_int Try.underlying3 (hval 0 3 v0 rfl rfl) h0
  clear hA0 hval0
  simp only [List.append_nil] at hW'
  obtain ⟨b0, c0⟩ := bounds_i64 w0
  refine (deep_any _ _).mono fun e W' ⟨he, hc⟩ => ?_
  have hg := hc.to_below
  subst he
  exact ⟨_, rfl, post_of_below (pa := ([] ++ [])) (pv := []) hW' (fun _ _ _ => (trodAll_cons_mk (shut_bool Try.underlying4 _) trodAll_mk0)) (fun sp hsp => (trodAll_cons_mk (shut_int Try.underlying3 w0) trodAll_mk0)) (fun _ _ => rfl) (by simp)
    hg (ok_one (by kernel_rfl) rfl (okWide_bool_mk Try.underlying4 _))⟩

theorem over : Rows.treeDeepRow.holds Try.pinned (OpenSpec.ofChange Rows.treeDeepSpec) :=
  OpenClaim.holds_of_wide 6 Try.f6 rfl rfl rfl rfl rfl rfl rfl ⟨rfl, rfl, rfl, rfl, rfl⟩ rfl rfl rfl rfl rfl (by kernel_rfl) Try.func6 (by kernel_rfl)
    (of_decide_eq_true (by kernel_rfl)) (by unfold Func.isWrapper; first | (rw [if_pos (by decide +kernel)]; kernel_rfl) | (rw [if_neg (by decide +kernel)]; exact ⟨rfl, rfl⟩))
    (fun os started H enc _ => lifted os started H enc)

/-- ████ THE STATEMENT ████ -/
theorem proved : Rows.TreeDeepSaid :=
  over
#print axioms proved
end Go.Proofs.Ythgdkaldnaeijaa.treeDeep
end
