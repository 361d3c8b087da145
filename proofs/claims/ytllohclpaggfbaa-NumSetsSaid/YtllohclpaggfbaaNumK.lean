import Derived.Test.YtllohclpaggfbaaNumJ
import Derived.Test.YtllohclpaggfbaaNumF
import Derived.Laws.AppendOwnNone
namespace Go.Proofs
open Go.RowKit
set_option linter.unusedVariables false

theorem mem_allL (s i : Int) (h0 : 0 ≤ i) (h1 : i < 8) : decide (i ∈ allL s) = bitOf s i := by
  have hm : i ∈ ([0, 1, 2, 3, 4, 5, 6, 7] : List Int) := by
    simp only [List.mem_cons, List.not_mem_nil, or_false]; omega
  rw [Bool.eq_iff_iff, decide_eq_true_iff]
  unfold allL
  rw [List.mem_filter]
  exact ⟨fun h => h.2, fun h => ⟨hm, h⟩⟩
def withL (s p : Int) : Int := setOf (fun i => decide (i ∈ allL s ++ [p]))
theorem withL_eq (s p : Int) : setOf (fun i => bitOf s i || decide (i = p)) = withL s p := setOf_congr _ _ fun i h0 h1 => by
  rw [← mem_allL s i h0 h1, Bool.eq_iff_iff]; simp
/-- Those of the first k of the set that are not p. -/
def lessL (s p : Int) (k : Nat) : List Int := ((allL s).take k).filter (fun x => !decide (x = p))
def lessS (s p : Int) : Int := setOf (fun i => decide (i ∈ lessL s p (allL s).length))
theorem lessS_eq (s p : Int) : setOf (fun i => bitOf s i && !decide (i = p)) = lessS s p := setOf_congr _ _ fun i h0 h1 => by
  rw [← mem_allL s i h0 h1]
  unfold lessL
  rw [Bool.eq_iff_iff, List.take_length]; simp [List.mem_filter]
theorem lessL_len (s p : Int) (k : Nat) (h : k ≤ (allL s).length) : (lessL s p k).length ≤ k := by
  unfold lessL
  exact Nat.le_trans (List.length_filter_le _ _) (by simp; omega)
theorem lessL_yes (s p : Int) (k : Nat) (h : k < (allL s).length) (hp : ((allL s)[k]?.getD 0 != p) = true) : lessL s p (k + 1) = lessL s p k ++ [(allL s)[k]?.getD 0] := by
  unfold lessL
  rw [List.take_succ_eq_append_getElem h, List.filter_append]
  rw [List.getElem?_eq_getElem h] at hp ⊢
  simp at hp
  simp [hp]
theorem lessL_no (s p : Int) (k : Nat) (h : k < (allL s).length) (hp : ((allL s)[k]?.getD 0 != p) = false) : lessL s p (k + 1) = lessL s p k := by
  unfold lessL
  rw [List.take_succ_eq_append_getElem h, List.filter_append]
  rw [List.getElem?_eq_getElem h] at hp
  simp at hp
  simp [hp]
def numL (k : Nat) : List Int := (List.range k).map Int.ofNat
theorem numL_len (k : Nat) : (numL k).length = k := by simp [numL]
theorem numL_succ (k : Nat) : numL (k + 1) = numL k ++ [(k : Int)] := by simp [numL, List.range_succ]
theorem firstS_eq (k : Nat) : firstS k = setOf (fun i => decide (i ∈ numL k)) := setOf_congr _ _ fun i h0 h1 => by
  rw [Bool.eq_iff_iff, decide_eq_true_iff, decide_eq_true_iff]
  unfold numL
  rw [List.mem_map]
  constructor
  · intro h
    exact ⟨i.toNat, List.mem_range.2 (by omega), by simp; omega⟩
  · rintro ⟨a, ha, rfl⟩
    have := List.mem_range.1 ha
    simp; omega

/-- append, behind a guard that says yes. -/
theorem append_own_g {P : Program} {w : World} {ops : Array Oper} {rest : List Oper} {o : Oper} {a : Act} {Q : Exit → Act → World → Prop} (hgd : Region.wanted o (yielded ops a.tmps) = true) (s x : Operand) (t : TypeId)
    (ho : o.op = .call { callee := .builtin .append, args := #[s, x], argTypes := #[t, t] })
    (base : Nat) (e : TypeId) (i : TypeInfo) (z : Value) (size bytes : Nat) (ht : P.underlying t = some (.slice e)) (hi : P.info? e = some i) (hz : i.zero = some z)
    (hsize : i.size = size) (hby : i.bytes = bytes) (hzs : z.cells.size = size) (hsz : 0 < size)
    (v : Value) (n : Nat) (xs : List Value) (hs : a.eval s = v) (hown : w.ownsRow base e size v n xs)
    (ad : Addr) (m c : Nat) (news : List Value) (hx : a.eval x = .slice (some ad) m c) (hl : news.length = m * size) (hnews : ∀ j u, news[j]? = some u → w.cell? (ad.add j) = some u) (h1 : ∀ u ∈ news, u.oneCell' = true)
    (h63 : n + m ≤ maxLen) (hbytes : (n + m) * bytes ≤ 140737488355328) (hbase : base ≤ w.heap.size)
    (h : ∀ v' w', w'.ownsRow base e size v' (n + m) (xs ++ news) → w.grownBy w' v.ownBlock → wpList P ops Q rest (a.put o.dst v') w') : wpList P ops Q (o :: rest) a w :=
  wpList_step fun K hK => by
    rw [if_pos hgd]
    exact wp_append_own w s x t ho base e i z size bytes ht hi hz hsize hby hzs hsz v n xs hs hown ad m c news hx hl hnews h1 h63 hbytes hbase fun v' w' h2 h3 _ => hK _ _ (h v' w' h2 h3)
theorem append_none_g {P : Program} {w : World} {ops : Array Oper} {rest : List Oper} {o : Oper} {a : Act} {Q : Exit → Act → World → Prop} (hgd : Region.wanted o (yielded ops a.tmps) = true) (s x : Operand) (t : TypeId)
    (ho : o.op = .call { callee := .builtin .append, args := #[s, x], argTypes := #[t, t] })
    (base : Nat) (e : TypeId) (i : TypeInfo) (size : Nat) (ht : P.underlying t = some (.slice e)) (hi : P.info? e = some i)
    (v : Value) (n : Nat) (xs : List Value) (hs : a.eval s = v) (hown : w.ownsRow base e size v n xs) (hx : a.eval x = .slice none 0 0)
    (h : wpList P ops Q rest (a.put o.dst v) w) : wpList P ops Q (o :: rest) a w := by
  refine wpList_step fun K hK => ?_
  rw [if_pos hgd]
  have hrun := run_append_owned_none (P := P) (w := w) base t o.type e i size ht hi v n xs hown
  unfold Oper.wp
  simp [execOp, ho, resolve, invoke, builtin, hs, hx, hrun, Result.andThen]
  exact hK _ _ h

theorem cell_one_l (w : World) (v : Value) (t : TypeId) : ∀ j u, [v][j]? = some u → (w.alloc (.cells #[v] t)).cell? ((⟨w.heap.size, 0, none⟩ : Addr).add j) = some u := by
  intro j u hj
  match j, hj with
  | 0, hj => simp at hj; subst hj; simp [Addr.add]
theorem one_cell_l (p : Int) : ∀ u ∈ [Value.int .i64 p], u.oneCell' = true := by intro u hu; simp at hu; subst hu; rfl
/-- What two appends onto a slice of the call's own leave. -/
theorem after_two {w3 w4 w5 : World} {v4 v5 : Value} {k : Nat} {l : List Int} {p : Int} {t : TypeId}
    (hown4 : w4.ownsRow w3.heap.size 3 1 v4 (0 + k) ([] ++ l.map (Value.int .i64))) (hown5 : w5.ownsRow w3.heap.size 3 1 v5 (0 + k + 1) ([] ++ l.map (Value.int .i64) ++ [.int .i64 p]))
    (hg4 : w3.grownBy w4 (Value.slice none 0 0).ownBlock) (hg5 : (w4.alloc (.cells #[.int .i64 p] t)).grownBy w5 v4.ownBlock) (hk : k = l.length) : RowI w5 w5.heap.size v5 (l ++ [p]) ∧ Below w3.heap.size w3 w5 := by
  have hb4 : Below w3.heap.size w3 w4 := (Below.refl _ _).grown hg4 (Nat.le_refl _) (by simp [Value.ownBlock])
  refine ⟨RowI.of_own (base := w3.heap.size) (e := 3) ?_, (hb4.alloc hb4.size _).grown hg5 (by have := hb4.size; simp; omega) (own_ge hown4)⟩
  subst hk
  simpa using hown5

theorem after_one {w3 w5 : World} {v5 : Value} {p : Int} {t : TypeId}
    (hown5 : w5.ownsRow w3.heap.size 3 1 v5 (0 + 1) ([] ++ [.int .i64 p])) (hg5 : (w3.alloc (.cells #[.int .i64 p] t)).grownBy w5 (Value.slice none 0 0).ownBlock) : RowI w5 w5.heap.size v5 ([] ++ [p]) ∧ Below w3.heap.size w3 w5 :=
  ⟨RowI.of_own (base := w3.heap.size) (e := 3) (by simpa using hown5), ((Below.refl _ _).alloc (Nat.le_refl _) _).grown hg5 (by simp) (by simp [Value.ownBlock])⟩

set_option maxHeartbeats 4000000 in
set_option maxRecDepth 100000 in
theorem sets_any (s p ps : Int) (s0 : 0 ≤ s) (s1 : s < 256) (p0 : -9223372036854775808 ≤ p) (p1 : p ≤ 9223372036854775807) (ps0 : -9223372036854775808 ≤ ps) (ps1 : ps ≤ 9223372036854775807) (w : World) :
    Calls Try.prog 6 #[.int .u8 s, .int .i64 p, .int .i64 ps] w fun e w' => e = .returned (.bool true) ∧ Below w.heap.size w w' := by
  obtain ⟨i0, hi, hz0, hz1, hz2⟩ := info_parts Try.info3
  have hL := fun w => ref_all s s0 s1 w
  have hl8 := len_allL s
  obtain ⟨m, hm⟩ : ∃ m, m = (allL s).length := ⟨_, rfl⟩
  have Hm := Lib.hid hm
  go_enter Try.func6, Try.ntmps6
  go_wp2_with (go_at_call 18; refine (hL _).mono ?_; clear hL; rintro e w1 ⟨v, rfl, ⟨A, c, rfl, hn, hc⟩, hb1⟩; rw [← hm] at hc hl8 ⊢; clear hm)
  go_loopw [8, 10] (fun v i wr => ∃ k : Nat, k ≤ m ∧ i = .int .i64 k ∧ wr.ownsRow w1.heap.size 3 1 v (lessL s p k).length ((lessL s p k).map (Value.int .i64)) ∧ Below w1.heap.size w1 wr)
    (fun _ i _ => m - (intOf i).toNat)
  case atStart => exact ⟨0, Nat.zero_le _, rfl, World.ownsRow_nil _ _ _ _, Below.refl _ _⟩
  case round =>
    obtain ⟨k, hk, rfl, hown, hnx⟩ := hrel
    have hl := lessL_len s p k (by rw [← Hm.out]; exact hk)
    by_cases hlt : k < m
    · obtain ⟨g, rfl, hg, hcell⟩ := hc k hlt
      have hcx : wr.cell? ⟨g, k, none⟩ = some (.int .i64 ((allL s)[k]?.getD 0)) := (hnx.cell (p := ⟨g, k, none⟩) hg).trans hcell
      have HY := Lib.hid (lessL_yes s p k (by rw [← Hm.out]; exact hlt))
      have HN := Lib.hid (lessL_no s p k (by rw [← Hm.out]; exact hlt))
      obtain ⟨x, hx⟩ : ∃ x, x = (allL s)[k]?.getD 0 := ⟨_, rfl⟩
      rw [← hx] at hcx HY HN
      clear hx hcell hc
      have hsz := hnx.size
      cases hb : (x != p) with
      | true =>
        go_wp2_with (at_builtin; refine wpList_append_own _ rfl _ _ 28 rfl w1.heap.size 3 i0 (.int .i64 0) 1 8 Try.underlying28 hi hz0 hz1 hz2 rfl (by decide) _ _ _ rfl (hown.alloc _) ⟨wr.heap.size, 0, none⟩ 1 1 [.int .i64 x] rfl rfl ?c1 ?c2 ?c3 ?c4 ?c5 ?_)
        case c1 =>
          intro j u hj
          match j, hj with
          | 0, hj => simp at hj; subst hj; simp [Addr.add]
        case c2 => intro u hu; simp at hu; subst hu; rfl
        case c3 => unfold maxLen; omega
        case c4 => omega
        case c5 => have := hnx.size; simp; omega
        intro v' w2 hown' hgrow _
        go_wp2
        go_roundw
        case rel => exact ⟨k + 1, by omega, by go_num, by rw [HY.out hb]; simpa using hown', (hnx.alloc hnx.size _).grown hgrow (by simp; omega) (own_ge hown)⟩
        case measure => simp [intOf]; omega
      | false =>
        go_wp2
        go_roundw
        case rel => exact ⟨k + 1, by omega, by go_num, by rw [HN.out hb]; exact hown, hnx⟩
        case measure => simp [intOf]; omega
    · obtain rfl : k = m := by omega
      have hR8 := RowI.of_own hown
      clear hown
      obtain ⟨w2, hw2⟩ : ∃ w2 : World, w2 = wr := ⟨_, rfl⟩
      rw [← hw2] at hR8 hnx ⊢
      clear hw2 wr
      have hsz2 := hnx.size
      have hb2 : Below w.heap.size w w2 := hb1.trans (hnx.mono hb1.size)
      have hc2 : ∀ j, j < k → ∃ g, A = some ⟨g, 0, none⟩ ∧ g < w1.heap.size ∧ w2.cell? ⟨g, j, none⟩ = some (.int .i64 ((allL s)[j]?.getD 0)) := fun j hj => by
        obtain ⟨g, h1, h2, h3⟩ := hc j hj
        exact ⟨g, h1, h2, (hnx.cell (p := ⟨g, j, none⟩) h2).trans h3⟩
      clear hc hnx hb1
      go_wp2
      go_loopw [9, 11] (fun v i wr => ∃ j : Nat, j ≤ capN ps ∧ i = .int .i64 j ∧ wr.ownsRow w2.heap.size 3 1 v (numL j).length ((numL j).map (Value.int .i64)) ∧ Below w2.heap.size w2 wr)
        (fun _ i _ => capN ps - (intOf i).toNat)
      case atStart => exact ⟨0, Nat.zero_le _, rfl, World.ownsRow_nil _ _ _ _, Below.refl _ _⟩
      case round =>
        obtain ⟨j, hj, rfl, hown, hnx⟩ := hrel
        have hjl := numL_len j
        have hcap8 : capN ps ≤ 8 := by unfold capN; omega
        have hsz3 := hnx.size
        by_cases hjc : j < capN ps
        · have hj1 : (j : Int) < ps := by unfold capN at hjc; omega
          have hj2 : (j : Int) < 8 := by omega
          have HY := Lib.hid (numL_succ j)
          clear hjl
          go_wp2_with (at_builtin; refine wpList_append_own _ rfl _ _ 28 rfl w2.heap.size 3 i0 (.int .i64 0) 1 8 Try.underlying28 hi hz0 hz1 hz2 rfl (by decide) _ _ _ rfl (hown.alloc _) ⟨wr.heap.size, 0, none⟩ 1 1 [.int .i64 (j : Int)] rfl rfl ?c1 ?c2 ?c3 ?c4 ?c5 ?_)
          case c1 =>
            intro j' u hj
            match j', hj with
            | 0, hj => simp at hj; subst hj; simp [Addr.add]
          case c2 => intro u hu; simp at hu; subst hu; rfl
          case c3 => rw [numL_len]; unfold maxLen; omega
          case c4 => rw [numL_len]; omega
          case c5 => simp; omega
          intro v' w4 hown' hgrow _
          go_wp2
          go_roundw
          case rel => exact ⟨j + 1, by omega, by go_num, by rw [HY.out]; simpa using hown', (hnx.alloc hnx.size _).grown hgrow (by simp; omega) (own_ge hown)⟩
          case measure => simp [intOf]; omega
        · have hje : j = capN ps := by omega
          have hR9 := RowI.of_own hown
          have hR8' := hR8.below hnx
          have hb3 : Below w.heap.size w wr := hb2.trans (hnx.mono hb2.size)
          have hc3 : ∀ j, j < k → ∃ g, A = some ⟨g, 0, none⟩ ∧ wr.cell? ⟨g, j, none⟩ = some (.int .i64 ((allL s)[j]?.getD 0)) := fun j hj => by
            obtain ⟨g, h1, h2, h3⟩ := hc2 j hj
            exact ⟨g, h1, (hnx.cell (p := ⟨g, j, none⟩) (by show g < w2.heap.size; omega)).trans h3⟩
          have hps : (j : Int) < ps → ¬ (j : Int) < 8 := by intro h h'; unfold capN at hje; omega
          clear hown hc2 hR8 hb2 hnx hjl
          obtain ⟨w3, hw3⟩ : ∃ w3 : World, w3 = wr := ⟨_, rfl⟩
          rw [← hw3] at hR8' hR9 hb3 hc3 hsz3 ⊢
          clear hw3 wr
          have cH := fun w => has_any s p s0 s1 w
          have cR := fun w => ref_has s p s0 s1 w
          have cW := fun w => with_any s p s0 s1 w
          have cL := fun w => without_any s p s0 s1 w
          have cM := fun w => mask_any ps w
          have cC := fun w => count_any s s0 s1 w
          rw [withL_eq] at cW
          rw [lessS_eq] at cL
          rw [← hje] at cM
          rw [← Hm.out] at cC
          obtain ⟨b, hb⟩ : ∃ b, b = bitOf s p := ⟨_, rfl⟩
          rw [← hb] at cH cR
          clear hb hje
          have O1 := fun (v : Value) (B : Nat) (w : World) (h : RowI w B v (allL s ++ [p])) => ref_of v _ B (by rw [List.length_append, ← Hm.out]; simp; omega) w h
          have O2 := fun (v : Value) (B : Nat) (w : World) (h : RowI w B v (lessL s p k)) => ref_of v _ B (by omega) w h
          have O3 := fun (v : Value) (B : Nat) (w : World) (h : RowI w B v (numL j)) => ref_of v _ B (by rw [numL_len]; omega) w h
          rw [show setOf (fun i => decide (i ∈ allL s ++ [p])) = withL s p from rfl] at O1
          rw [show setOf (fun i => decide (i ∈ lessL s p k)) = lessS s p by unfold lessS; rw [← Hm.out]] at O2
          rw [← firstS_eq] at O3
          have hlen : ((allL s).map (Value.int .i64)).length = k * 1 := by rw [List.length_map, ← Hm.out]; simp
          cases A with
          | none =>
            obtain rfl : c = 0 := hn rfl
            obtain rfl : k = 0 := by
              rcases Nat.eq_zero_or_pos k with h | h
              · exact h
              · obtain ⟨g, h1, _⟩ := hc3 0 h; cases h1
            have hnil : allL s = [] := List.eq_nil_of_length_eq_zero Hm.out.symm
            rw [hnil] at O1
            clear hc3 hn hlen
            by_cases hj1 : (j : Int) < ps
            all_goals
              go_wp2_with (first
                | (go_at_call 19; refine (cH _).mono ?_; rintro e w9 ⟨rfl, rfl⟩)
                | (go_at_call 20; refine (cR _).mono ?_; rintro e w9 ⟨rfl, rfl⟩)
                | (go_at_call 21; refine (cW _).mono ?_; rintro e w9 ⟨rfl, rfl⟩)
                | (go_at_call 23; refine (cL _).mono ?_; rintro e w9 ⟨rfl, rfl⟩)
                | (go_at_call 24; refine (cC _).mono ?_; rintro e w9 ⟨rfl, rfl⟩)
                | (go_at_call 25; refine (cM _).mono ?_; rintro e w9 ⟨rfl, rfl⟩)
                | (go_at_call 14; refine (known_any _).mono ?_; rintro e w8 ⟨rfl, hb8⟩)
                | (go_at_call 22; (with_reducible refine (O1 _ _ _ (by with_reducible exact hR12)).mono ?_); rintro e w9 ⟨rfl, rfl⟩)
                | (go_at_call 22; (with_reducible refine (O2 _ _ _ (by with_reducible exact hR8')).mono ?_); rintro e w9 ⟨rfl, rfl⟩)
                | (go_at_call 22; (with_reducible refine (O3 _ _ _ (by with_reducible exact hR9)).mono ?_); rintro e w9 ⟨rfl, rfl⟩)
                | (at_builtin; refine append_none_g rfl (.const (.slice none 0 0)) (.tmp 57) 28 rfl w3.heap.size 3 i0 1 Try.underlying28 hi (.slice none 0 0) 0 [] rfl (World.ownsRow_nil _ _ _ _) rfl ?_)
                | (at_builtin; refine append_own_g rfl (.tmp 58) (.tmp 60) 28 rfl w3.heap.size 3 i0 (.int .i64 0) 1 8 Try.underlying28 hi hz0 hz1 hz2 rfl (by decide) (.slice none 0 0) 0 [] rfl (World.ownsRow_nil _ _ _ _) ⟨w3.heap.size, 0, none⟩ 1 1 [.int .i64 p] rfl rfl (cell_one_l _ _ _) (one_cell_l p) (by unfold maxLen; omega) (by omega) (by simp) ?_; intro v5 w5 hown5 hg5; obtain ⟨hR12, hB35⟩ := after_one hown5 hg5; replace hR8' := hR8'.below (hB35.mono hsz3); replace hR9 := hR9.below hB35))
            all_goals
              go_ret
              exact ⟨rfl, hb3.trans ((hB35.mono hb3.size).trans (hb8.mono (Nat.le_trans hb3.size hB35.size)))⟩
          | some ad =>
            have hnews : ∀ j u, ((allL s).map (Value.int .i64))[j]? = some u → w3.cell? (ad.add j) = some u := by
              intro q u hu
              rw [List.getElem?_map] at hu
              have hq : q < (allL s).length := by
                rcases Nat.lt_or_ge q (allL s).length with h | h
                · exact h
                · rw [List.getElem?_eq_none h] at hu; cases hu
              obtain ⟨g, h1, h2⟩ := hc3 q (by rw [Hm.out]; exact hq)
              cases h1
              rw [List.getElem?_eq_getElem hq] at hu h2
              rw [show (⟨g, 0, none⟩ : Addr).add q = ⟨g, q, none⟩ by unfold Addr.add; split <;> simp [*], h2]
              exact hu
            have h1c : ∀ u ∈ (allL s).map (Value.int .i64), u.oneCell' = true := by
              intro u hu
              obtain ⟨x, _, rfl⟩ := List.mem_map.1 hu
              rfl
            clear hc3 hn
            by_cases hj1 : (j : Int) < ps
            all_goals
              go_wp2_with (first
                | (go_at_call 19; refine (cH _).mono ?_; rintro e w9 ⟨rfl, rfl⟩)
                | (go_at_call 20; refine (cR _).mono ?_; rintro e w9 ⟨rfl, rfl⟩)
                | (go_at_call 21; refine (cW _).mono ?_; rintro e w9 ⟨rfl, rfl⟩)
                | (go_at_call 23; refine (cL _).mono ?_; rintro e w9 ⟨rfl, rfl⟩)
                | (go_at_call 24; refine (cC _).mono ?_; rintro e w9 ⟨rfl, rfl⟩)
                | (go_at_call 25; refine (cM _).mono ?_; rintro e w9 ⟨rfl, rfl⟩)
                | (go_at_call 14; refine (known_any _).mono ?_; rintro e w8 ⟨rfl, hb8⟩)
                | (go_at_call 22; (with_reducible refine (O1 _ _ _ (by with_reducible exact hR12)).mono ?_); rintro e w9 ⟨rfl, rfl⟩)
                | (go_at_call 22; (with_reducible refine (O2 _ _ _ (by with_reducible exact hR8')).mono ?_); rintro e w9 ⟨rfl, rfl⟩)
                | (go_at_call 22; (with_reducible refine (O3 _ _ _ (by with_reducible exact hR9)).mono ?_); rintro e w9 ⟨rfl, rfl⟩)
                | (at_builtin; refine append_own_g rfl (.const (.slice none 0 0)) (.tmp 57) 28 rfl w3.heap.size 3 i0 (.int .i64 0) 1 8 Try.underlying28 hi hz0 hz1 hz2 rfl (by decide) (.slice none 0 0) 0 [] rfl (World.ownsRow_nil _ _ _ _) ad k c ((allL s).map (.int .i64)) rfl hlen hnews h1c (by unfold maxLen; omega) (by omega) (Nat.le_refl _) ?_; intro v4 w4 hown4 hg4; have hs4 := hg4.size)
                | (at_builtin; refine append_own_g rfl (.tmp 58) (.tmp 60) 28 rfl w3.heap.size 3 i0 (.int .i64 0) 1 8 Try.underlying28 hi hz0 hz1 hz2 rfl (by decide) v4 (0 + k) ([] ++ (allL s).map (.int .i64)) rfl (hown4.alloc _) ⟨w4.heap.size, 0, none⟩ 1 1 [.int .i64 p] rfl rfl (cell_one_l _ _ _) (one_cell_l p) (by unfold maxLen; omega) (by omega) (by simp; omega) ?_; intro v5 w5 hown5 hg5; obtain ⟨hR12, hB35⟩ := after_two hown4 hown5 hg4 hg5 Hm.out; replace hR8' := hR8'.below (hB35.mono hsz3); replace hR9 := hR9.below hB35))
            all_goals
              go_ret
              exact ⟨rfl, hb3.trans ((hB35.mono hb3.size).trans (hb8.mono (Nat.le_trans hb3.size hB35.size)))⟩
end Go.Proofs
