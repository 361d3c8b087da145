import Derived.Test.YtihodeaeacgdpaaReXb
import Derived.Test.YtihodeaeacgdpaaReXa
namespace Go.Proofs
open Go.RowKit
set_option linter.unusedVariables false

/-! ### Times, in a row of the law's own -/
def u64s (U : List Int) : List Value := U.map (Value.int .u64)
theorem u64s_len (U : List Int) : (u64s U).length = U.length := by simp [u64s]
theorem u64s_at {U : List Int} {k : Nat} {x : Int} (h : U[k]? = some x) : (u64s U)[k]? = some (.int .u64 x) := by unfold u64s; rw [List.getElem?_map, h]; rfl
/-- The slice v is a row of its own, and reads as the numbers U. -/
def Un (w : World) (v : Value) (U : List Int) : Prop := Row w 23 1 v U.length (u64s U)
theorem Un.quiet {w w' : World} {v : Value} {U : List Int} (h : Un w v U) (hc : Chg [] w w') : Un w' v U := Row.chg h hc (fun _ _ hk => by cases hk)
theorem u_info : (Try.prog.info? 23).map (fun i => (i.zero, i.size, i.bytes)) = some (some (.int .u64 0), 1, 8) := by kernel_rfl
theorem run_append_u (w : World) (ty : TypeId) {v : Value} {U : List Int} {g : Nat} {x : Int} (hr : Un w v U) (hx : Blk w g 23 #[.int .u64 x]) (hb : U.length ≤ 100000) :
    ∃ A' c' w', (Builtin.append_ #[47, 47] ty #[v, .slice (some ⟨g, 0, none⟩) 1 1]).run Try.prog w = .ok (.slice A' (U.length + 1) c') w' ∧ Un w' (.slice A' (U.length + 1) c') (U ++ [x]) ∧ w.grownBy w' v.ownBlock ∧ (∀ k ∈ foot (.slice A' (U.length + 1) c'), k ∈ foot v ∨ w.heap.size ≤ k) := by
  obtain ⟨i0, hi0, hz0, hz1, hz2⟩ := info_parts u_info
  obtain ⟨gg, cap, w', q1, q2, q3, q4, q5⟩ := run_append_row (P := Try.prog) w 47 ty 23 i0 (.int .u64 0) 1 8 Try.underlying47 hi0 hz0 hz1 hz2 rfl v U.length (u64s U) hr ⟨g, 0, none⟩ 1 1 [.int .u64 x] rfl
    (fun j u hu => by
      match j, hu with
      | 0, hu =>
        simp at hu
        subst hu
        rw [addr_add, hx.cell]; rfl) (by intro u hu; simp at hu; subst hu; rfl) (by omega) (by unfold maxLen; omega) (by omega) w.heap.size rfl
  refine ⟨_, _, w', q1, ?_, q3, foot_grown q4 (fun k hk => hk)⟩
  unfold Un
  rw [List.length_append]
  have e : u64s (U ++ [x]) = u64s U ++ [.int .u64 x] := by simp [u64s]
  rw [e]
  exact q2
theorem wpList_append_u (w : World) {ops : Array Oper} {rest : List Oper} {o : Oper} {a : Act} {Q : Exit → Act → World → Prop} (hgd : o.guard = none) (s y : Operand)
    (ho : o.op = .call { callee := .builtin .append, args := #[s, y], argTypes := #[47, 47] })
    {v : Value} {U : List Int} {g N : Nat} {x : Int} (hs : a.eval s = v) (hy : a.eval y = .slice (some ⟨g, 0, none⟩) 1 1) (hr : Un w v U) (hx : Blk w g 23 #[.int .u64 x]) (hb : U.length ≤ 100000) (hN : N = U.length + 1)
    (h : ∀ A' c' w', Un w' (.slice A' N c') (U ++ [x]) → w.grownBy w' v.ownBlock → (∀ k ∈ foot (.slice A' N c'), k ∈ foot v ∨ w.heap.size ≤ k) → wpList Try.prog ops Q rest (a.put o.dst (.slice A' N c')) w') : wpList Try.prog ops Q (o :: rest) a w := by
  subst hN
  obtain ⟨A', c', w', h1, h2, h3, h4⟩ := run_append_u w o.type hr hx hb
  exact Lib.wpList_append_run w hgd s y 47 47 ho v _ hs hy _ w' h1 (h A' c' w' h2 h3 h4)
theorem Un.far {w : World} {v u : Value} {U : List Int} {X : List Rf} (h : Un w v U) (k : Rd w u X) : ∀ j ∈ foot u, j ∉ foot v := fun j hj hm => by
  rcases h.2 with ⟨rfl, _⟩ | ⟨g, cap, cur, rfl, hg, _⟩
  · cases hm
  · simp [foot_some] at hm
    subst hm
    exact Rs.ty k hg (by decide) hj
theorem Un.at_ {w : World} {A : Option Addr} {n c : Nat} {U : List Int} (h : Un w (.slice A n c) U) {k : Nat} {x : Int} (hk : U[k]? = some x) : ∃ g, A = some ⟨g, 0, none⟩ ∧ n = U.length ∧ w.cell? ⟨g, k, none⟩ = some (.int .u64 x) := by
  have hl := (List.getElem?_eq_some_iff.1 hk).1
  obtain ⟨g, cap, hv, _, _, hc, _, _⟩ := Row.form h (by omega)
  simp only [Value.slice.injEq] at hv
  obtain ⟨rfl, rfl, _⟩ := hv
  exact ⟨g, rfl, rfl, hc k _ (u64s_at hk)⟩
theorem Un.val {w : World} {v : Value} {U : List Int} (h : Un w v U) {n : Nat} (hn : U.length = n) : ∃ A c, v = .slice A n c := by
  obtain ⟨A, c, h1, _⟩ := Row.val h
  exact ⟨A, c, by rw [h1, hn]⟩
/-- How many of those that were used do not come back till a time. -/
def cntP (U : List Int) (per τ : Int) : Nat := U.countP (fun u => decide (τ < u + per))
theorem cntP_snoc (U : List Int) (u per τ : Int) : (cntP (U ++ [u]) per τ : Int) = cntP U per τ + (if τ < u + per then 1 else 0) := by
  unfold cntP
  rw [List.countP_append]
  by_cases h : τ < u + per
  · rw [if_pos h]; simp [h]
  · rw [if_neg h]; simp [h]
theorem cntP_tail {U : List Int} {per τ : Int} {q : Nat} (h : ∀ k u, q ≤ k → U[k]? = some u → τ < u + per) : U.length - q ≤ cntP U per τ := by
  have e : cntP U per τ = cntP (U.take q) per τ + cntP (U.drop q) per τ := by unfold cntP; rw [← List.countP_append, List.take_append_drop]
  have e2 : cntP (U.drop q) per τ = (U.drop q).length := by
    unfold cntP
    rw [List.countP_eq_length]
    intro u hu
    obtain ⟨j, hj, hje⟩ := List.mem_iff_getElem.1 hu
    rw [List.length_drop] at hj
    rw [List.getElem_drop] at hje
    have := h (q + j) u (by omega) (by rw [List.getElem?_eq_getElem (by omega), hje])
    simpa using this
  rw [e, e2, List.length_drop]
  omega
/-- What holds ahead of each time. -/
structure WInv (l : List Rf) (per most : Int) (k : Nat) (now : Int) (U : List Int) (X : List Rf) : Prop where
  ok : Ok X
  may : mayP X = true
  sum : sumP X = sumP l
  len : (X.length : Int) ≤ most
  now0 : 0 ≤ now
  now1 : now ≤ 1000 * (k : Int)
  used : U.length ≤ k
  past : ∀ u ∈ U, 0 ≤ u ∧ u ≤ now
  late : ∀ τ, now ≤ τ → (cntP U per τ : Int) ≤ lateP X τ
theorem WInv.start {l : List Rf} {per most : Int} (hk : Ok l) (hm : mayP l = true) (hl : (l.length : Int) ≤ most) : WInv l per most 0 0 [] l :=
  ⟨hk, hm, rfl, hl, Int.le_refl _, by simp, by simp, (fun u hu => by cases hu), fun τ _ => by simp [cntP]; exact (lateP_le hk τ).1⟩
theorem WInv.skip {l : List Rf} {per most now d : Int} {k : Nat} {U : List Int} {X : List Rf} (h : WInv l per most k now U X) (d0 : 0 ≤ d) (d1 : d ≤ 1000) : WInv l per most (k + 1) (now + d) U X :=
  ⟨h.ok, h.may, h.sum, h.len, by have := h.now0; omega, by have := h.now1; omega, by have := h.used; omega, fun u hu => by have := h.past u hu; omega, fun τ hτ => h.late τ (by omega)⟩
theorem WInv.use {l : List Rf} {per most now : Int} {k : Nat} {U : List Int} {X : List Rf} (h : WInv l per most (k + 1) now U X) (hU : U.length ≤ k) (hp : 0 ≤ per) (hc : canP X now per most) : WInv l per most (k + 1) now (U ++ [now]) (useP X now per most) := by
  obtain ⟨u1, u2, u3, u4, u5⟩ := use_facts h.ok h.now0 hp hc
  refine ⟨u1, u2, by rw [u3, h.sum], u4, h.now0, h.now1, by simp; omega, fun u hu => ?_, fun τ hτ => ?_⟩
  · rcases List.mem_append.1 hu with h1 | h1
    · exact h.past u h1
    · simp at h1; subst h1; exact ⟨h.now0, Int.le_refl _⟩
  · rw [cntP_snoc]
    have := h.late τ hτ
    have := u5 τ hτ
    omega
/-- No more in the window than all together. -/
theorem WInv.window {l : List Rf} {per most now : Int} {k q : Nat} {U : List Int} {X : List Rf} (h : WInv l per most k now U X) (ht : ∀ k u, q ≤ k → U[k]? = some u → now < u + per) : ((U.length - q : Nat) : Int) ≤ sumP l := by
  have h1 := cntP_tail ht
  have h2 := h.late now (Int.le_refl _)
  have h3 := (lateP_le h.ok now).2
  have h4 := h.sum
  omega
/-- In the midst: the times used, and the list, in memory. -/
def WMid (w wx : World) (V5 V7 : Value) (U : List Int) (X : List Rf) : Prop := Un wx V5 U ∧ (∀ k ∈ foot V5, w.heap.size ≤ k) ∧ Rd wx V7 X ∧ Chg [] w wx
theorem WMid.append {w wx w2 w3 : World} {V5 V5' V7 : Value} {U : List Int} {X X' : List Rf} {u : Int} (h : WMid w wx V5 V7 U X) {V8 : Value} (hm : Mine wx w2 V8 X') (hr : Un w3 V5' (U ++ [u])) (o : Obj) (hg : (w2.alloc o).grownBy w3 V5.ownBlock) (hf : ∀ k ∈ foot V5', k ∈ foot V5 ∨ (w2.alloc o).heap.size ≤ k) : WMid w w3 V5' V8 (U ++ [u]) X' := by
  obtain ⟨h1, h2, h3, h4⟩ := h
  have c2 : Chg [] w (w2.alloc o) := (h4.then hm.now).alloc o
  have hU2 := (h1.quiet hm.now).quiet ((Chg.refl [] w2).alloc o)
  have hr2 := hm.rd.quiet ((Chg.refl [] w2).alloc o)
  have c3 : Chg (foot V5) (w2.alloc o) w3 := (Chg.refl _ _).grown hg (fun k hk => .inl (row_mem hk))
  refine ⟨hr, fun k hk => ?_, hr2.chg c3 (hU2.far hr2), c2.trans c3 (fun k hk => .inr (h2 k hk))⟩
  rcases hf k hk with h5 | h5
  · exact h2 k h5
  · have := c2.size; omega
set_option maxHeartbeats 12800000 in
set_option maxRecDepth 100000 in
theorem window_any (v : Value) (l : List Rf) (per most : Int) (lv : Value) (later : List Int) (w : World) (h : In w v l) (hk : Ok l) (hper : U64 per) (hla : Nums w lv later) :
    Calls Try.prog 6 #[v, .int .u64 per, .int .i64 most, lv] w fun e w' => e = .returned (.bool true) ∧ Chg [] w w' := by
  obtain ⟨A, c, rfl, _⟩ := h.open_
  obtain ⟨AL, cL, rfl, hcl⟩ := hla
  obtain ⟨N, e1⟩ : ∃ N, N = l.length := ⟨_, rfl⟩
  obtain ⟨M, e2⟩ : ∃ M, M = later.length := ⟨_, rfl⟩
  have HH := Lib.hid h
  have HCL := Lib.hid hcl
  rw [← e1] at HH ⊢
  rw [← e2]
  have HE := Lib.hid e1.symm
  have HM := Lib.hid e2.symm
  have HK := Lib.hid hk
  clear h hcl hk e1 e2
  by_cases cA : (N : Int) > 20
  · have t1 : decide ((N : Int) > 20) = true := by simp; omega
    have t2 : decide (20 < (N : Int)) = true := by simp; omega
    clear cA
    go_enter Try.func6, Try.ntmps6
    go_wp2_with (first
      | (go_at_call 9; refine (known_any _).mono ?_; rintro e w9 ⟨rfl, h1⟩; have H9 := Lib.hid (h1); clear h1))
    go_ret
    exact ⟨rfl, H9.out⟩
  · have cAf1 : decide ((N : Int) > 20) = false := by simp; omega
    have cAf2 : decide (20 < (N : Int)) = false := by simp; omega
    have cA' := Lib.hid cA
    clear cA
    by_cases cB : (M : Int) > 300
    · have t1 : decide ((M : Int) > 300) = true := by simp; omega
      have t2 : decide (300 < (M : Int)) = true := by simp; omega
      clear cB
      go_enter Try.func6, Try.ntmps6
      go_wp2_with (first
        | (go_at_call 9; refine (known_any _).mono ?_; rintro e w9 ⟨rfl, h1⟩; have H9 := Lib.hid (h1); clear h1))
      go_ret
      exact ⟨rfl, H9.out⟩
    · have cBf1 : decide ((M : Int) > 300) = false := by simp; omega
      have cBf2 : decide (300 < (M : Int)) = false := by simp; omega
      have cB' := Lib.hid cB
      clear cB
      have hn : l.length ≤ 100000 := by have := cA'.out; have := HE.out; omega
      have HMY := Lib.hid (rmay_any HH.out HK.out hn)
      cases hm : mayP l with
      | false =>
        rw [hm] at HMY
        clear hm hn
        go_enter Try.func6, Try.ntmps6
        go_wp2_with (first
          | (go_at_call 16; refine HMY.out.mono ?_; rintro e w1 ⟨rfl, h1⟩; have H1 := Lib.hid h1; clear h1)
          | (go_at_call 9; refine (known_any _).mono ?_; rintro e w9 ⟨rfl, h1⟩; have H9 := Lib.hid (H1.out.then h1); clear h1))
        go_ret
        exact ⟨rfl, H9.out⟩
      | true =>
        rw [hm] at HMY
        have HMM := Lib.hid hm
        have HHN := Lib.hid hn
        clear hm hn
        by_cases cC : most < 1
        · have t1 : decide (most < 1) = true := by simpa using cC
          clear cC
          go_enter Try.func6, Try.ntmps6
          go_wp2_with (first
            | (go_at_call 16; refine HMY.out.mono ?_; rintro e w1 ⟨rfl, h1⟩; have H1 := Lib.hid h1; clear h1)
            | (go_at_call 9; refine (known_any _).mono ?_; rintro e w9 ⟨rfl, h1⟩; have H9 := Lib.hid (H1.out.then h1); clear h1))
          go_ret
          exact ⟨rfl, H9.out⟩
        · have cCf1 : decide (most < 1) = false := by simpa using cC
          have cC' := Lib.hid cC
          clear cC
          by_cases cD : (N : Int) > most
          · have t1 : decide ((N : Int) > most) = true := by simp; omega
            have t2 : decide (most < (N : Int)) = true := by simp; omega
            clear cD
            go_enter Try.func6, Try.ntmps6
            go_wp2_with (first
              | (go_at_call 16; refine HMY.out.mono ?_; rintro e w1 ⟨rfl, h1⟩; have H1 := Lib.hid h1; clear h1)
              | (go_at_call 9; refine (known_any _).mono ?_; rintro e w9 ⟨rfl, h1⟩; have H9 := Lib.hid (H1.out.then h1); clear h1))
            go_ret
            exact ⟨rfl, H9.out⟩
          · have cDf1 : decide ((N : Int) > most) = false := by simp; omega
            have cDf2 : decide (most < (N : Int)) = false := by simp; omega
            have cD' := Lib.hid cD
            clear cD
            by_cases cE : most > 60
            · have t1 : decide (most > 60) = true := by simp; omega
              have t2 : decide (60 < most) = true := by simp; omega
              clear cE
              go_enter Try.func6, Try.ntmps6
              go_wp2_with (first
                | (go_at_call 16; refine HMY.out.mono ?_; rintro e w1 ⟨rfl, h1⟩; have H1 := Lib.hid h1; clear h1)
                | (go_at_call 9; refine (known_any _).mono ?_; rintro e w9 ⟨rfl, h1⟩; have H9 := Lib.hid (H1.out.then h1); clear h1))
              go_ret
              exact ⟨rfl, H9.out⟩
            · have cEf1 : decide (most > 60) = false := by simp; omega
              have cEf2 : decide (60 < most) = false := by simp; omega
              have cE' := Lib.hid cE
              clear cE
              by_cases cF : per = 0
              · have t1 : (per == 0) = true := by simpa using cF
                clear cF
                go_enter Try.func6, Try.ntmps6
                go_wp2_with (first
                  | (go_at_call 16; refine HMY.out.mono ?_; rintro e w1 ⟨rfl, h1⟩; have H1 := Lib.hid h1; clear h1)
                  | (go_at_call 9; refine (known_any _).mono ?_; rintro e w9 ⟨rfl, h1⟩; have H9 := Lib.hid (H1.out.then h1); clear h1))
                go_ret
                exact ⟨rfl, H9.out⟩
              · have cFf1 : (per == 0) = false := by simpa using cF
                have cF' := Lib.hid cF
                clear cF
                by_cases cG : per > 1099511627776
                · have t1 : decide (per > 1099511627776) = true := by simp; omega
                  have t2 : decide (1099511627776 < per) = true := by simp; omega
                  clear cG
                  go_enter Try.func6, Try.ntmps6
                  go_wp2_with (first
                    | (go_at_call 16; refine HMY.out.mono ?_; rintro e w1 ⟨rfl, h1⟩; have H1 := Lib.hid h1; clear h1)
                    | (go_at_call 9; refine (known_any _).mono ?_; rintro e w9 ⟨rfl, h1⟩; have H9 := Lib.hid (H1.out.then h1); clear h1))
                  go_ret
                  exact ⟨rfl, H9.out⟩
                · have cGf1 : decide (per > 1099511627776) = false := by simp; omega
                  have cGf2 : decide (1099511627776 < per) = false := by simp; omega
                  have cG' := Lib.hid cG
                  clear cG
                  have hper0 := hper.1
                  have hm60 : most ≤ 60 := by have := cE'.out; omega
                  have hM : M ≤ 300 := by have := cB'.out; omega
                  have hp40 : per ≤ 1099511627776 := by have := cG'.out; omega
                  have HOW := Lib.hid (fun W (hW : Chg [] w W) => own_any (HH.out.quiet hW) HHN.out)
                  have HSU := Lib.hid (fun W (hW : Chg [] w W) => rsum_any (HH.out.quiet hW) HK.out HHN.out)
                  obtain ⟨s1, s2⟩ := sum_all (mayP_iff.1 HMM.out).1
                  rw [s1, s2] at HSU
                  have HW0 := Lib.hid (WInv.start (per := per) (most := most) HK.out HMM.out (by have := cD'.out; have := HE.out; omega))
                  obtain ⟨S, hS⟩ : ∃ S, S = sumP l := ⟨_, rfl⟩
                  have HS := Lib.hid hS
                  rw [← hS] at HSU
                  have HCH := Lib.hid (fun W V X now (hX : Ok X) (hl : (X.length : Int) ≤ most) (hV : Rd W V X) (hn : U64 now) => charge_any (now := now) (per := per) (most := most) hV hX (by omega) hn hper)
                  have HTH := Lib.hid (fun W V X now (hX : Ok X) (hl : (X.length : Int) ≤ most) (hV : In W V X) => rthere_any hV hX (by omega) now)
                  have HMX := Lib.hid (fun W V X (hX : Ok X) (hl : (X.length : Int) ≤ most) (hV : In W V X) => rmay_any hV hX (by omega))
                  have HCAN := Lib.hid (show ∀ X now k U, WInv l per most (k + 1) now U X → k < M → (canP X now per most ↔ 1 ≤ thereP X now) from fun X now k U hI hkM => ⟨fun hc => hc.2.2.2.2, fun ht => ⟨by unfold holdsP; have := hI.len; have := cC'.out; simp; omega, cF'.out, by have := hI.now1; omega, hI.may, ht⟩⟩)
                  clear s1 s2 hS
                  go_enter Try.func6, Try.ntmps6
                  go_wp2_with (first
                    | (go_at_call 16; refine HMY.out.mono ?_; rintro e w1 ⟨rfl, h1⟩; have H1 := Lib.hid h1; clear h1)
                    | (go_at_call 12; refine (HSU.out _ H1.out).mono ?_; rintro e w2 ⟨rfl, rfl⟩)
                    | (go_at_call 10; refine (HOW.out _ H1.out).mono ?_; rintro e w3 ⟨v3, rfl, h1⟩; have H3 := Lib.hid (show WMid w w3 (.slice none 0 0) v3 [] l from ⟨Row.nil _ _ _, (fun k hk => by cases hk), h1.rd, H1.out.then h1.2.2⟩); clear h1))
                  go_loopg [11, 12, 13, 14] M (fun gh s11 s12 s13 i wx => ∃ (k : Nat) (now : Int) (U : List Int) (X : List Rf), k + gh = M ∧ i = .int .i64 k ∧ s12 = .int .u64 now ∧ Hid (WMid w wx s11 s13 U X ∧ WInv l per most k now U X))
                  case atStart => exact ⟨0, 0, [], l, by omega, rfl, rfl, Lib.hid ⟨H3.out, HW0.out⟩⟩
                  case round =>
                    obtain ⟨k, now, U, X, hk, rfl, rfl, HR⟩ := hrel
                    by_cases hlt : k < M
                    · have k0 : (0 : Int) ≤ (k : Int) := by omega
                      have k1 : (k : Int) < (M : Int) := by omega
                      obtain ⟨y, hy⟩ : ∃ y, later[k]? = some y := ⟨_, List.getElem?_eq_getElem (by rw [HM.out]; exact hlt)⟩
                      obtain ⟨b, o, rfl, lb, y0, y1, p0⟩ := HCL.out k y hy
                      have x0 := (HR.out.1.2.2.2.cell (p := ⟨b, o + k, none⟩) lb (by simp)).trans p0
                      have n0 := HR.out.2.now0
                      have n1 := HR.out.2.now1
                      obtain ⟨nw, hnw⟩ : ∃ nw, nw = now + y % 1001 := ⟨_, rfl⟩
                      have hsk := HR.out.2.skip (d := y % 1001) (by omega) (by omega)
                      rw [← hnw] at hsk
                      have w0 : IntKind.u64.wrap (now + y % 1001) = now + y % 1001 := by rw [IntKind.wrap_u64]; omega
                      have hnwb := hsk.now1
                      have hnw0 := hsk.now0
                      have hx7 := hsk.len
                      have HQ := Lib.hid hsk
                      have hcan := HCAN.out X nw k U hsk hlt
                      have hch := HCH.out wr u13 X nw hsk.ok hsk.len HR.out.1.2.2.1 ⟨hnw0, by omega⟩
                      have HTI := Lib.hid (fun W (hW : Chg [] wr W) => HTH.out W u13 X nw HQ.out.ok HQ.out.len (HR.out.1.2.2.1.quiet hW).inn)
                      obtain ⟨T, hT⟩ : ∃ T, T = thereP X nw := ⟨_, rfl⟩
                      rw [← hT] at HTI
                      have HNW := Lib.hid hnw
                      by_cases ht : 1 ≤ T
                      · have hc := hcan.2 (by omega)
                        rw [chargeP_yes hc, hnw] at hch
                        rw [hnw] at HTI
                        have q0 : decide (T > 0) = true := by simp; omega
                        have q0' : decide (0 < T) = true := by simp; omega
                        have HU := Lib.hid (HQ.out.use (by have := HR.out.2.used; omega) hper0 hc)
                        obtain ⟨X', hX'⟩ : ∃ X', X' = useP X nw per most := ⟨_, rfl⟩
                        rw [← hX'] at HU
                        rw [← hnw, ← hX', hnw] at hch
                        obtain ⟨n8, hn8⟩ : ∃ n, n = X'.length := ⟨_, rfl⟩
                        have HN8 := Lib.hid hn8.symm
                        have q1 : decide ((n8 : Int) > most) = false := by have := HU.out.len; simp; omega
                        have q1' : decide (most < (n8 : Int)) = false := by have := HU.out.len; simp; omega
                        obtain ⟨m, hm9⟩ : ∃ m, m = U.length + 1 := ⟨_, rfl⟩
                        have HM9 := Lib.hid hm9
                        have hmk : m ≤ k + 1 := by have := HU.out.used; simp at this; omega
                        have HUB := Lib.hid (show U.length ≤ 100000 by omega)
                        have q2 : IntKind.i64.wrap ((m : Int) - 1) = (m : Int) - 1 := by rw [IntWalk.i64_in _ (by omega)]
                        have HPAST := Lib.hid (fun j u (hj : (U ++ [nw])[j]? = some u) => HU.out.past u (List.mem_of_getElem? hj))
                        clear hsk hcan hT ht hc hX' hn8 hm9 hnw
                        go_wp2_with (first
                          | (go_at_call 23; refine hch.mono ?_; rintro e w2 ⟨v8, rfl, h1⟩; obtain ⟨A8, c8, rfl⟩ := h1.rd.val HN8.out; have H2 := Lib.hid h1; clear h1)
                          | (go_at_call 18; refine (HTI.out _ H2.out.now).mono ?_; rintro e w3 ⟨rfl, rfl⟩)
                          | (at_builtin; refine wpList_append_u (U := U) (x := now + y % 1001) (N := m) _ rfl _ _ rfl (by rfl) (by rfl) ((HR.out.1.1.quiet H2.out.now).quiet ((Chg.refl [] w2).alloc (.cells #[.int .u64 (now + y % 1001)] 23))) (Blk.new _ 23 _) HUB.out HM9.out ?_; intro A5 c5 w4 hr hg hf; rw [← HNW.out] at hr; have H4 := Lib.hid (HR.out.1.append H2.out hr _ hg hf); clear hr hg hf)
                          | (go_at_call 16; refine (HMX.out _ _ X' HU.out.ok HU.out.len H4.out.2.2.1.inn).mono ?_; rw [HU.out.may]; rintro e w5 ⟨rfl, h1⟩; have H5 := Lib.hid h1; have HUN := Lib.hid (H4.out.1.quiet h1); clear h1))
                        have HDONE := Lib.hid (show WMid w w5 (.slice A5 m c5) (.slice A8 n8 c8) (U ++ [nw]) X' from ⟨HUN.out, H4.out.2.1, H4.out.2.2.1.quiet H5.out, H4.out.2.2.2.then H5.out⟩)
                        go_loopg [17, 18] m (fun gq s17 s18 wy => ∃ q : Nat, q = gq ∧ s17 = .int .u64 ((m - q : Nat) : Int) ∧ s18 = .int .i64 ((q : Int) - 1) ∧ wy = w5 ∧ Hid (q ≤ m ∧ ∀ j u, q ≤ j → (U ++ [nw])[j]? = some u → nw < u + per))
                        case atStart => exact ⟨m, rfl, by simp, rfl, rfl, Lib.hid ⟨Nat.le_refl _, fun j u hj hu => by have h1 := (List.getElem?_eq_some_iff.1 hu).1; have h2 := HM9.out; simp at h1; omega⟩⟩
                        case round =>
                          obtain ⟨q, rfl, rfl, rfl, rfl, HIN⟩ := hrel
                          have hwin := HU.out.window HIN.out.2
                          rw [show (U ++ [nw]).length = m by have := HM9.out; simp; omega, ← HS.out] at hwin
                          have z0 : decide (((m - q : Nat) : Int) > S) = false := by simp; omega
                          have z0' : decide (S < ((m - q : Nat) : Int)) = false := by simp; omega
                          clear hwin
                          cases q with
                          | zero =>
                            have zz : decide ((m : Int) > S) = false := by simpa using z0
                            have zz' : decide (S < (m : Int)) = false := by simpa using z0'
                            rw [Nat.sub_zero] at z0 z0'
                            have z1 : decide (((0 : Nat) : Int) - 1 ≥ 0) = false := by decide
                            have z2 : decide ((-1 : Int) ≥ 0) = false := by decide
                            have z3 : decide ((0 : Int) ≤ -1) = false := by decide
                            go_wp2
                            go_roundg (M - k - 1)
                            case measure => omega
                            case rel => exact ⟨k + 1, nw, U ++ [nw], X', by omega, by go_num, by rw [HNW.out], Lib.hid ⟨HDONE.out, HU.out⟩⟩
                          | succ p =>
                            rw [show (((p + 1 : Nat) : Int) - 1) = (p : Int) by omega]
                            have hpm : p < m := by have := HIN.out.1; omega
                            obtain ⟨u, hu⟩ : ∃ u, (U ++ [nw])[p]? = some u := ⟨_, List.getElem?_eq_getElem (by have := HM9.out; simp; omega)⟩
                            obtain ⟨g, rfl, hz9, z4⟩ := HUN.out.at_ hu
                            clear hz9
                            obtain ⟨u0, u1⟩ := HPAST.out p u hu
                            have z5 : IntKind.u64.wrap (now + y % 1001 - u) = now + y % 1001 - u := by rw [IntKind.wrap_u64]; have := HNW.out; omega
                            have z6 : (0 : Int) ≤ (p : Int) := by omega
                            have z7 : (p : Int) < (m : Int) := by omega
                            have z8 : decide ((p : Int) ≥ 0) = true := by simp
                            have z9 : decide ((0 : Int) ≤ (p : Int)) = true := by simp
                            by_cases hlp : now + y % 1001 - u < per
                            · have g9 : decide (now + y % 1001 - u < per) = true := by simpa using hlp
                              have zA : IntKind.u64.wrap (((m - (p + 1) : Nat) : Int) + 1) = ((m - p : Nat) : Int) := by rw [IntKind.wrap_u64]; omega
                              have zB : IntKind.i64.wrap ((p : Int) - 1) = (p : Int) - 1 := by rw [IntWalk.i64_in _ (by omega)]
                              have HIN2 := Lib.hid (show p ≤ m ∧ ∀ j u, p ≤ j → (U ++ [nw])[j]? = some u → nw < u + per from ⟨by omega, fun j u' hj hu' => by
                                by_cases e : j = p
                                · subst e
                                  rw [hu] at hu'
                                  cases hu'
                                  have := HNW.out
                                  omega
                                · exact HIN.out.2 j u' (by omega) hu'⟩)
                              clear hu hlp z0 z0' hpm u0 u1
                              go_wp2
                              go_roundg p
                              case measure => omega
                              case rel => exact ⟨p, rfl, rfl, rfl, rfl, Lib.hid HIN2.out⟩
                            · have g9 : decide (now + y % 1001 - u < per) = false := by simpa using hlp
                              clear hu hlp hpm u0 u1
                              go_wp2
                              go_roundg (M - k - 1)
                              case measure => omega
                              case rel => exact ⟨k + 1, nw, U ++ [nw], X', by omega, by go_num, by rw [HNW.out], Lib.hid ⟨HDONE.out, HU.out⟩⟩
                      · have hc : ¬ canP X nw per most := fun c => ht (by have := hcan.1 c; omega)
                        rw [chargeP_no hc, hnw] at hch
                        rw [hnw] at HTI
                        have q0 : decide (T > 0) = false := by simp; omega
                        have q0' : decide (0 < T) = false := by simp; omega
                        clear hsk hcan hT ht hc hnw
                        go_wp2_with (first
                          | (go_at_call 23; refine hch.mono ?_; rintro e w2 ⟨v8, rfl, h1⟩; obtain ⟨A8, c8, rfl⟩ := h1.rd.val (n := 0) rfl; have H2 := Lib.hid h1; clear h1)
                          | (go_at_call 18; refine (HTI.out _ H2.out.now).mono ?_; rintro e w3 ⟨rfl, rfl⟩))
                        go_roundg (M - k - 1)
                        case measure => omega
                        case rel => exact ⟨k + 1, nw, U, X, by omega, by go_num, by rw [HNW.out], Lib.hid ⟨⟨HR.out.1.1.quiet H2.out.now, HR.out.1.2.1, HR.out.1.2.2.1.quiet H2.out.now, HR.out.1.2.2.2.then H2.out.now⟩, HQ.out⟩⟩
                    · obtain rfl : k = M := by omega
                      go_wp2_with (go_at_call 9; refine (known_any _).mono ?_; rintro e w9 ⟨rfl, h1⟩; have H9 := Lib.hid h1; clear h1)
                      go_ret
                      exact ⟨rfl, HR.out.1.2.2.2.then H9.out⟩
end Go.Proofs
