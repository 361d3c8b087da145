import Derived.Test.YtihodeaeacgdpaaReXd
namespace Go.Proofs
open Go.RowKit
set_option linter.unusedVariables false

/-! ### What comes next -/
def nextK (l : List Rf) (now : Int) : Nat → Int × Bool
  | 0 => (0, false)
  | k + 1 => if now < ((l[k]?).getD (0, 0)).2 ∧ ((nextK l now k).2 = false ∨ ((l[k]?).getD (0, 0)).2 < (nextK l now k).1) then (((l[k]?).getD (0, 0)).2, true) else nextK l now k
def nextP (l : List Rf) (now : Int) : Int × Bool := nextK l now l.length
/-- The least of these times that is above now, or that there is none. -/
def IsNext (L : List Int) (now : Int) (p : Int × Bool) : Prop :=
  (p = (0, false) ∧ ∀ t ∈ L, t ≤ now) ∨ (p.2 = true ∧ p.1 ∈ L ∧ now < p.1 ∧ ∀ t ∈ L, now < t → p.1 ≤ t)
theorem IsNext.uniq {L : List Int} {now : Int} {p q : Int × Bool} (h : IsNext L now p) (k : IsNext L now q) : p = q := by
  rcases h with ⟨h1, h2⟩ | ⟨h1, h2, h3, h4⟩
  · rcases k with ⟨k1, _⟩ | ⟨_, k2, k3, _⟩
    · rw [h1, k1]
    · have := h2 _ k2; omega
  · rcases k with ⟨_, k2⟩ | ⟨k1, k2, k3, k4⟩
    · have := k2 _ h2; omega
    · have e1 := h4 _ k2 k3
      have e2 := k4 _ h2 h3
      exact Prod.ext (by omega) (by rw [h1, k1])
theorem IsNext.perm {L M : List Int} {now : Int} {p : Int × Bool} (h : IsNext L now p) (hp : L.Perm M) : IsNext M now p := by
  rcases h with ⟨h1, h2⟩ | ⟨h1, h2, h3, h4⟩
  · exact .inl ⟨h1, fun t ht => h2 t (hp.mem_iff.2 ht)⟩
  · exact .inr ⟨h1, hp.mem_iff.1 h2, h3, fun t ht => h4 t (hp.mem_iff.2 ht)⟩
theorem nextK_is (l : List Rf) (now : Int) : ∀ k, k ≤ l.length → IsNext ((l.take k).map (·.2)) now (nextK l now k)
  | 0, _ => .inl ⟨rfl, fun t ht => by simp at ht⟩
  | k + 1, hk => by
    have ih := nextK_is l now k (by omega)
    obtain ⟨x, hx⟩ : ∃ x, l[k]? = some x := ⟨_, List.getElem?_eq_getElem (by omega)⟩
    rw [take_snoc hx, List.map_append]
    unfold nextK
    rw [hx]
    simp only [Option.getD_some, List.map_cons, List.map_nil]
    by_cases h : now < x.2 ∧ ((nextK l now k).2 = false ∨ x.2 < (nextK l now k).1)
    · rw [if_pos h]
      refine .inr ⟨rfl, by simp, h.1, fun t ht hn => ?_⟩
      rcases List.mem_append.1 ht with h1 | h1
      · rcases ih with ⟨i1, i2⟩ | ⟨i1, i2, i3, i4⟩
        · have := i2 t h1; omega
        · rcases h.2 with h2 | h2
          · rw [i1] at h2; cases h2
          · have := i4 t h1 hn; simp only; omega
      · simp at h1; subst h1; exact Int.le_refl _
    · rw [if_neg h]
      rcases ih with ⟨i1, i2⟩ | ⟨i1, i2, i3, i4⟩
      · refine .inl ⟨i1, fun t ht => ?_⟩
        rcases List.mem_append.1 ht with h1 | h1
        · exact i2 t h1
        · simp at h1; subst h1
          refine Int.not_lt.1 (fun hc => h ⟨hc, .inl (by rw [i1])⟩)
      · refine .inr ⟨i1, List.mem_append.2 (.inl i2), i3, fun t ht hn => ?_⟩
        rcases List.mem_append.1 ht with h1 | h1
        · exact i4 t h1 hn
        · simp at h1; subst h1
          exact Int.not_lt.1 (fun hc => h ⟨hn, .inr hc⟩)
theorem nextP_is (l : List Rf) (now : Int) : IsNext (l.map (·.2)) now (nextP l now) := by
  have := nextK_is l now l.length (Nat.le_refl _)
  rwa [List.take_length] at this
set_option maxHeartbeats 3200000 in
set_option maxRecDepth 100000 in
/-- The document's Next. -/
theorem rnext_any {w : World} {v : Value} {l : List Rf} (h : In w v l) (hn : l.length ≤ 100000) (now : Int) :
    Calls Try.prog 14 #[v, .int .u64 now] w fun e w' => e = .returned (.tuple #[.int .u64 (nextP l now).1, .bool (nextP l now).2]) ∧ Chg [] w w' := by
  obtain ⟨A, c, rfl, _, _, _, hcell⟩ := h.open_
  obtain ⟨n, e1⟩ : ∃ n, n = l.length := ⟨_, rfl⟩
  have HP := Lib.hid (show nextP l now = nextK l now n by rw [e1]; rfl)
  rw [← e1] at hn ⊢
  have HN := Lib.hid e1
  have HC := Lib.hid hcell
  clear h e1 hcell
  go_enter Try.func14, Try.ntmps14
  go_wp2
  go_loopg [6, 7, 8] n (fun gh s f i wx => ∃ k : Nat, k + gh = n ∧ i = .int .i64 k ∧ s = .int .u64 (nextK l now k).1 ∧ f = .bool (nextK l now k).2 ∧ Hid (Chg [] w wx))
  case atStart => exact ⟨0, by omega, rfl, rfl, rfl, Lib.hid (Chg.refl _ _)⟩
  case round =>
    obtain ⟨k, hk, rfl, rfl, rfl, HR⟩ := hrel
    by_cases hlt : k < n
    · have k0 : (0 : Int) ≤ (k : Int) := by omega
      have k1 : (k : Int) < (n : Int) := by omega
      obtain ⟨x, hx⟩ : ∃ x, l[k]? = some x := ⟨_, List.getElem?_eq_getElem (by rw [← HN.out]; exact hlt)⟩
      obtain ⟨b, o, rfl, lb, p0, p1⟩ := HC.out k x hx
      have x1 := (HR.out.cell (p := ⟨b, o + k * 2 + 1, none⟩) lb (by simp)).trans p1
      have hnext : nextK l now (k + 1) = if now < x.2 ∧ ((nextK l now k).2 = false ∨ x.2 < (nextK l now k).1) then (x.2, true) else nextK l now k := by
        rw [nextK, hx]; rfl
      obtain ⟨⟨S, F⟩, hSF⟩ : ∃ p, p = nextK l now k := ⟨_, rfl⟩
      rw [← hSF] at hnext ⊢
      obtain ⟨xa, xt⟩ := x
      simp only at x1 hnext ⊢
      by_cases h1 : now < xt
      · have g1 : decide (xt > now) = true := by simpa using h1
        have g1' : decide (now < xt) = true := by simpa using h1
        cases F with
        | false =>
          have HX := Lib.hid (show nextK l now (k + 1) = (xt, true) by rw [hnext, if_pos ⟨h1, .inl rfl⟩])
          clear hx p0 p1 hnext hSF h1
          go_wp2
          go_roundg (n - k - 1)
          case measure => omega
          case rel => exact ⟨k + 1, by omega, by go_num, by rw [HX.out], by rw [HX.out], Lib.hid HR.out⟩
        | true =>
          by_cases h2 : xt < S
          · have g2 : decide (xt < S) = true := by simpa using h2
            have HX := Lib.hid (show nextK l now (k + 1) = (xt, true) by rw [hnext, if_pos ⟨h1, .inr h2⟩])
            clear hx p0 p1 hnext hSF h1 h2
            go_wp2
            go_roundg (n - k - 1)
            case measure => omega
            case rel => exact ⟨k + 1, by omega, by go_num, by rw [HX.out], by rw [HX.out], Lib.hid HR.out⟩
          · have g2 : decide (xt < S) = false := by simpa using h2
            have HX := Lib.hid (show nextK l now (k + 1) = (S, true) by rw [hnext, if_neg (fun c => by rcases c.2 with c | c; cases c; exact h2 c)])
            clear hx p0 p1 hnext hSF h1 h2
            go_wp2
            go_roundg (n - k - 1)
            case measure => omega
            case rel => exact ⟨k + 1, by omega, by go_num, by rw [HX.out], by rw [HX.out], Lib.hid HR.out⟩
      · have g1 : decide (xt > now) = false := by simpa using h1
        have g1' : decide (now < xt) = false := by simpa using h1
        have HX := Lib.hid (show nextK l now (k + 1) = (S, F) by rw [hnext, if_neg (fun c => h1 c.1)])
        clear hx p0 p1 hnext hSF h1
        go_wp2
        go_roundg (n - k - 1)
        case measure => omega
        case rel => exact ⟨k + 1, by omega, by go_num, by rw [HX.out], by rw [HX.out], Lib.hid HR.out⟩
    · obtain rfl : k = n := by omega
      obtain ⟨S, hS⟩ : ∃ p, p = (nextK l now k).1 := ⟨_, rfl⟩
      obtain ⟨F, hF⟩ : ∃ p, p = (nextK l now k).2 := ⟨_, rfl⟩
      have HS := Lib.hid hS
      have HF := Lib.hid hF
      rw [← hS, ← hF]
      clear hS hF
      go_wp2
      go_ret2
      exact ⟨by rw [HP.out, ← HS.out, ← HF.out]; rfl, HR.out⟩
/-- The closure of Next. -/
theorem later_step {w : World} {bN : Nat} {now : Int} (hN : Blk w bN 23 #[.int .u64 now]) (y : Int) :
    Calls Try.prog 33 #[.int .u64 y, .pointer (some ⟨bN, 0, none⟩)] w fun e w' => e = .returned (.bool (decide (now < y))) ∧ w = w' := by
  have c0 := hN.cell 0
  have ln := hN.lt
  clear hN
  go_enter Try.func33, Try.ntmps33
  go_wp2
  go_ret
  exact ⟨rfl, rfl⟩
def firstU (U : List Int) (now : Int) : Nat := U.findIdx (fun t => decide (now < t))
theorem firstU_at {U : List Int} {now : Int} {k : Nat} {x : Int} (h : ∀ j y, j < k → U[j]? = some y → y ≤ now) (hk : U[k]? = some x) (hx : now < x) : firstU U now = k := by
  have hl := (List.getElem?_eq_some_iff.1 hk).1
  have hxx := (List.getElem?_eq_some_iff.1 hk).2
  unfold firstU
  rw [List.findIdx_eq hl]
  refine ⟨by rw [hxx]; simpa using hx, fun j hj => ?_⟩
  have := h j _ hj (List.getElem?_eq_getElem (by omega))
  simpa using this
theorem firstU_none {U : List Int} {now : Int} (h : ∀ j y, j < U.length → U[j]? = some y → y ≤ now) : firstU U now = U.length := by
  unfold firstU
  rw [List.findIdx_eq_length]
  intro x hx
  obtain ⟨j, hj, hje⟩ := List.mem_iff_getElem.1 hx
  have := h j x hj (by rw [List.getElem?_eq_getElem hj, hje])
  simpa using this
set_option maxHeartbeats 3200000 in
set_option maxRecDepth 100000 in
theorem first_later {w : World} {v : Value} {U : List Int} {bN : Nat} {now : Int} (h : Un w v U) (hB : Blk w bN 23 #[.int .u64 now]) (hn : U.length ≤ 100000) :
    Calls Try.prog 32 #[v, .func (.func 33) #[] #[.pointer (some ⟨bN, 0, none⟩)]] w fun e w' => e = .returned (.int .i64 (firstU U now : Nat)) ∧ Chg [] w w' := by
  obtain ⟨A, c, rfl⟩ := h.val rfl
  obtain ⟨n, e1⟩ : ∃ n, n = U.length := ⟨_, rfl⟩
  have HU := Lib.hid h
  rw [← e1] at hn HU ⊢
  have HN := Lib.hid e1
  have HB := Lib.hid hB
  clear h e1 hB
  go_enter Try.func32, Try.ntmps32
  go_wp2
  go_loopg [9] n (fun gh i wx => ∃ k : Nat, k + gh = n ∧ i = .int .i64 k ∧ Hid (Chg [] w wx ∧ ∀ j (y : Int), j < k → U[j]? = some y → y ≤ now))
  case atStart => exact ⟨0, by omega, rfl, Lib.hid ⟨Chg.refl _ _, fun j y hj => by omega⟩⟩
  case round =>
    obtain ⟨k, hk, rfl, HR⟩ := hrel
    by_cases hlt : k < n
    · have k0 : (0 : Int) ≤ (k : Int) := by omega
      have k1 : (k : Int) < (n : Int) := by omega
      obtain ⟨x, hx⟩ : ∃ x, U[k]? = some x := ⟨_, List.getElem?_eq_getElem (by rw [← HN.out]; exact hlt)⟩
      obtain ⟨g, rfl, hz9, x0⟩ := (HU.out.quiet HR.out.1).at_ hx
      clear hz9
      have HX := Lib.hid hx
      have hstep := later_step (HB.out.chg HR.out.1 (by simp)) x
      by_cases hbd : now < x
      · rw [show decide (now < x) = true by simpa using hbd] at hstep
        have HZ := Lib.hid (firstU_at HR.out.2 HX.out hbd)
        clear hx hbd
        go_wp2_with (go_at_call 33; refine hstep.mono ?_; rintro e w1 ⟨rfl, rfl⟩)
        go_ret
        exact ⟨by rw [HZ.out]; rfl, HR.out.1⟩
      · rw [show decide (now < x) = false by simpa using hbd] at hstep
        have HZ := Lib.hid (show ∀ j (y : Int), j < k + 1 → U[j]? = some y → y ≤ now from fun j y hj hy => by
          by_cases e : j = k
          · subst e
            rw [HX.out] at hy
            cases hy
            omega
          · exact HR.out.2 j y (by omega) hy)
        clear hx hbd
        go_wp2_with (go_at_call 33; refine hstep.mono ?_; rintro e w1 ⟨rfl, rfl⟩)
        go_roundg (n - k - 1)
        case measure => omega
        case rel => exact ⟨k + 1, by omega, by go_num, Lib.hid ⟨HR.out.1, HZ.out⟩⟩
    · obtain rfl : k = n := by omega
      have HZ := Lib.hid (show firstU U now = k by rw [HN.out]; exact firstU_none (by rw [← HN.out]; exact HR.out.2))
      go_wp2
      go_ret
      exact ⟨by rw [HZ.out]; rfl, HR.out.1⟩
/-- What slices.Sort does to rows of at most N numbers. -/
def Sorts (N : Nat) : Prop := ∀ (w : World) (v : Value) (U : List Int), Un w v U → U.length ≤ N →
  Calls Try.prog 31 #[v] w fun e w' => e = .returned (.tuple #[]) ∧ ∃ U', Un w' v U' ∧ U'.Perm U ∧ U'.Pairwise (fun x y => x ≤ y) ∧ Chg (foot v) w w'
theorem firstU_next {U : List Int} {now : Int} (hs : U.Pairwise (fun x y => x ≤ y)) :
    (firstU U now = U.length ∧ IsNext U now (0, false)) ∨ ∃ x, U[firstU U now]? = some x ∧ firstU U now < U.length ∧ IsNext U now (x, true) := by
  by_cases h : firstU U now < U.length
  · right
    have h' : U.findIdx (fun t => decide (now < t)) < U.length := h
    have h2 := List.findIdx_getElem (w := h')
    obtain ⟨x, hx⟩ : ∃ x, U[firstU U now]? = some x := ⟨_, List.getElem?_eq_getElem h⟩
    obtain ⟨hl, hxe⟩ := List.getElem?_eq_some_iff.1 hx
    have hxn : now < x := by
      have h3 : U[U.findIdx (fun t => decide (now < t))] = x := hxe
      have h4 : decide (now < U[U.findIdx (fun t => decide (now < t))]) = true := h2
      rw [h3] at h4
      simpa using h4
    refine ⟨x, hx, h, .inr ⟨rfl, List.mem_of_getElem? hx, hxn, fun t ht hn => ?_⟩⟩
    obtain ⟨j, hj, hje⟩ := List.mem_iff_getElem.1 ht
    have h3 : firstU U now ≤ j := by
      refine Nat.le_of_not_lt (fun hc => ?_)
      have h4 := List.not_of_lt_findIdx (xs := U) (p := fun t => decide (now < t)) (i := j) hc
      rw [hje] at h4
      simp at h4
      omega
    show x ≤ t
    by_cases e : firstU U now = j
    · have h5 : U[j]? = some x := by rw [← e]; exact hx
      rw [List.getElem?_eq_getElem hj, hje] at h5
      cases h5
      exact Int.le_refl _
    · have := List.pairwise_iff_getElem.1 hs _ _ h hj (by omega)
      rw [hje, hxe] at this
      exact this
  · left
    have h1 : firstU U now = U.length := by have : firstU U now ≤ U.length := List.findIdx_le_length; omega
    refine ⟨h1, .inl ⟨rfl, fun t ht => ?_⟩⟩
    unfold firstU at h1
    rw [List.findIdx_eq_length] at h1
    have := h1 t ht
    simpa using this
set_option maxHeartbeats 3200000 in
set_option maxRecDepth 100000 in
/-- What comes next, given what slices.Sort does. -/
theorem next_any {N : Nat} (hS : Sorts N) {w : World} {v : Value} {l : List Rf} (h : Rd w v l) (hn : l.length ≤ N) (hN : l.length ≤ 100000) (now : Int) :
    Calls Try.prog 13 #[v, .int .u64 now] w fun e w' => e = .returned (.tuple #[.int .u64 (nextP l now).1, .bool (nextP l now).2]) ∧ Chg [] w w' := by
  have hnx := nextP_is l now
  obtain ⟨P1, hP1⟩ : ∃ p, p = (nextP l now).1 := ⟨_, rfl⟩
  obtain ⟨P2, hP2⟩ : ∃ p, p = (nextP l now).2 := ⟨_, rfl⟩
  have HIS := Lib.hid (show IsNext (l.map (·.2)) now (P1, P2) by rw [hP1, hP2]; exact hnx)
  rw [← hP1, ← hP2]
  obtain ⟨A, c, rfl, _, _, _, hcell⟩ := h.open_
  obtain ⟨n, e1⟩ : ∃ n, n = l.length := ⟨_, rfl⟩
  rw [← e1] at hn hN ⊢
  have HL := Lib.hid e1
  have HC := Lib.hid hcell
  have HSN := Lib.hid hn
  have hB0 : Blk (w.alloc (.cells #[.int .u64 now] 23)) w.heap.size 23 #[.int .u64 now] := Blk.new _ _ _
  have HI0 := Lib.hid (show Un (w.alloc (.cells #[.int .u64 now] 23)) (.slice none 0 0) [] ∧ (∀ k ∈ foot (.slice none 0 0), w.heap.size < k) ∧ Blk (w.alloc (.cells #[.int .u64 now] 23)) w.heap.size 23 #[.int .u64 now] ∧ Chg [] w (w.alloc (.cells #[.int .u64 now] 23)) from ⟨Row.nil _ _ _, (fun k hk => by cases hk), hB0, (Chg.refl _ _).alloc _⟩)
  clear h e1 hcell hnx hP1 hP2 hn hB0
  go_enter Try.func13, Try.ntmps13
  go_wp2
  go_loopg [6, 12] n (fun gh s i wx => ∃ k : Nat, k + gh = n ∧ i = .int .i64 k ∧ Hid (Un wx s ((l.take k).map (·.2)) ∧ (∀ j ∈ foot s, w.heap.size < j) ∧ Blk wx w.heap.size 23 #[.int .u64 now] ∧ Chg [] w wx))
  case atStart => exact ⟨0, by omega, rfl, Lib.hid HI0.out⟩
  case round =>
    obtain ⟨k, hk, rfl, HR⟩ := hrel
    by_cases hlt : k < n
    · have k0 : (0 : Int) ≤ (k : Int) := by omega
      have k1 : (k : Int) < (n : Int) := by omega
      obtain ⟨x, hx⟩ : ∃ x, l[k]? = some x := ⟨_, List.getElem?_eq_getElem (by rw [← HL.out]; exact hlt)⟩
      obtain ⟨b, o, rfl, lb, p0, p1⟩ := HC.out k x hx
      have hc := HR.out.2.2.2
      have x0 := (hc.cell (p := ⟨b, o + k * 2, none⟩) lb (by simp)).trans p0
      have x1 := (hc.cell (p := ⟨b, o + k * 2 + 1, none⟩) lb (by simp)).trans p1
      have HX := Lib.hid (show ((l.take (k + 1)).map (·.2)) = ((l.take k).map (·.2)) ++ [x.2] by rw [take_snoc hx, List.map_append]; rfl)
      have HLN := Lib.hid (show ((l.take k).map (·.2)).length ≤ 100000 by rw [List.length_map, List.length_take]; omega)
      have HLK := Lib.hid (show k + 1 = ((l.take k).map (·.2)).length + 1 by rw [List.length_map, List.length_take, ← HL.out]; omega)
      obtain ⟨xa, xt⟩ := x
      simp only at x0 x1 HX
      have HST := Lib.hid (fun (V' : Value) (W' : World) (hg : ((wr.alloc (.cells #[.int .u64 xa, .int .u64 xt] 35)).alloc (.cells #[.int .u64 xt] 23)).grownBy W' u6.ownBlock) (hr : Un W' V' ((l.take k).map (·.2) ++ [xt])) (hf : ∀ j ∈ foot V', j ∈ foot u6 ∨ ((wr.alloc (.cells #[.int .u64 xa, .int .u64 xt] 35)).alloc (.cells #[.int .u64 xt] 23)).heap.size ≤ j) =>
        (show Un W' V' ((l.take (k + 1)).map (·.2)) ∧ (∀ j ∈ foot V', w.heap.size < j) ∧ Blk W' w.heap.size 23 #[.int .u64 now] ∧ Chg [] w W' from by
          have h4 := HR.out.2.2.2.size
          have hsz := HR.out.2.2.1.lt
          have hc2 : Chg [] w ((wr.alloc (.cells #[.int .u64 xa, .int .u64 xt] 35)).alloc (.cells #[.int .u64 xt] 23)) := (HR.out.2.2.2.alloc _).alloc _
          refine ⟨by rw [HX.out]; exact hr, fun j hj => ?_, ?_, hc2.grown hg (fun j hj => .inr (by have := HR.out.2.1 j (row_mem hj); omega))⟩
          · rcases hf j hj with h5 | h5
            · exact HR.out.2.1 j h5
            · simp at h5; omega
          · exact ((HR.out.2.2.1.alloc _).alloc _).same (hg.block _ (by simp; omega) (fun e => by have := HR.out.2.1 _ (row_mem e.symm); omega))))
      clear hx p0 p1 hc
      go_wp2_with (at_builtin; refine wpList_append_u (U := (l.take k).map (·.2)) (x := xt) (N := k + 1) _ rfl _ _ rfl (by rfl) (by rfl) ((HR.out.1.quiet ((Chg.refl [] _).alloc (.cells #[.int .u64 xa, .int .u64 xt] 35))).quiet ((Chg.refl [] _).alloc (.cells #[.int .u64 xt] 23))) (Blk.at _ 23 _ (by simp)) HLN.out HLK.out ?_; intro A5 c5 w4 hr hg hf; have H4 := Lib.hid (HST.out _ _ hg hr hf); clear hr hg hf)
      go_roundg (n - k - 1)
      case measure => omega
      case rel => exact ⟨k + 1, by omega, by go_num, Lib.hid H4.out⟩
    · obtain rfl : k = n := by omega
      have HT := Lib.hid (show (l.take k).map (·.2) = l.map (·.2) by rw [HL.out, List.take_length])
      have HO := Lib.hid HR.out
      rw [HT.out] at HO
      obtain ⟨A6, c6, rfl⟩ := HO.out.1.val (n := k) (by rw [List.length_map, ← HL.out])
      have hsort := hS _ _ _ HO.out.1 (by rw [List.length_map, ← HL.out]; exact HSN.out)
      have HFF := Lib.hid (show ∀ W, Chg (foot (.slice A6 k c6)) wr W → Blk W w.heap.size 23 #[.int .u64 now] ∧ Chg [] w W from fun W hW =>
        ⟨HO.out.2.2.1.chg hW (fun hm => by have := HO.out.2.1 _ hm; omega), HO.out.2.2.2.trans hW (fun j hj => .inr (by have := HO.out.2.1 j hj; omega))⟩)
      have HLM := Lib.hid (show (l.map (·.2)).length = k by rw [List.length_map, ← HL.out])
      clear HR
      go_wp2_with (go_at_call 31; refine hsort.mono ?_; rintro e w5 ⟨rfl, U', q1, q2, q3, q4⟩; have H5 := Lib.hid (HFF.out _ q4); have HU5 := Lib.hid q1; have hfi := first_later (now := now) q1 H5.out.1 (by rw [q2.length_eq, HLM.out]; exact hN); have HPM := Lib.hid q2; have HPW := Lib.hid q3; clear q1 q2 q3 q4)
      go_at_call 32
      refine hfi.mono ?_
      rintro e w6 ⟨rfl, h1⟩
      have H6 := Lib.hid (H5.out.2.then h1)
      have HU6 := Lib.hid (HU5.out.quiet h1)
      have hcs := firstU_next (now := now) HPW.out
      have hul := HPM.out.length_eq.trans HLM.out
      obtain ⟨q, hq⟩ : ∃ q, q = firstU U' now := ⟨_, rfl⟩
      rw [← hq] at hcs ⊢
      rcases hcs with ⟨h2, h3⟩ | ⟨x, h2, h3, h4⟩
      · have HP := Lib.hid (HIS.out.uniq (h3.perm HPM.out))
        obtain rfl : q = k := h2.trans hul
        have g1 : ((q : Int) == (q : Int)) = true := by simp
        clear h1 hfi hq h2 h3 hul
        go_wp2
        go_ret2
        have := HP.out
        simp only [Prod.mk.injEq] at this
        exact ⟨by rw [this.1, this.2]; rfl, H6.out⟩
      · have HP := Lib.hid (HIS.out.uniq (h4.perm HPM.out))
        have g1 : ((q : Int) == (k : Int)) = false := by simp; omega
        have g2 : (0 : Int) ≤ (q : Int) := by omega
        have g3 : (q : Int) < (k : Int) := by omega
        obtain ⟨g, rfl, hz9, x0⟩ := HU6.out.at_ h2
        clear h1 hfi hq h2 h3 h4 hul hz9
        go_wp2
        go_ret2
        have := HP.out
        simp only [Prod.mk.injEq] at this
        exact ⟨by rw [this.1, this.2]; rfl, H6.out⟩
end Go.Proofs
