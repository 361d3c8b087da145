import Derived.Test.YteghakaflpgjgaaDoorM11
import Derived.Deep.DeepCutAuto
import Derived.StillTailTactics
import Derived.Laws.StructEq
section
namespace Go.Proofs
open Go.RowKit
set_option linter.unusedVariables false
set_option linter.unusedSimpArgs false

theorem cutw_len : ∀ (cur l : List UInt8), 1 ≤ (cutAux cur l).length ∧ (cutAux cur l).length ≤ l.length + 1
  | cur, [] => by simp [cutAux]
  | cur, c :: r => by
    unfold cutAux
    split
    · have := cutw_len [] r; simp; omega
    · have := cutw_len (cur ++ [c]) r; simp; omega
theorem cut_word : ∀ (cur l : List UInt8) (x : List UInt8), x ∈ cutAux cur l → x.length ≤ cur.length + l.length
  | cur, [], x, h => by simp [cutAux] at h; subst h; omega
  | cur, c :: r, x, h => by
    unfold cutAux at h
    split at h
    · rcases List.mem_cons.1 h with h | h
      · subst h; simp
      · have := cut_word [] r x h; simp at this ⊢; omega
    · have := cut_word (cur ++ [c]) r x h; simp at this ⊢; omega
theorem wordAt_str {f : List (List UInt8)} {i : Nat} (h : i < f.length) : (strs f)[i]? = some (.string ⟨(wordAt f i).toArray⟩) := by
  unfold strs wordAt
  rw [List.getElem?_map, List.getElem?_eq_getElem h, List.getD, List.getElem?_eq_getElem h]; rfl
theorem word_le {s : List UInt8} (i : Nat) : (wordAt (cutAux [] s) i).length ≤ s.length := by
  unfold wordAt
  rw [List.getD]
  cases h : (cutAux [] s)[i]? with
  | none => simp
  | some x => simpa using cut_word [] s x (List.mem_of_getElem? h)
theorem nib_cases (c : UInt8) : (nib c = none ∧ nibI c = -1) ∨ ∃ n : Nat, n < 16 ∧ nib c = some n ∧ nibI c = n := by
  unfold nibI
  cases h : nib c with
  | none => exact .inl ⟨rfl, rfl⟩
  | some n =>
    refine .inr ⟨n, ?_, rfl, rfl⟩
    unfold nib at h
    have := List.mem_of_find?_eq_some h
    simpa using this
theorem nibI_ge (c : UInt8) : -1 ≤ nibI c ∧ nibI c < 16 := by
  rcases nib_cases c with ⟨_, h⟩ | ⟨n, h1, _, h⟩
  · rw [h]; omega
  · rw [h]; omega
theorem unhex_step {x y : UInt8} {r : List UInt8} (hx : 0 ≤ nibI x) (hy : 0 ≤ nibI y) : unhexP (x :: y :: r) = (unhexP r).map (UInt8.ofNat (16 * nibI x + nibI y).toNat :: ·) := by
  rcases nib_cases x with ⟨_, h⟩ | ⟨n, h1, h2, h⟩
  · omega
  rcases nib_cases y with ⟨_, k⟩ | ⟨m, k1, k2, k⟩
  · omega
  simp only [unhexP, h2, k2]
  rw [h, k, show (16 * (n : Int) + m).toNat = 16 * n + m by omega]
theorem unhex_bad {x y : UInt8} {r : List UInt8} (h : nibI x < 0 ∨ nibI y < 0) : unhexP (x :: y :: r) = none := by
  simp only [unhexP]
  rcases nib_cases x with ⟨h2, _⟩ | ⟨n, h1, h2, h3⟩
  · rw [h2]
  rcases nib_cases y with ⟨k2, _⟩ | ⟨m, k1, k2, k3⟩
  · rw [h2, k2]
  · omega
theorem valueP_bound (s : List UInt8) : -100000000 < (valueP s).1 ∧ (valueP s).1 < 100000000 := by
  unfold valueP
  split
  · rename_i h
    unfold valueOk at h
    rw [Bool.and_eq_true, List.all_eq_true] at h
    obtain ⟨h1, h2⟩ := h
    have h1 := of_decide_eq_true h1
    have hd : ∀ c ∈ s.drop (valueAt s), dig c := fun c hc => of_decide_eq_true (h2 c hc)
    have hlt := decAcc_lt _ hd
    have hle : (s.drop (valueAt s)).length ≤ 8 := by rw [List.length_drop]; omega
    have h3 := Nat.pow_le_pow_right (show 0 < 10 by decide) hle
    have h4 : (10 : Nat) ^ 8 = 100000000 := by decide
    show -100000000 < valueN s ∧ valueN s < 100000000
    unfold valueN
    by_cases ha : valueAt s = 1
    · rw [if_pos ha]; rw [ha] at hlt h3; omega
    · rw [if_neg ha]
      have ha0 : valueAt s = 0 := by unfold valueAt at ha ⊢; split at ha <;> simp_all
      rw [ha0, List.drop_zero] at hlt; rw [ha0] at h3; rw [List.drop_zero] at h3; omega
  · decide
theorem numAt_bound (f : List (List UInt8)) (i : Nat) : -100000000 < numAt f i ∧ numAt f i < 100000000 := by
  unfold numAt
  split
  · exact valueP_bound _
  · decide
/-- The numbers of the words so far. -/
def nz (f : List (List UInt8)) (i k : Nat) : Int := if k < i then numAt f k else 0
def arr4 (f : List (List UInt8)) (i : Nat) : Array Value := #[.int .i64 0, .int .i64 (nz f i 1), .int .i64 (nz f i 2), .int .i64 (nz f i 3)]
theorem nz_same {f : List (List UInt8)} {i k : Nat} (h : k ≠ i) : nz f (i + 1) k = nz f i k := by
  unfold nz
  by_cases e : k < i
  · rw [if_pos e, if_pos (by omega)]
  · rw [if_neg e, if_neg (by omega)]
theorem nz_at {f : List (List UInt8)} {i : Nat} : nz f (i + 1) i = numAt f i := if_pos (by omega)
theorem nz_end {f : List (List UInt8)} {k : Nat} : nz f f.length k = numAt f k := by
  unfold nz
  by_cases e : k < f.length
  · rw [if_pos e]
  · rw [if_neg e, numAt_zero _ _ (by omega)]
theorem arr4_set {f : List (List UInt8)} {i : Nat} (h1 : 1 ≤ i) (h4 : i < 4) : (arr4 f i).setIfInBounds i (.int .i64 (numAt f i)) = arr4 f (i + 1) := by
  have h : i = 1 ∨ i = 2 ∨ i = 3 := by omega
  rcases h with rfl | rfl | rfl
  · unfold arr4; rw [nz_at, nz_same (k := 2) (by decide), nz_same (k := 3) (by decide)]; rfl
  · unfold arr4; rw [nz_at, nz_same (k := 1) (by decide), nz_same (k := 3) (by decide)]; rfl
  · unfold arr4; rw [nz_at, nz_same (k := 1) (by decide), nz_same (k := 2) (by decide)]; rfl
theorem arr4_zero {f : List (List UInt8)} : arr4 f 1 = #[.int .i64 0, .int .i64 0, .int .i64 0, .int .i64 0] := by
  unfold arr4 nz
  rw [if_neg (by decide), if_neg (by decide), if_neg (by decide)]
theorem arr4_cell {f : List (List UInt8)} {i k : Nat} (h1 : k < 4) : ∃ u, (arr4 f i)[k]? = some u := by
  have h : k = 0 ∨ k = 1 ∨ k = 2 ∨ k = 3 := by omega
  rcases h with rfl | rfl | rfl | rfl <;> exact ⟨_, rfl⟩
/-- The eight that are always tried. -/
def cand8 (n1 n2 n3 m1 m2 : Int) : List Ins := [Ins.zero, ⟨1, u8 n1, u8 (m2 / 256), u8 (m2 % 256)⟩, ⟨2, u8 n1, u8 n2, u8 n3⟩, ⟨3, u8 n1, u8 n2, u8 n3⟩, ⟨4, u8 n1, u8 n2, u8 n3⟩,
    ⟨5, 0, u8 (m1 / 256), u8 (m1 % 256)⟩, ⟨6, u8 n1, u8 (m2 / 256), u8 (m2 % 256)⟩, ⟨7, u8 n1, 0, 0⟩]
theorem u8_big {m : Int} (h0 : 0 ≤ m) (h1 : m < 65536) : ((u8 (m / 256)).toNat : Int) = m / 256 ∧ ((u8 (m % 256)).toNat : Int) = m % 256 := by
  rw [u8_toNat, u8_toNat]; omega
theorem cands_cs (n1 n2 n3 m1 m2 : Int) (w : World) (h0 : 0 ≤ m1) (h1 : m1 < 65536) (h2 : 0 ≤ m2) (h3 : m2 < 65536) :
    Cs (w.alloc (.cells #[.int .u8 0, .int .u8 0, .int .u8 0, .int .u8 0, .int .u8 1, .int .u8 (n1 % 256), .int .u8 (m2 / 256), .int .u8 (m2 % 256), .int .u8 2, .int .u8 (n1 % 256), .int .u8 (n2 % 256), .int .u8 (n3 % 256), .int .u8 3, .int .u8 (n1 % 256), .int .u8 (n2 % 256), .int .u8 (n3 % 256), .int .u8 4, .int .u8 (n1 % 256), .int .u8 (n2 % 256), .int .u8 (n3 % 256), .int .u8 5, .int .u8 0, .int .u8 (m1 / 256), .int .u8 (m1 % 256), .int .u8 6, .int .u8 (n1 % 256), .int .u8 (m2 / 256), .int .u8 (m2 % 256), .int .u8 7, .int .u8 (n1 % 256), .int .u8 0, .int .u8 0] 26))
      (.slice (some ⟨w.heap.size, 0, none⟩) 8 8) 8 (bys (flatI (cand8 n1 n2 n3 m1 m2))) := by
  have := Cs.new w (bys (flatI (cand8 n1 n2 n3 m1 m2))) 26 8 (by unfold maxLen; omega)
  have e : (bys (flatI (cand8 n1 n2 n3 m1 m2))).toArray = #[.int .u8 0, .int .u8 0, .int .u8 0, .int .u8 0, .int .u8 1, .int .u8 (n1 % 256), .int .u8 (m2 / 256), .int .u8 (m2 % 256), .int .u8 2, .int .u8 (n1 % 256), .int .u8 (n2 % 256), .int .u8 (n3 % 256), .int .u8 3, .int .u8 (n1 % 256), .int .u8 (n2 % 256), .int .u8 (n3 % 256), .int .u8 4, .int .u8 (n1 % 256), .int .u8 (n2 % 256), .int .u8 (n3 % 256), .int .u8 5, .int .u8 0, .int .u8 (m1 / 256), .int .u8 (m1 % 256), .int .u8 6, .int .u8 (n1 % 256), .int .u8 (m2 / 256), .int .u8 (m2 % 256), .int .u8 7, .int .u8 (n1 % 256), .int .u8 0, .int .u8 0] := by
    obtain ⟨a, b⟩ := u8_big h0 h1
    obtain ⟨c, d⟩ := u8_big h2 h3
    simp only [flatI, cand8, Ins.bytes, Ins.zero, Lib.byteCells, List.flatMap_cons, List.flatMap_nil, List.cons_append, List.nil_append, List.map_cons, List.map_nil, u8_toNat, a, b, c, d]
    rfl
  rw [e] at this
  exact this
/-- What a line hands back: its bytes, if it can be read. -/
def FourPost (F : Option (List UInt8)) (w : World) (e : Ending) (w' : World) : Prop := ∃ R, e = .returned (.tuple #[R, .bool F.isSome]) ∧ By w' R (F.getD []) ∧ Below w.heap.size w w'
theorem FourPost.none {F : Option (List UInt8)} {w w' : World} (hF : F = none) (hb : Below w.heap.size w w') : FourPost F w (.returned (.tuple #[.slice none 0 0, .bool false])) w' := ⟨_, by rw [hF]; rfl, by rw [hF]; exact By.nil _, hb⟩
theorem FourPost.some {F : Option (List UInt8)} {w w' : World} {R : Value} {b : List UInt8} (hF : F = some b) (hR : By w' R b) (hb : Below w.heap.size w w') : FourPost F w (.returned (.tuple #[R, .bool true])) w' := ⟨_, by rw [hF]; rfl, by rw [hF]; exact hR, hb⟩
set_option maxHeartbeats 2000000 in
set_option maxRecDepth 100000 in
theorem rfour_any (s : List UInt8) (hs : s.length ≤ 3000) (w : World) : Calls Tryd.prog 34 #[.string ⟨s.toArray⟩] w fun e w' => FourPost (fourP s) w e w' := by
  obtain ⟨sB, hsB⟩ : ∃ sB : ByteArray, sB = ⟨s.toArray⟩ := ⟨_, rfl⟩
  have hCut := rcut_any s (by omega) w
  obtain ⟨f, hf⟩ : ∃ f, f = cutAux [] s := ⟨_, rfl⟩
  obtain ⟨F, hF⟩ : ∃ F, F = fourP s := ⟨_, rfl⟩
  obtain ⟨nf, hnf⟩ : ∃ nf, nf = f.length := ⟨_, rfl⟩
  have hnf1 : 1 ≤ nf := by rw [hnf, hf]; exact (cutw_len [] s).1
  have hnf2 : nf ≤ 3001 := by rw [hnf, hf]; have := (cutw_len [] s).2; omega
  have hwl : ∀ i, (wordAt f i).length ≤ 3000 := fun i => by rw [hf]; have := word_le (s := s) i; omega
  rw [← hf, ← hnf, ← hsB] at hCut
  rw [← hsB, ← hF]
  have hH := Lib.hid (⟨hsB, hf, hF, hnf, hwl⟩ : _ ∧ _ ∧ _ ∧ _ ∧ _)
  obtain ⟨q, hq⟩ : ∃ q : Bool, q = decide (isRaw f) := ⟨_, rfl⟩
  have hqH := Lib.hid hq
  clear hsB hf hF hnf hwl hq
  go_enter Tryd.func34, Tryd.ntmps34
  go_upto_region 2 with (go_at_call 49; refine hCut.mono ?_; rintro e w1 ⟨R, rfl, hrow, hft, hb1⟩; obtain ⟨g, cap, rfl, -, -, hcell, -, hlt⟩ := hrow.form (by omega); have hrH := Lib.hid (⟨hrow, hft, hb1, hcell⟩ : _ ∧ _ ∧ _ ∧ _); clear hrow hft hb1 hcell)
  go_cut [49] from 19 to 49 (fun c wx => c = .bool q ∧ w1 = wx)
  case first =>
    obtain ⟨W0, hW0⟩ : ∃ W0 : ByteArray, W0 = ⟨(wordAt f 0).toArray⟩ := ⟨_, rfl⟩
    have c0 : w1.cell? ⟨g, 0, none⟩ = some (.string W0) := by rw [hW0]; exact hrH.out.2.2.2 0 _ (wordAt_str (by have := hH.out.2.2.2.1; omega))
    have hcm : (W0.toList == [114, 97, 119]) = decide (wordAt f 0 = wRaw) := by
      rw [hW0, show (⟨(wordAt f 0).toArray⟩ : ByteArray).toList = wordAt f 0 by simp, Bool.eq_iff_iff]
      simp [wRaw]
    by_cases h0 : wordAt f 0 = wRaw
    · rw [decide_eq_true h0] at hcm
      have hmH := Lib.hid (⟨hW0, h0⟩ : _ ∧ _)
      clear hW0 h0
      by_cases h1 : nf = 2
      · obtain ⟨W1, hW1⟩ : ∃ W1 : ByteArray, W1 = ⟨(wordAt f 1).toArray⟩ := ⟨_, rfl⟩
        have c1 : w1.cell? ⟨g, 1, none⟩ = some (.string W1) := by rw [hW1]; exact hrH.out.2.2.2 1 _ (wordAt_str (by have := hH.out.2.2.2.1; omega))
        obtain ⟨L, hL⟩ : ∃ L, L = (wordAt f 1).length := ⟨_, rfl⟩
        have hz1 : W1.size = L := by rw [hW1, str_size, hL]
        have hL3 : L ≤ 3000 := by rw [hL]; exact hH.out.2.2.2.2 1
        have hw1H := Lib.hid (⟨hW1, hL, hmH.out.2⟩ : _ ∧ _ ∧ _)
        have hqq : q = decide (L % 2 = 0 ∧ 2 ≤ L ∧ L ≤ 8) := by
          obtain ⟨-, hL, h0⟩ := hw1H.out
          rw [hqH.out]
          apply decide_eq_decide.2
          unfold isRaw
          rw [← hL, ← hH.out.2.2.2.1]
          exact ⟨fun h => h.2.2, fun h => ⟨h0, h1, h⟩⟩
        have hqH2 := Lib.hid hqq
        have h1b : ((nf : Int) == 2) = true := by simp; omega
        have h1c : (1 : Int) < (nf : Int) := by omega
        have h1H := Lib.hid h1
        clear hW1 hL hqq h1
        by_cases h2 : L % 2 = 0
        · have h2b : ((L : Int) % 2 == 0) = true := by simp; omega
          by_cases h3 : 2 ≤ L
          · have h3b : (2 : Int) ≤ (L : Int) := by omega
            by_cases h4 : L ≤ 8
            · have h4b : (L : Int) ≤ 8 := by omega
              go_wp2
              go_meet
              exact ⟨by rw [hqH2.out, decide_eq_true ⟨h2, h3, h4⟩], rfl⟩
            · have h4b : ¬ (L : Int) ≤ 8 := by omega
              go_wp2
              go_meet
              exact ⟨by rw [hqH2.out, decide_eq_false (fun h => h4 h.2.2)], rfl⟩
          · have h3b : ¬ (2 : Int) ≤ (L : Int) := by omega
            go_wp2
            go_meet
            exact ⟨by rw [hqH2.out, decide_eq_false (fun h => h3 h.2.1)], rfl⟩
        · have h2b : ((L : Int) % 2 == 0) = false := by simp; omega
          go_wp2
          go_meet
          exact ⟨by rw [hqH2.out, decide_eq_false (fun h => h2 h.1)], rfl⟩
      · have h1b : ((nf : Int) == 2) = false := by simp; omega
        have hq2 : q = false := by rw [hqH.out]; exact decide_eq_false (fun h => h1 (by have := h.2.1; have := hH.out.2.2.2.1; omega))
        have hqH2 := Lib.hid hq2
        clear hq2
        go_wp2
        go_meet
        exact ⟨by rw [hqH2.out], rfl⟩
    · rw [decide_eq_false h0] at hcm
      have hq2 : q = false := by rw [hqH.out]; exact decide_eq_false (fun h => h0 h.1)
      have hqH2 := Lib.hid hq2
      clear hq2 h0 hW0
      go_wp2
      go_meet
      exact ⟨by rw [hqH2.out], rfl⟩
  case rest =>
    obtain ⟨rfl, rfl⟩ := hcut
    cases q with
    | true =>
      have hraw : isRaw f := of_decide_eq_true hqH.out.symm
      obtain ⟨W1, hW1⟩ : ∃ W1 : ByteArray, W1 = ⟨(wordAt f 1).toArray⟩ := ⟨_, rfl⟩
      have c1 : w1.cell? ⟨g, 1, none⟩ = some (.string W1) := by rw [hW1]; exact hrH.out.2.2.2 1 _ (wordAt_str (by have := hraw.2.1; omega))
      obtain ⟨L, hL⟩ : ∃ L, L = (wordAt f 1).length := ⟨_, rfl⟩
      have hz1 : W1.size = L := by rw [hW1, str_size, hL]
      have hraw2 := hraw.2.2
      rw [← hL] at hraw2
      obtain ⟨hLe, hL2, hL8⟩ := hraw2
      have hFr : F = unhexP (wordAt f 1) := by
        rw [hH.out.2.2.1]; unfold fourP
        rw [← hH.out.2.1, if_pos hraw]
      have hn2 : 1 < nf := by rw [hH.out.2.2.2.1, hraw.2.1]; decide
      have hn2i : (1 : Int) < (nf : Int) := by omega
      have hwH := Lib.hid (⟨hW1, hL, hFr⟩ : _ ∧ _ ∧ _)
      have hpar := Lib.hid hLe
      clear hW1 hL hFr hraw hLe hn2
      go_wp2
      go_loopw [5, 6] (fun ov iv wr => ∃ (O : List UInt8) (i j : Nat) (A : Option Addr) (c : Nat), ov = .slice A j c ∧ iv = .int .i64 i ∧ i ≤ L ∧ j ≤ 4 ∧ Hid (i = 2 * j ∧ O.length = j ∧ Row wr 5 1 (.slice A j c) j (bys O) ∧ (∀ k ∈ foot (.slice A j c), w1.heap.size ≤ k) ∧ Below w1.heap.size w1 wr ∧ F = (unhexP ((wordAt f 1).drop i)).map (O ++ ·))) (fun _ iv _ => L - (intOf iv).toNat)
      case atStart => exact ⟨[], 0, 0, none, 0, rfl, rfl, by omega, by omega, Lib.hid ⟨rfl, rfl, Row.nil _ _ _, (fun k hk => by cases hk), Below.refl _ _, by rw [hwH.out.2.2]; simp⟩⟩
      case round =>
        obtain ⟨O, i, j, A, c, rfl, rfl, hi, hj, hI⟩ := hrel
        have c1r : wr.cell? ⟨g, 1, none⟩ = some (.string W1) := (hI.out.2.2.2.2.1.cell (p := ⟨g, 1, none⟩) hlt).trans c1
        by_cases hil : i < L
        · have hi2 : i + 1 < L := by have := hI.out.1; have := hpar.out; omega
          obtain ⟨x, hx⟩ : ∃ x, (wordAt f 1)[i]? = some x := ⟨_, List.getElem?_eq_getElem (by have := hwH.out.2.1; omega)⟩
          obtain ⟨y, hy⟩ : ∃ y, (wordAt f 1)[i + 1]? = some y := ⟨_, List.getElem?_eq_getElem (by have := hwH.out.2.1; omega)⟩
          have hdr : (wordAt f 1).drop i = x :: y :: (wordAt f 1).drop (i + 2) := by
            obtain ⟨a1, a2⟩ := List.getElem?_eq_some_iff.1 hx
            obtain ⟨b1, b2⟩ := List.getElem?_eq_some_iff.1 hy
            rw [List.drop_eq_getElem_cons a1, a2, List.drop_eq_getElem_cons b1, b2]
          have hix := fun W => value_ix (wordAt f 1) W1 hwH.out.1 i x hx W
          have hiy := fun W => value_ix (wordAt f 1) W1 hwH.out.1 (i + 1) y hy W
          rw [show ((i + 1 : Nat) : Int) = (i : Int) + 1 by omega] at hiy
          have nx : ∀ W, Calls Tryd.prog 50 #[.int .u8 x.toNat] W fun e w' => e = .returned (.int .i64 (nibI x)) ∧ Below W.heap.size W w' := fun W => (nibble_any x W).mono fun _ _ h => ⟨h.1, h.2 ▸ Below.refl _ _⟩
          have ny : ∀ W, Calls Tryd.prog 50 #[.int .u8 y.toNat] W fun e w' => e = .returned (.int .i64 (nibI y)) ∧ Below W.heap.size W w' := fun W => (nibble_any y W).mono fun _ _ h => ⟨h.1, h.2 ▸ Below.refl _ _⟩
          obtain ⟨CX, hCX⟩ : ∃ C : Int, C = (x.toNat : Int) := ⟨_, rfl⟩
          obtain ⟨CY, hCY⟩ : ∃ C : Int, C = (y.toNat : Int) := ⟨_, rfl⟩
          obtain ⟨X, hX⟩ : ∃ X : Int, X = nibI x := ⟨_, rfl⟩
          obtain ⟨Y, hY⟩ : ∃ Y : Int, Y = nibI y := ⟨_, rfl⟩
          rw [← hCX] at hix nx
          rw [← hCY] at hiy ny
          rw [← hX] at nx
          rw [← hY] at ny
          have hXb := nibI_ge x
          have hYb := nibI_ge y
          rw [← hX] at hXb
          rw [← hY] at hYb
          obtain ⟨x0, x1⟩ := hXb
          obtain ⟨y0, y1⟩ := hYb
          have hdH := Lib.hid (⟨hdr, hX, hY⟩ : _ ∧ _ ∧ _)
          clear hx hy hdr hCX hCY hX hY
          have hi2i : (i : Int) + 1 < (L : Int) := by omega
          have hwr : IntKind.i64.wrap ((i : Int) + 1) = (i : Int) + 1 := IntWalk.i64_in _ (by omega)
          have hiy2 : ∀ W, (Instr.index 9 (.string W1) (.int .i64 (IntKind.i64.wrap ((i : Int) + 1)))).run Tryd.prog W = .ok (.int .u8 CY) W := fun W => by rw [hwr]; exact hiy W
          have k1 := cell_regrown c1r
          have cX : ∀ d os, Calls Tryd.prog 50 #[.int .u8 CX] (Go.Sort.grow (redrawn wr d) os) fun e w'' => e = .returned (.int .i64 X) ∧ ∃ p : Regrown, w'' = Go.Sort.grow (redrawn wr p.d) p.os := fun d os => Calls.regrown_of (nx _)
          have cY : ∀ d os, Calls Tryd.prog 50 #[.int .u8 CY] (Go.Sort.grow (redrawn wr d) os) fun e w'' => e = .returned (.int .i64 Y) ∧ ∃ p : Regrown, w'' = Go.Sort.grow (redrawn wr p.d) p.os := fun d os => Calls.regrown_of (ny _)
          go_upto_region 7 with fail
          go_cut [7, 8] from 50 to 84 (fun a b wx => a = .int .i64 X ∧ b = .int .i64 Y ∧ Below wr.heap.size wr wx)
          case first =>
            refine wp_region_quiet_below (by kernel_rfl) (by kernel_rfl) ?_
            repeat (quiet_step (first | with_reducible exact cX _ _ | with_reducible exact cY _ _))
            refine wpQuiet_nil ?_
            intro _ hw'
            obtain ⟨⟨dq, osq⟩, hw''⟩ := hw'
            subst hw''
            go_wp2
            go_meet
            exact ⟨rfl, rfl, below_regrown wr dq osq⟩
          case rest =>
            obtain ⟨rfl, rfl, hbx⟩ := hcut
            by_cases hneg : X < 0 ∨ Y < 0
            · have hFn : F = none := by
                obtain ⟨hdr, hX, hY⟩ := hdH.out
                rw [hI.out.2.2.2.2.2, hdr, unhex_bad (by rw [← hX, ← hY]; exact hneg)]; rfl
              have hbb := hrH.out.2.2.1.trans ((hI.out.2.2.2.2.1.trans (hbx.mono hI.out.2.2.2.2.1.size)).mono hrH.out.2.2.1.size)
              have hR := Lib.hid (⟨hFn, hbb⟩ : _ ∧ _)
              clear hFn hbb hbx
              by_cases hX0 : X < 0
              · clear hneg
                go_wp2
                go_ret2
                exact FourPost.none hR.out.1 hR.out.2
              · have hY0 : Y < 0 := by omega
                clear hneg
                go_wp2
                go_ret2
                exact FourPost.none hR.out.1 hR.out.2
            · have hX0 : ¬ X < 0 := by omega
              have hY0 : ¬ Y < 0 := by omega
              obtain ⟨b, hb⟩ : ∃ b : UInt8, b = UInt8.ofNat (16 * X + Y).toNat := ⟨_, rfl⟩
              have hbN : (b.toNat : Int) = 16 * X + Y := by rw [hb, UInt8.toNat_ofNat']; omega
              have hw1 : IntKind.u8.wrap (16 * X + Y) = 16 * X + Y := by rw [IntKind.wrap_u8]; omega
              have hrow1 := hI.out.2.2.1.below hbx
              have hb2 := (hI.out.2.2.2.2.1.trans (hbx.mono hI.out.2.2.2.2.1.size))
              have hbd := (Below.refl wc.heap.size wc).alloc (Nat.le_refl _) (.cells #[.int .u8 (16 * X + Y)] 5)
              have hR2 := Lib.hid (hrow1.below hbd)
              have hC2 : Hid (Cs (wc.alloc (.cells #[.int .u8 (16 * X + Y)] 5)) (.slice (some ⟨wc.heap.size, 0, none⟩) 1 1) 1 (bys [b])) := Lib.hid (by
                have := Cs.new wc (bys [b]) 5 1 (by unfold maxLen; omega)
                simp only [Lib.byteCells, List.map_cons, List.map_nil, hbN] at this
                simpa [Lib.byteCells, hbN] using this)
              have hKH := Lib.hid (⟨hb, hbd, hb2⟩ : _ ∧ _ ∧ _)
              have hj4 : j < 4 := by have := hI.out.1; omega
              clear hb hbd hb2 hbN hrow1 hneg hbx
              go_wp2_with (at_builtin; refine wpList_append_cs elt_bytes (by decide) _ rfl _ _ (by rfl) (by rfl) (by rfl) hR2.out hC2.out rfl (bys_one _) (by unfold maxLen; omega) (by omega) (k := j + 1) rfl ?_; intro A' c' w' hr hg hf)
              go_roundw
              case rel =>
                obtain ⟨hb, hbd, hb2⟩ := hKH.out
                obtain ⟨hdr, hX, hY⟩ := hdH.out
                have hI2 := hI.out
                refine ⟨O ++ [b], i + 2, j + 1, A', c', rfl, by simp, by omega, by omega, Lib.hid ⟨by omega, by simp [hI2.2.1], by rw [bys_append]; exact hr, ?_, ?_, ?_⟩⟩
                · intro q hq
                  rcases hf q hq with h | h
                  · exact hI2.2.2.2.1 q h
                  · exact Nat.le_trans hb2.size (Nat.le_trans hbd.size h)
                · have hb3 := hb2.trans (hbd.mono hb2.size)
                  exact hb3.grown hg (by have := hb3.size; omega) (fun q hq => hI2.2.2.2.1 q (row_mem hq))
                · rw [hI2.2.2.2.2.2, hdr, unhex_step (by rw [← hX]; omega) (by rw [← hY]; omega), ← hX, ← hY, ← hb]
                  simp [Function.comp_def]
              case measure => simp [intOf] <;> omega
        · obtain rfl : i = L := by omega
          have hFs : F = some O := by
            rw [hI.out.2.2.2.2.2, List.drop_eq_nil_of_le (by have := hwH.out.2.1; omega)]
            simp [unhexP]
          have hbb := hrH.out.2.2.1.trans (hI.out.2.2.2.2.1.mono hrH.out.2.2.1.size)
          have hR := Lib.hid (⟨hFs, hbb⟩ : _ ∧ _)
          clear hFs hbb
          go_wp2
          go_ret2
          exact FourPost.some hR.out.1 (By.of_row hI.out.2.2.1) hR.out.2
    | false =>
      have hraw : ¬ isRaw f := of_decide_eq_false hqH.out.symm
      have hF1 : F = if 4 < nf then none else if (f.drop 1).all (fun w => (valueP w).2) = false then none else if isFar (numAt f 1) ∨ isFar (numAt f 2) then none
          else ((cands (numAt f 1) (numAt f 2) (numAt f 3)).find? fun x => x.is && (x.told == s)).map Ins.bytes := by
        rw [hH.out.2.2.1]; unfold fourP
        rw [← hH.out.2.1, if_neg hraw, ← hH.out.2.2.2.1]
      by_cases h4 : 4 < nf
      · rw [if_pos h4] at hF1
        have hR := Lib.hid (⟨hF1, hrH.out.2.2.1.alloc hrH.out.2.2.1.size (.cells #[.int .i64 0, .int .i64 0, .int .i64 0, .int .i64 0] 88)⟩ : _ ∧ _)
        have h4i : (4 : Int) < (nf : Int) := by omega
        clear hF1 hraw
        go_wp2
        go_ret2
        exact FourPost.none hR.out.1 hR.out.2
      · rw [if_neg h4] at hF1
        have h4i : ¬ (4 : Int) < (nf : Int) := by omega
        have hFH := Lib.hid hF1
        clear hF1 hraw
        go_wp2
        have hwz : Blk (w1.alloc (.cells #[.int .i64 0, .int .i64 0, .int .i64 0, .int .i64 0] 88)) w1.heap.size 88 (arr4 f 1) := by rw [arr4_zero]; exact Blk.new w1 88 _
        have hbz := (Below.refl w1.heap.size w1).alloc (Nat.le_refl _) (.cells #[.int .i64 0, .int .i64 0, .int .i64 0, .int .i64 0] 88)
        have hZ := Lib.hid (⟨hwz, hbz⟩ : _ ∧ _)
        clear hwz hbz
        go_loopw [10] (fun iv wr => ∃ i : Nat, iv = .int .i64 i ∧ 1 ≤ i ∧ i ≤ nf ∧ Hid (Blk wr w1.heap.size 88 (arr4 f i) ∧ Below w1.heap.size w1 wr ∧ ((f.take i).drop 1).all (fun w => (valueP w).2) = true)) (fun iv _ => nf - (intOf iv).toNat)
        case atStart => exact ⟨1, rfl, by omega, by omega, Lib.hid ⟨hZ.out.1, hZ.out.2, by rw [List.drop_eq_nil_of_le (by rw [List.length_take]; omega)]; rfl⟩⟩
        case round =>
          obtain ⟨i, rfl, hi1, hi, hI⟩ := hrel
          by_cases hin : i < nf
          · obtain ⟨WB, hWB⟩ : ∃ WB : ByteArray, WB = ⟨(wordAt f i).toArray⟩ := ⟨_, rfl⟩
            have c1 : wr.cell? ⟨g, i, none⟩ = some (.string WB) := by rw [hWB]; exact (hI.out.2.1.cell (p := ⟨g, i, none⟩) hlt).trans (hrH.out.2.2.2 i _ (wordAt_str (by have := hH.out.2.2.2.1; omega)))
            have hV := value_any (wordAt f i) (by have := hH.out.2.2.2.2 i; omega) wr
            rw [← hWB] at hV
            obtain ⟨P, hP⟩ : ∃ P : Int, P = (valueP (wordAt f i)).1 := ⟨_, rfl⟩
            obtain ⟨K, hK⟩ : ∃ K : Bool, K = (valueP (wordAt f i)).2 := ⟨_, rfl⟩
            rw [← hP, ← hK] at hV
            have hfi : f[i]? = some (wordAt f i) := by
              have : i < f.length := by have := hH.out.2.2.2.1; omega
              unfold wordAt
              rw [List.getD, List.getElem?_eq_getElem this]; rfl
            have htk : (f.take (i + 1)).drop 1 = (f.take i).drop 1 ++ [wordAt f i] := by
              rw [List.take_add_one, hfi, List.drop_append_of_le_length (by rw [List.length_take]; have := hH.out.2.2.2.1; omega)]; rfl
            have hPK := Lib.hid (⟨hP, hK, htk, hfi⟩ : _ ∧ _ ∧ _ ∧ _)
            have hi4 : i < 4 := by omega
            clear hWB hP hK htk hfi
            cases K with
            | false =>
              have hFn : F = none := by
                rw [hFH.out, if_pos]
                cases h : (f.drop 1).all (fun w => (valueP w).2) with
                | false => rfl
                | true =>
                  rw [List.all_eq_true] at h
                  have hm : wordAt f i ∈ f.drop 1 := List.mem_of_getElem? (i := i - 1) (by rw [List.getElem?_drop, show 1 + (i - 1) = i by omega]; exact hPK.out.2.2.2)
                  have := h _ hm
                  rw [← hPK.out.2.1] at this; cases this
              have hR := Lib.hid hFn
              clear hFn
              go_wp2_with (go_at_call 51; refine hV.mono ?_; rintro e w2 ⟨rfl, hb2⟩)
              go_ret2
              exact FourPost.none hR.out (hrH.out.2.2.1.trans ((hI.out.2.1.trans (hb2.mono hI.out.2.1.size)).mono hrH.out.2.2.1.size))
            | true =>
              go_wp2_with (go_at_call 51; refine hV.mono ?_; rintro e w2 ⟨rfl, hb2⟩; have hB2 := hI.out.1.same (hb2.block _ hI.out.1.lt); obtain ⟨u0, hu0⟩ := arr4_cell (f := f) (i := i) hi4; have hcl := (hB2.cell i).trans hu0; have hfz := hB2.frozen i; have hbH := Lib.hid (⟨hb2, hB2⟩ : _ ∧ _); clear hb2 hB2 hu0)
              go_roundw
              case rel =>
                obtain ⟨hb2, hB2⟩ := hbH.out
                refine ⟨i + 1, by simp, by omega, by omega, Lib.hid ⟨?_, ?_, ?_⟩⟩
                · have := hB2.set_ i (.int .i64 P)
                  rw [hPK.out.1] at this ⊢
                  have hn := numAt_at hPK.out.2.2.2
                  rw [← hn, arr4_set hi1 hi4] at this
                  rw [← hn]; exact this
                · exact (hI.out.2.1.trans (hb2.mono hI.out.2.1.size)).setCell (Nat.le_refl _) _
                · rw [hPK.out.2.2.1, List.all_append, hI.out.2.2]
                  simp [← hPK.out.2.1]
              case measure => simp [intOf] <;> omega
          · obtain rfl : i = nf := by omega
            have hall : (f.drop 1).all (fun w => (valueP w).2) = true := by
              have h := hI.out.2.2
              rw [List.take_of_length_le (by have := hH.out.2.2.2.1; omega)] at h; exact h
            have hF2 := hFH.out
            rw [if_neg (by rw [hall]; decide)] at hF2
            have hB := hI.out.1
            rw [show arr4 f i = #[.int .i64 0, .int .i64 (numAt f 1), .int .i64 (numAt f 2), .int .i64 (numAt f 3)] by unfold arr4; rw [hH.out.2.2.2.1, nz_end, nz_end, nz_end]] at hB
            have b1 := numAt_bound f 1
            have b2 := numAt_bound f 2
            have b3 := numAt_bound f 3
            obtain ⟨N1, hN1⟩ : ∃ N, N = numAt f 1 := ⟨_, rfl⟩
            obtain ⟨N2, hN2⟩ : ∃ N, N = numAt f 2 := ⟨_, rfl⟩
            obtain ⟨N3, hN3⟩ : ∃ N, N = numAt f 3 := ⟨_, rfl⟩
            rw [← hN1, ← hN2, ← hN3] at hB hF2
            rw [← hN1] at b1
            rw [← hN2] at b2
            rw [← hN3] at b3
            have d1 : wr.cell? ⟨w1.heap.size, 1, none⟩ = some (.int .i64 N1) := hB.cell 1
            have d2 : wr.cell? ⟨w1.heap.size, 2, none⟩ = some (.int .i64 N2) := hB.cell 2
            have d3 : wr.cell? ⟨w1.heap.size, 3, none⟩ = some (.int .i64 N3) := hB.cell 3
            have hbb := hrH.out.2.2.1.trans (hI.out.2.1.mono hrH.out.2.2.1.size)
            have hG := Lib.hid (⟨hF2, hB, hbb⟩ : _ ∧ _ ∧ _)
            clear hF2 hB hbb hall hN1 hN2 hN3
            by_cases hfar : isFar N1 ∨ isFar N2
            · have hF2 := hG.out.1
              rw [if_pos hfar] at hF2
              have hR := Lib.hid hF2
              unfold isFar at hfar
              clear hF2
              by_cases f1 : N1 < -40000
              · clear hfar
                go_wp2
                go_ret2
                exact FourPost.none hR.out hG.out.2.2
              by_cases f2 : 70000 < N1
              · clear hfar
                go_wp2
                go_ret2
                exact FourPost.none hR.out hG.out.2.2
              by_cases f3 : N2 < -40000
              · clear hfar
                go_wp2
                go_ret2
                exact FourPost.none hR.out hG.out.2.2
              have f4 : 70000 < N2 := by omega
              clear hfar
              go_wp2
              go_ret2
              exact FourPost.none hR.out hG.out.2.2
            · have hF2 := hG.out.1
              rw [if_neg hfar] at hF2
              have hR := Lib.hid hF2
              unfold isFar at hfar
              clear hF2
              obtain ⟨f1, f2, f3, f4⟩ : ¬ N1 < -40000 ∧ ¬ 70000 < N1 ∧ ¬ N2 < -40000 ∧ ¬ 70000 < N2 := by omega
              clear hfar
              go_upto_region 26 with fail
              generalize hM1 : (N1 + 131072) % 65536 = M1
              generalize hM2 : (N2 + 131072) % 65536 = M2
              have m1 : 0 ≤ M1 ∧ M1 < 65536 := by omega
              have m2 : 0 ≤ M2 ∧ M2 < 65536 := by omega
              obtain ⟨m1a, m1b⟩ := m1
              obtain ⟨m2a, m2b⟩ := m2
              have hM := Lib.hid (⟨hM1, hM2⟩ : _ ∧ _)
              clear hM1 hM2
              have hw0 := Row.nil wr 26 4
              have hbd := (Below.refl wr.heap.size wr).alloc (Nat.le_refl _) (.cells #[.int .u8 0, .int .u8 0, .int .u8 0, .int .u8 0, .int .u8 1, .int .u8 (N1 % 256), .int .u8 (M2 / 256), .int .u8 (M2 % 256), .int .u8 2, .int .u8 (N1 % 256), .int .u8 (N2 % 256), .int .u8 (N3 % 256), .int .u8 3, .int .u8 (N1 % 256), .int .u8 (N2 % 256), .int .u8 (N3 % 256), .int .u8 4, .int .u8 (N1 % 256), .int .u8 (N2 % 256), .int .u8 (N3 % 256), .int .u8 5, .int .u8 0, .int .u8 (M1 / 256), .int .u8 (M1 % 256), .int .u8 6, .int .u8 (N1 % 256), .int .u8 (M2 / 256), .int .u8 (M2 % 256), .int .u8 7, .int .u8 (N1 % 256), .int .u8 0, .int .u8 0] 26)
              have hR2 := Lib.hid (hw0.below hbd)
              have hC2 := Lib.hid (cands_cs N1 N2 N3 M1 M2 wr m1a m1b m2a m2b)
              have hbdH := Lib.hid hbd
              clear hw0 hbd
              go_upto_region 28 with (at_builtin; refine wpList_append_cs elt_ins (by decide) _ rfl _ _ (by rfl) (by rfl) (by rfl) hR2.out hC2.out rfl (bys_one _) (by unfold maxLen; omega) (by omega) (k := 8) rfl ?_; intro A' c' w2 hr hg hf)
              have hgb : Below wr.heap.size wr w2 := hbdH.out.grown hg (by have := hbdH.out.size; omega) (fun q hq => by have := row_mem hq; cases this)
              have d1w : w2.cell? ⟨w1.heap.size, 1, none⟩ = some (.int .i64 N1) := (hgb.cell (p := ⟨w1.heap.size, 1, none⟩) hG.out.2.1.lt).trans d1
              have hft2 : ∀ k ∈ foot (.slice A' 8 c'), wr.heap.size ≤ k := fun k hk => by
                rcases hf k hk with h | h
                · cases h
                · exact Nat.le_trans hbdH.out.size h
              obtain ⟨CL, hCL⟩ : ∃ CL, CL = cands N1 N2 N3 := ⟨_, rfl⟩
              have hCL2 : CL = cand8 N1 N2 N3 M1 M2 ++ (if 1 ≤ N1 ∧ N1 ≤ 22 then [⟨u8 (16 + N1), 0, 0, 0⟩] else []) := by
                rw [hCL, ← hM.out.1, ← hM.out.2]; rfl
              have hF3 := hR.out
              rw [← hCL] at hF3
              have hS := Lib.hid (⟨hr, hft2, hgb, hCL2, hF3⟩ : _ ∧ _ ∧ _ ∧ _ ∧ _)
              obtain ⟨r, hr'⟩ : ∃ r : Bool, r = decide (1 ≤ N1 ∧ N1 ≤ 22) := ⟨_, rfl⟩
              have hrr := Lib.hid hr'
              clear hr hg hf hgb hft2 hCL hCL2 hF3 hr'
              go_cut [206] from 199 to 206 (fun c wx => c = .bool r ∧ w2 = wx)
              case first =>
                by_cases k1 : 1 ≤ N1
                · by_cases k2 : N1 ≤ 22
                  · go_wp2
                    go_meet
                    exact ⟨by rw [hrr.out, decide_eq_true ⟨k1, k2⟩], rfl⟩
                  · go_wp2
                    go_meet
                    exact ⟨by rw [hrr.out, decide_eq_false (by omega)], rfl⟩
                · go_wp2
                  go_meet
                  exact ⟨by rw [hrr.out, decide_eq_false (by omega)], rfl⟩
              case rest =>
                obtain ⟨rfl, rfl⟩ := hcut
                go_upto_if 206 with fail
                go_cut [15] from 206 to 214 (fun v wx => ∃ (A : Option Addr) (c n : Nat), v = .slice A n c ∧ n ≤ 9 ∧ Hid (n = CL.length ∧ Row wx 26 4 (.slice A n c) n (bys (flatI CL)) ∧ (∀ k ∈ foot (.slice A n c), wr.heap.size ≤ k) ∧ Below wr.heap.size wr wx))
                case first =>
                  cases r with
                  | true =>
                    have hk : 1 ≤ N1 ∧ N1 ≤ 22 := of_decide_eq_true hrr.out.symm
                    obtain ⟨k1, k2⟩ := hk
                    have hw1 : IntKind.u8.wrap (16 + N1) = 16 + N1 := by rw [IntKind.wrap_u8]; omega
                    have hbd2 := (Below.refl w2.heap.size w2).alloc (Nat.le_refl _) (.cells #[.int .u8 (16 + N1), .int .u8 0, .int .u8 0, .int .u8 0] 26)
                    have hR3 := Lib.hid (hS.out.1.below hbd2)
                    have hC3 : Hid (Cs (w2.alloc (.cells #[.int .u8 (16 + N1), .int .u8 0, .int .u8 0, .int .u8 0] 26)) (.slice (some ⟨w2.heap.size, 0, none⟩) 1 1) 1 (bys (flatI [⟨u8 (16 + N1), 0, 0, 0⟩]))) := Lib.hid (by
                      have := Cs.new w2 (bys (flatI [⟨u8 (16 + N1), 0, 0, 0⟩])) 26 1 (by unfold maxLen; omega)
                      have e : (bys (flatI [⟨u8 (16 + N1), 0, 0, 0⟩])).toArray = #[.int .u8 (16 + N1), .int .u8 0, .int .u8 0, .int .u8 0] := by
                        have h := u8_toNat (16 + N1)
                        rw [show (16 + N1) % 256 = 16 + N1 by omega] at h
                        simp only [flatI, Ins.bytes, Lib.byteCells, List.flatMap_cons, List.flatMap_nil, List.cons_append, List.nil_append, List.map_cons, List.map_nil, h]
                        rfl
                      rw [e] at this
                      exact this)
                    have hbd2H := Lib.hid hbd2
                    clear hbd2
                    go_wp2_with (at_builtin; refine wpList_append_cs elt_ins (by decide) _ rfl _ _ (by rfl) (by rfl) (by rfl) hR3.out hC3.out rfl (bys_one _) (by unfold maxLen; omega) (by omega) (k := 9) rfl ?_; intro A2 c2 w3 hr3 hg3 hf3)
                    go_meet
                    obtain ⟨q1, q2, q3, q4, q5⟩ := hS.out
                    rw [if_pos ⟨k1, k2⟩] at q4
                    refine ⟨A2, c2, 9, rfl, by omega, Lib.hid ⟨by rw [q4]; rfl, by rw [q4, flatI_append, bys_append]; exact hr3, ?_, ?_⟩⟩
                    · intro k hk
                      rcases hf3 k hk with h | h
                      · exact q2 k h
                      · exact Nat.le_trans q3.size (Nat.le_trans hbd2H.out.size h)
                    · have hb4 := q3.trans (hbd2H.out.mono q3.size)
                      exact hb4.grown hg3 (by have := hb4.size; omega) (fun q hq => q2 q (row_mem hq))
                  | false =>
                    have hk : ¬ (1 ≤ N1 ∧ N1 ≤ 22) := of_decide_eq_false hrr.out.symm
                    go_wp2
                    go_meet
                    obtain ⟨q1, q2, q3, q4, q5⟩ := hS.out
                    rw [if_neg hk, List.append_nil] at q4
                    exact ⟨_, _, 8, rfl, by omega, Lib.hid ⟨by rw [q4]; rfl, by rw [q4]; exact q1, q2, q3⟩⟩
                case rest =>
                  obtain ⟨A, c, n, rfl, hn9, hC⟩ := hcut
                  have hn8 : 8 ≤ n := by rw [hC.out.1, hS.out.2.2.2.1, List.length_append]; simp [cand8]
                  obtain ⟨gg, cc, hv, -, hcc, hcl, -, hltg⟩ := hC.out.2.1.form (by omega)
                  simp only [Value.slice.injEq, true_and] at hv
                  obtain ⟨rfl, rfl⟩ := hv
                  have hclH := Lib.hid hcl
                  clear hcl
                  go_wp2
                  go_loopw [16] (fun iv wr3 => ∃ i : Nat, iv = .int .i64 i ∧ i ≤ n ∧ Hid (Below wc.heap.size wc wr3 ∧ ∀ x ∈ CL.take i, (x.is && (x.told == s)) = false)) (fun iv _ => n - (intOf iv).toNat)
                  case atStart => exact ⟨0, rfl, by omega, Lib.hid ⟨Below.refl _ _, fun x hx => by simp at hx⟩⟩
                  case round =>
                    obtain ⟨i, rfl, hi, hI3⟩ := hrel
                    by_cases hin3 : i < n
                    · obtain ⟨x, hx⟩ : ∃ x, CL[i]? = some x := ⟨_, List.getElem?_eq_getElem (by have := hC.out.1; omega)⟩
                      obtain ⟨f0, f1, f2, f3⟩ := flatI_at hx
                      have hqq : ∀ W, Below wr.heap.size wr W → ∀ j u, (bys (flatI CL))[4 * i + j]? = some u → W.cell? ⟨gg, i * 4 + j, none⟩ = some u := fun W hb j u hu => by
                        have h := hclH.out _ _ hu
                        rw [show 4 * i + j = i * 4 + j by omega] at h
                        exact (hb.cell (p := ⟨gg, i * 4 + j, none⟩) (Nat.lt_of_lt_of_le hltg hI3.out.1.size)).trans ((hI3.out.1.cell (p := ⟨gg, i * 4 + j, none⟩) hltg).trans h)
                      obtain ⟨X0, hX0⟩ : ∃ X : Int, X = (x.o.toNat : Int) := ⟨_, rfl⟩
                      obtain ⟨X1, hX1⟩ : ∃ X : Int, X = (x.a.toNat : Int) := ⟨_, rfl⟩
                      obtain ⟨X2, hX2⟩ : ∃ X : Int, X = (x.b.toNat : Int) := ⟨_, rfl⟩
                      obtain ⟨X3, hX3⟩ : ∃ X : Int, X = (x.c.toNat : Int) := ⟨_, rfl⟩
                      have hcs : ∀ W, Below wr.heap.size wr W → W.cell? ⟨gg, i * 4, none⟩ = some (.int .u8 X0) ∧ W.cell? ⟨gg, i * 4 + 1, none⟩ = some (.int .u8 X1) ∧ W.cell? ⟨gg, i * 4 + 2, none⟩ = some (.int .u8 X2) ∧ W.cell? ⟨gg, i * 4 + 3, none⟩ = some (.int .u8 X3) := fun W hb =>
                        ⟨by rw [hX0]; exact hqq W hb 0 _ (bys_at f0), by rw [hX1]; exact hqq W hb 1 _ (bys_at f1), by rw [hX2]; exact hqq W hb 2 _ (bys_at f2), by rw [hX3]; exact hqq W hb 3 _ (bys_at f3)⟩
                      have hcsH := Lib.hid hcs
                      obtain ⟨p0, p1, p2, p3⟩ := hcs wr (Below.refl _ _)
                      obtain ⟨K, hK⟩ : ∃ K : Bool, K = x.is := ⟨_, rfl⟩
                      obtain ⟨LB, hLB⟩ : ∃ LB : ByteArray, LB = ⟨x.told.toArray⟩ := ⟨_, rfl⟩
                      have hIs : ∀ W, Calls Tryd.prog 25 #[.agg #[.int .u8 X0, .int .u8 X1, .int .u8 X2, .int .u8 X3]] W fun e w' => e = .returned (.bool K) ∧ Below W.heap.size W w' := fun W => by
                        rw [hX0, hX1, hX2, hX3, hK]; exact ris_any x W
                      have hLi : ∀ W, Calls Tryd.prog 32 #[.agg #[.int .u8 X0, .int .u8 X1, .int .u8 X2, .int .u8 X3]] W fun e w' => e = .returned (.string LB) ∧ Below W.heap.size W w' := fun W => by
                        rw [hX0, hX1, hX2, hX3, hLB]; exact rline_any x W
                      have hxx := Lib.hid (⟨hx, hK, hLB, hX0, hX1, hX2, hX3⟩ : _ ∧ _ ∧ _ ∧ _ ∧ _ ∧ _ ∧ _)
                      have hcm : (LB.toList == sB.toList) = decide (x.told = s) := by rw [hLB, hH.out.1]; exact str_beq _ _
                      have hcmH := Lib.hid hcm
                      clear hx f0 f1 f2 f3 hqq hX0 hX1 hX2 hX3 hK hLB hcs hcm
                      cases K with
                      | false =>
                        go_wp2_with (go_at_call 25; refine (hIs _).mono ?_; rintro e w4 ⟨rfl, hb4⟩)
                        go_roundw
                        case rel =>
                          refine ⟨i + 1, by simp, by omega, Lib.hid ⟨hI3.out.1.trans (hb4.mono hI3.out.1.size), fun y hy => ?_⟩⟩
                          rw [List.take_add_one, hxx.out.1] at hy
                          rcases List.mem_append.1 hy with h | h
                          · exact hI3.out.2 y h
                          · simp at h; subst h; rw [← hxx.out.2.1]; rfl
                        case measure => simp [intOf] <;> omega
                      | true =>
                        by_cases ht : x.told = s
                        · have hcm := hcmH.out
                          rw [decide_eq_true ht] at hcm
                          have hFx : F = some x.bytes := by
                            rw [hS.out.2.2.2.2]
                            have : CL.find? (fun x => x.is && x.told == s) = some x := by
                              rw [List.find?_eq_some_iff_getElem]
                              obtain ⟨h1, h2⟩ := List.getElem?_eq_some_iff.1 hxx.out.1
                              refine ⟨by rw [← hxx.out.2.1]; simp [ht], i, h1, h2, fun j hj => ?_⟩
                              have hm : CL[j] ∈ CL.take i := List.mem_of_getElem? (i := j) (by rw [List.getElem?_take, if_pos hj, List.getElem?_eq_getElem (by omega)])
                              have := hI3.out.2 _ hm
                              rw [this]; decide
                            rw [this]; rfl
                          have hFxH := Lib.hid (⟨hFx, ht⟩ : _ ∧ _)
                          clear hFx ht
                          go_upto_region 34 with (first
                            | (go_at_call 25; refine (hIs _).mono ?_; rintro e w4 ⟨rfl, hb4⟩; obtain ⟨t0, t1, t2, t3⟩ := hcsH.out w4 hb4; have hb4H := Lib.hid hb4; clear hb4)
                            | (go_at_call 32; refine (hLi _).mono ?_; rintro e w5 ⟨rfl, hb5⟩; have hb45 := hb4H.out.trans (hb5.mono hb4H.out.size); obtain ⟨s0, s1, s2, s3⟩ := hcsH.out w5 hb45; have hb5H := Lib.hid hb45; clear hb5 hb45))
                          go_still_tail 20, (by kernel_rfl)
                          obtain ⟨WD, hWD⟩ : ∃ WD, WD = w5.drew := ⟨_, rfl⟩
                          have hbW : Below w5.heap.size w5 WD := by rw [hWD]; exact (Below.refl _ _).drew
                          have hbWH := Lib.hid hbW
                          clear hbW
                          change wpList _ _ _ _ _ w5.drew
                          rw [← hWD]
                          clear hWD
                          go_wp2
                          go_ret2
                          have hb6 := hb5H.out.trans (hbWH.out.mono hb5H.out.size)
                          have hb7 := hG.out.2.2.trans ((hC.out.2.2.2.trans ((hI3.out.1.trans (hb6.mono hI3.out.1.size)).mono hC.out.2.2.2.size)).mono hG.out.2.2.size)
                          refine FourPost.some hFxH.out.1 ?_ (hb7.alloc hb7.size _)
                          have := Cs.new WD (bys x.bytes) 5 4 (by unfold maxLen; omega)
                          have e : (bys x.bytes).toArray = #[.int .u8 X0, .int .u8 X1, .int .u8 X2, .int .u8 X3] := by
                            obtain ⟨-, -, -, h0, h1, h2, h3⟩ := hxx.out
                            rw [h0, h1, h2, h3]; rfl
                          rw [e] at this
                          exact this
                        · have hcm := hcmH.out
                          rw [decide_eq_false ht] at hcm
                          have htH := Lib.hid ht
                          clear ht
                          go_wp2_with (first
                            | (go_at_call 25; refine (hIs _).mono ?_; rintro e w4 ⟨rfl, hb4⟩; obtain ⟨t0, t1, t2, t3⟩ := hcsH.out w4 hb4; have hb4H := Lib.hid hb4; clear hb4)
                            | (go_at_call 32; refine (hLi _).mono ?_; rintro e w5 ⟨rfl, hb5⟩; have hb45 := hb4H.out.trans (hb5.mono hb4H.out.size); have hb5H := Lib.hid hb45; clear hb5 hb45))
                          go_roundw
                          case rel =>
                            refine ⟨i + 1, by simp, by omega, Lib.hid ⟨hI3.out.1.trans (hb5H.out.mono hI3.out.1.size), fun y hy => ?_⟩⟩
                            rw [List.take_add_one, hxx.out.1] at hy
                            rcases List.mem_append.1 hy with h | h
                            · exact hI3.out.2 y h
                            · simp at h; subst h; simp [htH.out]
                          case measure => simp [intOf] <;> omega
                    · obtain rfl : i = n := by omega
                      have hFn : F = none := by
                        rw [hS.out.2.2.2.2]
                        have : CL.find? (fun x => x.is && x.told == s) = none := by
                          rw [List.find?_eq_none]
                          intro y hy
                          have h := hI3.out.2
                          rw [List.take_of_length_le (by have := hC.out.1; omega)] at h
                          have := h y hy
                          simpa using this
                        rw [this]; rfl
                      have hFnH := Lib.hid hFn
                      clear hFn
                      go_wp2
                      go_ret2
                      exact FourPost.none hFnH.out (hG.out.2.2.trans ((hC.out.2.2.2.trans (hI3.out.1.mono hC.out.2.2.2.size)).mono hG.out.2.2.size))
end Go.Proofs
end
section
namespace Go.Proofs
open Go.RowKit
set_option linter.unusedVariables false
set_option linter.unusedSimpArgs false

set_option maxHeartbeats 2000000 in
set_option maxRecDepth 100000 in
theorem rof_any (s : List UInt8) (hs : s.length ≤ 3000) (w : World) :
    Calls Tryd.prog 21 #[.string ⟨s.toArray⟩] w fun e w' => ∃ R b n, e = .returned (.tuple #[R, .int .i64 n]) ∧ Read s b n ∧ By w' R b ∧ Below w.heap.size w w' := by
  obtain ⟨sB, hsB⟩ : ∃ sB : ByteArray, sB = ⟨s.toArray⟩ := ⟨_, rfl⟩
  obtain ⟨n, hn⟩ : ∃ n, n = s.length := ⟨_, rfl⟩
  have hz : sB.size = n := by rw [hsB, str_size, hn]
  rw [← hsB]
  have hsH := Lib.hid (⟨hsB, hn⟩ : _ ∧ _)
  rw [← hn] at hs
  clear hsB hn
  go_enter Tryd.func21, Tryd.ntmps21
  go_wp2
  go_loopw [4, 5, 6] (fun ov fv iv wr => ∃ (O : List UInt8) (L frm i : Nat) (A : Option Addr) (c : Nat), ov = .slice A L c ∧ fv = .int .i64 frm ∧ iv = .int .i64 i ∧ L ≤ 4 * frm ∧ frm ≤ i ∧ i ≤ n ∧ Hid (L = O.length ∧ RfMid s O frm ∧ (10 : UInt8) ∉ (s.take i).drop frm ∧ Row wr 5 1 (.slice A L c) L (bys O) ∧ (∀ k ∈ foot (.slice A L c), w.heap.size ≤ k) ∧ Below w.heap.size w wr)) (fun _ _ iv _ => n - (intOf iv).toNat)
  case atStart => exact ⟨[], 0, 0, 0, none, 0, rfl, rfl, rfl, by omega, by omega, by omega, Lib.hid ⟨rfl, RfMid.start s, by simp, Row.nil _ _ _, (fun k hk => by cases hk), Below.refl _ _⟩⟩
  case round =>
    obtain ⟨O, L, frm, i, A, c, rfl, rfl, rfl, hLf, hfi, hi, hI⟩ := hrel
    by_cases hin : i < n
    · obtain ⟨x, hx⟩ : ∃ x, s[i]? = some x := ⟨_, List.getElem?_eq_getElem (by have := hsH.out.2; omega)⟩
      have hdr : s.drop i = x :: s.drop (i + 1) := by
        obtain ⟨h1, h2⟩ := List.getElem?_eq_some_iff.1 hx
        rw [List.drop_eq_getElem_cons h1, h2]
      have htk : s.take (i + 1) = s.take i ++ [x] := take_snoc' hx
      have hix := fun W => value_ix s sB hsH.out.1 i x hx W
      obtain ⟨X, hX⟩ : ∃ X : Int, X = (x.toNat : Int) := ⟨_, rfl⟩
      rw [← hX] at hix
      by_cases h10 : x = 10
      · have hX2 : X = 10 := by rw [hX, h10]; rfl
        subst hX2
        obtain ⟨t, ht⟩ : ∃ t, t = (s.take i).drop frm := ⟨_, rfl⟩
        obtain ⟨WB, hWB⟩ : ∃ WB : ByteArray, WB = ⟨t.toArray⟩ := ⟨_, rfl⟩
        have hex : sB.extract frm i = WB := by rw [hWB, ht, hsH.out.1]; exact extract_eq s frm i
        have htl : t.length ≤ 3000 := by rw [ht, List.length_drop, List.length_take]; omega
        have hfd : s.drop frm = t ++ 10 :: s.drop (i + 1) := by
          rw [ht, ← h10, ← hdr]
          conv => lhs; rw [← List.take_append_drop i s]
          rw [List.drop_append_of_le_length (by rw [List.length_take]; have := hsH.out.2; omega)]
        have f1 : (frm : Int) ≤ (i : Int) := by omega
        have f2 : (i : Int) ≤ (sB.size : Int) := by omega
        have hFo := rfour_any t htl wr
        obtain ⟨F, hF⟩ : ∃ F, F = fourP t := ⟨_, rfl⟩
        rw [← hF, ← hWB] at hFo
        have h10t : (10 : UInt8) ∉ t := by rw [ht]; exact hI.out.2.2.1
        have hT := Lib.hid (⟨hF, hfd, h10t, htk, h10⟩ : _ ∧ _ ∧ _ ∧ _ ∧ _)
        clear hX hx hdr htk hWB htl hfd hF h10t ht
        cases F with
        | none =>
          have hbad := hI.out.2.1.bad hT.out.2.1 hT.out.2.2.1 (.inl hT.out.1.symm)
          have hbH := Lib.hid hbad
          clear hbad
          have hFo2 : Calls Tryd.prog 34 #[.string WB] wr fun e w' => ∃ R, e = .returned (.tuple #[R, .bool false]) ∧ Below wr.heap.size wr w' := hFo.mono fun e w' h => by
            obtain ⟨R, h1, h2, h3⟩ := h; exact ⟨R, h1, h3⟩
          clear hFo
          go_wp2_with (go_at_call 34; refine hFo2.mono ?_; rintro e w2 ⟨R, rfl, hb2⟩)
          go_ret2
          exact ⟨_, [], 16, rfl, .inr ⟨hbH.out, rfl, rfl⟩, By.nil _, hI.out.2.2.2.2.2.trans (hb2.mono hI.out.2.2.2.2.2.size)⟩
        | some b =>
          have hbl : b.length ≤ 4 := four_length hT.out.1.symm
          obtain ⟨k, hk⟩ : ∃ k, k = b.length := ⟨_, rfl⟩
          have hFo2 : Calls Tryd.prog 34 #[.string WB] wr fun e w' => ∃ A1 c1, e = .returned (.tuple #[.slice A1 k c1, .bool true]) ∧ Cs w' (.slice A1 k c1) k (bys b) ∧ Below wr.heap.size wr w' := hFo.mono fun e w' h => by
            obtain ⟨R, h1, h2, h3⟩ := h
            obtain ⟨A1, c1, rfl, -, -⟩ := h2.val
            rw [hk]
            exact ⟨A1, c1, h1, h2, h3⟩
          clear hFo
          rw [← hk] at hbl
          have hkH := Lib.hid hk
          clear hk
          by_cases h4 : L % 4 = 0
          · have q1 : ((L : Int) % 4 == 0) = true := by simp; omega
            have h4H := Lib.hid h4
            clear h4
            go_upto_region 10 with (go_at_call 34; refine hFo2.mono ?_; rintro e w2 ⟨A1, c1, rfl, hB, hb2⟩)
            have hR2 := Lib.hid (hI.out.2.2.2.1.below hb2)
            have hC2 := Lib.hid hB
            have hb2H := Lib.hid hb2
            clear hB hb2
            go_wp2_with (at_builtin; refine wpList_append_cs elt_bytes (by decide) _ rfl _ _ (by rfl) (by rfl) (by rfl) hR2.out hC2.out (by rw [bys_length, ← hkH.out]; omega) (bys_one _) (by unfold maxLen; omega) (by omega) (k := L + k) rfl ?_; intro A' c' w3 hr hg hf)
            go_roundw
            case rel =>
              have hI2 := hI.out
              have hb3 := hI2.2.2.2.2.2.trans (hb2H.out.mono hI2.2.2.2.2.2.size)
              refine ⟨O ++ b, L + k, i + 1, i + 1, A', c', rfl, by simp, by simp, by omega, by omega, by omega, Lib.hid ⟨by rw [hI2.1, hkH.out, List.length_append], ?_, by rw [List.drop_eq_nil_of_le (by rw [List.length_take]; omega)]; simp, by rw [bys_append]; exact hr, ?_, ?_⟩⟩
              · exact hI2.2.1.next hT.out.2.1 rfl hT.out.2.2.1 hT.out.1.symm
              · intro q hq
                rcases hf q hq with h | h
                · exact hI2.2.2.2.2.1 q h
                · exact Nat.le_trans hb3.size h
              · exact hb3.grown hg hb3.size (fun q hq => hI2.2.2.2.2.1 q (row_mem hq))
            case measure => simp [intOf] <;> omega
          · have q1 : ((L : Int) % 4 == 0) = false := by simp; omega
            have hbad := hI.out.2.1.bad hT.out.2.1 hT.out.2.2.1 (.inr (by rw [← hI.out.1]; exact h4))
            have hbH := Lib.hid hbad
            clear hbad h4
            go_wp2_with (go_at_call 34; refine hFo2.mono ?_; rintro e w2 ⟨A1, c1, rfl, hB, hb2⟩)
            go_ret2
            exact ⟨_, [], 16, rfl, .inr ⟨hbH.out, rfl, rfl⟩, By.nil _, hI.out.2.2.2.2.2.trans (hb2.mono hI.out.2.2.2.2.2.size)⟩
      · have hX3 : X ≠ 10 := fun e => h10 (UInt8.toNat_inj.1 (by rw [hX] at e; show x.toNat = 10; omega))
        have hX2 : (X == 10) = false := by simpa using hX3
        have hdH := Lib.hid (⟨htk, h10⟩ : _ ∧ _)
        clear hX hdr htk h10 hx
        go_wp2
        go_roundw
        case rel =>
          refine ⟨O, L, frm, i + 1, A, c, rfl, rfl, by simp, hLf, by omega, by omega, Lib.hid ⟨hI.out.1, hI.out.2.1, ?_, hI.out.2.2.2⟩⟩
          rw [hdH.out.1, List.drop_append_of_le_length (by rw [List.length_take]; have := hsH.out.2; omega)]
          intro h
          rcases List.mem_append.1 h with h | h
          · exact hI.out.2.2.1 h
          · simp at h; exact hdH.out.2 h.symm
        case measure => simp [intOf] <;> omega
    · obtain rfl : i = n := by omega
      have hno : (10 : UInt8) ∉ s.drop frm := by
        have h := hI.out.2.2.1
        rw [List.take_of_length_le (by have := hsH.out.2; omega)] at h; exact h
      have hnoH := Lib.hid hno
      clear hno
      by_cases he : frm = i
      · obtain ⟨TB, hTB⟩ : ∃ TB : ByteArray, TB = ⟨(textP O).toArray⟩ := ⟨_, rfl⟩
        have hTx := rtext_any (.slice A L c) O (by have := hI.out.1; omega) wr (By.of_row hI.out.2.2.2.1)
        rw [← hTB] at hTx
        have hcm : (TB.toList == sB.toList) = decide (textP O = s) := by rw [hTB, hsH.out.1]; exact str_beq _ _
        by_cases ht : textP O = s
        · rw [decide_eq_true ht] at hcm
          have htH := Lib.hid ht
          clear ht hTB
          by_cases hbig : 1024 < L
          · have hbi : (1024 : Int) < (L : Int) := by omega
            have q1 : ((frm : Int) == (i : Int)) = true := by simp; omega
            go_wp2_with (go_at_call 20; refine hTx.mono ?_; rintro e w2 ⟨rfl, hb2⟩)
            go_ret2
            exact ⟨_, [], 17, rfl, .inl ⟨O, htH.out.symm, .inr ⟨by have := hI.out.1; omega, rfl, rfl⟩⟩, By.nil _, hI.out.2.2.2.2.2.trans (hb2.mono hI.out.2.2.2.2.2.size)⟩
          · have hbi : ¬ (1024 : Int) < (L : Int) := by omega
            have q1 : ((frm : Int) == (i : Int)) = true := by simp; omega
            go_wp2_with (go_at_call 20; refine hTx.mono ?_; rintro e w2 ⟨rfl, hb2⟩)
            go_ret2
            exact ⟨_, O, 0, rfl, .inl ⟨O, htH.out.symm, .inl ⟨by have := hI.out.1; omega, rfl, rfl⟩⟩, (By.of_row hI.out.2.2.2.1).below hb2, hI.out.2.2.2.2.2.trans (hb2.mono hI.out.2.2.2.2.2.size)⟩
        · rw [decide_eq_false ht] at hcm
          have hbad := hI.out.2.1.none_ hnoH.out (.inr ht)
          have hbH := Lib.hid hbad
          clear ht hTB hbad
          have q1 : ((frm : Int) == (i : Int)) = true := by simp; omega
          go_wp2_with (go_at_call 20; refine hTx.mono ?_; rintro e w2 ⟨rfl, hb2⟩)
          go_ret2
          exact ⟨_, [], 16, rfl, .inr ⟨hbH.out, rfl, rfl⟩, By.nil _, hI.out.2.2.2.2.2.trans (hb2.mono hI.out.2.2.2.2.2.size)⟩
      · have hbad := hI.out.2.1.none_ hnoH.out (.inl (by have := hsH.out.2; omega))
        have hbH := Lib.hid hbad
        clear hbad
        have q1 : ((frm : Int) == (i : Int)) = false := by simp; omega
        go_wp2
        go_ret2
        exact ⟨_, [], 16, rfl, .inr ⟨hbH.out, rfl, rfl⟩, By.nil _, hI.out.2.2.2.2.2⟩
end Go.Proofs
end
section
namespace Go.Proofs
open Go.RowKit
set_option linter.unusedVariables false
set_option linter.unusedSimpArgs false

def knownB : List UInt8 := [1, 2, 1, 0, 6, 3, 255, 254, 21, 0, 0, 0, 9, 9]
def knownT : List UInt8 := [99, 111, 110, 115, 116, 32, 50, 32, 50, 53, 54, 10, 122, 101, 114, 111, 32, 51, 32, 45, 50, 10, 99, 97, 108, 108, 32, 53, 10, 114, 97, 119, 32, 48, 57, 48, 57, 10]
theorem dd1 {u : Nat} (h : u < 10) : Lib.decDigits u = [UInt8.ofNat (48 + u)] := by rw [Lib.decDigits, dif_pos h]
theorem dd2 {u : Nat} (h : ¬ u < 10) : Lib.decDigits u = Lib.decDigits (u / 10) ++ [UInt8.ofNat (48 + u % 10)] := by rw [Lib.decDigits, dif_neg h]
theorem lineP_is (o a b c : UInt8) (h1 : (⟨o, a, b, c⟩ : Ins).is = true) (h2 : (⟨o, a, b, c⟩ : Ins).told ≠ []) : lineP [o, a, b, c] = (⟨o, a, b, c⟩ : Ins).told := if_pos ⟨h1, h2⟩
theorem known_text : textP knownB = knownT := by
  have e0 : lineP [1, 2, 1, 0] = [99, 111, 110, 115, 116, 32, 50, 32, 50, 53, 54] := by
    have h1 : (⟨1, 2, 1, 0⟩ : Ins).told = wConst ++ (bn (2 : Int) ++ bn (256 : Int)) := rfl
    have d1 : Lib.itoa 2 = [50] := by rw [itoa_nn (by decide)]; exact dd1 (by decide)
    have d2 : Lib.itoa 256 = [50, 53, 54] := by
      rw [itoa_nn (by decide), show (256 : Int).toNat = 256 from rfl, dd2 (by decide), dd2 (by decide), dd1 (by decide)]; rfl
    rw [lineP_is _ _ _ _ (by decide) (by rw [h1]; simp [bn]), h1]
    simp [bn, d1, d2, wConst]
  have e1 : lineP [6, 3, 255, 254] = [122, 101, 114, 111, 32, 51, 32, 45, 50] := by
    have h1 : (⟨6, 3, 255, 254⟩ : Ins).told = wZero ++ (bn (3 : Int) ++ bn (-2 : Int)) := rfl
    have d1 : Lib.itoa 3 = [51] := by rw [itoa_nn (by decide)]; exact dd1 (by decide)
    have d2 : Lib.itoa (-2) = [45, 50] := by
      rw [itoa_neg (by decide)]; exact congrArg _ (dd1 (by decide))
    rw [lineP_is _ _ _ _ (by decide) (by rw [h1]; simp [bn]), h1]
    simp [bn, d1, d2, wZero]
  have e2 : lineP [21, 0, 0, 0] = [99, 97, 108, 108, 32, 53] := by
    have h1 : (⟨21, 0, 0, 0⟩ : Ins).told = wCall ++ bn (5 : Int) := rfl
    have d1 : Lib.itoa 5 = [53] := by rw [itoa_nn (by decide)]; exact dd1 (by decide)
    rw [lineP_is _ _ _ _ (by decide) (by rw [h1]; simp [bn]), h1]
    simp [bn, d1, wCall]
  have e3 : lineP [9, 9] = [114, 97, 119, 32, 48, 57, 48, 57] := by decide
  show textTo knownB 4 = _
  rw [textTo_succ, textTo_succ, textTo_succ, textTo_succ, textTo_zero]
  show [] ++ (lineP [1, 2, 1, 0] ++ [10]) ++ (lineP [6, 3, 255, 254] ++ [10]) ++ (lineP [21, 0, 0, 0] ++ [10]) ++ (lineP [9, 9] ++ [10]) = _
  rw [e0, e1, e2, e3]; rfl
set_option maxRecDepth 100000 in
theorem known_any (w : World) (hT : Ta w) : Calls Tryd.prog 9 #[] w fun e w' => e = .returned (.bool true) ∧ Below w.heap.size w w' := by
  have hb := (Below.refl w.heap.size w).alloc (Nat.le_refl _) (.cells #[.int .u8 1, .int .u8 2, .int .u8 1, .int .u8 0, .int .u8 6, .int .u8 3, .int .u8 255, .int .u8 254, .int .u8 21, .int .u8 0, .int .u8 0, .int .u8 0, .int .u8 9, .int .u8 9] 5)
  have hBy : By (w.alloc (.cells #[.int .u8 1, .int .u8 2, .int .u8 1, .int .u8 0, .int .u8 6, .int .u8 3, .int .u8 255, .int .u8 254, .int .u8 21, .int .u8 0, .int .u8 0, .int .u8 0, .int .u8 9, .int .u8 9] 5)) (.slice (some ⟨w.heap.size, 0, none⟩) 14 14) knownB := Cs.new w (bys knownB) 5 14 (by unfold maxLen; omega)
  have hTx := text_any _ knownB (by decide) _ (hT.below hb) hBy
  obtain ⟨TB, hTB⟩ : ∃ TB : ByteArray, TB = ⟨(textP knownB).toArray⟩ := ⟨_, rfl⟩
  rw [← hTB] at hTx
  have hcm : (TB.toList == [99, 111, 110, 115, 116, 32, 50, 32, 50, 53, 54, 10, 122, 101, 114, 111, 32, 51, 32, 45, 50, 10, 99, 97, 108, 108, 32, 53, 10, 114, 97, 119, 32, 48, 57, 48, 57, 10]) = true := by
    rw [hTB, known_text, show (⟨knownT.toArray⟩ : ByteArray).toList = knownT by simp]; decide
  have hbH := Lib.hid hb
  clear hTB hb hBy
  go_enter Tryd.func9, Tryd.ntmps9
  go_wp2_with (go_at_call 18; refine hTx.mono ?_; rintro e w2 ⟨rfl, hb2⟩)
  go_ret
  exact ⟨rfl, hbH.out.trans (hb2.mono hbH.out.size)⟩
end Go.Proofs
end
section
namespace Go.Proofs
open Go.RowKit
set_option linter.unusedVariables false
set_option linter.unusedSimpArgs false

theorem Read.err {s b : List UInt8} {n : Int} (h : Read s b n) : (n = 0 ∧ s = textP b ∧ b.length ≤ 1024) ∨ (n ≠ 0 ∧ b = []) := by
  rcases h with ⟨b', hb, ⟨h1, rfl, h3⟩ | ⟨_, h2, h3⟩⟩ | ⟨_, h2, h3⟩
  · exact .inl ⟨h3, hb, h1⟩
  · exact .inr ⟨by omega, h2⟩
  · exact .inr ⟨by omega, h2⟩
set_option maxRecDepth 100000 in
theorem reads_any (s : List UInt8) (w : World) (hL : Ld w) : Calls Tryd.prog 6 #[.string ⟨s.toArray⟩] w fun e w' => e = .returned (.bool true) ∧ Below w.heap.size w w' := by
  obtain ⟨sB, hsB⟩ : ∃ sB : ByteArray, sB = ⟨s.toArray⟩ := ⟨_, rfl⟩
  have hz : sB.size = s.length := by rw [hsB, str_size]
  rw [← hsB]
  have hsH := Lib.hid hsB
  have hLH := Lib.hid hL
  have hkn := fun W (hb : Below w.heap.size w W) => known_any W (hLH.out.ta.below hb)
  have hknH := Lib.hid hkn
  by_cases h3 : s.length ≤ 3000
  · have hOf : Calls Tryd.prog 19 #[.string sB] w fun e w' => ∃ A b c n, e = .returned (.tuple #[.slice A b.length c, .int .i64 n]) ∧ Read s b n ∧ By w' (.slice A b.length c) b ∧ Below w.heap.size w w' := by
      rw [hsB]
      exact (of_any s (by omega) w hL).mono fun e w' ⟨R, b, n, h1, h2, h3, h4⟩ => by
        obtain ⟨A, c, rfl, _, _⟩ := h3.val
        exact ⟨A, b, c, n, h1, h2, h3, h4⟩
    have hRo : ∀ W b n, Read s b n → Calls Tryd.prog 21 #[.string sB] W fun e w' => ∃ A c, e = .returned (.tuple #[.slice A b.length c, .int .i64 n]) ∧ By w' (.slice A b.length c) b ∧ Below W.heap.size W w' := by
      intro W b n hR
      rw [hsB]
      exact (rof_any s h3 W).mono fun e w' ⟨R, b', n', h1, h2, h3, h4⟩ => by
        obtain ⟨rfl, rfl⟩ := Read.det h2 hR
        obtain ⟨A, c, rfl, _, _⟩ := h3.val
        exact ⟨A, c, h1, h3, h4⟩
    have hRoH := Lib.hid hRo
    clear hL hsB hkn hRo
    go_enter Tryd.func6, Tryd.ntmps6
    go_upto_region 4 with (go_at_call 19; refine hOf.mono ?_; rintro e w1 ⟨A1, b, c1, n, rfl, hRd, hB1, hb1⟩)
    obtain ⟨m, hm⟩ : ∃ m, m = b.length := ⟨_, rfl⟩
    have hRo := hRoH.out w1 b n hRd
    have hn := hRd.err
    rw [← hm] at hB1 hRo ⊢
    have hmH := Lib.hid (⟨hm, hB1, hb1⟩ : _ ∧ _ ∧ _)
    clear hRd hm hB1 hb1
    by_cases hn0 : n = 0
    · subst hn0
      have hst : s = textP b ∧ b.length ≤ 1024 := by
        rcases hn with h | ⟨h, _⟩
        · exact h.2
        · exact absurd rfl h
      have hstH := Lib.hid hst
      clear hn hst
      go_upto_region 5 with (go_at_call 21; refine hRo.mono ?_; rintro e w2 ⟨A2, c2, rfl, hB2, hb2⟩)
      obtain ⟨hm, hB1, hb1⟩ := hmH.out
      have hB1' := hB1.below hb2
      have k1 := conv_bytes hB1'
      have k2 := conv_bytes hB2
      have hb12 := hb1.trans (hb2.mono hb1.size)
      have hTx := text_any (.slice A1 m c1) b (by have := hstH.out.2; omega) w2 (hLH.out.ta.below hb12) hB1'
      rw [← hstH.out.1, ← hsH.out] at hTx
      obtain ⟨BB, hBB⟩ : ∃ BB : ByteArray, BB = ⟨b.toArray⟩ := ⟨_, rfl⟩
      rw [← hBB] at k1 k2
      have hbH := Lib.hid hb12
      clear hb12 hB1' hB1 hb1 hb2 hB2 hBB hm hRo
      go_wp2_with (first
        | (go_at_call 18; refine hTx.mono ?_; rintro e w3 ⟨rfl, hb3⟩; have hb13 := Lib.hid (hbH.out.trans (hb3.mono hbH.out.size)); clear hb3)
        | (go_at_call 9; refine (hknH.out _ hb13.out).mono ?_; rintro e w4 ⟨rfl, hb4⟩))
      go_ret
      exact ⟨rfl, hb13.out.trans (hb4.mono hb13.out.size)⟩
    · have hq : (n == 0) = false := by simpa using hn0
      have hn0H := Lib.hid hn0
      clear hn
      go_upto_region 5 with (go_at_call 21; refine hRo.mono ?_; rintro e w2 ⟨A2, c2, rfl, hB2, hb2⟩)
      obtain ⟨hm, hB1, hb1⟩ := hmH.out
      have hB1' := hB1.below hb2
      have k1 := conv_bytes hB1'
      have k2 := conv_bytes hB2
      have hb12 := hb1.trans (hb2.mono hb1.size)
      obtain ⟨BB, hBB⟩ : ∃ BB : ByteArray, BB = ⟨b.toArray⟩ := ⟨_, rfl⟩
      rw [← hBB] at k1 k2
      have hbH := Lib.hid hb12
      clear hb12 hB1' hB1 hb1 hb2 hB2 hBB hm hRo
      go_wp2_with (go_at_call 9; refine (hknH.out _ hbH.out).mono ?_; rintro e w4 ⟨rfl, hb4⟩)
      go_ret
      exact ⟨rfl, hbH.out.trans (hb4.mono hbH.out.size)⟩
  · have h3i : (3000 : Int) < (s.length : Int) := by omega
    clear hL hsB hkn
    go_enter Tryd.func6, Tryd.ntmps6
    go_wp2_with (go_at_call 9; refine (hknH.out _ (Below.refl _ _)).mono ?_; rintro e w4 ⟨rfl, hb4⟩)
    go_ret
    exact ⟨rfl, hb4⟩
end Go.Proofs
end
section
namespace Go.Proofs
open Go.RowKit
set_option linter.unusedVariables false
set_option linter.unusedSimpArgs false

theorem read_text (l : List UInt8) : Read (textP l) (if l.length ≤ 1024 then l else []) (if l.length ≤ 1024 then 0 else 17) := by
  refine .inl ⟨l, rfl, ?_⟩
  by_cases h : l.length ≤ 1024
  · rw [if_pos h, if_pos h]; exact .inl ⟨h, rfl, rfl⟩
  · rw [if_neg h, if_neg h]; exact .inr ⟨by omega, rfl, rfl⟩
set_option maxRecDepth 100000 in
theorem texts_any (V : Value) (l : List UInt8) (w : World) (hB : By w V l) (hL : Ld w) : Calls Tryd.prog 5 #[V] w fun e w' => e = .returned (.bool true) ∧ Below w.heap.size w w' := by
  have hBv := hB
  obtain ⟨A, c, rfl, -, -⟩ := hBv.val
  obtain ⟨n, hn⟩ : ∃ n, n = l.length := ⟨_, rfl⟩
  have hLH := Lib.hid (⟨hL, hB, hn⟩ : _ ∧ _ ∧ _)
  have hknH := Lib.hid (fun W (hb : Below w.heap.size w W) => known_any W (hL.ta.below hb))
  rw [← hn] at hB ⊢
  by_cases h2 : n ≤ 2000
  · have hR2 := Lib.hid (Row.nil w 5 1)
    have hC2 : Hid (Cs w (.slice A n c) n (bys l)) := Lib.hid (by have h := hB; unfold By at h; rw [← hn] at h; exact h)
    clear hB hL hn hBv
    go_enter Tryd.func5, Tryd.ntmps5
    go_upto_region 4 with (at_builtin; refine wpList_append_cs elt_bytes (by decide) _ rfl _ _ (by rfl) (by rfl) (by rfl) hR2.out hC2.out (by rw [bys_length, ← hLH.out.2.2]; omega) (bys_one _) (by unfold maxLen; omega) (by omega) (k := n) (by omega) ?_; intro A' c' w1 hr hg hf)
    have hb1 : Below w.heap.size w w1 := (Below.refl _ _).grown hg (Nat.le_refl _) (fun q hq => by have := row_mem hq; cases this)
    have hBc : By w1 (.slice A' n c') l := By.of_row hr
    have hTx := text_any _ l (by have := hLH.out.2.2; omega) w1 (hLH.out.1.ta.below hb1) hBc
    obtain ⟨T, hT⟩ : ∃ T, T = textP l := ⟨_, rfl⟩
    have hTl : T.length ≤ 1000000 := by
      rw [hT]
      have := text_length l
      have := hLH.out.2.2
      omega
    obtain ⟨TB, hTB⟩ : ∃ TB : ByteArray, TB = ⟨T.toArray⟩ := ⟨_, rfl⟩
    rw [← hT, ← hTB] at hTx
    obtain ⟨b, hb⟩ : ∃ b, b = (if l.length ≤ 1024 then l else []) := ⟨_, rfl⟩
    obtain ⟨e, he⟩ : ∃ e : Int, e = (if l.length ≤ 1024 then 0 else 17) := ⟨_, rfl⟩
    obtain ⟨m, hm⟩ : ∃ m, m = b.length := ⟨_, rfl⟩
    have hOf : ∀ W, Below w.heap.size w W → Calls Tryd.prog 19 #[.string TB] W fun ee w' => ∃ A c, ee = .returned (.tuple #[.slice A m c, .int .i64 e]) ∧ By w' (.slice A m c) b ∧ Below W.heap.size W w' := by
      intro W hbW
      rw [hTB]
      exact (of_any T hTl W (hLH.out.1.below hbW)).mono fun ee w' ⟨R, b', n', h1, h2, h3, h4⟩ => by
        rw [hT] at h2
        have hrd := read_text l
        rw [← hb, ← he] at hrd
        obtain ⟨rfl, rfl⟩ := Read.det h2 hrd
        obtain ⟨A, c, rfl, _, _⟩ := h3.val
        rw [hm]
        exact ⟨A, c, h1, h3, h4⟩
    have hRT : ∀ W, Below w.heap.size w W → Calls Tryd.prog 20 #[.slice A n c] W fun ee w' => ee = .returned (.string TB) ∧ Below W.heap.size W w' := by
      intro W hbW
      rw [hTB, hT]
      have h := hLH.out.2.1.below hbW
      have hn := hLH.out.2.2
      rw [← hn] at h
      exact rtext_any _ l (by omega) W h
    have hC := Lib.hid (⟨hb1, hBc, hb, he, hm⟩ : _ ∧ _ ∧ _ ∧ _ ∧ _)
    have hOfH := Lib.hid hOf
    have hRTH := Lib.hid hRT
    clear hr hg hf hb1 hBc hT hTl hTB hb he hm hOf hRT
    go_upto_region 6 with (first
      | (go_at_call 18; refine hTx.mono ?_; rintro ee w2 ⟨rfl, hb2⟩; have hb12 := Lib.hid (⟨hC.out.1.trans (hb2.mono hC.out.1.size), hb2⟩ : _ ∧ _); clear hb2)
      | (go_at_call 19; refine (hOfH.out _ hb12.out.1).mono ?_; rintro ee w3 ⟨A3, c3, rfl, hB3, hb3⟩; have hb13 := Lib.hid (⟨hb12.out.1.trans (hb3.mono hb12.out.1.size), hb12.out.2.trans (hb3.mono hb12.out.2.size)⟩ : _ ∧ _); have hB3H := Lib.hid hB3; clear hb3 hB3))
    obtain ⟨LB, hLB⟩ : ∃ LB : ByteArray, LB = ⟨l.toArray⟩ := ⟨_, rfl⟩
    obtain ⟨BB, hBB⟩ : ∃ BB : ByteArray, BB = ⟨b.toArray⟩ := ⟨_, rfl⟩
    have hRT := hRTH.out w3 hb13.out.1
    have hcv : ∀ W, Below w3.heap.size w3 W → (convert 22 9 (.slice A n c)).run Tryd.prog W = .ok (.string LB) W ∧ (convert 22 9 (.slice A' n c')).run Tryd.prog W = .ok (.string LB) W ∧ (convert 22 9 (.slice A3 m c3)).run Tryd.prog W = .ok (.string BB) W := fun W hbW => by
      rw [hLB, hBB]
      refine ⟨?_, conv_bytes (hC.out.2.1.below (hb13.out.2.trans (hbW.mono hb13.out.2.size))), conv_bytes (hB3H.out.below hbW)⟩
      have h := hLH.out.2.1.below (hb13.out.1.trans (hbW.mono hb13.out.1.size))
      rw [← hLH.out.2.2] at h
      exact conv_bytes h
    have hcvH := Lib.hid (⟨hcv, hLB, hBB⟩ : _ ∧ _ ∧ _)
    clear hcv hLB hBB
    by_cases hbig : n ≤ 1024
    · have hbi : ¬ (1024 : Int) < (n : Int) := by omega
      have he : e = 0 := by rw [hC.out.2.2.2.1, if_pos (by have := hLH.out.2.2; omega)]
      have hbl : BB = LB := by rw [hcvH.out.2.2, hcvH.out.2.1, hC.out.2.2.1, if_pos (by have := hLH.out.2.2; omega)]
      subst he hbl
      go_wp2_with (first
        | (go_at_call 20; refine hRT.mono ?_; rintro ee w4 ⟨rfl, hb4⟩; obtain ⟨k1, k2, k3⟩ := hcvH.out.1 w4 hb4; have hb14 := Lib.hid (hb13.out.1.trans (hb4.mono hb13.out.1.size)); clear hb4)
        | (go_at_call 9; refine (hknH.out _ hb14.out).mono ?_; rintro ee w5 ⟨rfl, hb5⟩))
      go_ret
      exact ⟨rfl, hb14.out.trans (hb5.mono hb14.out.size)⟩
    · have hbi : (1024 : Int) < (n : Int) := by omega
      have he : e = 17 := by rw [hC.out.2.2.2.1, if_neg (by have := hLH.out.2.2; omega)]
      have hm0 : m = 0 := by rw [hC.out.2.2.2.2, hC.out.2.2.1, if_neg (by have := hLH.out.2.2; omega)]; rfl
      subst he hm0
      go_wp2_with (first
        | (go_at_call 20; refine hRT.mono ?_; rintro ee w4 ⟨rfl, hb4⟩; obtain ⟨k1, k2, k3⟩ := hcvH.out.1 w4 hb4; have hb14 := Lib.hid (hb13.out.1.trans (hb4.mono hb13.out.1.size)); clear hb4)
        | (go_at_call 9; refine (hknH.out _ hb14.out).mono ?_; rintro ee w5 ⟨rfl, hb5⟩))
      go_ret
      exact ⟨rfl, hb14.out.trans (hb5.mono hb14.out.size)⟩
  · have h2i : (2000 : Int) < (n : Int) := by omega
    clear hB hL hn hBv
    go_enter Tryd.func5, Tryd.ntmps5
    go_wp2_with (go_at_call 9; refine (hknH.out _ (Below.refl _ _)).mono ?_; rintro e w4 ⟨rfl, hb4⟩)
    go_ret
    exact ⟨rfl, hb4⟩
end Go.Proofs
end
section
namespace Go.Proofs
open Go.RowKit
set_option linter.unusedVariables false
set_option linter.unusedSimpArgs false

theorem line_ne (b : List UInt8) : lineP b ≠ [] := by
  rcases line_cases b with h | ⟨x, _, _, h1, h2⟩
  · rw [h]; simp [rawP, wRaw]
  · rw [h2]; exact h1
theorem read_nl : Read [10] [] 16 := by
  refine .inr ⟨fun b h => ?_, rfl, rfl⟩
  obtain ⟨hb, h2, _⟩ := text_first (t := []) (r := []) (b := b) (by simp) h
  exact line_ne _ h2.symm
theorem read_nop : Read [110, 111, 112] [] 16 := by
  refine .inr ⟨fun b h => ?_, rfl, rfl⟩
  have := (text_has (b := b) (t := [110, 111, 112]) (by decide) h).2
  cases this
set_option maxRecDepth 100000 in
theorem nil_any (w : World) (hL : Ld w) : Calls Tryd.prog 8 #[] w fun e w' => e = .returned (.bool true) ∧ Below w.heap.size w w' := by
  have hD : ∀ pc W, (pc = 0 ∨ pc = -1 ∨ pc = 1) → Calls Tryd.prog 10 #[.slice none 0 0, .int .i64 pc] W fun e w' => e = .returned (.tuple #[.agg #[.int .u8 0, .int .u8 0, .int .u8 0, .int .u8 0], .int .i64 (if pc = 0 then 4 else 7)]) ∧ Below W.heap.size W w' := by
    intro pc W h
    refine (decode_any _ [] (by decide) pc (by omega) (by omega) W (By.nil W)).mono fun e w' ⟨h1, h2⟩ => ⟨?_, h2⟩
    rw [h1]
    rcases h with h | h | h <;> subst h <;> rfl
  have hD0 := fun W => hD 0 W (.inl rfl)
  have hD1 := fun W => hD (-1) W (.inr (.inl rfl))
  have hD2 := fun W => hD 1 W (.inr (.inr rfl))
  simp only [reduceIte, show ¬ ((-1 : Int) = 0) by decide, show ¬ ((1 : Int) = 0) by decide] at hD0 hD1 hD2
  have hO : ∀ s b n W, s.length ≤ 3 → Read s b n → Below w.heap.size w W → Calls Tryd.prog 19 #[.string ⟨s.toArray⟩] W fun ee w' => ∃ A c, ee = .returned (.tuple #[.slice A b.length c, .int .i64 n]) ∧ Below W.heap.size W w' := by
    intro s b n W hs hR hb
    exact (of_any s (by omega) W (hL.below hb)).mono fun ee w' ⟨R, b', n', h1, h2, h3, h4⟩ => by
      obtain ⟨rfl, rfl⟩ := Read.det h2 hR
      obtain ⟨A, c, rfl, _, _⟩ := h3.val
      exact ⟨A, c, h1, h4⟩
  have hO0 := fun W hb => hO [] [] 0 W (by decide) (.inl ⟨[], rfl, .inl ⟨by decide, rfl, rfl⟩⟩) hb
  have hO1 := fun W hb => hO [10] [] 16 W (by decide) read_nl hb
  have hO2 := fun W hb => hO [110, 111, 112] [] 16 W (by decide) read_nop hb
  have hT : ∀ W, Below w.heap.size w W → Calls Tryd.prog 18 #[.slice none 0 0] W fun e w' => e = .returned (.string { data := #[] }) ∧ Below W.heap.size W w' := fun W hb => text_any _ [] (by decide) W (hL.ta.below hb) (By.nil W)
  have hBy : ∀ W, Calls Tryd.prog 13 #[.slice none 0 0] W fun e w' => ∃ A c, e = .returned (.slice A 0 c) ∧ Below W.heap.size W w' := fun W => (bytes_any _ [] (by decide) W (Cs.nil W)).mono fun e w' ⟨R, h1, h2, _, h3⟩ => by
    obtain ⟨A, c, rfl, _⟩ := h2.val
    exact ⟨A, c, h1, h3⟩
  have hLe : ∀ W, Calls Tryd.prog 12 #[.slice none 0 0] W fun e w' => e = .returned (.int .i64 0) ∧ Below W.heap.size W w' := fun W => (len_any _ [] (by decide) W (By.nil W)).mono fun e w' h => ⟨h.1, h.2 ▸ Below.refl _ _⟩
  have hKn := fun W (hb : Below w.heap.size w W) => known_any W (hL.ta.below hb)
  have hB0 := Lib.hid (Below.refl w.heap.size w)
  have H := Lib.hid (⟨hD0, hD1, hD2, hO0, hO1, hO2, hT, hBy, hLe, hKn⟩ : _ ∧ _ ∧ _ ∧ _ ∧ _ ∧ _ ∧ _ ∧ _ ∧ _ ∧ _)
  clear hD hD0 hD1 hD2 hO hO0 hO1 hO2 hT hBy hLe hKn hL
  go_enter Tryd.func8, Tryd.ntmps8
  go_upto_region 2 with (go_at_call 10; refine (H.out.1 _).mono ?_; rintro e w1 ⟨rfl, hb1⟩)
  have hB1 := Lib.hid ((hB0.out.trans (hb1.mono hB0.out.size)).alloc (hB0.out.trans (hb1.mono hB0.out.size)).size (.cells #[.int .u8 0, .int .u8 0, .int .u8 0, .int .u8 0] 26))
  clear hb1
  go_upto_region 3 with (go_at_call 10; refine (H.out.2.1 _).mono ?_; rintro e w2 ⟨rfl, hb2⟩)
  have hB2 := Lib.hid ((hB1.out.trans (hb2.mono hB1.out.size)).alloc (hB1.out.trans (hb2.mono hB1.out.size)).size (.cells #[.int .u8 0, .int .u8 0, .int .u8 0, .int .u8 0] 26))
  clear hb2
  go_upto_region 4 with (go_at_call 10; refine (H.out.2.2.1 _).mono ?_; rintro e w3 ⟨rfl, hb3⟩)
  have hB3 := Lib.hid ((hB2.out.trans (hb3.mono hB2.out.size)).alloc (hB2.out.trans (hb3.mono hB2.out.size)).size (.cells #[.int .u8 0, .int .u8 0, .int .u8 0, .int .u8 0] 26))
  clear hb3
  go_upto_region 5 with (go_at_call 19; refine (H.out.2.2.2.1 _ hB3.out).mono ?_; rintro e w4 ⟨A4, c4, rfl, hb4⟩)
  have hB4 := Lib.hid (hB3.out.trans (hb4.mono hB3.out.size))
  clear hb4
  go_upto_region 6 with (go_at_call 19; refine (H.out.2.2.2.2.1 _ hB4.out).mono ?_; rintro e w5 ⟨A5, c5, rfl, hb5⟩)
  have hB5 := Lib.hid (hB4.out.trans (hb5.mono hB4.out.size))
  clear hb5
  go_upto_region 7 with (go_at_call 19; refine (H.out.2.2.2.2.2.1 _ hB5.out).mono ?_; rintro e w6 ⟨A6, c6, rfl, hb6⟩)
  have hB6 := Lib.hid (hB5.out.trans (hb6.mono hB5.out.size))
  clear hb6
  go_wp2_with (first
    | (go_at_call 18; refine (H.out.2.2.2.2.2.2.1 _ hB6.out).mono ?_; rintro e w7 ⟨rfl, hb7⟩; have hB7 := Lib.hid (hB6.out.trans (hb7.mono hB6.out.size)); clear hb7)
    | (go_at_call 13; refine (H.out.2.2.2.2.2.2.2.1 _).mono ?_; rintro e w8 ⟨A8, c8, rfl, hb8⟩; have hB8 := Lib.hid (hB7.out.trans (hb8.mono hB7.out.size)); clear hb8)
    | (go_at_call 12; refine (H.out.2.2.2.2.2.2.2.2.1 _).mono ?_; rintro e w9 ⟨rfl, hb9⟩; have hB9 := Lib.hid (hB8.out.trans (hb9.mono hB8.out.size)); clear hb9)
    | (go_at_call 9; refine (H.out.2.2.2.2.2.2.2.2.2 _ hB9.out).mono ?_; rintro e w10 ⟨rfl, hb10⟩))
  go_ret
  exact ⟨rfl, hB9.out.trans (hb10.mono hB9.out.size)⟩
end Go.Proofs
end
section
namespace Go.Proofs
open Go.RowKit
set_option linter.unusedVariables false
set_option linter.unusedSimpArgs false

theorem ins_len (x : Ins) : x.bytes.length = 4 := rfl
set_option maxHeartbeats 2000000 in
set_option maxRecDepth 100000 in
theorem jumps_any (a b : Int) (a0 : -9223372036854775808 ≤ a) (a1 : a ≤ 9223372036854775807) (b0 : -9223372036854775808 ≤ b) (b1 : b ≤ 9223372036854775807) (w : World) (hL : Ld w) : Calls Tryd.prog 7 #[.int .i64 a, .int .i64 b] w fun e w' => e = .returned (.bool true) ∧ Below w.heap.size w w' := by
  have hLH := Lib.hid hL
  clear hL
  go_enter Tryd.func7, Tryd.ntmps7
  go_upto_region 2 with fail
  generalize hX : bits BinOp.and IntKind.i64 a 255 % 256 = X
  generalize hY : bits BinOp.and IntKind.i64 b 255 % 256 = Y
  have hX0 : 0 ≤ X ∧ X < 256 := by omega
  have hY0 : 0 ≤ Y ∧ Y < 256 := by omega
  obtain ⟨x, hx⟩ : ∃ x : Ins, x = ⟨5, 0, UInt8.ofNat X.toNat, UInt8.ofNat Y.toNat⟩ := ⟨_, rfl⟩
  have hv : x.val = .agg #[.int .u8 5, .int .u8 0, .int .u8 X, .int .u8 Y] := by
    rw [hx, Ins.val_eq, UInt8.toNat_ofNat', UInt8.toNat_ofNat', show ((X.toNat % 2 ^ 8 : Nat) : Int) = X by omega, show ((Y.toNat % 2 ^ 8 : Nat) : Int) = Y by omega]; rfl
  have hbs : bys x.bytes = [.int .u8 5, .int .u8 0, .int .u8 X, .int .u8 Y] := by
    have h1 : ((UInt8.ofNat X.toNat).toNat : Int) = X := by rw [UInt8.toNat_ofNat']; omega
    have h2 : ((UInt8.ofNat Y.toNat).toNat : Int) = Y := by rw [UInt8.toNat_ofNat']; omega
    rw [hx]; simp only [Ins.bytes, Lib.byteCells, List.map_cons, List.map_nil, h1, h2]; rfl
  obtain ⟨J, hJ⟩ : ∃ J, J = x.jump := ⟨_, rfl⟩
  obtain ⟨N, hN⟩ : ∃ N : Int, N = x.num := ⟨_, rfl⟩
  have j0 : ¬ J < -32768 := by rw [hJ]; have := x.jump_in; omega
  have j1 : ¬ 32767 < J := by rw [hJ]; have := x.jump_in; omega
  have hJu : ∀ W, Calls Tryd.prog 16 #[.agg #[.int .u8 5, .int .u8 0, .int .u8 X, .int .u8 Y]] W fun e w' => e = .returned (.int .i64 J) ∧ Below W.heap.size W w' := fun W => by rw [← hv, hJ]; exact jump_any x W
  have hRJ : ∀ W, Calls Tryd.prog 17 #[.agg #[.int .u8 5, .int .u8 0, .int .u8 X, .int .u8 Y]] W fun e w' => e = .returned (.int .i64 J) ∧ Below W.heap.size W w' := fun W => by rw [← hv, hJ]; exact rjump_any x W
  have hNu : ∀ W, Calls Tryd.prog 14 #[.agg #[.int .u8 5, .int .u8 0, .int .u8 X, .int .u8 Y]] W fun e w' => e = .returned (.int .i64 N) ∧ Below W.heap.size W w' := fun W => by rw [← hv, hN]; exact number_any x W
  have hRN : ∀ W, Calls Tryd.prog 15 #[.agg #[.int .u8 5, .int .u8 0, .int .u8 X, .int .u8 Y]] W fun e w' => e = .returned (.int .i64 N) ∧ Below W.heap.size W w' := fun W => by rw [← hv, hN]; exact rnumber_any x W
  obtain ⟨W0, hW0⟩ : ∃ W0, W0 = w.alloc (.cells #[.int .u8 5, .int .u8 0, .int .u8 X, .int .u8 Y] 26) := ⟨_, rfl⟩
  have hbk : Blk W0 w.heap.size 26 #[.int .u8 5, .int .u8 0, .int .u8 X, .int .u8 Y] := by rw [hW0]; exact Blk.new w 26 _
  have hbl0 : Below w.heap.size w W0 := by rw [hW0]; exact (Below.refl _ _).alloc (Nat.le_refl _) _
  rw [← hW0]
  have q0 : W0.cell? ⟨w.heap.size, 0, none⟩ = some (.int .u8 5) := hbk.cell 0
  have q1 : W0.cell? ⟨w.heap.size, 1, none⟩ = some (.int .u8 0) := hbk.cell 1
  have q2 : W0.cell? ⟨w.heap.size, 2, none⟩ = some (.int .u8 X) := hbk.cell 2
  have q3 : W0.cell? ⟨w.heap.size, 3, none⟩ = some (.int .u8 Y) := hbk.cell 3
  obtain ⟨S, hS⟩ : ∃ S, S = w.heap.size := ⟨_, rfl⟩
  have hltS : S < W0.heap.size := by rw [hS]; exact hbk.lt
  rw [← hS] at q0 q1 q2 q3 ⊢
  have hK := Lib.hid (⟨hx, hbs, hbl0, hS⟩ : _ ∧ _ ∧ _ ∧ _)
  clear hX hY hx hv hbs hJ hN hW0 hbk hbl0 hS
  go_upto_region 3 with (go_at_call 16; refine (hJu _).mono ?_; rintro e w1 ⟨rfl, hb1⟩)
  have p0 := (hb1.cell (p := ⟨S, 0, none⟩) hltS).trans q0
  have p1 := (hb1.cell (p := ⟨S, 1, none⟩) hltS).trans q1
  have p2 := (hb1.cell (p := ⟨S, 2, none⟩) hltS).trans q2
  have p3 := (hb1.cell (p := ⟨S, 3, none⟩) hltS).trans q3
  have hb1H := Lib.hid hb1
  have k0 := cell_regrown p0
  have k1 := cell_regrown p1
  have k2 := cell_regrown p2
  have k3 := cell_regrown p3
  have cA : ∀ d os, Calls Tryd.prog 17 #[.agg #[.int .u8 5, .int .u8 0, .int .u8 X, .int .u8 Y]] (Go.Sort.grow (redrawn w1 d) os) fun e w'' => e = .returned (.int .i64 J) ∧ ∃ p : Regrown, w'' = Go.Sort.grow (redrawn w1 p.d) p.os := fun d os => Calls.regrown_of (hRJ _)
  have cB : ∀ d os, Calls Tryd.prog 14 #[.agg #[.int .u8 5, .int .u8 0, .int .u8 X, .int .u8 Y]] (Go.Sort.grow (redrawn w1 d) os) fun e w'' => e = .returned (.int .i64 N) ∧ ∃ p : Regrown, w'' = Go.Sort.grow (redrawn w1 p.d) p.os := fun d os => Calls.regrown_of (hNu _)
  have cC : ∀ d os, Calls Tryd.prog 15 #[.agg #[.int .u8 5, .int .u8 0, .int .u8 X, .int .u8 Y]] (Go.Sort.grow (redrawn w1 d) os) fun e w'' => e = .returned (.int .i64 N) ∧ ∃ p : Regrown, w'' = Go.Sort.grow (redrawn w1 p.d) p.os := fun d os => Calls.regrown_of (hRN _)
  clear q0 q1 q2 q3 hb1
  refine wp_region_quiet_below (by kernel_rfl) (by kernel_rfl) ?_
  repeat (quiet_step (first | with_reducible exact cA _ _ | with_reducible exact cB _ _ | with_reducible exact cC _ _))
  refine wpQuiet_nil ?_
  intro W2 hw'
  obtain ⟨⟨dq, osq⟩, hw''⟩ := hw'
  have hbW2 : Below w1.heap.size w1 W2 := by rw [hw'']; exact below_regrown w1 dq osq
  clear hw''
  have hS1 : S < w1.heap.size := Nat.lt_of_lt_of_le hltS hb1H.out.size
  have hc2 := fun W (hb : Below W2.heap.size W2 W) (k : Nat) v (hk : w1.cell? ⟨S, k, none⟩ = some v) => (hb.cell (p := ⟨S, k, none⟩) (Nat.lt_of_lt_of_le hS1 hbW2.size)).trans ((hbW2.cell (p := ⟨S, k, none⟩) hS1).trans hk)
  have r0 := hc2 W2 (Below.refl _ _) 0 _ p0
  have r1 := hc2 W2 (Below.refl _ _) 1 _ p1
  have r2 := hc2 W2 (Below.refl _ _) 2 _ p2
  have r3 := hc2 W2 (Below.refl _ _) 3 _ p3
  have hB2 : Below w.heap.size w W2 := hK.out.2.2.1.trans ((hb1H.out.trans (hbW2.mono hb1H.out.size)).mono hK.out.2.2.1.size)
  have hlaw := Lib.hid (⟨hB2, fun W hb => hc2 W hb 2 _ p2, fun W hb => hc2 W hb 3 _ p3⟩ : _ ∧ (∀ W, Below W2.heap.size W2 W → _) ∧ (∀ W, Below W2.heap.size W2 W → _))
  clear hbW2 hc2 p0 p1 p2 p3 k0 k1 k2 k3 cA cB cC hJu hRJ hNu hRN hB2
  have d0 : decide (J < -32768) = false := decide_eq_false (by omega)
  have d1 : decide (32767 < J) = false := decide_eq_false (by omega)
  have hCs : Hid (Cs (W2.alloc (.cells #[.int .u8 5, .int .u8 0, .int .u8 X, .int .u8 Y] 26)) (.slice (some ⟨W2.heap.size, 0, none⟩) 1 1) 1 (bys (flatI [x]))) := Lib.hid (by
    have h := Cs.new W2 (bys (flatI [x])) 26 1 (by unfold maxLen; omega)
    have e : (bys (flatI [x])).toArray = #[.int .u8 5, .int .u8 0, .int .u8 X, .int .u8 Y] := by
      rw [show flatI [x] = x.bytes by simp [flatI], hK.out.2.1]
    rw [e] at h
    exact h)
  have hb3 := Lib.hid ((Below.refl W2.heap.size W2).alloc (Nat.le_refl _) (.cells #[.int .u8 5, .int .u8 0, .int .u8 X, .int .u8 Y] 26))
  have hBy := bytes_any _ [x] (by simp) _ hCs.out
  have hBy2 : Calls Tryd.prog 13 #[.slice (some ⟨W2.heap.size, 0, none⟩) 1 1] (W2.alloc (.cells #[.int .u8 5, .int .u8 0, .int .u8 X, .int .u8 Y] 26)) fun e w' => ∃ A c, e = .returned (.slice A 4 c) ∧ By w' (.slice A 4 c) x.bytes ∧ Below W2.heap.size W2 w' := hBy.mono fun e w' ⟨R, h1, h2, _, h3⟩ => by
    obtain ⟨A, c, rfl, _⟩ := h2.val
    exact ⟨A, c, h1, by have := By.of_row (l := flatI [x]) h2; rw [show flatI [x] = x.bytes by simp [flatI]] at this; exact this, hb3.out.trans (h3.mono hb3.out.size)⟩
  obtain ⟨TB, hTB⟩ : ∃ TB : ByteArray, TB = ⟨(textP x.bytes).toArray⟩ := ⟨_, rfl⟩
  have hTx : ∀ A c W, Below W2.heap.size W2 W → By W (.slice A 4 c) x.bytes → Calls Tryd.prog 18 #[.slice A 4 c] W fun e w' => e = .returned (.string TB) ∧ Below W.heap.size W w' := fun A c W hb h => by
    rw [hTB]
    exact text_any _ x.bytes (by rw [ins_len]; omega) W (hLH.out.ta.below (hlaw.out.1.trans (hb.mono hlaw.out.1.size))) h
  have hOf : ∀ W, Below W2.heap.size W2 W → Calls Tryd.prog 19 #[.string TB] W fun e w' => ∃ g o c, e = .returned (.tuple #[.slice (some ⟨g, o, none⟩) 4 c, .int .i64 0]) ∧ g < w'.heap.size ∧ w'.cell? ⟨g, o + 2, none⟩ = some (.int .u8 X) ∧ w'.cell? ⟨g, o + 3, none⟩ = some (.int .u8 Y) ∧ 4 ≤ c ∧ Below W.heap.size W w' := fun W hb => by
    rw [hTB]
    have hl := text_length x.bytes
    rw [ins_len] at hl
    refine (of_any (textP x.bytes) (by omega) W (hLH.out.below (hlaw.out.1.trans (hb.mono hlaw.out.1.size)))).mono fun e w' ⟨R, b', n', h1, h2, h3, h4⟩ => ?_
    have hrd := read_text x.bytes
    rw [if_pos (by rw [ins_len]; decide), if_pos (by rw [ins_len]; decide)] at hrd
    obtain ⟨rfl, rfl⟩ := Read.det h2 hrd
    obtain ⟨g, o, c, rfl, hc1, _, hlt, hcell⟩ := Cs.open_ h3 (by rw [hK.out.2.1]; simp)
    rw [hK.out.2.1] at hcell
    rw [ins_len] at h1 hc1
    exact ⟨g, o, c, h1, hlt, hcell 2 _ rfl, hcell 3 _ rfl, hc1, h4⟩
  have hTxH := Lib.hid hTx
  have hOfH := Lib.hid hOf
  have hKn := Lib.hid (fun W (hb : Below W2.heap.size W2 W) => known_any W (hLH.out.ta.below (hlaw.out.1.trans (hb.mono hlaw.out.1.size))))
  clear hBy hTx hOf hTB
  go_upto_region 6 with (first
    | (go_at_call 13; refine hBy2.mono ?_; rintro e w3 ⟨A3, c3, rfl, hB3, hb3'⟩; have hb23 := Lib.hid (⟨hb3', hB3⟩ : _ ∧ _); clear hb3' hB3)
    | (go_at_call 18; refine (hTxH.out _ _ _ hb23.out.1 hb23.out.2).mono ?_; rintro e w4 ⟨rfl, hb4⟩; have hb24 := Lib.hid (hb23.out.1.trans (hb4.mono hb23.out.1.size)); clear hb4)
    | (go_at_call 19; refine (hOfH.out _ hb24.out).mono ?_; rintro e w5 ⟨g5, o5, c5, rfl, hlt5, e2, e3, hc5, hb5⟩; have hb25 := Lib.hid (hb24.out.trans (hb5.mono hb24.out.size)); clear hb5))
  have s2 := hlaw.out.2.1 _ hb25.out
  have s3 := hlaw.out.2.2 _ hb25.out
  have m2 := cell_regrown s2
  have m3 := cell_regrown s3
  have n2 := cell_regrown e2
  have n3 := cell_regrown e3
  have cK : ∀ d os, Calls Tryd.prog 9 #[] (Go.Sort.grow (redrawn w5 d) os) fun e w'' => e = .returned (.bool true) ∧ ∃ p : Regrown, w'' = Go.Sort.grow (redrawn w5 p.d) p.os := fun d os => Calls.regrown_of (hKn.out _ (hb25.out.trans ((below_regrown w5 d os).mono hb25.out.size)))
  clear s2 s3 e2 e3
  refine wp_region_quiet_below (by kernel_rfl) (by kernel_rfl) ?_
  repeat (quiet_step (first | with_reducible exact cK _ _))
  refine wpQuiet_nil ?_
  intro W6 hw'
  obtain ⟨⟨dq, osq⟩, hw''⟩ := hw'
  have hbW6 : Below w5.heap.size w5 W6 := by rw [hw'']; exact below_regrown w5 dq osq
  clear hw'' cK m2 m3 n2 n3
  have hb26 := hb25.out.trans (hbW6.mono hb25.out.size)
  have hE := Lib.hid (hlaw.out.1.trans (hb26.mono hlaw.out.1.size))
  clear hb26 hbW6
  go_wp2
  go_ret
  exact ⟨rfl, hE.out⟩
end Go.Proofs
end
section
namespace Go.Proofs
open Go.RowKit
set_option linter.unusedVariables false
set_option linter.unusedSimpArgs false

/-- Both decode alike. -/
theorem both_decode (l : List UInt8) (hl : l.length ≤ 2000) (pc : Int) (h0 : -9223372036854775808 ≤ pc) (h1 : pc ≤ 9223372036854775807) :
    ∃ X0 X1 X2 X3 E : Int, (∀ V W, By W V l → Calls Tryd.prog 10 #[V, .int .i64 pc] W fun e w' => e = .returned (.tuple #[.agg #[.int .u8 X0, .int .u8 X1, .int .u8 X2, .int .u8 X3], .int .i64 E]) ∧ Below W.heap.size W w')
      ∧ (∀ V W, By W V l → Calls Tryd.prog 11 #[V, .int .i64 pc] W fun e w' => e = .returned (.tuple #[.agg #[.int .u8 X0, .int .u8 X1, .int .u8 X2, .int .u8 X3], .int .i64 E]) ∧ Below W.heap.size W w') :=
  ⟨_, _, _, _, _, fun V W h => decode_any V l (by omega) pc h0 h1 W h, fun V W h => rdecode_any V l (by omega) pc h0 h1 W h⟩
set_option maxHeartbeats 2000000 in
set_option maxRecDepth 100000 in
theorem decodes_any (V : Value) (l : List UInt8) (pc : Int) (h0 : -9223372036854775808 ≤ pc) (h1 : pc ≤ 9223372036854775807) (w : World) (hB : By w V l) (hT : Ta w) : Calls Tryd.prog 3 #[V, .int .i64 pc] w fun e w' => e = .returned (.bool true) ∧ Below w.heap.size w w' := by
  have hBv := hB
  obtain ⟨A, c, rfl, -, -⟩ := hBv.val
  obtain ⟨n, hn⟩ : ∃ n, n = l.length := ⟨_, rfl⟩
  have hLH := Lib.hid (⟨hT, hB, hn⟩ : _ ∧ _ ∧ _)
  have hknH := Lib.hid (fun W (hb : Below w.heap.size w W) => known_any W (hT.below hb))
  rw [← hn] at hB ⊢
  by_cases h2 : n ≤ 2000
  · have hR2 := Lib.hid (Row.nil w 5 1)
    have hC2 : Hid (Cs w (.slice A n c) n (bys l)) := Lib.hid (by have h := hB; unfold By at h; rw [← hn] at h; exact h)
    have hV : ∀ W, Below w.heap.size w W → By W (.slice A n c) l := fun W hb => by have h := hLH.out.2.1.below hb; rw [← hLH.out.2.2] at h; exact h
    have hVH := Lib.hid hV
    clear hB hT hn hBv hV
    go_enter Tryd.func3, Tryd.ntmps3
    go_upto_region 4 with (at_builtin; refine wpList_append_cs elt_bytes (by decide) _ rfl _ _ (by rfl) (by rfl) (by rfl) hR2.out hC2.out (by rw [bys_length, ← hLH.out.2.2]; omega) (bys_one _) (by unfold maxLen; omega) (by omega) (k := n) (by omega) ?_; intro A' c' w1 hr hg hf)
    have hb1 : Below w.heap.size w w1 := (Below.refl _ _).grown hg (Nat.le_refl _) (fun q hq => by have := row_mem hq; cases this)
    have hBc : By w1 (.slice A' n c') l := By.of_row hr
    have hC := Lib.hid (⟨hb1, hBc⟩ : _ ∧ _)
    clear hb1 hBc hr hg hf
    go_wp2
    go_loopw [6] (fun iv wr => ∃ i : Int, iv = .int .i64 i ∧ -1 ≤ i ∧ i ≤ n / 4 + 2 ∧ Hid (Below w1.heap.size w1 wr)) (fun iv _ => ((n : Int) / 4 + 2 - intOf iv).toNat)
    case atStart => exact ⟨-1, rfl, by omega, by omega, Lib.hid (Below.refl _ _)⟩
    case round =>
      obtain ⟨i, rfl, hi0, hi, hI⟩ := hrel
      have hwr : Hid (Below w.heap.size w wr) := Lib.hid (hC.out.1.trans (hI.out.mono hC.out.1.size))
      by_cases hin : i ≤ n / 4 + 1
      · obtain ⟨X0, X1, X2, X3, E, hD, hRd⟩ := both_decode l (by have := hLH.out.2.2; omega) i (by omega) (by omega)
        have hDD := Lib.hid (⟨hD, hRd⟩ : _ ∧ _)
        clear hD hRd
        go_upto_region 8 with (go_at_call 10; refine (hDD.out.1 _ _ (hC.out.2.below hI.out)).mono ?_; rintro e w2 ⟨rfl, hb2⟩)
        obtain ⟨W2, hW2⟩ : ∃ W2, W2 = w2.alloc (.cells #[.int .u8 X0, .int .u8 X1, .int .u8 X2, .int .u8 X3] 26) := ⟨_, rfl⟩
        obtain ⟨S2, hS2⟩ : ∃ S2, S2 = w2.heap.size := ⟨_, rfl⟩
        have hk2 : Blk W2 S2 26 #[.int .u8 X0, .int .u8 X1, .int .u8 X2, .int .u8 X3] := by rw [hW2, hS2]; exact Blk.new w2 26 _
        have hbW2 : Below wr.heap.size wr W2 := by rw [hW2]; exact hb2.alloc hb2.size _
        rw [← hW2, ← hS2]
        have hK2 := Lib.hid (⟨hk2, hbW2⟩ : _ ∧ _)
        clear hW2 hS2 hk2 hbW2 hb2
        go_upto_region 9 with (go_at_call 11; refine (hDD.out.2 _ _ (hVH.out _ (hwr.out.trans (hK2.out.2.mono hwr.out.size)))).mono ?_; rintro e w3 ⟨rfl, hb3⟩)
        obtain ⟨W3, hW3⟩ : ∃ W3, W3 = w3.alloc (.cells #[.int .u8 X0, .int .u8 X1, .int .u8 X2, .int .u8 X3] 26) := ⟨_, rfl⟩
        obtain ⟨S3, hS3⟩ : ∃ S3, S3 = w3.heap.size := ⟨_, rfl⟩
        have hk3 : Blk W3 S3 26 #[.int .u8 X0, .int .u8 X1, .int .u8 X2, .int .u8 X3] := by rw [hW3, hS3]; exact Blk.new w3 26 _
        have hbW3 : Below W2.heap.size W2 W3 := by rw [hW3]; exact hb3.alloc hb3.size _
        rw [← hW3, ← hS3]
        have hk23 : Blk W3 S2 26 #[.int .u8 X0, .int .u8 X1, .int .u8 X2, .int .u8 X3] := hK2.out.1.same (hbW3.block _ hK2.out.1.lt)
        have q0 : W3.cell? ⟨S2, 0, none⟩ = some (.int .u8 X0) := hk23.cell 0
        have q1 : W3.cell? ⟨S2, 1, none⟩ = some (.int .u8 X1) := hk23.cell 1
        have q2 : W3.cell? ⟨S2, 2, none⟩ = some (.int .u8 X2) := hk23.cell 2
        have q3 : W3.cell? ⟨S2, 3, none⟩ = some (.int .u8 X3) := hk23.cell 3
        have r0 : W3.cell? ⟨S3, 0, none⟩ = some (.int .u8 X0) := hk3.cell 0
        have r1 : W3.cell? ⟨S3, 1, none⟩ = some (.int .u8 X1) := hk3.cell 1
        have r2 : W3.cell? ⟨S3, 2, none⟩ = some (.int .u8 X2) := hk3.cell 2
        have r3 : W3.cell? ⟨S3, 3, none⟩ = some (.int .u8 X3) := hk3.cell 3
        have hK3 := Lib.hid (hK2.out.2.trans (hbW3.mono hK2.out.2.size))
        clear hW3 hS3 hk3 hbW3 hb3 hk23
        go_wp2
        go_roundw
        case rel => exact ⟨i + 1, rfl, by omega, by omega, Lib.hid (hI.out.trans (hK3.out.mono hI.out.size))⟩
        case measure => simp [intOf] <;> omega

      · obtain ⟨X0, X1, X2, X3, E, hD, hRd⟩ := both_decode l (by have := hLH.out.2.2; omega) pc h0 h1
        have hDD := Lib.hid (⟨hD, hRd⟩ : _ ∧ _)
        clear hD hRd
        go_upto_region 12 with (go_at_call 10; refine (hDD.out.1 _ _ (hC.out.2.below hI.out)).mono ?_; rintro e w2 ⟨rfl, hb2⟩)
        obtain ⟨W2, hW2⟩ : ∃ W2, W2 = w2.alloc (.cells #[.int .u8 X0, .int .u8 X1, .int .u8 X2, .int .u8 X3] 26) := ⟨_, rfl⟩
        obtain ⟨S2, hS2⟩ : ∃ S2, S2 = w2.heap.size := ⟨_, rfl⟩
        have hk2 : Blk W2 S2 26 #[.int .u8 X0, .int .u8 X1, .int .u8 X2, .int .u8 X3] := by rw [hW2, hS2]; exact Blk.new w2 26 _
        have hbW2 : Below wr.heap.size wr W2 := by rw [hW2]; exact hb2.alloc hb2.size _
        rw [← hW2, ← hS2]
        have hK2 := Lib.hid (⟨hk2, hbW2⟩ : _ ∧ _)
        clear hW2 hS2 hk2 hbW2 hb2
        go_upto_region 13 with (go_at_call 11; refine (hDD.out.2 _ _ (hVH.out _ (hwr.out.trans (hK2.out.2.mono hwr.out.size)))).mono ?_; rintro e w3 ⟨rfl, hb3⟩)
        obtain ⟨W3, hW3⟩ : ∃ W3, W3 = w3.alloc (.cells #[.int .u8 X0, .int .u8 X1, .int .u8 X2, .int .u8 X3] 26) := ⟨_, rfl⟩
        obtain ⟨S3, hS3⟩ : ∃ S3, S3 = w3.heap.size := ⟨_, rfl⟩
        have hk3 : Blk W3 S3 26 #[.int .u8 X0, .int .u8 X1, .int .u8 X2, .int .u8 X3] := by rw [hW3, hS3]; exact Blk.new w3 26 _
        have hbW3 : Below W2.heap.size W2 W3 := by rw [hW3]; exact hb3.alloc hb3.size _
        rw [← hW3, ← hS3]
        have hk23 : Blk W3 S2 26 #[.int .u8 X0, .int .u8 X1, .int .u8 X2, .int .u8 X3] := hK2.out.1.same (hbW3.block _ hK2.out.1.lt)
        have q0 : W3.cell? ⟨S2, 0, none⟩ = some (.int .u8 X0) := hk23.cell 0
        have q1 : W3.cell? ⟨S2, 1, none⟩ = some (.int .u8 X1) := hk23.cell 1
        have q2 : W3.cell? ⟨S2, 2, none⟩ = some (.int .u8 X2) := hk23.cell 2
        have q3 : W3.cell? ⟨S2, 3, none⟩ = some (.int .u8 X3) := hk23.cell 3
        have r0 : W3.cell? ⟨S3, 0, none⟩ = some (.int .u8 X0) := hk3.cell 0
        have r1 : W3.cell? ⟨S3, 1, none⟩ = some (.int .u8 X1) := hk3.cell 1
        have r2 : W3.cell? ⟨S3, 2, none⟩ = some (.int .u8 X2) := hk3.cell 2
        have r3 : W3.cell? ⟨S3, 3, none⟩ = some (.int .u8 X3) := hk3.cell 3
        have hK3 := Lib.hid (hK2.out.2.trans (hbW3.mono hK2.out.2.size))
        clear hW3 hS3 hk3 hbW3 hb3 hk23
        obtain ⟨LB, hLB⟩ : ∃ LB : ByteArray, LB = ⟨l.toArray⟩ := ⟨_, rfl⟩
        have hbE := Lib.hid (⟨hwr.out.trans (hK3.out.mono hwr.out.size), hI.out.trans (hK3.out.mono hI.out.size)⟩ : _ ∧ _)
        have k1 : (convert 22 9 (.slice A' n c')).run Tryd.prog W3 = .ok (.string LB) W3 := by rw [hLB]; exact conv_bytes (hC.out.2.below hbE.out.2)
        have k2 : (convert 22 9 (.slice A n c)).run Tryd.prog W3 = .ok (.string LB) W3 := by rw [hLB]; exact conv_bytes (hVH.out _ hbE.out.1)
        have hLe : Calls Tryd.prog 12 #[.slice A' n c'] W3 fun e w' => e = .returned (.int .i64 ((n : Int) / 4)) ∧ w' = W3 := by
          have h := len_any (.slice A' n c') l (by have := hLH.out.2.2; omega) W3 (hC.out.2.below hbE.out.2)
          rw [← hLH.out.2.2] at h
          exact h
        clear hLB
        go_wp2_with (first
          | (go_at_call 12; refine hLe.mono ?_; rintro e w5 ⟨rfl, rfl⟩)
          | (go_at_call 9; refine (hknH.out _ hbE.out.1).mono ?_; rintro e w6 ⟨rfl, hb6⟩))
        go_ret
        exact ⟨rfl, hbE.out.1.trans (hb6.mono hbE.out.1.size)⟩

  · have h2i : (2000 : Int) < (n : Int) := by omega
    clear hB hT hn hBv
    go_enter Tryd.func3, Tryd.ntmps3
    go_wp2_with (go_at_call 9; refine (hknH.out _ (Below.refl _ _)).mono ?_; rintro e w4 ⟨rfl, hb4⟩)
    go_ret
    exact ⟨rfl, hb4⟩
end Go.Proofs
end
