import Derived.Test.YtgelpbmjgebnhaaM6
import Derived.Deep.RegionHeldLaw
import Derived.RangeFuncNested
import Derived.RangeFuncBound
import Derived.RangeFuncCalls
import Derived.RangeFuncLeaves
import Derived.RangeFuncFrom
import Derived.Shelf.Abstract
import Derived.Shelf.RegionOpen
import Derived.OwnWalkIn
import Derived.TacticsInMore
import Derived.LoopNIn
import Derived.LoopIn
import Derived.Sort.QuietIn
import Derived.RangeFuncBox
import Derived.Stop.RegionWithIn
import Derived.Test.YtgelpbmjgebnhaaM4
import Derived.Test.YtgelpbmjgebnhaaM5
section
namespace Go.Proofs
open Go.RowKit
set_option linter.unusedVariables false
set_option linter.unusedSimpArgs false

def RTab.plcAt (r : RTab) (ch : Nat → List (Int × Int)) (k : Nat) : Option Plc := match r.L[k]? with | some p => if p.is then some ⟨(k : Nat), p.gen, r.get ch (k : Nat) p.gen⟩ else none | none => none
def RTab.allTo (r : RTab) (ch : Nat → List (Int × Int)) (k : Nat) : List Plc := (List.range k).filterMap (r.plcAt ch)
def RTab.all (r : RTab) (ch : Nat → List (Int × Int)) : List Plc := r.allTo ch r.L.length
theorem allTo_yes {r : RTab} {ch : Nat → List (Int × Int)} {k : Nat} {p : Plc} (h : r.plcAt ch k = some p) : r.allTo ch (k + 1) = r.allTo ch k ++ [p] := by unfold RTab.allTo; rw [List.range_succ, List.filterMap_append]; simp [h]
theorem allTo_no {r : RTab} {ch : Nat → List (Int × Int)} {k : Nat} (h : r.plcAt ch k = none) : r.allTo ch (k + 1) = r.allTo ch k := by unfold RTab.allTo; rw [List.range_succ, List.filterMap_append]; simp [h]
theorem allTo_len (r : RTab) (ch : Nat → List (Int × Int)) (k : Nat) : (r.allTo ch k).length ≤ k := by unfold RTab.allTo; have := List.length_filterMap_le (r.plcAt ch) (List.range k); simpa using this
set_option maxHeartbeats 6400000 in
set_option maxRecDepth 100000 in
theorem rall_any {w : World} {h : Nat} {S : List Nat} {r : RTab} (hr : RefAt w h S r) (h0 : 0 < r.L.length) (hf : r.Fine) {ch : Nat → List (Int × Int)} (hch : r.Chs ch) :
    Calls Try.prog 26 #[ptr h] w fun e w' => ∃ A cc, e = .returned (.slice A (r.all ch).length cc) ∧ Row w' 90 13 (.slice A (r.all ch).length cc) (r.all ch).length (plcCells (r.all ch)) ∧ (∀ k ∈ foot (.slice A (r.all ch).length cc), w.heap.size ≤ k) ∧ Chg [] w w' := by
  obtain ⟨gl, cl, A9, cF, hne, hcl, _, lg, lh, htell⟩ := hr.tell h0
  have HT := Lib.hid htell
  have HG := Lib.hid (fun W (hW : Chg [] w W) j pj (hj : r.L[j]? = some pj) => rget_any (hr.quiet hW) hf hch hj pj.gen)
  obtain ⟨i0, hi0, hz0, hz1, hz2⟩ := info_parts Try.plc_info
  have hn := hf.len
  obtain ⟨n, hnn⟩ : ∃ n, n = r.L.length := ⟨_, rfl⟩
  rw [← hnn] at HT hcl hn
  have HN := Lib.hid hnn
  have hka : r.all ch = r.allTo ch n := by unfold RTab.all; rw [hnn]
  rw [hka]
  clear hr htell h0 hnn hka hf hch
  go_enter Try.func26, Try.ntmps26
  go_wp2
  go_loopg [3, 4] n (fun gh v iv wr => ∃ (j : Nat) (A : Option Addr) (cc : Nat), j + gh = n ∧ iv = .int .i64 j ∧ v = .slice A (r.allTo ch j).length cc ∧ Hid (Chg [] w wr ∧ Row wr 90 13 (.slice A (r.allTo ch j).length cc) (r.allTo ch j).length (plcCells (r.allTo ch j)) ∧ (∀ k' ∈ foot (.slice A (r.allTo ch j).length cc), w.heap.size ≤ k')))
  case atStart => exact ⟨0, none, 0, by omega, rfl, rfl, Lib.hid ⟨Chg.refl _ _, Row.nil _ _ _, fun k hk => (by cases hk)⟩⟩
  case round =>
    obtain ⟨j, A, cc, hk, rfl, rfl, HH⟩ := hrel
    obtain ⟨hc, hrow, hft⟩ := HH.out
    obtain ⟨a0, _, lhr, lgr, _, _, hpl⟩ := HT.out wr hc
    have HC := Lib.hid hc
    have HR := Lib.hid hrow
    have HF := Lib.hid hft
    have hkl := allTo_len r ch j
    by_cases hlt : j < n
    · have k0 : (0 : Int) ≤ (j : Int) := by omega
      have k1 : (j : Int) < (n : Int) := by omega
      obtain ⟨p, hp⟩ : ∃ p, r.L[j]? = some p := ⟨_, List.getElem?_eq_getElem (by rw [← HN.out]; exact hlt)⟩
      obtain ⟨b0, b1, _⟩ := hpl j p hp
      cases his : p.is with
      | false =>
        rw [his] at b1
        have HY := Lib.hid (allTo_no (r := r) (ch := ch) (k := j) (by unfold RTab.plcAt; rw [hp]; simp [his]))
        clear hpl hp hc hrow hft HH his b0
        go_wp2
        go_roundg (n - j - 1)
        case measure => omega
        case rel => exact ⟨j + 1, A, cc, by omega, by go_num, by rw [HY.out], Lib.hid ⟨HC.out, by rw [HY.out]; exact HR.out, by rw [HY.out]; exact HF.out⟩⟩
      | true =>
        rw [his] at b1
        have HY := Lib.hid (allTo_yes (r := r) (ch := ch) (k := j) (by unfold RTab.plcAt; rw [hp]; simp only [his, if_true]; rfl))
        have HGJ := Lib.hid (fun W (hW : Chg [] wr W) => HG.out W (hc.then hW) j p hp)
        obtain ⟨G, hG⟩ : ∃ G, G = p.gen := ⟨_, rfl⟩
        rw [← hG] at b0 HY HGJ
        obtain ⟨x, hx⟩ : ∃ x, x = r.get ch (j : Nat) G := ⟨_, rfl⟩
        rw [← hx] at HY HGJ
        have HNW := Lib.hid (show wr.heap.size ∉ foot (.slice A (r.allTo ch j).length cc) from fun hm => by have := hrow.lt _ hm; omega)
        clear hpl hp hc hrow hft HH his hG hx
        go_wp2
        go_region_held_law (fun w' => w'.cell? ⟨wr.heap.size, 0, none⟩ = some (.int .i64 (j : Nat)) ∧ w'.cell? ⟨wr.heap.size, 1, none⟩ = some (.int .u64 G))
          (first | go_keep)
          (first
            | (go_at_call 43; refine (HGJ.out _ (((Chg.refl _ _).alloc _).drew)).mono ?_; rintro e w1 ⟨rfl, hc1⟩; have HC1 := Lib.hid ((((Chg.refl [] wr).alloc _).drew).then hc1); have HR1 := Lib.hid (HR.out.chg ((((Chg.refl [] wr).alloc (obRef (j : Nat) G)).drew).then hc1) (fun _ _ h => by cases h)); have hr1 := ((Blk.new wr 34 #[.int .i64 (j : Nat), .int .u64 G]).drew).chg hc1 (by simp); have v0 := hr1.cell 0; have v1 := hr1.cell 1; have HRB := Lib.hid hr1; clear hc1 hr1)
            | (refine step_append_row _ (by rfl) _ _ 53 (by rfl) 90 i0 (.agg #[.int .i64 0, .int .u64 0, .int .i64 0, .int .u64 0, .int .i64 0, .int .u64 0, .int .u64 0, .int .i64 0, .int .u64 0, .int .i64 0, .int .i64 0, .int .u64 0, .int .i64 0]) 13 104 Try.underlying53 hi0 hz0 hz1 hz2 rfl (.slice A (r.allTo ch j).length cc) (r.allTo ch j).length (plcCells (r.allTo ch j)) (by rfl) (HR1.out.alloc _) ⟨w1.heap.size, 0, none⟩ 1 1 [.int .i64 (j : Nat), .int .u64 G, .int .i64 x.pi, .int .u64 x.pg, .int .i64 x.gs, .int .u64 x.cpu, .int .u64 x.per, .int .i64 x.cgs, .int .u64 x.car, .int .i64 x.own, .int .i64 x.live, .int .u64 x.used, .int .i64 x.ch] (by rfl) (by rfl) (World.news_of_block (cs := #[.int .i64 (j : Nat), .int .u64 G, .int .i64 x.pi, .int .u64 x.pg, .int .i64 x.gs, .int .u64 x.cpu, .int .u64 x.per, .int .i64 x.cgs, .int .u64 x.car, .int .i64 x.own, .int .i64 x.live, .int .u64 x.used, .int .i64 x.ch]) (t := 90) (fr := (0, 0)) (heap_alloc_new w1 _)) (by simp [Value.oneCell']) (by omega) (by unfold maxLen; omega) (by omega) (w1.heap.size + 1) (by simp) ?_; intro gg cap w2 hown hgrow hat hlt1; have hr2 := (HRB.out.alloc (.cells #[.int .i64 (j : Nat), .int .u64 G, .int .i64 x.pi, .int .u64 x.pg, .int .i64 x.gs, .int .u64 x.cpu, .int .u64 x.per, .int .i64 x.cgs, .int .u64 x.car, .int .i64 x.own, .int .i64 x.live, .int .u64 x.used, .int .i64 x.ch] 90)).same (hgrow.block _ (by have := HRB.out.lt; simp; omega) (fun e => HNW.out (row_mem e.symm))); have u0 := hr2.cell 0; have u1 := hr2.cell 1; clear hr2; have HOWN := Lib.hid hown; have HGR := Lib.hid hgrow; have HAT := Lib.hid hat; clear hown hgrow hat))
        go_wp2
        go_roundg (n - j - 1)
        case measure => omega
        case rel =>
          have hgg : gg ∈ foot (.slice A (r.allTo ch j).length cc) ∨ gg = w1.heap.size + 1 := HAT.out.imp (fun h => row_mem h) id
          have hc12 : Chg (foot (.slice A (r.allTo ch j).length cc)) w1 w2 := ((Chg.refl _ w1).alloc _).grown HGR.out (fun k hk => .inl (row_mem hk))
          have hsz := HC1.out.size
          have hsz2 := HC.out.size
          refine ⟨j + 1, some ⟨gg, 0, none⟩, cap, by omega, by go_num, by rw [HY.out, List.length_append]; rfl, Lib.hid ⟨((HC.out.then HC1.out).any.trans hc12 (fun k hk => .inl hk)).mono (fun k hk => .inr (HF.out k hk)), ?_, ?_⟩⟩
          · rw [HY.out, List.length_append, plcCells_snoc]; exact HOWN.out
          · intro k' hk'
            rw [HY.out, List.length_append] at hk'
            simp [foot_some] at hk'
            subst hk'
            rcases hgg with h | h
            · exact HF.out _ h
            · omega
    · obtain rfl : n = j := by omega
      clear hpl hc hrow hft HH
      go_wp2
      go_ret
      exact ⟨A, cc, rfl, HR.out, HF.out, HC.out⟩
end Go.Proofs
end
section
namespace Go.Proofs
open Go.RowKit Go.Shelf
set_option linter.unusedVariables false
set_option linter.unusedSimpArgs false

theorem sumN_congr {f g : Nat → Int} : ∀ (n : Nat), (∀ k, k < n → f k = g k) → sumN f n = sumN g n
  | 0, _ => rfl
  | n + 1, h => by rw [sumN_succ, sumN_succ, sumN_congr n (fun k hk => h k (by omega)), h n (by omega)]
theorem sumN_add (f g : Nat → Int) : ∀ n, sumN (fun k => f k + g k) n = sumN f n + sumN g n
  | 0 => rfl
  | n + 1 => by rw [sumN_succ, sumN_succ, sumN_succ, sumN_add f g n]; omega
theorem sumN_zero {f : Nat → Int} : ∀ (n : Nat), (∀ k, k < n → f k = 0) → sumN f n = 0
  | 0, _ => rfl
  | n + 1, h => by rw [sumN_succ, sumN_zero n (fun k hk => h k (by omega)), h n (by omega)]; rfl
theorem sumN_upd {f g : Nat → Int} {j : Nat} : ∀ (n : Nat), j < n → (∀ k, k < n → k ≠ j → g k = f k) → sumN g n = sumN f n - f j + g j
  | 0, h, _ => by omega
  | n + 1, hj, h => by
    rw [sumN_succ, sumN_succ]
    by_cases e : j = n
    · subst e
      rw [sumN_congr j (f := g) (g := f) (fun k hk => h k (by omega) (by omega))]; omega
    · rw [sumN_upd n (by omega) (fun k hk hn => h k (by omega) hn), h n (by omega) (fun x => e x.symm)]; omega
theorem sumN_one {f : Nat → Int} {n j : Nat} (hj : j < n) (h : ∀ k, k < n → k ≠ j → f k = 0) : sumN f n = f j := by
  have := sumN_upd (f := fun _ => 0) (g := f) n hj (fun k hk hn => h k hk hn)
  rw [sumN_zero n (f := fun _ => 0) (fun _ _ => rfl)] at this
  omega
theorem sumN_swap (F : Nat → Nat → Int) (n : Nat) : ∀ m, sumN (fun a => sumN (F a) n) m = sumN (fun b => sumN (fun a => F a b) m) n
  | 0 => (sumN_zero n (fun _ _ => rfl)).symm
  | m + 1 => by
    rw [sumN_succ, sumN_swap F n m, ← sumN_add]
    exact sumN_congr n (fun k _ => rfl)
theorem sumN_le {f g : Nat → Int} : ∀ (n : Nat), (∀ k, k < n → f k ≤ g k) → sumN f n ≤ sumN g n
  | 0, _ => Int.le_refl _
  | n + 1, h => by have a := sumN_le n (fun k hk => h k (Nat.lt_succ_of_lt hk)); have b := h n (by omega); rw [sumN_succ, sumN_succ]; omega
theorem sumN_nn {f : Nat → Int} (n : Nat) (h : ∀ k, k < n → 0 ≤ f k) : 0 ≤ sumN f n := by
  have := sumN_le (f := fun _ => 0) n h
  rwa [sumN_zero n (f := fun _ => 0) (fun _ _ => rfl)] at this
theorem sumN_ge {f : Nat → Int} {n j : Nat} (hj : j < n) (h : ∀ k, k < n → 0 ≤ f k) : f j ≤ sumN f n := by
  have := sumN_upd (f := f) (g := fun k => if k = j then 0 else f k) n hj (fun k hk hn => by simp [hn])
  have h2 := sumN_nn (f := fun k => if k = j then 0 else f k) n (fun k hk => by
    by_cases e : k = j
    · simp [e]
    · simp [e, h k hk])
  simp at this; omega
theorem sumL_filter (f : Nat → Int) (p : Nat → Bool) : ∀ n, sumL f ((List.range n).filter p) = sumN (fun k => if p k = true then f k else 0) n
  | 0 => rfl
  | n + 1 => by
    rw [List.range_succ, List.filter_append, sumN_succ, ← sumL_filter f p n]
    cases h : p n with
    | true => simp [h, sumL_snoc]
    | false => simp [h]
theorem len_filter (p : Nat → Bool) : ∀ n, (((List.range n).filter p).length : Int) = sumN (fun k => if p k = true then 1 else 0) n
  | 0 => rfl
  | n + 1 => by
    rw [List.range_succ, List.filter_append, sumN_succ, ← len_filter p n]
    cases h : p n with
    | true => simp [h]
    | false => simp [h]

/-- Is a place's domain a child of a ref's? -/
def kidQ (p : Pl) (i q : Int) : Bool := p.is && (p.pi == i && p.pg == q)
theorem kidQ_iff {p : Pl} {i q : Int} : kidQ p i q = true ↔ p.is = true ∧ p.pi = i ∧ p.pg = q := by unfold kidQ; simp
section
variable {r : RTab} {ch : Nat → List (Int × Int)}
theorem pl_is {k : Nat} (h : (r.pl k).is = true) : r.L[k]? = some (r.pl k) := by
  unfold RTab.pl at h ⊢
  cases e : r.L[k]? with
  | none => rw [e] at h; cases h
  | some p => rfl
theorem kidP_eq (i q : Int) (k : Nat) : r.kidP i q k = kidQ (r.pl k) i q := by
  unfold RTab.kidP RTab.pl kidQ
  cases r.L[k]? <;> rfl
theorem cgs_eq (i q : Int) : r.cgs i q = sumN (fun k => if kidQ (r.pl k) i q = true then (r.pl k).gs else 0) r.L.length := by
  unfold RTab.cgs RTab.kids RTab.kidsTo
  rw [sumL_filter]
  exact sumN_congr _ (fun k _ => by rw [kidP_eq])
theorem car_eq (i q : Int) : r.car i q = sumN (fun k => if kidQ (r.pl k) i q = true then (r.pl k).cpu else 0) r.L.length := by
  unfold RTab.car RTab.kids RTab.kidsTo
  rw [sumL_filter]
  exact sumN_congr _ (fun k _ => by rw [kidP_eq])
theorem kids_eq (i q : Int) : ((r.kids i q).length : Int) = sumN (fun k => if kidQ (r.pl k) i q = true then 1 else 0) r.L.length := by
  unfold RTab.kids RTab.kidsTo
  rw [len_filter]
  exact sumN_congr _ (fun k _ => by rw [kidP_eq])
theorem is_pl {i q : Int} : r.is i q = true ↔ ∃ k : Nat, i = (k : Nat) ∧ k < r.L.length ∧ (r.pl k).is = true ∧ (r.pl k).gen = q := by
  rw [ris_iff]
  constructor
  · rintro ⟨k, p, rfl, hp, h1, h2⟩
    exact ⟨k, rfl, (List.getElem?_eq_some_iff.1 hp).1, by rw [RTab.pl_eq hp]; exact h1, by rw [RTab.pl_eq hp]; exact h2⟩
  · rintro ⟨k, rfl, _, h1, h2⟩
    exact ⟨k, _, rfl, pl_is h1, h1, h2⟩
theorem par_pl {i q a b : Int} : r.par i q = some (a, b) ↔ ∃ k : Nat, i = (k : Nat) ∧ k < r.L.length ∧ (r.pl k).is = true ∧ (r.pl k).gen = q ∧ (r.pl k).pi = a ∧ (r.pl k).pg = b := by
  rw [rpar_some]
  constructor
  · rintro ⟨k, p, rfl, hp, h1, h2, h3, h4⟩
    exact ⟨k, rfl, (List.getElem?_eq_some_iff.1 hp).1, by rw [RTab.pl_eq hp]; exact h1, by rw [RTab.pl_eq hp]; exact h2, by rw [RTab.pl_eq hp]; exact h3, by rw [RTab.pl_eq hp]; exact h4⟩
  · rintro ⟨k, rfl, _, h1, h2, h3, h4⟩
    exact ⟨k, _, rfl, pl_is h1, h1, h2, h3, h4⟩
theorem is_lt {k : Nat} (h : (r.pl k).is = true) : k < r.L.length := (List.getElem?_eq_some_iff.1 (pl_is h)).1

/-- How often a chain passes a domain: once at its head, or out of one of its children. -/
theorem passes {j g : Int} (hj : r.is j g = true) {i q : Int} {L : List (Int × Int)} (h : Up r.par i q L) :
    (if (j, g) ∈ L then 1 else 0 : Int) = (if (i, q) = (j, g) then 1 else 0) + sumN (fun c => if kidQ (r.pl c) j g = true ∧ (((c : Nat) : Int), (r.pl c).gen) ∈ L then 1 else 0) r.L.length := by
  generalize hf : r.par = f at h
  induction h with
  | @stop i q e =>
    rw [← hf, rpar_none] at e
    rw [sumN_zero _ (fun k _ => by simp)]
    rw [if_neg (by simp), if_neg]; rfl
    intro e2; cases e2; rw [hj] at e; cases e
  | @step i q a b l e hl ih =>
    have hnd := Up.nodup (Up.step e hl)
    rw [List.nodup_cons] at hnd
    rw [← hf] at e
    obtain ⟨k, rfl, hk, h1, h2, h3, h4⟩ := par_pl.1 e
    have hs := sumN_upd (f := fun c => if kidQ (r.pl c) j g = true ∧ (((c : Nat) : Int), (r.pl c).gen) ∈ l then 1 else 0) (g := fun c => if kidQ (r.pl c) j g = true ∧ (((c : Nat) : Int), (r.pl c).gen) ∈ (((k : Nat) : Int), q) :: l then 1 else 0) r.L.length hk (fun c _ hc => by
      have : (((c : Nat) : Int), (r.pl c).gen) ≠ (((k : Nat) : Int), q) := by intro e; simp at e; omega
      simp [List.mem_cons, this])
    rw [hs]
    have ih' := ih
    have e1 : (if kidQ (r.pl k) j g = true ∧ (((k : Nat) : Int), (r.pl k).gen) ∈ l then 1 else 0 : Int) = 0 := if_neg (by rw [h2]; exact fun x => hnd.1 x.2)
    have e2 : (if kidQ (r.pl k) j g = true ∧ (((k : Nat) : Int), (r.pl k).gen) ∈ (((k : Nat) : Int), q) :: l then 1 else 0 : Int) = if (a, b) = (j, g) then 1 else 0 := by
      have : kidQ (r.pl k) j g = true ↔ (a, b) = (j, g) := by rw [kidQ_iff, h3, h4]; simp [h1]
      rw [h2]; simp [this]
    rw [e1, e2]
    by_cases hm : (j, g) ∈ l
    · have : (((k : Nat) : Int), q) ≠ (j, g) := by intro e; rw [e] at hnd; exact hnd.1 hm
      rw [if_pos hm] at ih'
      rw [if_pos (List.mem_cons_of_mem _ hm), if_neg this]
      omega
    · rw [if_neg hm] at ih'
      by_cases hh : (((k : Nat) : Int), q) = (j, g)
      · rw [if_pos (by rw [hh]; exact List.mem_cons_self), if_pos hh]; omega
      · rw [if_neg (by intro x; rcases List.mem_cons.1 x with x | x; exact hh x.symm; exact hm x), if_neg hh]; omega

/-- Who lives below a domain: its own, and who lives below its children. -/
theorem live_eq (hch : r.Chs ch) {j : Nat} (hj : (r.pl j).is = true) :
    r.live ch (j : Nat) (r.pl j).gen = (r.pl j).own + sumN (fun c => if kidQ (r.pl c) (j : Nat) (r.pl j).gen = true then r.live ch (c : Nat) (r.pl c).gen else 0) r.L.length := by
  have hjl := is_lt hj
  have his : r.is (j : Nat) (r.pl j).gen = true := is_pl.2 ⟨j, rfl, hjl, hj, rfl⟩
  have e1 : r.live ch (j : Nat) (r.pl j).gen = sumN (fun k => (if k = j then (r.pl k).own else 0) + sumN (fun c => if kidQ (r.pl c) (j : Nat) (r.pl j).gen = true then r.liveAt ch (c : Nat) (r.pl c).gen k else 0) r.L.length) r.L.length := by
    unfold RTab.live
    refine sumN_congr _ (fun k hk => ?_)
    by_cases hi : (r.pl k).is = true
    · have hp := passes his (hch k _ (pl_is hi) hi).1
      have e3 : sumN (fun c => if kidQ (r.pl c) (j : Nat) (r.pl j).gen = true then r.liveAt ch (c : Nat) (r.pl c).gen k else 0) r.L.length = sumN (fun c => if kidQ (r.pl c) (j : Nat) (r.pl j).gen = true ∧ (((c : Nat) : Int), (r.pl c).gen) ∈ ch k then 1 else 0) r.L.length * (r.pl k).own := by
        generalize r.L.length = n
        induction n with
        | zero => simp [sumN]
        | succ n ih =>
          rw [sumN_succ, sumN_succ, ih, Int.add_mul]
          congr 1
          unfold RTab.liveAt
          by_cases ha : kidQ (r.pl n) (j : Nat) (r.pl j).gen = true <;> by_cases hb : (((n : Nat) : Int), (r.pl n).gen) ∈ ch k <;> simp [ha, hb, hi]
      rw [e3]
      unfold RTab.liveAt
      have e4 : ((((k : Nat) : Int), (r.pl k).gen) = (((j : Nat) : Int), (r.pl j).gen)) ↔ k = j := by
        constructor
        · intro e; simp at e; omega
        · rintro rfl; rfl
      by_cases hm : (((j : Nat) : Int), (r.pl j).gen) ∈ ch k
      · rw [if_pos hm] at hp
        rw [if_pos ⟨hi, hm⟩]
        by_cases hkj : k = j
        · rw [if_pos (e4.2 hkj)] at hp
          rw [if_pos hkj]
          have : sumN (fun c => if kidQ (r.pl c) (j : Nat) (r.pl j).gen = true ∧ (((c : Nat) : Int), (r.pl c).gen) ∈ ch k then 1 else 0) r.L.length = 0 := by omega
          rw [this]; omega
        · rw [if_neg (fun x => hkj (e4.1 x))] at hp
          rw [if_neg hkj]
          have : sumN (fun c => if kidQ (r.pl c) (j : Nat) (r.pl j).gen = true ∧ (((c : Nat) : Int), (r.pl c).gen) ∈ ch k then 1 else 0) r.L.length = 1 := by omega
          rw [this]; omega
      · rw [if_neg hm] at hp
        rw [if_neg (fun x => hm x.2)]
        have h0 := sumN_nn (f := fun c => if kidQ (r.pl c) (j : Nat) (r.pl j).gen = true ∧ (((c : Nat) : Int), (r.pl c).gen) ∈ ch k then 1 else 0) r.L.length (fun c _ => by split <;> omega)
        by_cases hkj : k = j
        · rw [if_pos (e4.2 hkj)] at hp; omega
        · rw [if_neg (fun x => hkj (e4.1 x))] at hp
          rw [if_neg hkj]
          have : sumN (fun c => if kidQ (r.pl c) (j : Nat) (r.pl j).gen = true ∧ (((c : Nat) : Int), (r.pl c).gen) ∈ ch k then 1 else 0) r.L.length = 0 := by omega
          rw [this]; omega
    · have hkj : k ≠ j := by rintro rfl; exact hi hj
      rw [if_neg hkj, sumN_zero _ (fun c _ => by unfold RTab.liveAt; simp [hi])]
      unfold RTab.liveAt
      rw [if_neg (fun x => hi x.1)]; rfl
  rw [e1, sumN_add, sumN_swap, sumN_one hjl (fun k _ hk => if_neg hk), if_pos rfl]
  congr 1
  refine sumN_congr _ (fun c _ => ?_)
  by_cases ha : kidQ (r.pl c) (j : Nat) (r.pl j).gen = true
  · simp only [ha, if_true]; rfl
  · simp only [ha]
    exact sumN_zero _ (fun k _ => rfl)
end
end Go.Proofs
end
section
namespace Go.Proofs
open Go.RowKit Go.Shelf
set_option linter.unusedVariables false
attribute [local go_sem] Oper.semAt_some

def intOfN : Value → Int
  | .int _ n => n
  | _ => 0
def Plc.encs (p : Plc) : Array Value := #[.agg #[.int .i64 p.i, .int .u64 p.q], p.x.val]
theorem take_one_more {β : Type} (l : List β) (k : Nat) (x : β) (h : l[k]? = some x) : l.take (k + 1) = l.take k ++ [x] := by
  have hk := (List.getElem?_eq_some_iff.1 h).1
  rw [List.take_succ_eq_append_getElem hk, (List.getElem?_eq_some_iff.1 h).2]

/-- The blocks of X lie as they lay. -/
structure KeepP (X : Nat → Prop) (A B : World) : Prop where
  size : A.heap.size ≤ B.heap.size
  block : ∀ k, X k → B.heap[k]? = A.heap[k]?
section
variable {X : Nat → Prop} {A B C : World}
theorem KeepP.refl (X : Nat → Prop) (A : World) : KeepP X A A := ⟨Nat.le_refl _, fun _ _ => rfl⟩
theorem KeepP.trans (h : KeepP X A B) (k : KeepP X B C) : KeepP X A C := ⟨Nat.le_trans h.size k.size, fun i hi => (k.block i hi).trans (h.block i hi)⟩
theorem KeepP.cell (h : KeepP X A B) {p : Addr} (hp : X p.block) : B.cell? p = A.cell? p := World.cell?_of_block (h.block p.block hp)
theorem KeepP.frozen (h : KeepP X A B) {p : Addr} (hp : X p.block) : B.frozen? p = A.frozen? p := by unfold World.frozen?; rw [h.block p.block hp]
theorem KeepP.chg {S : List Nat} (h : Chg S A B) (hX : ∀ k, X k → k < A.heap.size) (hS : ∀ k ∈ S, ¬ X k) : KeepP X A B := ⟨h.size, fun k hk => h.block k (hX k hk) (fun hm => hS k hm hk)⟩
theorem KeepP.quiet (h : Chg [] A B) (hX : ∀ k, X k → k < A.heap.size) : KeepP X A B := KeepP.chg h hX (fun _ hm => by cases hm)
theorem KeepP.below {D : Nat} (h : Below D A B) (hX : ∀ k, X k → k < D) : KeepP X A B := ⟨h.size, fun k hk => h.block k (hX k hk)⟩
theorem KeepP.grown {row : Option Nat} (hg : A.grownBy B row) (hX : ∀ k, X k → k < A.heap.size) (hr : ∀ k, row = some k → ¬ X k) : KeepP X A B := ⟨hg.size, fun k hk => hg.block k (hX k hk) (fun e => hr k e.symm hk)⟩
end
set_option maxRecDepth 100000 in
set_option maxHeartbeats 1600000 in
/-- The iterator that All hands out, over what was gathered. -/
theorem over_in {β : Type} (f : β → Plc) (n : Nat) (hn : 1 ≤ n) (l b : Nat) (X : Nat → Prop) (V : Value) (xs : List β) (w : World) (hXw : ∀ k, X k → k < w.heap.size) (hb : X b) (hV : w.cell? ⟨b, 0, none⟩ = some V) (hR : Row w 129 13 V xs.length (plcCells (xs.map f))) (hft : ∀ k ∈ foot V, X k) (hl : xs.length ≤ 5000)
    (J Jx : List β → World → Prop) (W : World) (hW : KeepP X w W) (hJ : AbidesFrom W.heap.size J)
    (hY : ∀ pre x W1, J pre W1 → pre.length < xs.length → YieldAt Fence.wide (n - 1) Try.prog l (Plc.encs (f x)) W1 fun e W' =>
      (e = .returned (.bool true) ∧ J (pre ++ [x]) W' ∧ KeepP X W1 W') ∨ (e = .returned (.bool false) ∧ Jx (pre ++ [x]) W')) (h0 : J [] W) :
    CallsIn Fence.wide n Try.prog 73 #[.func (.yield l) #[] #[], .pointer (some ⟨b, 0, none⟩)] W fun e W' => (∃ v, e = .returned v) ∧ ((∃ ys, ys = xs ∧ J ys W') ∨ (∃ pre, pre <+: xs ∧ Jx pre W')) := by
  obtain ⟨A, c, rfl, hA⟩ := hR.val
  have hVW := (hW.cell (p := ⟨b, 0, none⟩) hb).trans hV
  obtain ⟨m, hm⟩ : ∃ m, m = xs.length := ⟨_, rfl⟩
  have HM := Lib.hid hm
  rw [← hm] at hl hY hVW hft
  have HR := Lib.hid hR
  have HF := Lib.hid hft
  have HA := Lib.hid hA
  clear hA
  refine callsIn_of_wp Try.func73 rfl trivial ?_ rfl
  simp only [Try.ntmps73, List.size_toArray, List.length_cons, List.length_nil, Nat.reduceAdd, Nat.reduceSub, Array.replicate_succ, Array.replicate_zero, List.push_toArray, List.append_toArray, List.nil_append, List.cons_append]
  clear hm hR hft hV
  gi_wp2
  gi_loopw [7] (fun iv wr => ∃ k : Nat, k ≤ m ∧ iv = .int .i64 k ∧ KeepP X w wr ∧ W.heap.size ≤ wr.heap.size ∧ J (xs.take k) wr) (fun iv wr => m - (intOfN iv).toNat)
  case atStart => exact ⟨0, by omega, rfl, hW, Nat.le_refl _, h0⟩
  case round =>
    obtain ⟨k, hk, rfl, hB, hz, hJk⟩ := hrel
    by_cases hlt : k < m
    · obtain ⟨p, hp⟩ : ∃ p, xs[k]? = some p := ⟨_, List.getElem?_eq_getElem (by rw [← HM.out]; exact hlt)⟩
      obtain ⟨gl, cl, hv, _, _, hcell, _, _⟩ := HR.out.form (by rw [← HM.out]; omega)
      simp only [Value.slice.injEq] at hv
      obtain ⟨rfl, h91, h92⟩ := hv
      clear h91 h92
      have hgl : X gl := HF.out gl (by simp [foot_some])
      obtain ⟨Q, hQ⟩ : ∃ Q, Q = f p := ⟨_, rfl⟩
      obtain ⟨q0, q1, q2, q3, q4, q5, q6, q7, q8, q9, q10, q11, q12⟩ := plcCells_at (l := xs.map f) (k := k) (p := Q) (by rw [List.getElem?_map, hp, hQ]; rfl)
      have d0 := (hB.cell (p := ⟨gl, k * 13, none⟩) hgl).trans (hcell _ _ q0)
      have d1 := (hB.cell (p := ⟨gl, k * 13 + 1, none⟩) hgl).trans (hcell _ _ q1)
      have d2 := (hB.cell (p := ⟨gl, k * 13 + 2, none⟩) hgl).trans (hcell _ _ q2)
      have d3 := (hB.cell (p := ⟨gl, k * 13 + 3, none⟩) hgl).trans (hcell _ _ q3)
      have d4 := (hB.cell (p := ⟨gl, k * 13 + 4, none⟩) hgl).trans (hcell _ _ q4)
      have d5 := (hB.cell (p := ⟨gl, k * 13 + 5, none⟩) hgl).trans (hcell _ _ q5)
      have d6 := (hB.cell (p := ⟨gl, k * 13 + 6, none⟩) hgl).trans (hcell _ _ q6)
      have d7 := (hB.cell (p := ⟨gl, k * 13 + 7, none⟩) hgl).trans (hcell _ _ q7)
      have d8 := (hB.cell (p := ⟨gl, k * 13 + 8, none⟩) hgl).trans (hcell _ _ q8)
      have d9 := (hB.cell (p := ⟨gl, k * 13 + 9, none⟩) hgl).trans (hcell _ _ q9)
      have d10 := (hB.cell (p := ⟨gl, k * 13 + 10, none⟩) hgl).trans (hcell _ _ q10)
      have d11 := (hB.cell (p := ⟨gl, k * 13 + 11, none⟩) hgl).trans (hcell _ _ q11)
      have d12 := (hB.cell (p := ⟨gl, k * 13 + 12, none⟩) hgl).trans (hcell _ _ q12)
      have k0 : (0 : Int) ≤ (k : Int) := by omega
      have k1 : (k : Int) < (m : Int) := by omega
      have hlen : (xs.take k).length < m := by rw [List.length_take, ← HM.out]; omega
      have HS := Lib.hid (take_one_more xs k p hp)
      have HB := Lib.hid hB
      obtain ⟨pi, pq, x0, x1, x2, x3, x4, x5, x6, x7, x8, x9, x10⟩ := Q
      simp only at d0 d1 d2 d3 d4 d5 d6 d7 d8 d9 d10 d11 d12
      have hJ2 : J (xs.take k) (wr.alloc (.cells #[.int .i64 pi, .int .u64 pq, .int .i64 x0, .int .u64 x1, .int .i64 x2, .int .u64 x3, .int .u64 x4, .int .i64 x5, .int .u64 x6, .int .i64 x7, .int .i64 x8, .int .u64 x9, .int .i64 x10] 129)) := hJ _ _ _ none hJk (World.grownBy_alloc wr _ none) (fun r e => by cases e)
      obtain ⟨fn, tmps, assign, body, hy, hRo⟩ := hY _ p _ hJ2 hlen
      rw [← hQ] at hy
      simp only [Plc.encs, Dm.val] at hy
      clear hQ hp hcell q0 q1 q2 q3 q4 q5 q6 q7 q8 q9 q10 q11 q12 hB hJk
      gi_wp2
      refine hRo.mono ?_
      rintro e W3 (⟨rfl, hJ3, hk3⟩ | ⟨rfl, hJx3⟩)
      · gi_wp2
        go_roundw
        case rel => exact ⟨k + 1, by omega, by go_num, (HB.out.trans (KeepP.quiet ((Chg.refl [] wr).alloc _) (fun k hk => by have := hXw k hk; have := HB.out.size; omega))).trans hk3, by have := hk3.size; simp at this; omega, by rw [HS.out]; exact hJ3⟩
        case measure => simp [intOfN]; omega
      · gi_wp2
        refine bodyPost_ret (results_none rfl _ _ _) rfl ?_
        exact ⟨⟨_, rfl⟩, .inr ⟨_, by rw [← HS.out]; exact List.take_prefix _ _, hJx3⟩⟩
    · obtain rfl : k = m := by omega
      gi_wp2
      go_end0
      exact ⟨⟨_, rfl⟩, .inl ⟨_, rfl, by have := hJk; rw [HM.out, List.take_length] at this; exact this⟩⟩
end Go.Proofs
end
section
namespace Go.Proofs
open Go.RowKit Go.Shelf
set_option linter.unusedVariables false
attribute [local go_sem] Oper.semAt_some

/-- What is there below a place, rising. -/
def nowL (t : Tab Dm) (k : Nat) : List Plc := (List.range k).filterMap fun i => (t.live (i : Nat)).map fun s => ⟨(i : Nat), s.gen, s.thing⟩
theorem nowL_yes {t : Tab Dm} {k : Nat} {s : Spot Dm} (h : t.live (k : Nat) = some s) : nowL t (k + 1) = nowL t k ++ [⟨(k : Nat), s.gen, s.thing⟩] := by
  unfold nowL
  rw [List.range_succ, List.filterMap_append]
  simp [h]
theorem nowL_no {t : Tab Dm} {k : Nat} (h : t.live (k : Nat) = none) : nowL t (k + 1) = nowL t k := by
  unfold nowL
  rw [List.range_succ, List.filterMap_append]
  simp [h]
theorem nowL_len (t : Tab Dm) (k : Nat) : (nowL t k).length ≤ k := by
  unfold nowL
  exact Nat.le_trans (List.length_filterMap_le _ _) (by simp)
theorem nowL_pre (t : Tab Dm) (k j : Nat) (h : k ≤ j) : nowL t k <+: nowL t j := by
  induction j with
  | zero => obtain rfl : k = 0 := by omega
            exact List.prefix_refl _
  | succ j ih =>
    by_cases e : k = j + 1
    · subst e; exact List.prefix_refl _
    · have := ih (by omega)
      rcases live_cases t (j : Nat) with ⟨s, hs⟩ | hn
      · rw [nowL_yes hs]; exact this.trans (List.prefix_append _ _)
      · rw [nowL_no hn]; exact this
theorem grown_of_chg {W W' : World} (h : Chg [] W W') : W.grownBy W' none := ⟨h.os, h.tape, h.output, h.size, fun k hk _ => h.block k hk (by simp)⟩

/-- These blocks are as they were. -/
structure KeepL (L : List Nat) (A B : World) : Prop where
  size : A.heap.size ≤ B.heap.size
  block : ∀ k ∈ L, B.heap[k]? = A.heap[k]?
theorem KeepL.refl (L : List Nat) (A : World) : KeepL L A A := ⟨Nat.le_refl _, fun _ _ => rfl⟩
theorem KeepL.trans {L : List Nat} {A B C : World} (h : KeepL L A B) (k : KeepL L B C) : KeepL L A C := ⟨Nat.le_trans h.size k.size, fun i hi => (k.block i hi).trans (h.block i hi)⟩
theorem KeepL.chg {L : List Nat} {A B : World} (h : Chg [] A B) (hL : ∀ k ∈ L, k < A.heap.size) : KeepL L A B := ⟨h.size, fun k hk => h.block k (hL k hk) (by simp)⟩
theorem KeepL.cell {L : List Nat} {A B : World} (h : KeepL L A B) {p : Addr} (hp : p.block ∈ L) : B.cell? p = A.cell? p := World.cell?_of_block (h.block p.block hp)

set_option maxRecDepth 100000 in
set_option maxHeartbeats 3200000 in
/-- The iterator that goes over the table as it is. -/
theorem now_in (n : Nat) (hn : 1 ≤ n) (l b g N : Nat) (S : List Nat) (t : Tab Dm) (hw : t.WF) (hN : t.size = (N : Nat)) (w : World) (hb : b < w.heap.size) (hV : w.cell? ⟨b, 0, none⟩ = some (.pointer (some ⟨g, 0, none⟩))) (hT : TabAt w g S t)
    (J Jx : List Plc → World → Prop) (W : World) (hW : KeepL (b :: S) w W) (hJ : AbidesFrom W.heap.size J)
    (hY : ∀ pre x W1, J pre W1 → pre.length < N + 1 → YieldAt Fence.wide (n - 1) Try.prog l (Plc.encs x) W1 fun e W' =>
      (e = .returned (.bool true) ∧ J (pre ++ [x]) W' ∧ KeepL (b :: S) W1 W') ∨ (e = .returned (.bool false) ∧ Jx (pre ++ [x]) W')) (h0 : J [] W) :
    CallsIn Fence.wide n Try.prog 84 #[.func (.yield l) #[] #[], .pointer (some ⟨b, 0, none⟩)] W fun e W' => (∃ v, e = .returned v) ∧ ((∃ ys, ys = nowL t N ∧ J ys W') ∨ (∃ pre, pre <+: nowL t N ∧ Jx pre W')) := by
  have hVW := (hW.cell (p := ⟨b, 0, none⟩) (by simp)).trans hV
  have hTW : ∀ W', KeepL (b :: S) w W' → TabAt W' g S t := fun W' h => hT.same (fun k hk => h.block k (by simp [hk]))
  have hlt0 : ∀ k ∈ b :: S, k < w.heap.size := fun k hk => by
    rcases List.mem_cons.1 hk with rfl | hk
    · exact hb
    · exact hT.lt k hk
  have HLT := Lib.hid hlt0
  clear hlt0
  have HTW := Lib.hid hTW
  have HSz := fun w' h' => (size_C (w := w') (g := g) (S := S) (t := t) h').mono (R' := fun e w'' => e = .returned (.int .i64 (N : Nat)) ∧ w' = w'') (fun e w'' ⟨h1, h2⟩ => ⟨by rw [h1, hN], h2⟩)
  have hN4 : N ≤ 4096 := by have := hw.s1; omega
  have HNN := Lib.hid hN
  clear hN
  refine callsIn_of_wp Try.func84 rfl trivial ?_ rfl
  simp only [Try.ntmps84, List.size_toArray, List.length_cons, List.length_nil, Nat.reduceAdd, Nat.reduceSub, Array.replicate_succ, Array.replicate_zero, List.push_toArray, List.append_toArray, List.nil_append, List.cons_append]
  gi_wp2_with (refine ⟨trivial, ?_⟩; gi_at_call 85; refine (callsIn_wide.2 (HSz _ (HTW.out _ hW))).mono ?_; rintro e w' ⟨rfl, rfl⟩)
  gi_loopw [8] (fun iv wr => ∃ k : Nat, k ≤ N ∧ iv = .int .i64 k ∧ KeepL (b :: S) w wr ∧ W.heap.size ≤ wr.heap.size ∧ J (nowL t k) wr) (fun iv wr => N - (intOfN iv).toNat)
  case atStart => exact ⟨0, by omega, rfl, hW, Nat.le_refl _, h0⟩
  case round =>
    obtain ⟨k, hk, rfl, hB, hz, hJk⟩ := hrel
    have hVr := (hB.cell (p := ⟨b, 0, none⟩) (by simp)).trans hV
    by_cases hlt : k < N
    · have k0 : (0 : Int) ≤ (k : Int) := by omega
      have k1 : (k : Int) < (N : Int) := by omega
      have HA := fun w' h' => at_C (w := w') (g := g) (S := S) (t := t) h' hw (k : Nat) (by omega) (by omega)
      have hlen : (nowL t k).length < N + 1 := by have := nowL_len t k; omega
      have HB := Lib.hid hB
      have HJk := Lib.hid hJk
      rcases live_cases t (k : Nat) with ⟨s, hs⟩ | hno
      · obtain ⟨q1, q2, q3⟩ := live_some hs
        rw [q1, q2, q3] at HA
        have HS := Lib.hid (nowL_yes hs)
        obtain ⟨hj, hth⟩ := live_nat.1 hs
        obtain ⟨VS, VF, hBk, hSp, hFr, hSS⟩ := hT
        obtain ⟨gs, cs, rfl, hft, hcs, hgs, hks, a0, a1, a2, a3, a4, a5, a6, a7, a8, a9, a10, a11, a12, _⟩ := TabAt.open_spot hSp hj
        have lg : g ∈ b :: S := by rw [hSS]; simp
        have lgs : gs ∈ b :: S := by rw [hSS]; simp [foot_some]
        have c2 := hBk.cell 2
        obtain ⟨m, hm⟩ : ∃ m, m = t.spots.length := ⟨_, rfl⟩
        rw [← hm] at c2 hks
        have k2 : (k : Int) < (m : Int) := by omega
        obtain ⟨G, hG⟩ : ∃ G, G = s.gen := ⟨_, rfl⟩
        obtain ⟨X, hX⟩ : ∃ X, X = s.thing := ⟨_, rfl⟩
        rw [← hX] at a2 a3 a4 a5 a6 a7 a8 a9 a10 a11 a12 HS
        obtain ⟨x0, x1, x2, x3, x4, x5, x6, x7, x8, x9, x10⟩ := X
        simp only at a2 a3 a4 a5 a6 a7 a8 a9 a10 a11 a12
        rw [← hG] at HA
        rw [← hG] at HS
        clear q1 q2 q3 hs hj hth hBk hSp hFr hSS hft hm hG hX a0 a1 hB hJk
        gi_wp2_with (refine ⟨trivial, ?_⟩; gi_at_call 60; refine (callsIn_wide.2 (HA _ (HTW.out _ HB.out))).mono ?_; rintro e w1 ⟨rfl, hc1⟩; have hb1 : KeepL (b :: S) w ((w1.alloc (.cells #[.int .i64 (k : Nat), .int .u64 G] 34)).drew) := HB.out.trans (KeepL.chg ((hc1.then ((Chg.refl _ _).alloc _)).drew) (fun k hk => Nat.lt_of_lt_of_le (HLT.out k hk) HB.out.size)); have HB1 := Lib.hid hb1; have v0 := (hb1.cell (p := ⟨b, 0, none⟩) (by simp)).trans hV; have v1 := (hb1.cell (p := ⟨g, 2, none⟩) lg).trans c2; have v2 := (hb1.cell (p := ⟨gs, k * 13 + 2, none⟩) lgs).trans a2; have v3 := (hb1.cell (p := ⟨gs, k * 13 + 3, none⟩) lgs).trans a3; have v4 := (hb1.cell (p := ⟨gs, k * 13 + 4, none⟩) lgs).trans a4; have v5 := (hb1.cell (p := ⟨gs, k * 13 + 5, none⟩) lgs).trans a5; have v6 := (hb1.cell (p := ⟨gs, k * 13 + 6, none⟩) lgs).trans a6; have v7 := (hb1.cell (p := ⟨gs, k * 13 + 7, none⟩) lgs).trans a7; have v8 := (hb1.cell (p := ⟨gs, k * 13 + 8, none⟩) lgs).trans a8; have v9 := (hb1.cell (p := ⟨gs, k * 13 + 9, none⟩) lgs).trans a9; have v10 := (hb1.cell (p := ⟨gs, k * 13 + 10, none⟩) lgs).trans a10; have v11 := (hb1.cell (p := ⟨gs, k * 13 + 11, none⟩) lgs).trans a11; have v12 := (hb1.cell (p := ⟨gs, k * 13 + 12, none⟩) lgs).trans a12; have HC1 := Lib.hid hc1; clear hb1 hc1)
        have hJ2 : J (nowL t k) ((w1.alloc (.cells #[.int .i64 (k : Nat), .int .u64 G] 34)).drew) := hJ _ _ _ none HJk.out (grown_of_chg (((HC1.out).then ((Chg.refl _ _).alloc _)).drew)) (fun r e => by cases e)
        obtain ⟨fn, tmps, assign, body, hy, hRo⟩ := hY _ ⟨(k : Nat), G, x0, x1, x2, x3, x4, x5, x6, x7, x8, x9, x10⟩ _ hJ2 hlen
        simp only [Plc.encs, Dm.val] at hy
        have hRo1 := hRo.mono (R' := fun e W' => ∃ bb : Bool, e = .returned (.bool bb) ∧ ((bb = true ∧ J (nowL t k ++ [⟨(k : Nat), G, x0, x1, x2, x3, x4, x5, x6, x7, x8, x9, x10⟩]) W' ∧ KeepL (b :: S) ((w1.alloc (.cells #[.int .i64 (k : Nat), .int .u64 G] 34)).drew) W') ∨ (bb = false ∧ Jx (nowL t k ++ [⟨(k : Nat), G, x0, x1, x2, x3, x4, x5, x6, x7, x8, x9, x10⟩]) W'))) (by
          rintro e W3 (⟨h1, h2, h3⟩ | ⟨h1, h2⟩)
          · exact ⟨true, h1, .inl ⟨rfl, h2, h3⟩⟩
          · exact ⟨false, h1, .inr ⟨rfl, h2⟩⟩)
        clear hRo hJ2
        gi_region_with (refine hRo1.mono ?_; rintro e W3 ⟨bb, rfl, h9⟩; have H9 := Lib.hid h9; clear h9)
        all_goals
          rcases H9.out with ⟨rfl, hJ3, hk3⟩ | ⟨rfl, hJx3⟩
          · have HJ3 := Lib.hid hJ3
            have HK3 := Lib.hid hk3
            clear hJ3 hk3 H9
            gi_wp2
            go_roundw
            case rel => exact ⟨k + 1, by omega, by go_num, HB1.out.trans HK3.out, by have := HK3.out.size; have := HC1.out.size; simp at *; omega, by rw [HS.out]; exact HJ3.out⟩
            case measure => simp [intOfN]; omega
          · have HJ3 := Lib.hid hJx3
            clear hJx3 H9
            gi_wp2
            refine bodyPost_ret (results_none rfl _ _ _) rfl ?_
            exact ⟨⟨_, rfl⟩, .inr ⟨_, by rw [← HS.out]; exact nowL_pre t _ _ (by omega), HJ3.out⟩⟩
      · obtain ⟨q1, q2, q3, _⟩ := live_none hno
        rw [q1, q2, q3] at HA
        have HS := Lib.hid (nowL_no hno)
        clear q1 q2 q3 hno hB hJk
        gi_wp2_with (refine ⟨trivial, ?_⟩; gi_at_call 60; refine (callsIn_wide.2 (HA _ (HTW.out _ HB.out))).mono ?_; rintro e w1 ⟨rfl, hc1⟩; have HC1 := Lib.hid hc1; clear hc1)
        refine wpIn_region_quiet_lit rfl (by kernel_rfl) (by kernel_rfl) ?_
        repeat (refine wpQuietIn_step (by first | (go_simp; done) | (unfold Oper.askedIn; intros; trivial) | (go_simp; intros; trivial)) (fun K hK => ?_); go_simp; refine hK _ ?_; clear hK K)
        refine wpQuietIn_nil ?_
        intro _ hw'
        obtain ⟨nq, hw''⟩ := hw'
        subst hw''
        have hc9 : Chg [] wr ((w1.alloc (.cells #[.int .i64 0, .int .u64 0] 34)).drewN nq) := ((HC1.out).then ((Chg.refl _ _).alloc _)).drewN nq
        have HJ2 := Lib.hid (hJ _ _ _ none HJk.out (grown_of_chg hc9) (fun r e => by cases e))
        have HC9 := Lib.hid hc9
        clear hc9
        gi_wp2
        go_roundw
        case rel => exact ⟨k + 1, by omega, by go_num, HB.out.trans (KeepL.chg HC9.out (fun k hk => Nat.lt_of_lt_of_le (HLT.out k hk) HB.out.size)), by have := HC9.out.size; omega, by rw [HS.out]; exact HJ2.out⟩
        case measure => simp [intOfN]; omega
    · obtain rfl : k = N := by omega
      gi_wp2
      go_end0
      exact ⟨⟨_, rfl⟩, .inl ⟨_, rfl, hJk⟩⟩
end Go.Proofs
end
section
namespace Go.Proofs
open Go.RowKit Go.Shelf
set_option linter.unusedVariables false
set_option linter.unusedSimpArgs false

section
variable {t : Tab Dm} {i q : Int} {h : Dm → Dm}
theorem upd_spots (k : Nat) : (t.upd i q h).spots[k]? = (t.spots[k]?).map (fun s => if s.there = true ∧ ((k : Nat) : Int) = i ∧ s.gen = q then { s with thing := h s.thing } else s) := by
  cases hq : t.has i q with
  | false =>
    rw [Tab.upd_no hq]
    cases hs : t.spots[k]? with
    | none => rfl
    | some s =>
      rw [Option.map_some, if_neg]
      rintro ⟨h1, rfl, rfl⟩
      rw [has_iff.2 ⟨s, live_nat.2 ⟨hs, h1⟩, rfl⟩] at hq
      cases hq
  | true =>
    obtain ⟨s0, hl, rfl⟩ := has_iff.1 hq
    obtain ⟨h0, h1, h2⟩ := live_iff.1 hl
    rw [Tab.upd_yes hq, at_yes hl rfl]
    unfold Tab.thing
    rw [h1]
    have hlt := (List.getElem?_eq_some_iff.1 h1).1
    simp only [List.getElem?_set]
    by_cases e : i.toNat = k
    · subst e
      rw [if_pos rfl, if_pos hlt, h1, Option.map_some, if_pos ⟨h2, by omega, rfl⟩]
    · rw [if_neg e]
      cases hs : t.spots[k]? with
      | none => rfl
      | some s => rw [Option.map_some, if_neg]; rintro ⟨_, e2, _⟩; omega
theorem updAll_spots (l : List (Int × Int)) (hd : l.Nodup) (k : Nat) : ∀ t : Tab Dm, (updAll h l t).spots[k]? = (t.spots[k]?).map (fun s => if s.there = true ∧ (((k : Nat) : Int), s.gen) ∈ l then { s with thing := h s.thing } else s) := by
  induction l with
  | nil => intro t; cases hs : t.spots[k]? <;> simp [updAll, hs]
  | cons x l ih =>
    intro t
    rw [List.nodup_cons] at hd
    show (updAll h l (t.upd x.1 x.2 h)).spots[k]? = _
    rw [ih hd.2, upd_spots]
    cases hs : t.spots[k]? with
    | none => rfl
    | some s =>
      simp only [Option.map_some]
      congr 1
      by_cases h1 : s.there = true
      · by_cases h2 : ((k : Nat) : Int) = x.1 ∧ s.gen = x.2
        · have e : (((k : Nat) : Int), s.gen) = x := by rw [h2.1, h2.2]
          have hc : s.there = true ∧ ((k : Nat) : Int) = x.1 ∧ s.gen = x.2 := ⟨h1, h2⟩
          simp only [if_pos hc]
          rw [if_neg (fun y => hd.1 (by rw [← e]; exact y.2)), if_pos ⟨h1, by rw [e]; exact List.mem_cons_self⟩]
        · have e : (((k : Nat) : Int), s.gen) ≠ x := by intro e; rw [← e] at h2; exact h2 ⟨rfl, rfl⟩
          have hc : ¬ (s.there = true ∧ ((k : Nat) : Int) = x.1 ∧ s.gen = x.2) := fun y => h2 y.2
          simp only [if_neg hc]
          simp [h1, List.mem_cons, e]
      · simp [h1]
end

/-- What the code's place is, where the document's is this. -/
def RTab.spot (r : RTab) (ch : Nat → List (Int × Int)) (k : Nat) : Spot Dm := ⟨(r.pl k).gen, (r.pl k).is, if (r.pl k).is = true then r.get ch (k : Nat) (r.pl k).gen else dm0⟩

/-- The document's domains hold together, behind so many acts. -/
structure RTab.Held (M : Nat) (r : RTab) (ch : Nat → List (Int × Int)) : Prop where
  n0 : 1 ≤ r.L.length
  n1 : r.L.length ≤ 32
  chs : ∀ k, (r.pl k).is = true → Up r.par (k : Nat) (r.pl k).gen (ch k) ∧ (ch k).length ≤ M
  nums : ∀ k, k < r.L.length → (0 ≤ (r.pl k).gs ∧ (r.pl k).gs ≤ 64) ∧ (0 ≤ (r.pl k).own ∧ (r.pl k).own ≤ 64) ∧ (0 ≤ (r.pl k).cpu ∧ (r.pl k).cpu ≤ 4294967296) ∧ (0 ≤ (r.pl k).used ∧ (r.pl k).used < 18446744073709551616) ∧ (1 ≤ (r.pl k).gen ∧ (r.pl k).gen ≤ M)
  room : ∀ k, (r.pl k).is = true → (r.pl k).own + r.cgs (k : Nat) (r.pl k).gen ≤ (r.pl k).gs ∧ r.car (k : Nat) (r.pl k).gen ≤ (r.pl k).cpu
  up : ∀ k, (r.pl k).is = true → ((r.pl k).pi = 0 ∧ (r.pl k).pg = 0) ∨ ((r.pl k).pg ≠ 0 ∧ r.is (r.pl k).pi (r.pl k).pg = true)
  m : M ≤ 1000
/-- The code's table and the document's say the same. -/
structure Sim (M : Nat) (t : Tab Dm) (r : RTab) (ch : Nat → List (Int × Int)) : Prop where
  held : r.Held M ch
  wf : t.WF
  size : t.size = (r.L.length : Nat)
  first : t.first = 1
  spot : ∀ k, k < t.spots.length → t.spots[k]? = some (r.spot ch k)
  rest : ∀ k, t.spots.length ≤ k → k < r.L.length → r.L[k]? = some pl1
  free : r.F = newF r.L.length (r.L.length - t.spots.length) ++ t.freed
  ret : t.retired = 0
section
variable {M : Nat} {t : Tab Dm} {r : RTab} {ch : Nat → List (Int × Int)}
theorem RTab.Held.Chs (h : r.Held M ch) : r.Chs ch := fun k p hp hi => by
  have e := RTab.pl_eq hp
  have := h.chs k (by rw [e]; exact hi)
  rw [e] at this
  exact ⟨this.1, by have := h.m; omega⟩
theorem RTab.Held.fine (h : r.Held M ch) : r.Fine := ⟨fun k p hp => by
  have e := RTab.pl_eq hp
  have := h.nums k (List.getElem?_eq_some_iff.1 hp).1
  rw [e] at this
  exact ⟨this.1, this.2.1, this.2.2.1, this.2.2.2.1⟩, by have := h.n1; omega⟩
theorem kid_lt {k : Nat} {i q : Int} (h : kidQ (r.pl k) i q = true) : k < r.L.length := is_lt (kidQ_iff.1 h).1
theorem kids_cgs (h : r.Held M ch) (i q : Int) : 0 ≤ r.cgs i q := by
  rw [cgs_eq]; exact sumN_nn _ (fun k hk => by have := (h.nums k hk).1; split <;> omega)
theorem kids_car (h : r.Held M ch) (i q : Int) : 0 ≤ r.car i q := by
  rw [car_eq]; exact sumN_nn _ (fun k hk => by have := (h.nums k hk).2.2.1; split <;> omega)
theorem live_nn (h : r.Held M ch) (i q : Int) : 0 ≤ r.live ch i q := by
  unfold RTab.live; exact sumN_nn _ (fun k hk => by have := (h.nums k hk).2.1; unfold RTab.liveAt; split <;> omega)
/-- Live ones are never above the limit. -/
theorem live_le (h : r.Held M ch) : ∀ (d k : Nat), (r.pl k).is = true → M + 1 ≤ (ch k).length + d → r.live ch (k : Nat) (r.pl k).gen ≤ (r.pl k).gs
  | 0, k, hk, hd => by have := (h.chs k hk).2; omega
  | d + 1, k, hk, hd => by
    rw [live_eq h.Chs hk]
    have h1 := (h.room k hk).1
    rw [cgs_eq] at h1
    have h2 := sumN_le (f := fun c => if kidQ (r.pl c) (k : Nat) (r.pl k).gen = true then r.live ch (c : Nat) (r.pl c).gen else 0) (g := fun c => if kidQ (r.pl c) (k : Nat) (r.pl k).gen = true then (r.pl c).gs else 0) r.L.length (fun c hc => by
      split
      · next hq =>
        obtain ⟨hi, e1, e2⟩ := kidQ_iff.1 hq
        refine live_le h d c hi ?_
        have hu := (h.chs c hi).1
        cases hcc : ch c with
        | nil =>
          rw [hcc] at hu
          have := rpar_none.1 (Up.nil hu)
          rw [is_pl.2 ⟨c, rfl, is_lt hi, hi, rfl⟩] at this; cases this
        | cons x l =>
          rw [hcc] at hu
          obtain ⟨_, a, b, hp, hl⟩ := Up.cons hu
          obtain ⟨c', hc', _, _, _, h3, h4⟩ := par_pl.1 hp
          obtain rfl : c = c' := by omega
          rw [← h3, ← h4, e1, e2] at hl
          have := Up.det hl (h.chs k hk).1
          subst this
          simp only [List.length_cons]; omega
      · exact Int.le_refl _)
    omega
theorem live_gs (h : r.Held M ch) {k : Nat} (hk : (r.pl k).is = true) : r.live ch (k : Nat) (r.pl k).gen ≤ (r.pl k).gs := live_le h (M + 1) k hk (by omega)
theorem kids_len (r : RTab) (i q : Int) : (r.kids i q).length ≤ r.L.length := kidsTo_len r i q _
theorem get_ok (h : r.Held M ch) {k : Nat} (hk : (r.pl k).is = true) : (r.get ch (k : Nat) (r.pl k).gen).Ok := by
  have hl := is_lt hk
  obtain ⟨a, b, c, d, e⟩ := h.nums k hl
  obtain ⟨f, g⟩ := h.room k hk
  have h1 := kids_cgs h (k : Nat) (r.pl k).gen
  have h2 := kids_car h (k : Nat) (r.pl k).gen
  have h3 := live_nn h (k : Nat) (r.pl k).gen
  have h4 := live_gs h hk
  have h5 := kids_len r (k : Nat) (r.pl k).gen
  have h6 := h.n1
  unfold RTab.get
  constructor <;> simp only [Int.toNat_natCast] <;> omega

theorem Sim.lenle (h : Sim M t r ch) : t.spots.length ≤ r.L.length := by have := h.wf.len; rw [h.size] at this; omega
theorem Sim.live (h : Sim M t r ch) {i : Int} {s : Spot Dm} : t.live i = some s ↔ ∃ k : Nat, i = (k : Nat) ∧ (r.pl k).is = true ∧ s = ⟨(r.pl k).gen, true, r.get ch (k : Nat) (r.pl k).gen⟩ := by
  rw [live_iff]
  constructor
  · rintro ⟨h0, h1, h2⟩
    have hlt := (List.getElem?_eq_some_iff.1 h1).1
    have e := h.spot _ hlt
    rw [h1] at e
    cases e
    have h3 : (r.pl i.toNat).is = true := h2
    refine ⟨i.toNat, by omega, h3, ?_⟩
    unfold RTab.spot
    rw [if_pos h3, h3]
  · rintro ⟨k, rfl, h1, rfl⟩
    have hlt : k < t.spots.length := by
      by_cases hc : k < t.spots.length
      · exact hc
      · have := h.rest k (by omega) (is_lt h1)
        have e := RTab.pl_eq this
        rw [e] at h1; cases h1
    refine ⟨by omega, ?_, rfl⟩
    rw [Int.toNat_natCast, h.spot k hlt]
    unfold RTab.spot
    rw [if_pos h1, h1]
theorem Sim.has (h : Sim M t r ch) (i q : Int) : t.has i q = r.is i q := by
  rw [Bool.eq_iff_iff, has_iff, is_pl]
  constructor
  · rintro ⟨s, hl, rfl⟩
    obtain ⟨k, rfl, h1, rfl⟩ := h.live.1 hl
    exact ⟨k, rfl, is_lt h1, h1, rfl⟩
  · rintro ⟨k, rfl, _, h1, rfl⟩
    exact ⟨_, h.live.2 ⟨k, rfl, h1, rfl⟩, rfl⟩
theorem Sim.at_ (h : Sim M t r ch) {i q : Int} (hq : r.is i q = true) : t.at_ i q = r.get ch i q := by
  obtain ⟨k, rfl, _, h1, rfl⟩ := is_pl.1 hq
  rw [at_yes (h.live.2 ⟨k, rfl, h1, rfl⟩) rfl]
theorem Sim.par (h : Sim M t r ch) : t.par = r.par := by
  funext i q
  cases hq : r.is i q with
  | false => rw [rpar_none.2 hq, par_none.2 (by rw [h.has]; exact hq)]
  | true =>
    obtain ⟨k, rfl, hk, h1, rfl⟩ := is_pl.1 hq
    rw [par_pl.2 ⟨k, rfl, hk, h1, rfl, rfl, rfl⟩]
    exact par_some.2 ⟨by rw [h.has]; exact hq, by rw [h.at_ hq]; unfold RTab.get; simp, by rw [h.at_ hq]; unfold RTab.get; simp⟩
theorem Sim.oks (h : Sim M t r ch) : t.Oks := by
  refine ⟨fun i q => ?_, fun i q a b hp => ?_⟩
  · cases hq : r.is i q with
    | false => rw [at_no (by rw [h.has]; exact hq)]; exact Dm.Ok.zero
    | true =>
      rw [h.at_ hq]
      obtain ⟨k, rfl, hk, h1, rfl⟩ := is_pl.1 hq
      exact get_ok h.held h1
  · rw [h.par] at hp
    obtain ⟨k, rfl, hk, h1, rfl, rfl, rfl⟩ := par_pl.1 hp
    rcases h.held.up k h1 with ⟨e, _⟩ | ⟨_, e⟩
    · rw [e]; omega
    · obtain ⟨k2, e2, hk2, _⟩ := is_pl.1 e
      have := h.held.n1
      rw [e2]; omega
/-- Each ref has a chain. -/
theorem Sim.chain (h : r.Held M ch) (i q : Int) : ∃ L, Up r.par i q L ∧ L.length ≤ 1000 ∧ (r.is i q = true → L = ch i.toNat) ∧ (r.is i q = false → L = []) := by
  cases hq : r.is i q with
  | false => exact ⟨[], Up.stop (rpar_none.2 hq), by simp, by simp, by simp⟩
  | true =>
    obtain ⟨k, rfl, hk, h1, rfl⟩ := is_pl.1 hq
    exact ⟨ch k, (h.chs k h1).1, by have := (h.chs k h1).2; have := h.m; omega, by simp, by simp⟩
/-- What is there, told by both. -/
theorem Sim.all (h : Sim M t r ch) : nowL t r.L.length = r.all ch := by
  unfold nowL RTab.all RTab.allTo
  congr 1
  funext k
  unfold RTab.plcAt
  by_cases hk : (r.pl k).is = true
  · rw [h.live.2 ⟨k, rfl, hk, rfl⟩, pl_is hk]
    simp [hk]
  · have hn : t.live (k : Nat) = none := by
      cases hl : t.live (k : Nat) with
      | none => rfl
      | some s =>
        obtain ⟨k', e, h1, _⟩ := h.live.1 hl
        obtain rfl : k = k' := by omega
        exact absurd h1 hk
    rw [hn]
    cases hp : r.L[k]? with
    | none => rfl
    | some p =>
      rw [RTab.pl_eq hp] at hk
      simp [hk]
end
end Go.Proofs
end
section
namespace Go.Proofs
open Go.RowKit Go.Shelf
set_option linter.unusedVariables false
set_option linter.unusedSimpArgs false

section
variable {M : Nat} {t : Tab Dm} {r : RTab} {ch : Nat → List (Int × Int)}
theorem rpl_set {r : RTab} {k : Nat} (hk : k < r.L.length) (p : Pl) (F : List Nat) (j : Nat) : (RTab.mk (r.L.set k p) F).pl j = if j = k then p else r.pl j := by
  unfold RTab.pl
  simp only [List.getElem?_set]
  by_cases e : j = k
  · subst e; rw [if_pos rfl, if_pos hk, if_pos rfl]; rfl
  · rw [if_neg (fun x => e x.symm), if_neg e]
/-- The places in which what one has, and what it used, are others. -/
def RTab.set1 (r : RTab) (k : Nat) (o u : Int) : RTab := { r with L := r.L.set k { r.pl k with own := o, used := u } }
section
variable {k : Nat} {o u : Int}
theorem set1_len : (r.set1 k o u).L.length = r.L.length := by unfold RTab.set1; simp
theorem set1_pl (hk : k < r.L.length) (j : Nat) : (r.set1 k o u).pl j = if j = k then { r.pl k with own := o, used := u } else r.pl j := rpl_set hk _ _ j
theorem set1_same (hk : k < r.L.length) (j : Nat) : ((r.set1 k o u).pl j).gen = (r.pl j).gen ∧ ((r.set1 k o u).pl j).is = (r.pl j).is ∧ ((r.set1 k o u).pl j).gs = (r.pl j).gs ∧ ((r.set1 k o u).pl j).cpu = (r.pl j).cpu ∧ ((r.set1 k o u).pl j).per = (r.pl j).per ∧ ((r.set1 k o u).pl j).pi = (r.pl j).pi ∧ ((r.set1 k o u).pl j).pg = (r.pl j).pg := by
  rw [set1_pl hk]
  by_cases e : j = k
  · subst e; rw [if_pos rfl]; exact ⟨rfl, rfl, rfl, rfl, rfl, rfl, rfl⟩
  · rw [if_neg e]; exact ⟨rfl, rfl, rfl, rfl, rfl, rfl, rfl⟩
theorem set1_kidQ (hk : k < r.L.length) (a b : Int) (j : Nat) : kidQ ((r.set1 k o u).pl j) a b = kidQ (r.pl j) a b := by
  obtain ⟨_, h2, _, _, _, h6, h7⟩ := set1_same (o := o) (u := u) hk j
  unfold kidQ; rw [h2, h6, h7]
theorem set1_kids (hk : k < r.L.length) (a b : Int) : (r.set1 k o u).kids a b = r.kids a b := by
  unfold RTab.kids RTab.kidsTo
  rw [set1_len]
  congr 1
  funext j
  rw [kidP_eq, kidP_eq, set1_kidQ hk]
theorem sumL_congr {f g : Nat → Int} (h : ∀ k, f k = g k) (l : List Nat) : sumL f l = sumL g l := by
  have : f = g := funext h
  rw [this]
theorem set1_cgs (hk : k < r.L.length) (a b : Int) : (r.set1 k o u).cgs a b = r.cgs a b := by
  unfold RTab.cgs; rw [set1_kids hk]; exact sumL_congr (fun j => (set1_same hk j).2.2.1) _
theorem set1_car (hk : k < r.L.length) (a b : Int) : (r.set1 k o u).car a b = r.car a b := by
  unfold RTab.car; rw [set1_kids hk]; exact sumL_congr (fun j => (set1_same hk j).2.2.2.1) _
theorem set1_is (hk : k < r.L.length) (a b : Int) : (r.set1 k o u).is a b = r.is a b := by
  rw [Bool.eq_iff_iff, is_pl, is_pl, set1_len]
  constructor
  · rintro ⟨j, rfl, h1, h2, h3⟩
    obtain ⟨e1, e2, _⟩ := set1_same (o := o) (u := u) hk j
    exact ⟨j, rfl, h1, by rw [← e2]; exact h2, by rw [← e1]; exact h3⟩
  · rintro ⟨j, rfl, h1, h2, h3⟩
    obtain ⟨e1, e2, _⟩ := set1_same (o := o) (u := u) hk j
    exact ⟨j, rfl, h1, by rw [e2]; exact h2, by rw [e1]; exact h3⟩
theorem set1_par (hk : k < r.L.length) : (r.set1 k o u).par = r.par := by
  funext a b
  cases hq : r.is a b with
  | false => rw [rpar_none.2 hq, rpar_none.2 (by rw [set1_is hk]; exact hq)]
  | true =>
    obtain ⟨j, rfl, h1, h2, rfl⟩ := is_pl.1 hq
    obtain ⟨e1, e2, _, _, _, e6, e7⟩ := set1_same (o := o) (u := u) hk j
    rw [par_pl.2 ⟨j, rfl, h1, h2, rfl, rfl, rfl⟩]
    exact par_pl.2 ⟨j, rfl, by rw [set1_len]; exact h1, by rw [e2]; exact h2, e1, e6, e7⟩
theorem set1_live (hk : (r.pl k).is = true) (a b : Int) : (r.set1 k o u).live ch a b = r.live ch a b + (if (a, b) ∈ ch k then o - (r.pl k).own else 0) := by
  have hl := is_lt hk
  unfold RTab.live
  rw [set1_len, sumN_upd (f := r.liveAt ch a b) (g := (r.set1 k o u).liveAt ch a b) r.L.length hl (fun j _ hj => by unfold RTab.liveAt; rw [set1_pl hl, if_neg hj])]
  unfold RTab.liveAt
  rw [set1_pl hl, if_pos rfl]
  by_cases hm : (a, b) ∈ ch k
  · rw [if_pos ⟨hk, hm⟩, if_pos ⟨hk, hm⟩, if_pos hm]; dsimp only; omega
  · rw [if_neg (fun x => hm x.2), if_neg (fun x => hm x.2), if_neg hm, Int.sub_zero]
theorem set1_get (hk : (r.pl k).is = true) (j : Nat) (b : Int) : (r.set1 k o u).get ch (j : Nat) b = { r.get ch (j : Nat) b with own := if j = k then o else (r.pl j).own, used := if j = k then u else (r.pl j).used, live := r.live ch (j : Nat) b + (if (((j : Nat) : Int), b) ∈ ch k then o - (r.pl k).own else 0) } := by
  have hl := is_lt hk
  unfold RTab.get
  rw [set1_cgs hl, set1_car hl, set1_kids hl, set1_live hk]
  simp only [Int.toNat_natCast]
  obtain ⟨e1, e2, e3, e4, e5, e6, e7⟩ := set1_same (o := o) (u := u) hl j
  rw [e3, e4, e5, e6, e7]
  rw [set1_pl hl]
  by_cases e : j = k
  · subst e; simp
  · simp [e]
theorem set1_held (h : r.Held M ch) (hk : (r.pl k).is = true) (o0 : 0 ≤ o) (o1 : o + r.cgs (k : Nat) (r.pl k).gen ≤ (r.pl k).gs) (u0 : 0 ≤ u) (u1 : u < 18446744073709551616) : (r.set1 k o u).Held M ch := by
  have hl := is_lt hk
  have hcg := kids_cgs h (k : Nat) (r.pl k).gen
  constructor
  · rw [set1_len]; exact h.n0
  · rw [set1_len]; exact h.n1
  · intro j hj
    obtain ⟨e1, e2, _⟩ := set1_same (o := o) (u := u) hl j
    rw [e2] at hj
    rw [set1_par hl, e1]
    exact h.chs j hj
  · intro j hj
    rw [set1_len] at hj
    have hn := h.nums j hj
    rw [set1_pl hl]
    by_cases e : j = k
    · subst e; rw [if_pos rfl]; exact ⟨hn.1, ⟨o0, by show o ≤ 64; omega⟩, hn.2.2.1, ⟨u0, u1⟩, hn.2.2.2.2⟩
    · rw [if_neg e]; exact hn
  · intro j hj
    obtain ⟨e1, e2, e3, e4, e5, e6, e7⟩ := set1_same (o := o) (u := u) hl j
    rw [e2] at hj
    rw [set1_cgs hl, set1_car hl, e1, e3, e4]
    have hr := h.room j hj
    refine ⟨?_, hr.2⟩
    rw [set1_pl hl]
    by_cases e : j = k
    · subst e; rw [if_pos rfl]; exact o1
    · rw [if_neg e]; exact hr.1
  · intro j hj
    obtain ⟨e1, e2, e3, e4, e5, e6, e7⟩ := set1_same (o := o) (u := u) hl j
    rw [e2] at hj
    rw [set1_is hl, e6, e7]
    exact h.up j hj
  · exact h.m
/-- One place turned, in both. -/
theorem Sim.set1 (h : Sim M t r ch) (hk : (r.pl k).is = true) (o0 : 0 ≤ o) (o1 : o + r.cgs (k : Nat) (r.pl k).gen ≤ (r.pl k).gs) (u0 : 0 ≤ u) (u1 : u < 18446744073709551616)
    {t' : Tab Dm} (hw : t'.WF) (hsm : t'.size = t.size ∧ t'.first = t.first ∧ t'.retired = t.retired ∧ t'.freed = t.freed ∧ t'.spots.length = t.spots.length)
    (hs : ∀ (j : Nat) (s : Spot Dm), t.spots[j]? = some s → s.there = true → s.gen = (r.pl j).gen → t'.spots[j]? = some ⟨s.gen, true, { s.thing with own := if j = k then o else s.thing.own, used := if j = k then u else s.thing.used, live := s.thing.live + (if (((j : Nat) : Int), s.gen) ∈ ch k then o - (r.pl k).own else 0) }⟩)
    (hd : ∀ (j : Nat) (s : Spot Dm), t.spots[j]? = some s → s.there = false → t'.spots[j]? = some s) : Sim M t' (r.set1 k o u) ch := by
  have hl := is_lt hk
  constructor
  · exact set1_held h.held hk o0 o1 u0 u1
  · exact hw
  · rw [hsm.1, set1_len]; exact h.size
  · rw [hsm.2.1]; exact h.first
  · intro j hj
    rw [hsm.2.2.2.2] at hj
    have e := h.spot j hj
    obtain ⟨e1, e2, e3, e4, e5, e6, e7⟩ := set1_same (o := o) (u := u) hl j
    cases hi : (r.pl j).is with
    | false =>
      rw [hd j _ e hi]
      unfold RTab.spot
      rw [e1, e2, hi]; rfl
    | true =>
      rw [hs j _ e hi rfl]
      unfold RTab.spot
      rw [e1, e2, hi, set1_get hk]
      simp only [if_true]
      unfold RTab.get
      simp only [Int.toNat_natCast]
  · intro j h1 h2
    rw [hsm.2.2.2.2] at h1
    rw [set1_len] at h2
    have e := h.rest j h1 h2
    have hjk : j ≠ k := by rintro rfl; rw [RTab.pl_eq e] at hk; cases hk
    unfold RTab.set1
    simp only [List.getElem?_set, if_neg (fun x => hjk (Eq.symm x))]
    exact e
  · rw [set1_len, hsm.2.2.2.2, hsm.2.2.2.1]; exact h.free
  · rw [hsm.2.2.1]; exact h.ret
theorem Sim.thing (h : Sim M t r ch) {j : Nat} {s : Spot Dm} (hs : t.spots[j]? = some s) (hi : s.there = true) : s.thing.own = (r.pl j).own ∧ s.thing.used = (r.pl j).used := by
  have he := h.spot j (List.getElem?_eq_some_iff.1 hs).1
  rw [hs] at he
  cases he
  have hk : (r.pl j).is = true := hi
  unfold RTab.spot RTab.get
  simp only [hk, if_true, Int.toNat_natCast, and_self]
/-- One more, or fewer, in both. -/
theorem Sim.settle (h : Sim M t r ch) (hk : (r.pl k).is = true) (m : Int) (o0 : 0 ≤ (r.pl k).own + m) (o1 : (r.pl k).own + m + r.cgs (k : Nat) (r.pl k).gen ≤ (r.pl k).gs) : Sim M (settleT m (k : Nat) (r.pl k).gen (ch k) t) (r.set1 k ((r.pl k).own + m) (r.pl k).used) ch := by
  have hl := is_lt hk
  have hnu := (h.held.nums k hl).2.2.2.1
  have hnd := Up.nodup (h.held.chs k hk).1
  refine h.set1 hk o0 o1 hnu.1 hnu.2 ?_ ?_ ?_ ?_
  · exact updAll_wf _ _ _ (h.wf.upd _ _ _)
  · have a := updAll_same (fun x => { x with live := x.live + m }) (ch k) (t.upd (k : Nat) (r.pl k).gen (fun x => { x with own := x.own + m }))
    have b := upd_same (t := t) (i := (k : Nat)) (q := (r.pl k).gen) (h := fun x => { x with own := x.own + m })
    exact ⟨a.1.trans b.1, a.2.1.trans b.2.1, a.2.2.1.trans b.2.2.1, a.2.2.2.1.trans b.2.2.2.1, a.2.2.2.2.trans b.2.2.2.2⟩
  · intro j s hs hi hg
    have hjl := (List.getElem?_eq_some_iff.1 hs).1
    have e9 : (r.pl k).own + m - (r.pl k).own = m := by omega
    have ho := h.thing hs hi
    unfold settleT
    rw [updAll_spots _ hnd, upd_spots, hs, e9]
    obtain ⟨gen, there, x⟩ := s
    obtain rfl : there = true := hi
    obtain rfl : gen = (r.pl j).gen := hg
    simp only [Option.map_some]
    congr 1
    by_cases e : j = k
    · subst e
      simp only [true_and, and_self, if_true]
      by_cases hm : (((j : Nat) : Int), (r.pl j).gen) ∈ ch j
      · simp only [if_pos hm, ← ho.1, ← ho.2]
      · simp only [if_neg hm, ← ho.1, ← ho.2, Int.add_zero]
    · have hc : ¬ (((j : Nat) : Int) = ((k : Nat) : Int) ∧ (r.pl j).gen = (r.pl k).gen) := fun x => e (by have := x.1; omega)
      simp only [true_and, if_neg hc, if_neg e]
      by_cases hm : (((j : Nat) : Int), (r.pl j).gen) ∈ ch k
      · simp only [if_pos hm]
      · simp only [if_neg hm, Int.add_zero]
  · intro j s hs hi
    unfold settleT
    rw [updAll_spots _ hnd, upd_spots, hs]
    simp [hi]
theorem Sim.usedTo (h : Sim M t r ch) (hk : (r.pl k).is = true) (f : Dm → Dm) (u : Int) (hf : ∀ x : Dm, x.used = (r.pl k).used → f x = { x with used := u }) (u0 : 0 ≤ u) (u1 : u < 18446744073709551616) : Sim M (t.upd (k : Nat) (r.pl k).gen f) (r.set1 k (r.pl k).own u) ch := by
  have hl := is_lt hk
  have hnu := (h.held.nums k hl).2.1
  refine h.set1 hk hnu.1 (h.held.room k hk).1 u0 u1 (h.wf.upd _ _ _) upd_same ?_ ?_
  · intro j s hs hi hg
    have hjl := (List.getElem?_eq_some_iff.1 hs).1
    rw [upd_spots, hs]
    have ho := h.thing hs hi
    obtain ⟨gen, there, x⟩ := s
    obtain rfl : there = true := hi
    obtain rfl : gen = (r.pl j).gen := hg
    simp only [Option.map_some, Int.sub_self, ite_self, Int.add_zero]
    congr 1
    by_cases e : j = k
    · subst e
      simp only [true_and, and_self, if_true]
      rw [hf _ ho.2, ← ho.1]
    · have hc : ¬ (((j : Nat) : Int) = ((k : Nat) : Int) ∧ (r.pl j).gen = (r.pl k).gen) := fun x => e (by have := x.1; omega)
      simp only [true_and, if_neg hc, if_neg e]
  · intro j s hs hi
    rw [upd_spots, hs]
    simp [hi]
end
end
end Go.Proofs
end
section
namespace Go.Proofs
open Go.RowKit
set_option linter.unusedVariables false
set_option linter.unusedSimpArgs false

theorem Carve_any {w : World} {c : Nat} {S : List Nat} {t : Tab Dm} (h : DomAt w c S t) (hk : t.Oks) {i q gs cpu per : Int} (i0 : -9223372036854775808 ≤ i) (i1 : i ≤ 9223372036854775807) (hc0 : 0 ≤ cpu) (hp0 : 0 ≤ per) :
    Calls Try.prog 34 #[ptr c, .agg #[.int .i64 i, .int .u64 q], .int .i64 gs, .int .u64 cpu, .int .u64 per] w (CvOut c S t i q gs cpu per w) := by
  cases hm : mayD gs cpu per with
  | false => exact Carve_no h hk i0 i1 hc0 hp0 (.inl (by unfold carveE; rw [hm]; rfl))
  | true =>
    cases hq : t.has i q with
    | false => exact Carve_no h hk i0 i1 hc0 hp0 (.inr (.inl (by unfold carveE; rw [hm, hq]; rfl)))
    | true =>
      by_cases g : (t.at_ i q).gs - (t.at_ i q).cgs - (t.at_ i q).own < gs ∨ subS (t.at_ i q).cpu (t.at_ i q).car < cpu
      · exact Carve_no h hk i0 i1 hc0 hp0 (.inr (.inr (by unfold carveE; rw [if_pos hm, if_pos hq, if_pos g])))
      · by_cases hf : t.frees = 0
        · exact Carve_full h hk i0 i1 hc0 hp0 hm hq (fun h => g (.inl h)) (fun h => g (.inr h)) hf
        · exact Carve_ok h hk i0 i1 hc0 hp0 hm hq (fun h => g (.inl h)) (fun h => g (.inr h)) hf

/-! ### What a drop leaves -/
theorem drop_live {t : Tab Dm} {i : Nat} {g : Int} (hi : i < t.spots.length) (j : Int) : (t.drop dm0 i g).live j = if j = (i : Nat) then none else t.live j := by
  by_cases j0 : 0 ≤ j
  · obtain ⟨m, rfl⟩ := Int.eq_ofNat_of_zero_le j0
    unfold Tab.live Tab.spot?
    simp only [j0, if_true, Int.toNat_natCast, drop_spots hi]
    by_cases e : m = i
    · subst e; simp
    · have e' : ¬ ((m : Nat) : Int) = (i : Nat) := by omega
      rw [if_neg e, if_neg e']
  · have e' : ¬ j = (i : Nat) := by omega
    rw [if_neg e']
    unfold Tab.live Tab.spot?
    simp [j0]
theorem drop_has {t : Tab Dm} {i : Nat} {g : Int} (hi : i < t.spots.length) (j r : Int) : (t.drop dm0 i g).has j r = if j = (i : Nat) then false else t.has j r := by
  unfold Tab.has
  rw [drop_live hi]
  by_cases e : j = (i : Nat)
  · rw [if_pos e, if_pos e]
  · rw [if_neg e, if_neg e]
theorem drop_at {t : Tab Dm} {i : Nat} {g : Int} (hi : i < t.spots.length) (j r : Int) : (t.drop dm0 i g).at_ j r = if j = (i : Nat) then dm0 else t.at_ j r := by
  unfold Tab.at_
  rw [drop_live hi]
  by_cases e : j = (i : Nat)
  · rw [if_pos e, if_pos e]
  · rw [if_neg e, if_neg e]
def mergeE (t : Tab Dm) (i q : Int) : Int := if t.has i q then (if (t.at_ i q).pg = 0 then 2 else (if 0 < (t.at_ i q).live ∨ 0 < (t.at_ i q).ch then 14 else 0)) else 11
def mergeT (t : Tab Dm) (i q : Int) : Tab Dm := (t.drop dm0 i.toNat q).upd (t.at_ i q).pi (t.at_ i q).pg (fun x => { x with cgs := x.cgs - (t.at_ i q).gs, car := x.car - (t.at_ i q).cpu, ch := x.ch - 1 })
end Go.Proofs
end
section
namespace Go.Proofs
open Go.RowKit Go.Shelf
set_option linter.unusedVariables false
set_option linter.unusedSimpArgs false

/-- A chain is one also where refs that it may meet have the same parents. -/
theorem Up.carry {f f' : PF} (Q : Int → Int → Prop) (hQ : ∀ i q a b, Q i q → f i q = some (a, b) → Q a b) (hf : ∀ i q, Q i q → f' i q = f i q) {i q : Int} {l : List (Int × Int)} (h : Up f i q l) : Q i q → Up f' i q l := by
  induction h with
  | stop e => intro hq; exact .stop (by rw [hf _ _ hq]; exact e)
  | step e _ ih => intro hq; exact .step (by rw [hf _ _ hq]; exact e) (ih (hQ _ _ _ _ hq e))
/-- Whom a chain passes is there. -/
theorem Up.rhas {r : RTab} {i q : Int} {l : List (Int × Int)} (h : Up r.par i q l) : ∀ x ∈ l, r.is x.1 x.2 = true := by
  generalize hf : r.par = f at h
  induction h with
  | stop e => intro x hx; cases hx
  | @step i q a b l e _ ih =>
    intro x hx
    rcases List.mem_cons.1 hx with rfl | hx
    · rw [← hf] at e
      obtain ⟨k, rfl, hk, h1, rfl, _⟩ := par_pl.1 e
      exact is_pl.2 ⟨k, rfl, hk, h1, rfl⟩
    · exact ih x hx
section
variable {M : Nat} {t : Tab Dm} {r : RTab} {ch : Nat → List (Int × Int)}
theorem sumN_zero_of {f : Nat → Int} {n : Nat} (h : sumN f n = 0) (hn : ∀ k, k < n → 0 ≤ f k) : ∀ k, k < n → f k = 0 := fun k hk => by
  have := sumN_ge hk hn
  have := hn k hk
  omega
theorem no_kids {i q : Int} (h : (r.kids i q).length = 0) (c : Nat) : kidQ (r.pl c) i q = false := by
  cases hk : kidQ (r.pl c) i q with
  | false => rfl
  | true =>
    have h1 := kids_eq (r := r) i q
    rw [h] at h1
    have := sumN_zero_of h1.symm (fun k _ => by split <;> omega) c (kid_lt hk)
    rw [if_pos hk] at this
    cases this

/-! ### Merge -/
section
variable {k : Nat}
end
end
end Go.Proofs
end
section
namespace Go.Proofs
open Go.RowKit Go.Shelf
set_option linter.unusedVariables false
set_option linter.unusedSimpArgs false
section
variable {M : Nat} {t : Tab Dm} {r : RTab} {ch : Nat → List (Int × Int)}
/-- The free places: those that were never taken, and those that are free again. -/
structure Gets (t : Tab Dm) (r : RTab) (f : Nat) : Prop where
  ne : r.F ≠ []
  fr : t.frees ≠ 0
  at0 : r.at0 = f
  takeAt : t.takeAt = f
  lt : f < r.L.length
  is : (r.pl f).is = false
  gen : t.genAt f = (r.pl f).gen
  back : r.F.dropLast = newF r.L.length (r.L.length - (t.put dm0 dm0).spots.length) ++ (t.put dm0 dm0).freed
  len : ∀ x, (t.put dm0 x).spots.length = (t.put dm0 dm0).spots.length ∧ (t.put dm0 x).freed = (t.put dm0 dm0).freed
  grow : t.spots.length ≤ (t.put dm0 dm0).spots.length
  old : ∀ j, j < (t.put dm0 dm0).spots.length → j ≠ f → j < t.spots.length
theorem pl_rest (h : Sim M t r ch) {k : Nat} (h1 : t.spots.length ≤ k) (h2 : k < r.L.length) : r.pl k = pl1 := RTab.pl_eq (h.rest k h1 h2)
theorem frees_len (h : Sim M t r ch) : t.frees = (r.F.length : Nat) := by
  rw [h.free, List.length_append, newF_len]
  have := h.lenle
  unfold Tab.frees
  rw [h.size]; omega
theorem Sim.gets (h : Sim M t r ch) (hF : r.F ≠ []) : ∃ f, Gets t r f := by
  have hfr : t.frees ≠ 0 := by
    rw [frees_len h]; intro e
    exact hF (List.length_eq_zero_iff.1 (by omega))
  rcases List.eq_nil_or_concat t.freed with hn | ⟨l, k, hk⟩
  · obtain ⟨e1, e2⟩ := take_nil (z := dm0) hn
    have hfree := h.free
    rw [hn, List.append_nil] at hfree
    have hle := h.lenle
    have hlt : t.spots.length < r.L.length := by
      have := frees_len h
      unfold Tab.frees at hfr
      rw [hn, h.size] at hfr
      simp at hfr; omega
    obtain ⟨d, hd⟩ : ∃ d, r.L.length - t.spots.length = d + 1 := ⟨r.L.length - t.spots.length - 1, by omega⟩
    have hps : ∀ x, (t.put dm0 x).spots.length = t.spots.length + 1 ∧ (t.put dm0 x).freed = [] := fun x => by
      rw [put_eq h.wf hfr x, e1]; exact ⟨by simp, hn⟩
    refine ⟨t.spots.length, ⟨hF, hfr, ?_, e2, hlt, ?_, ?_, ?_, ?_, ?_, ?_⟩⟩
    · unfold RTab.at0
      rw [hfree, hd, newF_succ]; simp; omega
    · rw [pl_rest h (Nat.le_refl _) hlt]; rfl
    · rw [pl_rest h (Nat.le_refl _) hlt]; unfold Tab.genAt; simp [h.first, pl1]
    · rw [(hps dm0).1, (hps dm0).2, hfree, hd, newF_succ]
      rw [show r.L.length - (t.spots.length + 1) = d from by omega]; simp
    · intro x; rw [(hps x).1, (hps x).2, (hps dm0).1, (hps dm0).2]; exact ⟨rfl, rfl⟩
    · rw [(hps dm0).1]; omega
    · intro j hj he; rw [(hps dm0).1] at hj; omega
  · obtain ⟨e1, e2⟩ := take_cons (z := dm0) (by rw [hk]; simp : t.freed = l ++ [k])
    have hkl : k ∈ t.freed := by rw [hk]; simp
    obtain ⟨s, hs, hs1, hs2⟩ := h.wf.free k hkl
    have hks := (List.getElem?_eq_some_iff.1 hs).1
    have hle := h.lenle
    have he := h.spot k hks
    rw [hs] at he
    cases he
    have hi : (r.pl k).is = false := hs1
    have hps : ∀ x, (t.put dm0 x).spots.length = t.spots.length ∧ (t.put dm0 x).freed = l := fun x => by
      rw [put_eq h.wf hfr x, e1]; exact ⟨by simp, rfl⟩
    refine ⟨k, ⟨hF, hfr, ?_, e2, by omega, hi, ?_, ?_, ?_, ?_, ?_⟩⟩
    · unfold RTab.at0; rw [h.free, hk]; simp
    · unfold Tab.genAt; rw [hs]; rfl
    · rw [(hps dm0).1, (hps dm0).2, h.free, hk, List.concat_eq_append, ← List.append_assoc, List.dropLast_concat]
    · intro x; rw [(hps x).1, (hps x).2, (hps dm0).1, (hps dm0).2]; exact ⟨rfl, rfl⟩
    · rw [(hps dm0).1]; exact Nat.le_refl _
    · intro j hj he; rw [(hps dm0).1] at hj; exact hj

/-! ### A place is taken -/
section
variable {f : Nat} {i q gs cpu per : Int}
def RTab.on (r : RTab) (i q gs cpu per : Int) : RTab := r.put (rkid i q gs cpu per)
/-- The chains, with one more. -/
def chOn (r : RTab) (ch : Nat → List (Int × Int)) (f : Nat) (l : List (Int × Int)) : Nat → List (Int × Int) := fun j => if j = f then (((f : Nat) : Int), (r.pl f).gen) :: l else ch j
theorem on_len : (r.on i q gs cpu per).L.length = r.L.length := by unfold RTab.on RTab.put; simp
theorem on_pl (h0 : r.at0 = f) (hl : f < r.L.length) (j : Nat) : (r.on i q gs cpu per).pl j = if j = f then ⟨(r.pl f).gen, true, gs, cpu, per, i, q, 0, 0⟩ else r.pl j := by
  unfold RTab.on RTab.put
  rw [rpl_set (by rw [h0]; exact hl), h0]; rfl
theorem on_sum (h0 : r.at0 = f) (hl : f < r.L.length) (hf : (r.pl f).is = false) (g : Pl → Int) (a b : Int) :
    sumN (fun j => if kidQ ((r.on i q gs cpu per).pl j) a b = true then g ((r.on i q gs cpu per).pl j) else 0) (r.on i q gs cpu per).L.length = sumN (fun j => if kidQ (r.pl j) a b = true then g (r.pl j) else 0) r.L.length + (if i = a ∧ q = b then g ⟨(r.pl f).gen, true, gs, cpu, per, i, q, 0, 0⟩ else 0) := by
  rw [on_len, sumN_upd (f := fun j => if kidQ (r.pl j) a b = true then g (r.pl j) else 0) r.L.length hl (fun j _ hj => by simp only [on_pl h0 hl, if_neg hj])]
  simp only [on_pl h0 hl, if_true]
  have e1 : kidQ (r.pl f) a b = false := by unfold kidQ; rw [hf]; rfl
  have e2 : kidQ ⟨(r.pl f).gen, true, gs, cpu, per, i, q, 0, 0⟩ a b = true ↔ i = a ∧ q = b := by rw [kidQ_iff]; simp
  simp only [e1, e2]
  simp
theorem on_cgs (h0 : r.at0 = f) (hl : f < r.L.length) (hf : (r.pl f).is = false) (a b : Int) : (r.on i q gs cpu per).cgs a b = r.cgs a b + (if i = a ∧ q = b then gs else 0) := by
  rw [cgs_eq, cgs_eq]; exact on_sum h0 hl hf (fun p => p.gs) a b
theorem on_car (h0 : r.at0 = f) (hl : f < r.L.length) (hf : (r.pl f).is = false) (a b : Int) : (r.on i q gs cpu per).car a b = r.car a b + (if i = a ∧ q = b then cpu else 0) := by
  rw [car_eq, car_eq]; exact on_sum h0 hl hf (fun p => p.cpu) a b
theorem on_kids (h0 : r.at0 = f) (hl : f < r.L.length) (hf : (r.pl f).is = false) (a b : Int) : (((r.on i q gs cpu per).kids a b).length : Int) = (r.kids a b).length + (if i = a ∧ q = b then 1 else 0) := by
  rw [kids_eq, kids_eq]; exact on_sum h0 hl hf (fun p => 1) a b
theorem on_is (h0 : r.at0 = f) (hl : f < r.L.length) (hf : (r.pl f).is = false) (a b : Int) : (r.on i q gs cpu per).is a b = true ↔ r.is a b = true ∨ (a = (f : Nat) ∧ b = (r.pl f).gen) := by
  rw [is_pl, is_pl, on_len]
  constructor
  · rintro ⟨j, rfl, h1, h2, h3⟩
    rw [on_pl h0 hl] at h2 h3
    by_cases e : j = f
    · subst e; rw [if_pos rfl] at h3; exact .inr ⟨rfl, h3.symm⟩
    · rw [if_neg e] at h2 h3
      exact .inl ⟨j, rfl, h1, h2, h3⟩
  · rintro (⟨j, rfl, h1, h2, h3⟩ | ⟨rfl, rfl⟩)
    · have e : j ≠ f := by rintro rfl; rw [hf] at h2; cases h2
      exact ⟨j, rfl, h1, by rw [on_pl h0 hl, if_neg e]; exact h2, by rw [on_pl h0 hl, if_neg e]; exact h3⟩
    · exact ⟨f, rfl, hl, by rw [on_pl h0 hl, if_pos rfl], by rw [on_pl h0 hl, if_pos rfl]⟩
theorem not_is (hf : (r.pl f).is = false) : r.is (f : Nat) (r.pl f).gen = false := by
  cases h : r.is (f : Nat) (r.pl f).gen with
  | false => rfl
  | true =>
    obtain ⟨j, e, _, h2, _⟩ := is_pl.1 h
    obtain rfl : f = j := by omega
    rw [hf] at h2; cases h2
theorem on_par (h0 : r.at0 = f) (hl : f < r.L.length) (hf : (r.pl f).is = false) {a b : Int} (hn : ¬ (a = (f : Nat) ∧ b = (r.pl f).gen)) : (r.on i q gs cpu per).par a b = r.par a b := by
  cases hq : r.is a b with
  | false =>
    rw [rpar_none.2 hq, rpar_none.2]
    cases h : (r.on i q gs cpu per).is a b with
    | false => rfl
    | true => rcases (on_is h0 hl hf a b).1 h with h | h; rw [h] at hq; cases hq; exact absurd h hn
  | true =>
    obtain ⟨j, rfl, h1, h2, rfl⟩ := is_pl.1 hq
    have e : j ≠ f := by rintro rfl; rw [hf] at h2; cases h2
    have ep : (r.on i q gs cpu per).pl j = r.pl j := by rw [on_pl h0 hl, if_neg e]
    rw [par_pl.2 ⟨j, rfl, h1, h2, rfl, rfl, rfl⟩]
    exact par_pl.2 ⟨j, rfl, by rw [on_len]; exact h1, by rw [ep]; exact h2, by rw [ep], by rw [ep], by rw [ep]⟩
theorem on_live (h0 : r.at0 = f) (hl : f < r.L.length) (hf : (r.pl f).is = false) (l : List (Int × Int)) (a b : Int) : (r.on i q gs cpu per).live (chOn r ch f l) a b = r.live ch a b := by
  unfold RTab.live
  rw [on_len]
  refine sumN_congr _ (fun j _ => ?_)
  unfold RTab.liveAt
  rw [on_pl h0 hl]
  by_cases e : j = f
  · subst e; simp [hf]
  · simp [chOn, e]
theorem fresh_zero (h : r.Held M ch) (hl : f < r.L.length) (hf : (r.pl f).is = false) : (∀ c, kidQ (r.pl c) (f : Nat) (r.pl f).gen = false) ∧ r.live ch (f : Nat) (r.pl f).gen = 0 := by
  have hg := (h.nums f hl).2.2.2.2
  constructor
  · intro c
    cases hk : kidQ (r.pl c) (f : Nat) (r.pl f).gen with
    | false => rfl
    | true =>
      obtain ⟨h1, h2, h3⟩ := kidQ_iff.1 hk
      rcases h.up c h1 with ⟨_, e⟩ | ⟨_, e⟩
      · omega
      · rw [h2, h3, not_is hf] at e; cases e
  · unfold RTab.live
    refine sumN_zero _ (fun k hk => ?_)
    unfold RTab.liveAt
    rw [if_neg]
    rintro ⟨h1, h2⟩
    have := Up.rhas (h.chs k h1).1 _ h2
    rw [not_is hf] at this; cases this
theorem on_get_old (h0 : r.at0 = f) (hl : f < r.L.length) (hf : (r.pl f).is = false) (l : List (Int × Int)) {j : Nat} (hj : j ≠ f) (b : Int) :
    (r.on i q gs cpu per).get (chOn r ch f l) (j : Nat) b = (if i = (j : Nat) ∧ q = b then { r.get ch (j : Nat) b with cgs := (r.get ch (j : Nat) b).cgs + gs, car := (r.get ch (j : Nat) b).car + cpu, ch := (r.get ch (j : Nat) b).ch + 1 } else r.get ch (j : Nat) b) := by
  have ep : (r.on i q gs cpu per).pl j = r.pl j := by rw [on_pl h0 hl, if_neg hj]
  unfold RTab.get
  simp only [Int.toNat_natCast]
  rw [ep, on_cgs h0 hl hf, on_car h0 hl hf, on_kids h0 hl hf, on_live h0 hl hf]
  by_cases e : i = (j : Nat) ∧ q = b
  · simp only [if_pos e]
  · simp only [if_neg e, Int.add_zero]
theorem on_get_new (h : r.Held M ch) (h0 : r.at0 = f) (hl : f < r.L.length) (hf : (r.pl f).is = false) (l : List (Int × Int)) (hn : ¬ (i = (f : Nat) ∧ q = (r.pl f).gen)) : (r.on i q gs cpu per).get (chOn r ch f l) (f : Nat) (r.pl f).gen = kid i q gs cpu per := by
  obtain ⟨z1, z2⟩ := fresh_zero h hl hf
  unfold RTab.get
  simp only [Int.toNat_natCast]
  rw [on_pl h0 hl, if_pos rfl, on_cgs h0 hl hf, on_car h0 hl hf, on_kids h0 hl hf, on_live h0 hl hf, z2, cgs_eq, car_eq, kids_eq]
  rw [sumN_zero _ (fun k _ => by rw [z1 k]; rfl), sumN_zero _ (fun k _ => by rw [z1 k]; rfl), sumN_zero _ (fun k _ => by rw [z1 k]; rfl)]
  simp only [if_neg hn]
  rfl
theorem on_held (h : r.Held M ch) (hM : M + 1 ≤ 1000) (h0 : r.at0 = f) (hl : f < r.L.length) (hf : (r.pl f).is = false) {k : Nat} (hi : i = (k : Nat)) (hq : q = (r.pl k).gen) (hk : (r.pl k).is = true)
    (g0 : 0 ≤ gs) (g1 : gs ≤ 64) (c0 : 0 ≤ cpu) (c1 : cpu ≤ 4294967296) (hr1 : gs + r.cgs i q + (r.pl k).own ≤ (r.pl k).gs) (hr2 : cpu + r.car i q ≤ (r.pl k).cpu) : (r.on i q gs cpu per).Held (M + 1) (chOn r ch f (ch k)) := by
  subst hi
  subst hq
  have hkl := is_lt hk
  have hkf : k ≠ f := by rintro rfl; rw [hf] at hk; cases hk
  have hgf := (h.nums f hl).2.2.2.2
  have hgk := (h.nums k hkl).2.2.2.2
  obtain ⟨z1, z2⟩ := fresh_zero h hl hf
  have carry : ∀ a b l, (r.is a b = true ∨ b = 0) → Up r.par a b l → Up (r.on (k : Nat) (r.pl k).gen gs cpu per).par a b l := fun a b l hq hu => by
    refine Up.carry (fun a b => r.is a b = true ∨ b = 0) ?_ ?_ hu hq
    · intro a b c d _ hp
      obtain ⟨j2, rfl, _, hi2, _, e1, e2⟩ := par_pl.1 hp
      rcases h.up j2 hi2 with ⟨_, e⟩ | ⟨_, e⟩
      · exact .inr (by rw [← e2]; exact e)
      · exact .inl (by rw [← e1, ← e2]; exact e)
    · intro a b hq
      refine on_par h0 hl hf ?_
      rintro ⟨rfl, rfl⟩
      rcases hq with hq | hq
      · rw [not_is hf] at hq; cases hq
      · omega
  have isk : r.is (k : Nat) (r.pl k).gen = true := is_pl.2 ⟨k, rfl, hkl, hk, rfl⟩
  constructor
  · rw [on_len]; exact h.n0
  · rw [on_len]; exact h.n1
  · intro j hj
    rw [on_pl h0 hl] at hj ⊢
    unfold chOn
    by_cases e : j = f
    · subst e
      rw [if_pos rfl, if_pos rfl]
      refine ⟨Up.step (a := (k : Nat)) (b := (r.pl k).gen) (par_pl.2 ⟨j, rfl, by rw [on_len]; exact hl, by rw [on_pl h0 hl, if_pos rfl], by rw [on_pl h0 hl, if_pos rfl], by rw [on_pl h0 hl, if_pos rfl], by rw [on_pl h0 hl, if_pos rfl]⟩) (carry _ _ _ (.inl isk) (h.chs k hk).1), ?_⟩
      have := (h.chs k hk).2
      simp only [List.length_cons]; omega
    · rw [if_neg e] at hj
      rw [if_neg e, if_neg e]
      exact ⟨carry _ _ _ (.inl (is_pl.2 ⟨j, rfl, is_lt hj, hj, rfl⟩)) (h.chs j hj).1, by have := (h.chs j hj).2; omega⟩
  · intro j hj
    rw [on_len] at hj
    have hn := h.nums j hj
    rw [on_pl h0 hl]
    by_cases e : j = f
    · subst e
      rw [if_pos rfl]
      refine ⟨⟨g0, g1⟩, ⟨by simp, by simp⟩, ⟨c0, c1⟩, ⟨by simp, by simp⟩, ?_⟩
      show 1 ≤ (r.pl j).gen ∧ (r.pl j).gen ≤ ((M + 1 : Nat) : Int)
      omega
    · rw [if_neg e]; exact ⟨hn.1, hn.2.1, hn.2.2.1, hn.2.2.2.1, by omega⟩
  · intro j hj
    rw [on_cgs h0 hl hf, on_car h0 hl hf]
    rw [on_pl h0 hl] at hj ⊢
    by_cases e : j = f
    · subst e
      rw [if_pos rfl]
      have hne : ¬ (((k : Nat) : Int) = ((j : Nat) : Int) ∧ (r.pl k).gen = (r.pl j).gen) := fun x => hkf (by omega)
      dsimp only
      rw [if_neg hne, if_neg hne, cgs_eq, car_eq, sumN_zero _ (fun c _ => by rw [z1 c]; rfl), sumN_zero _ (fun c _ => by rw [z1 c]; rfl)]
      omega
    · rw [if_neg e] at hj ⊢
      have hr := h.room j hj
      by_cases e2 : ((k : Nat) : Int) = ((j : Nat) : Int) ∧ (r.pl k).gen = (r.pl j).gen
      · obtain rfl : k = j := by omega
        rw [if_pos e2, if_pos e2]
        omega
      · rw [if_neg e2, if_neg e2]; omega
  · intro j hj
    rw [on_pl h0 hl] at hj ⊢
    by_cases e : j = f
    · subst e
      rw [if_pos rfl]
      exact .inr ⟨by show (r.pl k).gen ≠ 0; omega, (on_is h0 hl hf _ _).2 (.inl isk)⟩
    · rw [if_neg e] at hj ⊢
      rcases h.up j hj with hu | ⟨h1, h2⟩
      · exact .inl hu
      · exact .inr ⟨h1, (on_is h0 hl hf _ _).2 (.inl h2)⟩
  · exact hM
theorem Sim.on (h : Sim M t r ch) (hM : M + 1 ≤ 1000) (hg : Gets t r f) {k : Nat} (hi : i = (k : Nat)) (hq : q = (r.pl k).gen) (hk : (r.pl k).is = true)
    (g0 : 0 ≤ gs) (g1 : gs ≤ 64) (c0 : 0 ≤ cpu) (c1 : cpu ≤ 4294967296) (hr1 : gs + r.cgs i q + (r.pl k).own ≤ (r.pl k).gs) (hr2 : cpu + r.car i q ≤ (r.pl k).cpu) : Sim (M + 1) (carveT t i q gs cpu per) (r.on i q gs cpu per) (chOn r ch f (ch k)) := by
  have hl := hg.lt
  have hf := hg.is
  have h0 := hg.at0
  have hkf : k ≠ f := by rintro rfl; rw [hf] at hk; cases hk
  have hsm := upd_same (t := t.put dm0 (kid i q gs cpu per)) (i := i) (q := q) (h := fun x => { x with cgs := x.cgs + gs, car := x.car + cpu, ch := x.ch + 1 })
  have hps := put_same (z := dm0) (t := t) (kid i q gs cpu per)
  have hln := hg.len (kid i q gs cpu per)
  constructor
  · exact on_held h.held hM h0 hl hf hi hq hk g0 g1 c0 c1 hr1 hr2
  · exact (h.wf.put hg.fr _).upd _ _ _
  · exact (hsm.1.trans hps.1).trans (by rw [on_len]; exact h.size)
  · exact (hsm.2.1.trans hps.2.1).trans h.first
  · intro j hj
    have hj' : j < (t.put dm0 dm0).spots.length := by rw [← hln.1, ← hsm.2.2.2.2]; exact hj
    unfold carveT
    rw [upd_spots, put_spots h.wf hg.fr, hg.takeAt, hg.gen]
    by_cases e : j = f
    · subst e
      have hne : ¬ (i = ((j : Nat) : Int) ∧ q = (r.pl j).gen) := fun x => hkf (by rw [hi] at x; omega)
      have hne2 : ¬ (((j : Nat) : Int) = i ∧ (r.pl j).gen = q) := fun x => hne ⟨x.1.symm, x.2.symm⟩
      unfold RTab.spot
      rw [if_pos rfl]
      have ep : (r.on i q gs cpu per).pl j = ⟨(r.pl j).gen, true, gs, cpu, per, i, q, 0, 0⟩ := by rw [on_pl h0 hl, if_pos rfl]
      rw [ep]
      simp only [if_true, Option.map_some, true_and, if_neg hne2]
      rw [on_get_new h.held h0 hl hf _ hne]
    · rw [if_neg e, h.spot j (hg.old j hj' e)]
      have ep : (r.on i q gs cpu per).pl j = r.pl j := by rw [on_pl h0 hl, if_neg e]
      unfold RTab.spot
      rw [ep]
      cases hij : (r.pl j).is with
      | false => simp
      | true =>
        rw [on_get_old h0 hl hf _ e]
        simp only [Option.map_some, true_and, if_true]
        congr 1
        by_cases hp : i = (j : Nat) ∧ q = (r.pl j).gen
        · simp only [if_pos hp, if_pos (show ((j : Nat) : Int) = i ∧ (r.pl j).gen = q from ⟨hp.1.symm, hp.2.symm⟩)]
        · simp only [if_neg hp, if_neg (show ¬ (((j : Nat) : Int) = i ∧ (r.pl j).gen = q) from fun x => hp ⟨x.1.symm, x.2.symm⟩)]
  · intro j h1 h2
    have h1' : (t.put dm0 dm0).spots.length ≤ j := by rw [← hln.1, ← hsm.2.2.2.2]; exact h1
    rw [on_len] at h2
    have e := h.rest j (Nat.le_trans hg.grow h1') h2
    have hjf : f ≠ j := by
      rintro rfl
      have hh : (t.put dm0 dm0).spots[f]? = some ⟨t.genAt t.takeAt, true, dm0⟩ := by rw [put_spots h.wf hg.fr, hg.takeAt, if_pos rfl]
      have := (List.getElem?_eq_some_iff.1 hh).1
      omega
    unfold RTab.on RTab.put
    simp only [List.getElem?_set, h0, if_neg hjf]
    exact e
  · have e1 : (carveT t i q gs cpu per).spots.length = (t.put dm0 dm0).spots.length := hsm.2.2.2.2.trans hln.1
    have e2 : (carveT t i q gs cpu per).freed = (t.put dm0 dm0).freed := hsm.2.2.2.1.trans hln.2
    rw [e1, e2, on_len]
    exact hg.back
  · exact (hsm.2.2.1.trans hps.2.2).trans h.ret
end
end
end Go.Proofs
end
section
namespace Go.Proofs
open Go.RowKit Go.Shelf
set_option linter.unusedVariables false
set_option linter.unusedSimpArgs false
/-- The beginning: the root alone, in both. -/
theorem Sim.begin {n : Nat} (h0 : 1 ≤ n) (h1 : n ≤ 32) {gs cpu per : Int} (g0 : 0 ≤ gs) (g1 : gs ≤ 64) (c0 : 0 ≤ cpu) (c1 : cpu ≤ 4294967296) :
    Sim 1 ((tab0 (n : Nat)).put dm0 (rootD gs cpu per)) ((rtab0 n).put (rkid 0 0 gs cpu per)) (fun _ => [(0, 1)]) := by
  obtain ⟨d, rfl⟩ : ∃ d, n = d + 1 := ⟨n - 1, by omega⟩
  have hF : (rtab0 (d + 1)).F = newF (d + 1) d ++ [0] := by unfold rtab0; rw [newF_succ]; simp
  have hat : (rtab0 (d + 1)).at0 = 0 := by unfold RTab.at0; rw [hF]; simp
  have hlen : (rtab0 (d + 1)).L.length = d + 1 := by unfold rtab0; simp
  have hpl : ∀ j, j < d + 1 → (rtab0 (d + 1)).pl j = pl1 := fun j hj => RTab.pl_eq (by unfold rtab0; rw [List.getElem?_replicate, if_pos hj])
  have hplo : ∀ j, ¬ j < d + 1 → (rtab0 (d + 1)).pl j = pl0 := fun j hj => by unfold RTab.pl rtab0; rw [List.getElem?_replicate, if_neg hj]; rfl
  obtain ⟨r, hr⟩ : ∃ r, r = (rtab0 (d + 1)).put (rkid 0 0 gs cpu per) := ⟨_, rfl⟩
  have hrl : r.L.length = d + 1 := by rw [hr]; unfold RTab.put; simp [hlen]
  have hrp : ∀ j, r.pl j = if j = 0 then ⟨1, true, gs, cpu, per, 0, 0, 0, 0⟩ else (rtab0 (d + 1)).pl j := fun j => by
    rw [hr]; unfold RTab.put
    rw [rpl_set (by rw [hat, hlen]; omega), hat, hpl 0 (by omega)]; rfl
  have hre : ∀ j, j ≠ 0 → (r.pl j).is = false := fun j hj => by
    rw [hrp, if_neg hj]
    by_cases h : j < d + 1
    · rw [hpl j h]; rfl
    · rw [hplo j h]; rfl
  have hr0 : r.pl 0 = ⟨1, true, gs, cpu, per, 0, 0, 0, 0⟩ := by rw [hrp, if_pos rfl]
  have hnk : ∀ c, kidQ (r.pl c) 0 1 = false := fun c => by
    by_cases e : c = 0
    · subst e; rw [hr0]; unfold kidQ; simp
    · unfold kidQ; rw [hre c e]; rfl
  have hc0 : r.cgs 0 1 = 0 := by rw [cgs_eq]; exact sumN_zero _ (fun k _ => by rw [hnk k]; rfl)
  have hk0 : r.car 0 1 = 0 := by rw [car_eq]; exact sumN_zero _ (fun k _ => by rw [hnk k]; rfl)
  have hn0 : ((r.kids 0 1).length : Int) = 0 := by rw [kids_eq]; exact sumN_zero _ (fun k _ => by rw [hnk k]; rfl)
  have hl0 : r.live (fun _ => [(0, 1)]) 0 1 = 0 := by
    unfold RTab.live
    refine sumN_zero _ (fun k _ => ?_)
    unfold RTab.liveAt
    by_cases e : k = 0
    · subst e; rw [hr0]; simp
    · rw [hre k e]; simp
  have hroot : r.is 0 0 = false := by
    cases h : r.is 0 0 with
    | false => rfl
    | true =>
      obtain ⟨k, e, _, h2, h3⟩ := is_pl.1 h
      obtain rfl : k = 0 := by omega
      rw [hr0] at h3; simp at h3
  have hspots : ((tab0 (((d + 1 : Nat)) : Int)).put dm0 (rootD gs cpu per)).spots = [⟨1, true, rootD gs cpu per⟩] := by unfold tab0 Tab.put Tab.take Tab.fill Tab.genAt Tab.takeAt; simp
  have hwf0 : (tab0 (((d + 1 : Nat)) : Int)).WF := tab0_wf (by omega) (by omega)
  have hfr : (tab0 (((d + 1 : Nat)) : Int)).frees ≠ 0 := by rw [tab0_frees]; omega
  rw [← hr]
  refine ⟨⟨by omega, by omega, ?_, ?_, ?_, ?_, by omega⟩, hwf0.put hfr _, ?_, ?_, ?_, ?_, ?_, ?_⟩
  · intro k hk
    by_cases e : k = 0
    · subst e
      rw [hr0]
      exact ⟨Up.step (a := 0) (b := 0) (par_pl.2 ⟨0, rfl, by omega, by rw [hr0], by rw [hr0], by rw [hr0], by rw [hr0]⟩) (Up.stop (rpar_none.2 hroot)), by simp⟩
    · rw [hre k e] at hk; cases hk
  · intro k hk
    rw [hrl] at hk
    rw [hrp]
    by_cases e : k = 0
    · rw [if_pos e]; exact ⟨⟨g0, g1⟩, ⟨by simp, by simp⟩, ⟨c0, c1⟩, ⟨by simp, by simp⟩, ⟨by simp, by simp⟩⟩
    · rw [if_neg e, hpl k hk]; simp [pl1]
  · intro k hk
    by_cases e : k = 0
    · subst e
      rw [hr0]
      show 0 + r.cgs 0 1 ≤ gs ∧ r.car 0 1 ≤ cpu
      rw [hc0, hk0]; omega
    · rw [hre k e] at hk; cases hk
  · intro k hk
    by_cases e : k = 0
    · subst e; rw [hr0]; exact .inl ⟨rfl, rfl⟩
    · rw [hre k e] at hk; cases hk
  · rw [(put_same (z := dm0) (rootD gs cpu per)).1, hrl]; rfl
  · rw [(put_same (z := dm0) (rootD gs cpu per)).2.1]; rfl
  · intro k hk
    rw [hspots] at hk ⊢
    simp only [List.length_cons, List.length_nil] at hk
    obtain rfl : k = 0 := by omega
    unfold RTab.spot
    rw [hr0]
    simp only [if_true]
    unfold RTab.get
    have e : ((0 : Nat) : Int) = 0 := rfl
    rw [e, Int.toNat_zero, hr0, hc0, hk0, hl0, hn0]
    rfl
  · intro k h1 h2
    rw [hspots] at h1
    simp only [List.length_cons, List.length_nil] at h1
    rw [hrl] at h2
    rw [hr]; unfold RTab.put
    rw [hat]
    simp only [List.getElem?_set, if_neg (show ¬ 0 = k by omega)]
    unfold rtab0
    rw [List.getElem?_replicate, if_pos h2]
  · rw [hspots, hrl]
    have : ((tab0 (((d + 1 : Nat)) : Int)).put dm0 (rootD gs cpu per)).freed = [] := by unfold tab0 Tab.put Tab.take Tab.fill; rfl
    rw [this, hr]
    unfold RTab.put
    rw [hF]
    simp
  · exact (put_same (z := dm0) (rootD gs cpu per)).2.2
end Go.Proofs
end
