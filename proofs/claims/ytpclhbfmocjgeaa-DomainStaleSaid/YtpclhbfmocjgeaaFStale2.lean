/-
  P9.5, P0.3: a domain that is gone is stale for good, whatever comes in its place.
-/
import Derived.Test.YtpclhbfmocjgeaaFStale1
import Derived.Deep.Cut
import Derived.Deep.CutRange
import Derived.Test.YtpclhbfmocjgeaaRows
import Derived.WalkKit
import Derived.Below
import Derived.ChangeSame
import Derived.Test.YtpclhbfmocjgeaaM11
import Derived.ProofKit
import Derived.OpenShut
section
namespace Go.Proofs
open Go.RowKit Go.Shelf
set_option linter.unusedVariables false
set_option linter.unusedSimpArgs false
/-- What turns while the stale are asked: the table's blocks alone. -/
structure Asked (w17 : World) (G c : Nat) (S : List Nat) (t : Tab Dm) (bV n cV b4 n4 : Nat) (rs : List (Int × Int)) : Prop where
  glob : ∀ W, Chg S w17 W → W.cell? ⟨G, 0, none⟩ = some (ptr c) ∧ W.cell? ⟨G, 2, none⟩ = some (.slice (some ⟨bV, 0, none⟩) n cV) ∧ G < W.heap.size ∧ bV < W.heap.size ∧ b4 < W.heap.size
  refs : ∀ W, Chg S w17 W → ∀ (k : Nat), k < n4 → ∃ i q v, W.cell? ⟨bV, k * 2, none⟩ = some (.int .i64 i) ∧ W.cell? ⟨bV, k * 2 + 1, none⟩ = some (.int .u64 q) ∧ W.cell? ⟨b4, k, none⟩ = some (.bool v) ∧ (v = true → StaleK c S t i q)
theorem StG.asked {w0 w w17 : World} {G c h M : Nat} {S S2 : List Nat} {rs : List (Int × Int)} {t : Tab Dm} {r : RTab} {ch : Nat → List (Int × Int)} {B : List Bool} {b4 n4 c4 bV cV n : Nat}
    (H : StG w0 w G c h S S2 (.slice (some ⟨bV, 0, none⟩) n cV) rs M t r ch B b4 n4 c4) (hn : n = rs.length) (hle : n4 ≤ n) (hc : Chg [] w w17) : Asked w17 G c S t bV n cV b4 n4 rs := by
  have H' := H.quiet hc
  obtain ⟨g0, g2, lG, lb, hcl⟩ := H'.cells hn
  have hGS : G ∉ S := fun hm => H'.g.G_off.1 (List.mem_cons_of_mem _ hm)
  have hVS : bV ∉ S := (H'.g.V_off bV (by simp [foot_some])).1
  have h4S : b4 ∉ S := fun hm => H'.off.1 (List.mem_cons_of_mem _ (List.mem_append_right _ (List.mem_append_left _ hm)))
  obtain ⟨cs4, hb4⟩ := H'.blk
  have l4 := hb4.lt
  refine ⟨fun W hW => ⟨(hW.cell (p := ⟨G, 0, none⟩) lG hGS).trans g0, (hW.cell (p := ⟨G, 2, none⟩) lG hGS).trans g2, Nat.lt_of_lt_of_le lG hW.size, Nat.lt_of_lt_of_le lb hW.size, Nat.lt_of_lt_of_le l4 hW.size⟩, fun W hW k hk => ?_⟩
  obtain ⟨x, hx⟩ : ∃ x, rs[k]? = some x := ⟨_, List.getElem?_eq_getElem (by omega)⟩
  obtain ⟨i, q⟩ := x
  obtain ⟨u0, u1⟩ := hcl k _ hx
  obtain ⟨v, hv, nv, _, _⟩ := H'.noted hk
  refine ⟨i, q, v, (hW.cell (p := ⟨bV, k * 2, none⟩) lb hVS).trans u0, (hW.cell (p := ⟨bV, k * 2 + 1, none⟩) lb hVS).trans u1, (hW.cell (p := ⟨b4, k, none⟩) l4 h4S).trans nv, fun e => ?_⟩
  subst e
  exact H'.g.staleK (List.mem_of_getElem? hx) (H'.gone k _ hv hx)
/-- While a ref that is gone is asked: its box, and the table. -/
structure Asking (w17 W : World) (c : Nat) (S : List Nat) (t : Tab Dm) (B : Nat) (i q : Int) : Prop where
  dm : DomAt W c S t
  chg : Chg S w17 W
  box : Blk W B 34 #[.int .i64 i, .int .u64 q]
  off : B ∉ S
section
variable {w17 W W' : World} {c : Nat} {S : List Nat} {t : Tab Dm} {B : Nat} {i q : Int}
theorem Asking.step (H : Asking w17 W c S t B i q) (hc : Chg S W W') (hd : DomAt W' c S t) : Asking w17 W' c S t B i q :=
  ⟨hd, H.chg.trans hc (fun k hk => .inl hk), H.box.chg hc H.off, H.off⟩
theorem Asking.quiet (H : Asking w17 W c S t B i q) (hc : Chg [] W W') : Asking w17 W' c S t B i q := H.step hc.any (H.dm.quiet hc)
theorem Asking.other (H : Asking w17 W c S t B i q) {X : Nat} (hc : Chg [X] W W') (h1 : X ∉ c :: S) (h2 : X ≠ B) (h3 : w17.heap.size ≤ X) : Asking w17 W' c S t B i q :=
  ⟨H.dm.chg hc (fun hm => h1 (by simp at hm; subst hm; exact List.mem_cons_self)) (fun k hk hm => h1 (by simp at hm; subst hm; exact List.mem_cons_of_mem _ hk)), H.chg.trans hc (fun k hk => by simp at hk; subst hk; exact .inr h3), H.box.chg hc (by simpa using Ne.symm h2), H.off⟩
theorem Asking.facts (H : Asking w17 W c S t B i q) {G bV n cV b4 n4 : Nat} {rs : List (Int × Int)} (A : Asked w17 G c S t bV n cV b4 n4 rs) :
    W.cell? ⟨G, 0, none⟩ = some (ptr c) ∧ W.cell? ⟨B, 0, none⟩ = some (.int .i64 i) ∧ W.cell? ⟨B, 1, none⟩ = some (.int .u64 q) ∧ G < W.heap.size ∧ B < W.heap.size := by
  obtain ⟨g0, _, lG, _, _⟩ := A.glob _ H.chg
  exact ⟨g0, H.box.cell 0, H.box.cell 1, lG, H.box.lt⟩
end
set_option maxHeartbeats 12800000 in
set_option maxRecDepth 100000 in
theorem stale_any (size gs cpu per : Int) (hcp : 0 ≤ cpu) (hpp : 0 ≤ per) (V : Value) (l : List ActC) (w : World) (hV : Acts w V l) :
    Calls Try.prog 5 #[.int .i64 size, .int .i64 gs, .int .u64 cpu, .int .u64 per, V] w fun e w' => e = .returned (.bool true) ∧ Chg [] w w' := by
  obtain ⟨A, c9, rfl⟩ := hV.open_
  obtain ⟨m, hm⟩ : ∃ m, m = l.length := ⟨_, rfl⟩
  rw [← hm] at hV ⊢
  have HV := Lib.hid hV
  have HK := Lib.hid known_any
  clear hV hm
  by_cases hbig : 60 < (m : Int)
  · have d1 : decide ((m : Int) > 60) = true := by simpa using hbig
    go_enter Try.func5, Try.ntmps5
    go_wp2_with (go_at_call 8; refine (HK.out _).mono ?_; rintro e w1 ⟨rfl, hc⟩)
    go_ret
    exact ⟨rfl, hc⟩
  have d1 : decide ((m : Int) > 60) = false := by simpa using hbig
  have HMY := Lib.hid (fun W => may_any (size := size) (gs := gs) (cpu := cpu) (per := per) hcp hpp W)
  cases hmay : mayN size gs cpu per with
  | false =>
    rw [hmay] at HMY
    clear hmay
    go_enter Try.func5, Try.ntmps5
    go_wp2_with (first
      | (go_at_call 9; refine (HMY.out _).mono ?_; rintro e w1 ⟨rfl, rfl⟩)
      | (go_at_call 8; refine (HK.out _).mono ?_; rintro e w1 ⟨rfl, hc⟩))
    go_ret
    exact ⟨rfl, hc⟩
  | true =>
    rw [hmay] at HMY
    obtain ⟨s1, s2, _⟩ := mayN_iff.1 hmay
    obtain ⟨N, rfl⟩ : ∃ N : Nat, size = N := ⟨size.toNat, by omega⟩
    have HBG := Lib.hid (begin_btw hcp hpp hmay (Chg.refl [] w))
    obtain ⟨iB, hi0, hz0, hz1, hz2⟩ := info_parts Try.info_B
    have hmk : ∀ W : World, (Instr.makeSlice 48 (.int .i64 0) (.int .i64 80)).run Try.prog W = .ok (.slice (some ⟨W.heap.size, 0, none⟩) 0 80) (W.alloc (.cells (madeCells #[.bool false] 80) 4)) := fun W => by
      have := run_make (P := Try.prog) W 48 4 iB _ Try.underlying48 hi0 hz0 .i64 .i64 0 80 (by omega) (by omega) (by rw [hz2]; omega) (by omega)
      rw [hz1] at this
      exact this
    clear hmay s1 s2
    go_enter Try.func5, Try.ntmps5
    go_wp2_with (first
      | (go_at_call 9; refine (HMY.out _).mono ?_; rintro e w1 ⟨rfl, rfl⟩)
      | (go_at_call 11; refine HBG.out.mono ?_; rintro e w2 ⟨G, c, h, rfl, hB⟩; have HB2 := Lib.hid hB; clear hB))
    have hstart := fun (w1 : World) (H : Btw w G c h 0 w1) (cs : Array Value) (hz : cs.size = 80) => StG.start H hz
    go_loopw [12, 13] (fun s12 s13 wr => ∃ k : Nat, k ≤ m ∧ s13 = .int .i64 k ∧ ∃ b4 n4 c4, s12 = .slice (some ⟨b4, 0, none⟩) n4 c4 ∧ Hid (∃ S S2 V rs t r ch B, StG w wr G c h S S2 V rs (k + 1) t r ch B b4 n4 c4 ∧ n4 ≤ rs.length)) (fun s12 s13 wr => m - (intOfN s13).toNat)
    case atStart =>
      obtain ⟨S, S2, V, rs, t, r, ch, hs⟩ := hstart _ HB2.out (madeCells #[.bool false] 80) (size_madeCells _ _)
      exact ⟨0, Nat.zero_le _, rfl, _, _, _, rfl, Lib.hid ⟨S, S2, V, rs, t, r, ch, [], hs, by omega⟩⟩
    case round =>
      obtain ⟨k, hk, rfl, b4, n4, c4, rfl, hB⟩ := hrel
      obtain ⟨S0, S20, V0, rs0, t0, r0, ch0, B0, hs0, hle0⟩ := hB.out
      clear hstart hB HB2
      by_cases hlt : k < m
      · obtain ⟨b, off, kind, ri, rq, at_, gs2, n7, per2, rfl, hat, hfit, hcs⟩ := HV.out.is_ hlt
        obtain ⟨e0, e1, e2, e3, e4, e5, e6⟩ := hcs _ hs0.chg
        have i0 : (0 : Int) ≤ (k : Int) := by omega
        have i1 : (k : Int) < (m : Int) := by omega
        have HD := Lib.hid (hs0.does (by omega) hle0 _ hfit)
        simp only [ActC.cells] at HD
        clear hfit hat hcs hs0 hle0
        go_wp2_with (go_at_call 13; refine HD.out.mono ?_; rintro e w4 ⟨rfl, S, S2, V, rs, t, r, ch, hs, hle⟩; obtain ⟨bV, cV, hVe⟩ := hs.open_; obtain ⟨n, hn⟩ : ∃ n, n = rs.length := ⟨_, rfl⟩; rw [← hn] at hVe hle; subst hVe; have HN := Lib.hid hn; have hlm := hs.g.len; have hMm := hs.g.pair.sim.held.m; rw [← hn] at hlm; have HS4 := Lib.hid hs; clear hn hs HD)
        clear e0 e1 e2 e3 e4 e5 e6
        have hn1000 : n ≤ 1000 := by omega
        clear hlm hMm
        go_loopg [12] (n - n4) (fun gh s12 wr => ∃ A n5 c5, n5 + gh = n ∧ s12 = .slice A n5 c5 ∧ Hid (∃ b5 B, A = some ⟨b5, 0, none⟩ ∧ StG w wr G c h S S2 (.slice (some ⟨bV, 0, none⟩) n cV) rs (k + 1 + 1) t r ch B b5 n5 c5))
        case atStart => exact ⟨_, n4, c4, by omega, rfl, Lib.hid ⟨b4, B0, rfl, HS4.out⟩⟩
        case round =>
          obtain ⟨A5, n5, c5, hn5, rfl, HS5⟩ := hrel
          obtain ⟨b5, B5, hA5, hs5⟩ := HS5.out
          by_cases hl5 : n5 < n
          · have k1 : (n5 : Int) < (n : Int) := by omega
            obtain ⟨g0, g2, lG, lb, _⟩ := hs5.cells HN.out
            have HR5 : Hid (Row wr 4 1 (.slice A5 n5 c5) n5 (boolCells B5)) := Lib.hid (by rw [hA5]; exact hs5.row)
            have HA5 := Lib.hid hA5
            have H5 := Lib.hid hs5
            clear hA5 hs5 HS5
            go_wp2_with (at_builtin; refine wpList_append_row _ rfl _ _ 48 (by rfl) 4 iB _ 1 1 Try.underlying48 hi0 hz0 hz1 hz2 rfl (.slice A5 n5 c5) n5 (boolCells B5) (by rfl) (HR5.out.alloc _) ⟨wr.heap.size, 0, none⟩ 1 1 [.bool false] (by rfl) (by rfl) (World.news_of_block (cs := #[.bool false]) (t := 4) (fr := (0, 0)) (heap_alloc_new wr _)) (by simp [Value.oneCell']) (by omega) (by unfold maxLen; omega) (by omega) (wr.heap.size + 1) (by simp) ?_; intro gg cap w6 hown hgrow hat hlt1; have HOWN := Lib.hid hown; have HGR := Lib.hid hgrow; have HAT := Lib.hid hat; clear hown hgrow hat)
            go_roundg (n - n5 - 1)
            case measure => omega
            case rel =>
              have hgr := HGR.out
              have hat := HAT.out
              rw [HA5.out] at hgr hat
              exact ⟨_, n5 + 1, cap, by omega, rfl, Lib.hid ⟨gg, _, rfl, (H5.out.quiet ((Chg.refl [] _).alloc _)).snoc HOWN.out (by simpa [Value.ownBlock] using hgr) (by simp [Value.ownBlock] at hat ⊢; omega)⟩⟩
          · obtain rfl : n5 = n := by omega
            subst hA5
            have H5 := Lib.hid hs5
            obtain ⟨g0, g2, lG, lb, _⟩ := hs5.cells HN.out
            clear hs5 HS5 HS4
            go_wp2
            clear g0 g2 lG lb
            go_loopg [14] n5 (fun gh s14 wr => ∃ q : Nat, q + gh = n5 ∧ s14 = .int .i64 q ∧ Hid (∃ B, StG w wr G c h S S2 (.slice (some ⟨bV, 0, none⟩) n5 cV) rs (k + 1 + 1) t r ch B b5 n5 c5))
            case atStart => exact ⟨0, by omega, rfl, Lib.hid ⟨_, H5.out⟩⟩
            case round =>
              obtain ⟨q, hq, rfl, HS6⟩ := hrel
              obtain ⟨B6, hs6⟩ := HS6.out
              have q0 : (0 : Int) ≤ (q : Int) := by omega
              obtain ⟨g0, g2, lG, lb, hcl⟩ := hs6.cells HN.out
              by_cases hql : q < n5
              · have q1 : (q : Int) < (n5 : Int) := by omega
                obtain ⟨x, hx⟩ : ∃ x, rs[q]? = some x := ⟨_, List.getElem?_eq_getElem (by rw [← HN.out]; exact hql)⟩
                obtain ⟨xi, xq⟩ := x
                obtain ⟨u0, u1⟩ := hcl q _ hx
                simp only at u0 u1
                obtain ⟨y, E, hE, hget⟩ := hs6.g.get (List.mem_of_getElem? hx)
                have HGET := Lib.hid hget
                have HE := Lib.hid hE
                have HX := Lib.hid hx
                have H6 := Lib.hid hs6
                have neG : ¬ (wr.heap.size = G) := by omega
                have neb : ¬ (wr.heap.size = bV) := by omega
                clear hs6 HS6 hcl hx hget hE H5
                go_wp2
                go_cut [16] from 66 to 102 (fun s16 wc => s16 = .int .i64 E ∧ Hid (Chg [] wr wc))
                case first =>
                  go_region_held3 (fun w' => w'.cell? ⟨G, 0, none⟩ = some (ptr c) ∧ w'.cell? ⟨G, 2, none⟩ = some (.slice (some ⟨bV, 0, none⟩) n5 cV) ∧ w'.cell? ⟨bV, q * 2, none⟩ = some (.int .i64 xi) ∧ w'.cell? ⟨bV, q * 2 + 1, none⟩ = some (.int .u64 xq))
                    (first | go_keep)
                    (first
                      | (go_at_call 15; have hW : Chg [] wr ((wr.alloc obDm).drew) := ((Chg.refl [] _).alloc _).drew; refine (HGET.out _ hW).mono ?_; rintro e w5 ⟨rfl, hc⟩; have HC5 := Lib.hid (hW.then hc); obtain ⟨y0, y2, lG5, lb5, hcl5⟩ := (H6.out.quiet HC5.out).cells HN.out; obtain ⟨z0, z1⟩ := hcl5 q _ HX.out; simp only at z0 z1; clear hcl5; obtain ⟨hz, r0, r1, r2, r3, r4, r5, r6, r7, r8, r9, r10, rf⟩ := dm_facts (w := wr) (n := wr.heap.size) rfl ((Chg.refl [] _).drew) hc; clear hW hc)
                      | (go_at_call 15; have hW : Chg [] wr (wr.drew) := (Chg.refl [] _).drew; refine (HGET.out _ hW).mono ?_; rintro e w5 ⟨rfl, hc⟩; have HC5 := Lib.hid (hW.then hc); obtain ⟨y0, y2, lG5, lb5, hcl5⟩ := (H6.out.quiet HC5.out).cells HN.out; obtain ⟨z0, z1⟩ := hcl5 q _ HX.out; simp only at z0 z1; clear hcl5; clear hW hc))
                  all_goals go_wp2
                  all_goals go_meet
                  case rel => exact ⟨rfl, Lib.hid (HC5.out.alloc _)⟩
                  case rel => exact ⟨rfl, Lib.hid (chg_put11 HC5.out (.inr (by omega)) 0 y)⟩
                case rest =>
                  obtain ⟨rfl, HCC⟩ := hcut
                  obtain ⟨v, hv, nv, nf, lb5⟩ := (H6.out.quiet HCC.out).noted hql
                  have hno : v = true → E = 11 := fun e => by
                    subst e
                    rcases HE.out with ⟨_, h1⟩ | ⟨h1, _⟩
                    · rw [H6.out.gone q _ hv HX.out] at h1; cases h1
                    · exact h1
                  have HQ := Lib.hid hql
                  clear hv
                  rcases HE.out with ⟨rfl, hr⟩ | ⟨rfl, hr⟩
                  · have hvf : v = false := by cases v with | false => rfl | true => have := hno rfl; omega
                    subst hvf
                    have HN2 := Lib.hid ((H6.out.quiet HCC.out).note hql HX.out false (by simp))
                    clear hno hr
                    go_wp2
                    go_roundg (n5 - q - 1)
                    case measure => omega
                    case rel => exact ⟨q + 1, by omega, by go_num, Lib.hid ⟨_, HN2.out⟩⟩
                  · have HN2 := Lib.hid ((H6.out.quiet HCC.out).note hql HX.out true (fun _ => hr))
                    clear hno hr
                    cases v with
                    | true =>
                      go_wp2
                      go_roundg (n5 - q - 1)
                      case measure => omega
                      case rel => exact ⟨q + 1, by omega, by go_num, Lib.hid ⟨_, HN2.out⟩⟩
                    | false =>
                      go_wp2
                      go_roundg (n5 - q - 1)
                      case measure => omega
                      case rel => exact ⟨q + 1, by omega, by go_num, Lib.hid ⟨_, HN2.out⟩⟩
              · obtain rfl : q = n5 := by omega
                have H6 := Lib.hid hs6
                clear hs6 HS6 hcl
                go_wp2
                go_roundw
                case rel => exact ⟨k + 1, by omega, by go_num, _, _, _, rfl, Lib.hid ⟨_, _, _, _, _, _, _, _, H6.out, by rw [← HN.out]; exact Nat.le_refl _⟩⟩
                case measure => simp [intOfN]; omega
      · obtain rfl : k = m := by omega
        obtain ⟨bV, cV, hVe⟩ := hs0.open_
        obtain ⟨n, hn⟩ : ∃ n, n = rs0.length := ⟨_, rfl⟩
        rw [← hn] at hVe hle0
        subst hVe
        have hlm := hs0.g.len
        have hMm := hs0.g.pair.sim.held.m
        rw [← hn] at hlm
        have hn1000 : n ≤ 1000 := by omega
        obtain ⟨g0, g2, lG, lb, _⟩ := hs0.cells hn
        have HA := Lib.hid (fun W (hW : Chg [] wr W) => hs0.asked hn hle0 hW)
        have HCP := Lib.hid (Copy_any hs0.g.pair.dm)
        have HS0 := Lib.hid hs0
        clear hs0 hn hlm hMm
        go_wp2_with (go_at_call 16; refine HCP.out.mono ?_; rintro e w17 ⟨c2, S2', rfl, hD2, hf2, hc⟩; have HD2 := Lib.hid hD2; have HF2 := Lib.hid hf2; have HC17 := Lib.hid hc; have HA17 := Lib.hid (HA.out _ hc); have HD17 := Lib.hid (HS0.out.g.pair.dm.quiet hc); clear hD2 hf2 hc)
        clear g0 g2 lG lb
        go_loopg [18] n4 (fun gh s18 wy => ∃ q : Nat, q + gh = n4 ∧ s18 = .int .i64 q ∧ Hid (DomAt wy c S0 t0 ∧ Chg S0 w17 wy))
        case atStart => exact ⟨0, by omega, rfl, Lib.hid ⟨HD17.out, Chg.refl _ _⟩⟩
        case round =>
          obtain ⟨q, hq, rfl, HY⟩ := hrel
          obtain ⟨wy, hwy⟩ : ∃ wy, wy = wr := ⟨_, rfl⟩
          rw [← hwy] at HY ⊢
          clear hwy
          have q0 : (0 : Int) ≤ (q : Int) := by omega
          obtain ⟨v0, v2, lG, lb, l4⟩ := HA17.out.glob _ HY.out.2
          by_cases hql : q < n4
          · have q1 : (q : Int) < (n4 : Int) := by omega
            have q2 : (q : Int) < (n : Int) := by omega
            obtain ⟨xi, xq, v, u0, u1, nv, hK⟩ := HA17.out.refs _ HY.out.2 q hql
            have lwy : wy.heap.size < (wy.alloc (obRef xi xq)).heap.size := by simp
            have neG : ¬ (wy.heap.size = G) := by omega
            have neb : ¬ (wy.heap.size = bV) := by omega
            have neG1 : ¬ (wy.heap.size + 1 = G) := by omega
            have ne4 : ¬ (wy.heap.size = b4) := by omega
            cases v with
            | false =>
              clear hK
              go_wp2
              go_roundg (n4 - q - 1)
              case measure => omega
              case rel => exact ⟨q + 1, by omega, by go_num, Lib.hid ⟨HY.out.1.quiet ((Chg.refl [] _).alloc _), HY.out.2.then ((Chg.refl [] _).alloc _)⟩⟩
            | true =>
              have HKK := Lib.hid (hK rfl)
              have hoff : wy.heap.size ∉ S0 := fun hm => by have := HY.out.1.lt _ (List.mem_cons_of_mem _ hm); omega
              have HOF := Lib.hid hoff
              clear hK hoff
              go_wp2
              go_cut [21] from 108 to 191 (fun s21 wc => s21 = .int .i64 11 ∧ Hid (Asking w17 wc c S0 t0 wy.heap.size xi xq))
              case first =>
                have HX := Lib.hid (show Asking w17 (wy.alloc (obRef xi xq)) c S0 t0 wy.heap.size xi xq from ⟨HY.out.1.quiet ((Chg.refl [] _).alloc _), HY.out.2.then ((Chg.refl [] _).alloc _), Blk.new wy 34 _, HOF.out⟩)
                go_region_held3 (fun w' => w'.cell? ⟨G, 0, none⟩ = some (ptr c) ∧ w'.cell? ⟨wy.heap.size, 0, none⟩ = some (.int .i64 xi) ∧ w'.cell? ⟨wy.heap.size, 1, none⟩ = some (.int .u64 xq))
                  (first | go_keep)
                  (first
                    | (go_at_call 17; have hW : Chg [] (wy.alloc (obRef xi xq)) (((wy.alloc (obRef xi xq)).alloc (obRef 0 0)).drew) := ((Chg.refl [] _).alloc _).drew; refine (HKK.out.carve _ (HX.out.quiet hW).dm).mono ?_; rintro e w5 ⟨rfl, hd, hc⟩; have HX5 := Lib.hid ((HX.out.quiet hW).quiet hc); obtain ⟨y0, y1, y2, lG5, lB5⟩ := HX5.out.facts HA17.out; have HB5 := Lib.hid ((Blk.at' (wy.alloc (obRef xi xq)) 34 #[.int .i64 0, .int .u64 0] (n := wy.heap.size + 1) (by simp)).drew.chg hc (by simp)); have z0 := HB5.out.cell 0; have z1 := HB5.out.cell 1; have zf := HB5.out.frozen; have zl := HB5.out.lt; clear hW hd hc)
                    | (go_at_call 17; have hW : Chg [] (wy.alloc (obRef xi xq)) ((wy.alloc (obRef xi xq)).drew) := (Chg.refl [] _).drew; refine (HKK.out.carve _ (HX.out.quiet hW).dm).mono ?_; rintro e w5 ⟨rfl, hd, hc⟩; have HX5 := Lib.hid ((HX.out.quiet hW).quiet hc); obtain ⟨y0, y1, y2, lG5, lB5⟩ := HX5.out.facts HA17.out; clear hW hd hc))
                all_goals go_wp2
                all_goals go_meet
                all_goals (case rel => first
                  | exact ⟨rfl, Lib.hid (HX5.out.quiet ((Chg.refl [] _).alloc _))⟩
                  | exact ⟨rfl, Lib.hid (HX5.out.other (X := wy.heap.size + 1) (((Chg.refl [wy.heap.size + 1] _).setCell (p := ⟨wy.heap.size + 1, 0, none⟩) (.inl (by simp)) _).setCell (p := ⟨wy.heap.size + 1, 1, none⟩) (.inl (by simp)) _) (fun hm => by have := HY.out.1.lt _ hm; omega) (by omega) (by have := HY.out.2.size; omega))⟩)
              case rest =>
                obtain ⟨rfl, HX9⟩ := hcut
                obtain ⟨w9, hw9⟩ : ∃ w9, w9 = wc := ⟨_, rfl⟩
                rw [← hw9] at HX9 ⊢
                clear hw9
                obtain ⟨B9, hB9⟩ : ∃ B9, B9 = wy.heap.size := ⟨_, rfl⟩
                rw [← hB9] at HX9 ⊢
                clear v0 v2 lG lb l4 u0 u1 nv lwy neG neb neG1 ne4 hB9 HOF HY
                obtain ⟨y0, y1, y2, lG9, lB9⟩ := HX9.out.facts HA17.out
                go_wp2
                go_region_held3 (fun w' => w'.cell? ⟨G, 0, none⟩ = some (ptr c) ∧ w'.cell? ⟨B9, 0, none⟩ = some (.int .i64 xi) ∧ w'.cell? ⟨B9, 1, none⟩ = some (.int .u64 xq))
                  (first | go_keep)
                  (first
                    | (go_at_call 18; refine (HKK.out.merge _ (HX9.out.quiet ((Chg.refl [] _).drew)).dm).mono ?_; rintro e wA ⟨rfl, hd, hc⟩; have HXA := Lib.hid ((HX9.out.quiet ((Chg.refl [] _).drew)).step hc.any hd); obtain ⟨ya0, ya1, ya2, lGA, lBA⟩ := HXA.out.facts HA17.out; clear hd hc)
                    | (go_at_call 19; refine (HKK.out.join _ HXA.out.dm).mono ?_; rintro e wB ⟨rfl, hd, hc⟩; have HXB := Lib.hid (HXA.out.step hc hd); obtain ⟨yb0, yb1, yb2, lGB, lBB⟩ := HXB.out.facts HA17.out; clear hd hc)
                    | (go_at_call 20; refine (HKK.out.leave _ HXB.out.dm).mono ?_; rintro e wC ⟨rfl, hd, hc⟩; have HXC := Lib.hid (HXB.out.step hc hd); obtain ⟨yc0, yc1, yc2, lGC, lBC⟩ := HXC.out.facts HA17.out; clear hd hc)
                    | (go_at_call 21; refine (HKK.out.use _ HXC.out.dm).mono ?_; rintro e wD ⟨rfl, hd, hc⟩; have HXD := Lib.hid (HXC.out.step hc hd); obtain ⟨yd0, yd1, yd2, lGD, lBD⟩ := HXD.out.facts HA17.out; clear hd hc)
                    | (go_at_call 22; refine (HKK.out.clear _ HXD.out.dm).mono ?_; rintro e wE ⟨rfl, hd, hc⟩; have HXE := Lib.hid (HXD.out.step hc hd); obtain ⟨ye0, ye1, ye2, lGE, lBE⟩ := HXE.out.facts HA17.out; clear hd hc)
                    | (go_at_call 23; refine (HKK.out.chain _ HXE.out.dm).mono ?_; rintro e wF ⟨A9, c99, rfl, hd, hc⟩; have HXF := Lib.hid (HXE.out.step hc.any hd); obtain ⟨yf0, yf1, yf2, lGF, lBF⟩ := HXF.out.facts HA17.out; clear hd hc))
                all_goals
                  go_wp2
                  go_roundg (n4 - q - 1)
                  case measure => omega
                  case rel => exact ⟨q + 1, by omega, by go_num, Lib.hid ⟨HXF.out.dm, HXF.out.chg⟩⟩
          · have hN := HS0.out.g.pair.sim.size
            have hN2 := HS0.out.g.pair.sim.held.n1
            have HD2' := Lib.hid (HD2.out.chg HY.out.2 (fun hm => by have := HF2.out _ List.mem_cons_self; have := HS0.out.g.lt _ (List.mem_cons_of_mem _ (List.mem_append_right _ (List.mem_append_left _ hm))); omega) (fun k hk hm => by have := HF2.out _ (List.mem_cons_of_mem _ hk); have := HS0.out.g.lt _ (List.mem_cons_of_mem _ (List.mem_append_right _ (List.mem_append_left _ hm))); omega))
            have HSM := Lib.hid (Same_any HY.out.1 HD2'.out hN hN rfl (by omega))
            clear hN hN2
            go_wp2_with (first
              | (go_at_call 24; refine HSM.out.mono ?_; rintro e w20 ⟨rfl, hc20⟩; have HC20 := Lib.hid hc20; clear hc20)
              | (go_at_call 8; refine (HK.out _).mono ?_; rintro e w21 ⟨rfl, hc21⟩))
            go_ret
            exact ⟨rfl, ((((HS0.out.chg.then HC17.out).trans HY.out.2 (fun k hk => .inr (HS0.out.fr _ (List.mem_cons_of_mem _ (List.mem_append_right _ (List.mem_append_left _ hk)))))).then HC20.out).then hc21)⟩
end Go.Proofs
end
section
namespace Go.Proofs.Ytpclhbfmocjgeaa.domainStale
open Go.ChangeShapes Go.WideShapes Go.ChangeAt Go.RowKit
set_option linter.unusedVariables false

theorem own : ownKnob Try.prog.godebug = none := by kernel_rfl

set_option maxRecDepth 100000 in
theorem lifted (os : Os) (started : os.Started) (H : Type) (enc : TypeId × Value → H) :
    ReturnsInHanded {} Try.checked os 5 .any (Rows.domainStaleSpec.pre6 enc Try.prog Try.f5 Rows.domainStaleRow.domain false) (Rows.domainStaleSpec.post enc Try.prog Try.f5 false true false false) := by
  refine returnsInHanded_of_change (C := Try.checked) own started (by kernel_rfl) Try.func5
    (ChangeSpec.witness6 (enc := enc) (C := Try.checked) false ⟨#[], #[.int .i64 0, .int .i64 0, .int .u64 0, .int .u64 0, .slice none 0 0], []⟩ 8 (by kernel_rfl) (by kernel_rfl) (by kernel_rfl) (by kernel_rfl)) ?_
  intro W base args ds gs before hval0 hW hcnd _
  have hval : ∀ (j : Nat) t v, Try.f5.params[j]? = some t → args[j]? = some v → Value.okWide Try.prog W .any base t v := hval0
  have hW' := hW
  obtain ⟨p, q, hA0, hV, rfl, hfz, hnd⟩ := hW
  have hA : DataW.TrodAll enc Try.prog W 0 (fun _ => true) true Try.f5.params.toList args.toList ds p := hA0
  rw [Try.params5] at hA hval
  obtain ⟨v0, vs0, d0, ds0, p0, q0, hargs, rfl, rfl, h0, r0⟩ := trodAll_cons hA
  obtain ⟨v1, vs1, d1, ds1, p1, q1, rfl, rfl, rfl, h1, r1⟩ := trodAll_cons r0
  obtain ⟨v2, vs2, d2, ds2, p2, q2, rfl, rfl, rfl, h2, r2⟩ := trodAll_cons r1
  obtain ⟨v3, vs3, d3, ds3, p3, q3, rfl, rfl, rfl, h3, r3⟩ := trodAll_cons r2
  obtain ⟨v4, vs4, d4, ds4, p4, q4, rfl, rfl, rfl, h4, r4⟩ := trodAll_cons r3
  obtain ⟨rfl, rfl, rfl⟩ := trodAll_nil r4
  obtain rfl : args = #[v0, v1, v2, v3, v4] := by cases args; simp_all
  obtain ⟨rfl, rfl⟩ := trodVars_none hV
  obtain ⟨a0, rfl, rfl, rfl, w0⟩ := open_int Try.underlying3 (hval 0 3 v0 rfl rfl) h0
  obtain ⟨a1, rfl, rfl, rfl, w1⟩ := open_int Try.underlying3 (hval 1 3 v1 rfl rfl) h1
  obtain ⟨a2, rfl, rfl, rfl, w2⟩ := open_int Try.underlying22 (hval 2 22 v2 rfl rfl) h2
  obtain ⟨a3, rfl, rfl, rfl, w3⟩ := open_int Try.underlying22 (hval 3 22 v3 rfl rfl) h3
  clear hA0 hval0
  simp only [List.append_nil, List.nil_append] at hW'
  obtain ⟨b0, c0⟩ := bounds_i64 w0
  obtain ⟨b1, c1⟩ := bounds_i64 w1
  obtain ⟨b2, c2⟩ := bounds_u64 w2
  obtain ⟨b3, c3⟩ := bounds_u64 w3
  have hlt4 : ∀ x ∈ p4, x.block < W.heap.size := fun x hx => hW'.lt x (by simp [hx])
  obtain ⟨l4, hl4⟩ := open_acts (hval 4 23 v4 rfl rfl) h4
  refine (stale_any a0 a1 a2 a3 b2 b3 _ l4 W hl4).mono fun e W' ⟨he, hc⟩ => ?_
  have hg := hc.to_below
  subst he
  exact ⟨_, rfl, post_of_below (pa := ([] ++ ([] ++ ([] ++ ([] ++ (p4 ++ [])))))) (pv := []) hW' (fun _ _ _ => (trodAll_cons_mk (shut_bool Try.underlying4 _) trodAll_mk0)) (fun sp hsp => (trodAll_cons_mk (shut_int Try.underlying3 w0) (trodAll_cons_mk (shut_int Try.underlying3 w1) (trodAll_cons_mk (shut_int Try.underlying22 w2) (trodAll_cons_mk (shut_int Try.underlying22 w3) (trodAll_cons_mk (WideElems.Trod_stays Try.laidOut (by kernel_rfl) (of_decide_eq_true (by kernel_rfl)) h4 (fun x hx => hg.same (hlt4 x hx)) (fun x hx => hsp x (by simp [hx]))) trodAll_mk0)))))) (fun _ _ => rfl) (by simp)
    hg (ok_one (by kernel_rfl) rfl (okWide_bool_mk Try.underlying4 _))⟩

theorem over : Rows.domainStaleRow.holds Try.pinned (OpenSpec.ofChange Rows.domainStaleSpec) :=
  OpenClaim.holds_of_wide 5 Try.f5 rfl rfl rfl rfl rfl rfl rfl ⟨rfl, rfl, rfl, rfl, rfl⟩ rfl rfl rfl rfl rfl (by kernel_rfl) Try.func5 (by kernel_rfl)
    (of_decide_eq_true (by kernel_rfl)) (by unfold Func.isWrapper; first | (rw [if_pos (by decide +kernel)]; kernel_rfl) | (rw [if_neg (by decide +kernel)]; exact ⟨rfl, rfl⟩))
    (fun os started H enc _ => lifted os started H enc)

/-- ████ THE STATEMENT ████ -/
theorem proved : Rows.DomainStaleSaid :=
  over
#print axioms proved
end Go.Proofs.Ytpclhbfmocjgeaa.domainStale
end
