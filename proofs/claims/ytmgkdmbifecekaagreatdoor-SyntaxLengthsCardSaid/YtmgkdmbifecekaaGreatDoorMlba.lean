/-
  Package syntax: alternatives. Package syntax: the reader, whole.
-/
import Derived.Test.YtmgkdmbifecekaaGreatDoorSrb
set_option linter.all false
set_option linter.unusedSimpArgs false
set_option linter.unusedVariables false
set_option linter.unusedSectionVars false
namespace Go.Proofs.YtmgkdmbifecekaaGreatDoor
open Go.RowKit Go.Shelf
/-- What is left behind a sequence. -/
def restF (f : Bool) (n : Nat) (l : Bs) : Option (List Tree × Bs) :=
  if f = true then altsF n l else if Lib.hasPrefix l [124] = true then altsF n (Lib.trimPrefix l [124]) else some ([], l)
/-- Joined. -/
def joinO (k : Int) (o : Option (List Tree × Bs)) : Option (Tree × Bs) := match o with
  | none => none
  | some (ts, r) => some (joinT k ts, r)
def firstN (v : Value) : Nat := match v with
  | .bool true => 1
  | _ => 0
section
variable (g : Nat) (l0 : Bs) (hl0 : l0.length ≤ 999999) (ho0 : okB l0 = true) (N : Nat) (hN : 8 * l0.length + 7 ≤ N)
  (CI : ∀ n l, n < N → Suf l l0 → 8 * l.length + 6 ≤ n → NdC 67 g l (seqF n l)) (W : World)
include hl0 ho0 hN CI
set_option maxRecDepth 10000 in
set_option maxHeartbeats 4000000 in
theorem pat_any (h : RdrAt W g (b8 l0)) : Calls Tryz.prog 44 #[.pointer (some ⟨g, 0, none⟩)] W (NdPost g (joinO 4 (altsF N l0)) W) := by
  have hgW := heap_lt h
  have HC := Lib.hid CI
  have Hl0 := Lib.hid hl0
  have Ho0 := Lib.hid ho0
  have hK0 : Kept W (W.alloc (.cells #[.int .u8 0, .slice none 0 0, .int .i64 0, .int .i64 0, .bool false, .slice none 0 0] 25)) := (Below.refl _ W).alloc (Nat.le_refl _) _
  have A2 := Lib.hid (heap_alloc_new W (.cells #[.int .u8 0, .slice none 0 0, .int .i64 0, .int .i64 0, .bool false, .slice none 0 0] 25))
  have A1 := Lib.hid (rdr_grow h hK0)
  have A0 : Hid (W.grownBy (W.alloc (.cells #[.int .u8 0, .slice none 0 0, .int .i64 0, .int .i64 0, .bool false, .slice none 0 0] 25)) (some g)) := grown_of_kept hK0
  have hgb : g ≠ W.heap.size := by omega
  have HN : Hid (8 * l0.length + 7 ≤ N) := hN
  clear h hK0 CI hl0 ho0 hN
  go_enter Tryz.func44, Tryz.ntmps44
  go_wp2_with fail
  go_loopw [4, 5] (fun v4 v5 wr => ∃ (f : Bool) (acc : List Tree) (xs : List Value) (l : Bs) (n : Nat), v5 = .bool f ∧ Hid (PartsI (W.heap.size + 1) wr v4 acc xs) ∧ Hid (RdrAt wr g (b8 l)) ∧ Hid (W.grownBy wr (some g)) ∧ Hid (wr.heap[W.heap.size]? = some (.cells #[.int .u8 0, .slice none 0 0, .int .i64 0, .int .i64 0, .bool false, .slice none 0 0] 25 (0, 0))) ∧ Hid (altsF N l0 = itO acc (restF f n l)) ∧ Hid (n ≤ N ∧ 8 * l.length + (if f = true then 7 else 0) ≤ n + (if f = true then 0 else 1) ∧ Suf l l0 ∧ acc.length + l.length ≤ l0.length + (if f = true then 0 else 1))) (fun _ v5 wr => rdrLen g wr + firstN v5)
  case atStart => exact ⟨true, [], [], l0, N, rfl, PartsI.nil, A1, A0, A2, by show _ = _; unfold itO restF; cases altsF N l0 <;> rfl, ⟨Nat.le_refl _, HN.out, Suf.refl _, by simp⟩⟩
  case round =>
    obtain ⟨f, acc, xs, l, n, rfl, Hp, Hr, Hg, H2, Hi0, Hb0⟩ := hrel
    obtain ⟨wq, rfl⟩ : ∃ x, x = wr := ⟨_, rfl⟩
    clear A0 A1 A2
    cases f with
    | true =>
      have Hi : Hid (altsF N l0 = itO acc (altsF n l)) := Hi0
      have Hb : Hid (n ≤ N ∧ 8 * l.length + 7 ≤ n ∧ Suf l l0 ∧ acc.length + l.length ≤ l0.length) := Hb0
      clear Hi0 Hb0
      have Hr0 := Lib.hid Hr.out
      obtain ⟨m, hm⟩ : ∃ m, n = m + 1 := ⟨n - 1, by have := Hb.out.2.1; omega⟩
      subst hm
      have hit : Hid (altsF (m + 1) l = match seqF m l with
        | none => none
        | some (t, r) => itO [t] (restF false m r)) := by
        show _ = _
        rw [altsF]
        rcases seqF m l with _ | ⟨t, r1⟩
        · rfl
        · dsimp only
          unfold restF
          cases Lib.hasPrefix r1 [124] with
          | false => rfl
          | true => cases altsF m (Lib.trimPrefix r1 [124]) <;> rfl
      have CIt := Lib.hid (HC.out m l (by have := Hb.out.1; omega) Hb.out.2.2.1 (by have := Hb.out.2.1; omega) wq Hr.out)
      have hsuf := Lib.hid (fun t r2 h => (suf_all m).2.2.1 l t r2 (Hb.out.2.2.1.ok Ho0.out) h)
      go_wp2_with fail
      refine CIt.out.mono ?_
      rintro e w1 hpost
      unfold NdPost at hpost
      obtain ⟨hg1, hpost⟩ := hpost
      obtain ⟨o, ho⟩ : ∃ o, o = seqF m l := ⟨_, rfl⟩
      rw [← ho] at hpost
      have hgq : g < W.heap.size + 1 := by omega
      have Hp1 := Lib.hid (Hp.out.grown hg1 hgq)
      have H2x := Lib.hid (grown_heap hg1 H2.out (by intro e9; cases e9; exact hgb rfl))
      have Hg1 : Hid (W.grownBy w1 (some g)) := grown_trans Hg.out hg1
      cases o with
      | none =>
        obtain ⟨k, A1, sn, c1, mn, mx, lz, A2, un, c2, q, rfl, hr1⟩ := hpost
        have hres : Hid (altsF N l0 = none) := by
          show _ = _
          rw [Hi.out, hit.out, ← ho]
          rfl
        have hkk : Kept w1 (w1.alloc (.cells #[.int .u8 k, .slice A1 sn c1, .int .i64 mn, .int .i64 mx, .bool lz, .slice A2 un c2] 25)) := (Below.refl _ w1).alloc (Nat.le_refl _) _
        have H2a := Lib.hid (heap_kept hkk H2x.out)
        have Hra := Lib.hid (rdr_grow hr1 hkk)
        have Hga : Hid (W.grownBy (w1.alloc (.cells #[.int .u8 k, .slice A1 sn c1, .int .i64 mn, .int .i64 mx, .bool lz, .slice A2 un c2] 25)) (some g)) := grown_trans Hg1.out (grown_of_kept hkk)
        clear Hp Hr Hg H2 hg1 hr1 hkk CIt hit Hi ho
        unfold ndV
        dsimp only
        go_wp2_with (first | ((refine wpList_store_row ?c0 25 (.tmp 2) (.tmp 20) ?c1 W.heap.size #[.int .u8 0, .slice none 0 0, .int .i64 0, .int .i64 0, .bool false, .slice none 0 0] ?c2 ?c3 _ _ H2a.out ?c4 ?c5 ?c6 ?_); (case c0 => with_reducible rfl); (case c1 => with_reducible rfl); (case c2 => rfl); (case c3 => rfl); (case c4 => exact sizeNd); (case c5 => rfl); (case c6 => simp [Value.oneCell'])))
        refine bodyPost_ret (res_node Tryz.results44 _ _ W.heap.size #[.int .u8 0, .slice none 0 0, .int .i64 0, .int .i64 0, .bool false, .slice none 0 0] rfl rfl (setRow_heap _ _ _ _ _ _ H2a.out)) rfl ?_
        rw [hres.out]
        unfold NdPost joinO
        exact ⟨grown_setRow Hga.out (Nat.le_refl _) _, 0, none, 0, 0, 0, 0, false, none, 0, 0, q, rfl, (heap_setRow_out hgb _).trans Hra.out⟩
      | some x =>
        obtain ⟨t, r1⟩ := x
        obtain ⟨k, A1, sn, c1, mn, mx, lz, A2, un, c2, rfl, hn, hr1⟩ := hpost
        have hs1 := hsuf.out t r1 ho.symm
        have hi2 : Hid (altsF N l0 = itO (acc ++ [t]) (restF false m r1)) := by
          show _ = _
          rw [Hi.out, hit.out, ← ho]
          unfold itO
          dsimp only
          cases restF false m r1 with
          | none => rfl
          | some y => simp
        obtain ⟨cs, hcs, hnc⟩ := hn
        have hcs2 : cs = [.int .u8 k, .slice A1 sn c1, .int .i64 mn, .int .i64 mx, .bool lz, .slice A2 un c2] := by
          have := congrArg (fun v => match v with | Value.agg a => a.toList | _ => []) hcs
          simpa using this.symm
        subst hcs2
        have Hn1 := Lib.hid hnc
        have Hr1 := Lib.hid hr1
        have Hs1 := Lib.hid hs1
        have hsz : W.heap.size < wq.heap.size := heap_lt H2.out
        have hle := hg1.size
        have Hlt := Lib.hid (fun j e => Hp.out.o.lt j e)
        clear Hp Hr Hg H2 hg1 hr1 hnc hcs CIt hit ho hsuf Hi hs1
        obtain ⟨i0, hi0, hz0, hz1, hz2⟩ := info_parts infoNd
        unfold ndV
        dsimp only
        go_wp2_with (first | ((refine wpList_load_row ?c0 25 (.tmp 6) ?c1 w1.heap.size ?c2 25 #[.int .u8 k, .slice A1 sn c1, .int .i64 mn, .int .i64 mx, .bool lz, .slice A2 un c2] (0, 0) _ (heap_alloc_new w1 _) Tryz.underlying25 ?c3 sizeNd ?_); (case c0 => with_reducible rfl); (case c1 => with_reducible rfl); (case c2 => rfl); (case c3 => rfl)) | (at_builtin; refine wpList_append_own_at _ rfl _ _ 23 rfl (W.heap.size + 1) 25 i0 _ 6 80 Tryz.underlying23 hi0 hz0 hz1 hz2 rfl (by decide) u4 acc.length xs rfl ((Hp1.out.o.alloc _).alloc _) ⟨w1.heap.size + 1, 0, none⟩ 1 1 [.int .u8 k, .slice A1 sn c1, .int .i64 mn, .int .i64 mx, .bool lz, .slice A2 un c2] rfl rfl (cells_new2 w1 _ [.int .u8 k, .slice A1 sn c1, .int .i64 mn, .int .i64 mx, .bool lz, .slice A2 un c2] 25) (by intro u hu; simp at hu; rcases hu with rfl | rfl | rfl | rfl | rfl | rfl <;> rfl) (by have := Hb.out.2.2.2; have := Hl0.out; unfold maxLen; omega) (by have := Hb.out.2.2.2; have := Hl0.out; omega) (by simp; omega) ?_; intro v5 w5 hown5 hg5 hn5 hl5; have Hown5 := Lib.hid hown5; have HG5 : Hid (World.grownBy _ w5 u4.ownBlock) := hg5; have Hl5 : Hid (v5.ownBlock = u4.ownBlock ∨ _) := hl5; clear hown5 hg5 hn5 hl5))
        go_roundw
        case rel =>
          obtain ⟨P5, B5⟩ := PartsI.step (B := W.heap.size + 1) (Bt := wq.heap.size) _ _ Hp1.out (by omega) hle Hlt.out Hn1.out Hown5.out HG5.out Hl5.out
          refine ⟨false, acc ++ [t], _, r1, m, rfl, Lib.hid P5, Lib.hid ((B5.block g hgq).trans Hr1.out), Lib.hid ⟨B5.os.trans Hg1.out.os, B5.tape.trans Hg1.out.tape, B5.output.trans Hg1.out.output, Nat.le_trans Hg1.out.size B5.size, fun k hk hne => (B5.block k (by omega)).trans (Hg1.out.block k hk hne)⟩, Lib.hid ((B5.block _ (by omega)).trans H2x.out), hi2, Lib.hid ?_⟩
          refine ⟨by have := Hb.out.1; omega, ?_, Suf.trans Hs1.out Hb.out.2.2.1, ?_⟩
          · have h1 := Hs1.out.le
            have h2 := Hb.out.2.1
            simp
            omega
          · have h1 := Hs1.out.le
            have h2 := Hb.out.2.2.2
            rw [List.length_append]
            show acc.length + 1 + r1.length ≤ l0.length + 1
            omega
        case measure =>
          obtain ⟨P5, B5⟩ := PartsI.step (B := W.heap.size + 1) (Bt := wq.heap.size) _ _ Hp1.out (by omega) hle Hlt.out Hn1.out Hown5.out HG5.out Hl5.out
          have h1 := Hs1.out.le
          rw [rdrLen_at ((B5.block g hgq).trans Hr1.out), rdrLen_at Hr0.out]; show r1.length + 0 < l.length + 1; omega
    | false =>
      obtain ⟨q, hq0⟩ : ∃ q, q = Lib.hasPrefix l [124] := ⟨_, rfl⟩
      have hq : Hid (Lib.hasPrefix l [124] = q) := hq0.symm
      clear hq0
      go_wp2_with fail
      refine (take_b g l [124] q hq.out wq Hr.out).mono ?_
      rintro e wt ⟨rfl, hr1, hg1⟩
      have hgq0 : g < W.heap.size + 1 := by omega
      have Hp' := Lib.hid (Hp.out.grown hg1 hgq0)
      have H2' := Lib.hid (grown_heap hg1 H2.out (by intro e9; cases e9; exact hgb rfl))
      have Hg' : Hid (W.grownBy wt (some g)) := grown_trans Hg.out hg1
      have Hr' := Lib.hid hr1
      have Hr0 := Lib.hid Hr.out
      have hb0 : 8 * l.length ≤ n + 1 := Hb0.out.2.1
      have hb1 : acc.length + l.length ≤ l0.length + 1 := Hb0.out.2.2.2
      have hb2 := Hb0.out.2.2.1
      have hb3 := Hb0.out.1
      clear Hp H2 Hg Hr hr1 hg1 Hb0
      have Hp := Lib.hid Hp'.out
      have H2 := Lib.hid H2'.out
      have Hg := Lib.hid Hg'.out
      clear Hp' H2' Hg'
      cases q with
      | false =>
        have Hr : Hid (RdrAt wt g (b8 l)) := by
          have := Hr'.out
          rwa [trim_no hq.out] at this
        have hres : Hid (altsF N l0 = some (acc, l)) := by
          show _ = _
          rw [Hi0.out]
          unfold restF itO
          rw [if_neg (by decide), if_neg (by rw [hq.out]; decide)]
          simp
        have hacc : acc.length ≤ 1000000 := by have := Hl0.out; omega
        clear Hr' Hr0 Hi0
        go_wp2_with fail
        refine (sjoin_any 4 (W.heap.size + 1) wt u4 acc xs (by omega) Hp.out).mono ?_
        rintro e w1 ⟨k, A1, sn, c1, mn, mx, lz, A2, un, c2, rfl, hn, hk⟩
        have H2x := Lib.hid (heap_kept hk H2.out)
        have Hrx := Lib.hid (rdr_grow Hr.out hk)
        have Hgx : Hid (W.grownBy w1 (some g)) := grown_trans Hg.out (grown_of_kept hk)
        have Hn := Lib.hid hn
        clear hk hn Hp Hr Hg H2
        unfold ndV
        dsimp only
        go_wp2_with (first | ((refine wpList_store_row ?c0 25 (.tmp 2) (.tmp 26) ?c1 W.heap.size #[.int .u8 k, .slice A1 sn c1, .int .i64 mn, .int .i64 mx, .bool lz, .slice A2 un c2] ?c2 ?c3 _ _ H2x.out ?c4 ?c5 ?c6 ?_); (case c0 => with_reducible rfl); (case c1 => with_reducible rfl); (case c2 => rfl); (case c3 => rfl); (case c4 => exact sizeNd); (case c5 => rfl); (case c6 => simp [Value.oneCell'])))
        refine bodyPost_ret (res_node Tryz.results44 _ _ W.heap.size #[.int .u8 k, .slice A1 sn c1, .int .i64 mn, .int .i64 mx, .bool lz, .slice A2 un c2] rfl rfl (setRow_heap _ _ _ _ _ _ H2x.out)) rfl ?_
        rw [hres.out]
        unfold NdPost joinO
        exact ⟨grown_setRow Hgx.out (Nat.le_refl _) _, k, A1, sn, c1, mn, mx, lz, A2, un, c2, rfl, NodeM.set Hn.out (by omega) (by omega) _, (heap_setRow_out hgb _).trans Hrx.out⟩
      | true =>
        have htl := trim_lt hq.out (by simp)
        obtain ⟨l1, hl1⟩ : ∃ l1, l1 = Lib.trimPrefix l [124] := ⟨_, rfl⟩
        have Hi : Hid (altsF N l0 = itO acc (altsF n l1)) := by
          show _ = _
          rw [Hi0.out]
          unfold restF
          rw [if_neg (by decide), if_pos hq.out, hl1]
        have hsf : Suf l1 l := by rw [hl1]; exact suf_trim l [124]
        rw [← hl1] at htl Hr'
        have Hb : Hid (n ≤ N ∧ 8 * l1.length + 7 ≤ n ∧ Suf l1 l0 ∧ acc.length + l1.length ≤ l0.length) := ⟨hb3, by omega, hsf.trans hb2, by omega⟩
        have Hr := Lib.hid Hr'.out
        clear Hr' Hi0 hl1 hq hb0 hb1 hb2 hb3 hsf
        obtain ⟨m, hm⟩ : ∃ m, n = m + 1 := ⟨n - 1, by have := Hb.out.2.1; omega⟩
        subst hm
        have hit : Hid (altsF (m + 1) l1 = match seqF m l1 with
          | none => none
          | some (t, r) => itO [t] (restF false m r)) := by
          show _ = _
          rw [altsF]
          rcases seqF m l1 with _ | ⟨t, r1⟩
          · rfl
          · dsimp only
            unfold restF
            cases Lib.hasPrefix r1 [124] with
            | false => rfl
            | true => cases altsF m (Lib.trimPrefix r1 [124]) <;> rfl
        have CIt := Lib.hid (HC.out m l1 (by have := Hb.out.1; omega) Hb.out.2.2.1 (by have := Hb.out.2.1; omega) wt Hr.out)
        have hsuf := Lib.hid (fun t r2 h => (suf_all m).2.2.1 l1 t r2 (Hb.out.2.2.1.ok Ho0.out) h)
        go_wp2_with fail
        refine CIt.out.mono ?_
        rintro e w1 hpost
        unfold NdPost at hpost
        obtain ⟨hg1, hpost⟩ := hpost
        obtain ⟨o, ho⟩ : ∃ o, o = seqF m l1 := ⟨_, rfl⟩
        rw [← ho] at hpost
        have hgq : g < W.heap.size + 1 := by omega
        have Hp1 := Lib.hid (Hp.out.grown hg1 hgq)
        have H2x := Lib.hid (grown_heap hg1 H2.out (by intro e9; cases e9; exact hgb rfl))
        have Hg1 : Hid (W.grownBy w1 (some g)) := grown_trans Hg.out hg1
        cases o with
        | none =>
          obtain ⟨k, A1, sn, c1, mn, mx, lz, A2, un, c2, q, rfl, hr1⟩ := hpost
          have hres : Hid (altsF N l0 = none) := by
            show _ = _
            rw [Hi.out, hit.out, ← ho]
            rfl
          have hkk : Kept w1 (w1.alloc (.cells #[.int .u8 k, .slice A1 sn c1, .int .i64 mn, .int .i64 mx, .bool lz, .slice A2 un c2] 25)) := (Below.refl _ w1).alloc (Nat.le_refl _) _
          have H2a := Lib.hid (heap_kept hkk H2x.out)
          have Hra := Lib.hid (rdr_grow hr1 hkk)
          have Hga : Hid (W.grownBy (w1.alloc (.cells #[.int .u8 k, .slice A1 sn c1, .int .i64 mn, .int .i64 mx, .bool lz, .slice A2 un c2] 25)) (some g)) := grown_trans Hg1.out (grown_of_kept hkk)
          clear Hp Hr Hg H2 hg1 hr1 hkk CIt hit Hi ho
          unfold ndV
          dsimp only
          go_wp2_with (first | ((refine wpList_store_row ?c0 25 (.tmp 2) (.tmp 20) ?c1 W.heap.size #[.int .u8 0, .slice none 0 0, .int .i64 0, .int .i64 0, .bool false, .slice none 0 0] ?c2 ?c3 _ _ H2a.out ?c4 ?c5 ?c6 ?_); (case c0 => with_reducible rfl); (case c1 => with_reducible rfl); (case c2 => rfl); (case c3 => rfl); (case c4 => exact sizeNd); (case c5 => rfl); (case c6 => simp [Value.oneCell'])))
          refine bodyPost_ret (res_node Tryz.results44 _ _ W.heap.size #[.int .u8 0, .slice none 0 0, .int .i64 0, .int .i64 0, .bool false, .slice none 0 0] rfl rfl (setRow_heap _ _ _ _ _ _ H2a.out)) rfl ?_
          rw [hres.out]
          unfold NdPost joinO
          exact ⟨grown_setRow Hga.out (Nat.le_refl _) _, 0, none, 0, 0, 0, 0, false, none, 0, 0, q, rfl, (heap_setRow_out hgb _).trans Hra.out⟩
        | some x =>
          obtain ⟨t, r1⟩ := x
          obtain ⟨k, A1, sn, c1, mn, mx, lz, A2, un, c2, rfl, hn, hr1⟩ := hpost
          have hs1 := hsuf.out t r1 ho.symm
          have hi2 : Hid (altsF N l0 = itO (acc ++ [t]) (restF false m r1)) := by
            show _ = _
            rw [Hi.out, hit.out, ← ho]
            unfold itO
            dsimp only
            cases restF false m r1 with
            | none => rfl
            | some y => simp
          obtain ⟨cs, hcs, hnc⟩ := hn
          have hcs2 : cs = [.int .u8 k, .slice A1 sn c1, .int .i64 mn, .int .i64 mx, .bool lz, .slice A2 un c2] := by
            have := congrArg (fun v => match v with | Value.agg a => a.toList | _ => []) hcs
            simpa using this.symm
          subst hcs2
          have Hn1 := Lib.hid hnc
          have Hr1 := Lib.hid hr1
          have Hs1 := Lib.hid hs1
          have hsz : W.heap.size < wt.heap.size := heap_lt H2.out
          have hle := hg1.size
          have Hlt := Lib.hid (fun j e => Hp.out.o.lt j e)
          clear Hp Hr Hg H2 hg1 hr1 hnc hcs CIt hit ho hsuf Hi hs1
          obtain ⟨i0, hi0, hz0, hz1, hz2⟩ := info_parts infoNd
          unfold ndV
          dsimp only
          go_wp2_with (first | ((refine wpList_load_row ?c0 25 (.tmp 6) ?c1 w1.heap.size ?c2 25 #[.int .u8 k, .slice A1 sn c1, .int .i64 mn, .int .i64 mx, .bool lz, .slice A2 un c2] (0, 0) _ (heap_alloc_new w1 _) Tryz.underlying25 ?c3 sizeNd ?_); (case c0 => with_reducible rfl); (case c1 => with_reducible rfl); (case c2 => rfl); (case c3 => rfl)) | (at_builtin; refine wpList_append_own_at _ rfl _ _ 23 rfl (W.heap.size + 1) 25 i0 _ 6 80 Tryz.underlying23 hi0 hz0 hz1 hz2 rfl (by decide) u4 acc.length xs rfl ((Hp1.out.o.alloc _).alloc _) ⟨w1.heap.size + 1, 0, none⟩ 1 1 [.int .u8 k, .slice A1 sn c1, .int .i64 mn, .int .i64 mx, .bool lz, .slice A2 un c2] rfl rfl (cells_new2 w1 _ [.int .u8 k, .slice A1 sn c1, .int .i64 mn, .int .i64 mx, .bool lz, .slice A2 un c2] 25) (by intro u hu; simp at hu; rcases hu with rfl | rfl | rfl | rfl | rfl | rfl <;> rfl) (by have := Hb.out.2.2.2; have := Hl0.out; unfold maxLen; omega) (by have := Hb.out.2.2.2; have := Hl0.out; omega) (by simp; omega) ?_; intro v5 w5 hown5 hg5 hn5 hl5; have Hown5 := Lib.hid hown5; have HG5 : Hid (World.grownBy _ w5 u4.ownBlock) := hg5; have Hl5 : Hid (v5.ownBlock = u4.ownBlock ∨ _) := hl5; clear hown5 hg5 hn5 hl5))
          go_roundw
          case rel =>
            obtain ⟨P5, B5⟩ := PartsI.step (B := W.heap.size + 1) (Bt := wt.heap.size) _ _ Hp1.out (by omega) hle Hlt.out Hn1.out Hown5.out HG5.out Hl5.out
            refine ⟨false, acc ++ [t], _, r1, m, rfl, Lib.hid P5, Lib.hid ((B5.block g hgq).trans Hr1.out), Lib.hid ⟨B5.os.trans Hg1.out.os, B5.tape.trans Hg1.out.tape, B5.output.trans Hg1.out.output, Nat.le_trans Hg1.out.size B5.size, fun k hk hne => (B5.block k (by omega)).trans (Hg1.out.block k hk hne)⟩, Lib.hid ((B5.block _ (by omega)).trans H2x.out), hi2, Lib.hid ?_⟩
            refine ⟨by have := Hb.out.1; omega, ?_, Suf.trans Hs1.out Hb.out.2.2.1, ?_⟩
            · have h1 := Hs1.out.le
              have h2 := Hb.out.2.1
              simp
              omega
            · have h1 := Hs1.out.le
              have h2 := Hb.out.2.2.2
              rw [List.length_append]
              show acc.length + 1 + r1.length ≤ l0.length + 1
              omega
          case measure =>
            obtain ⟨P5, B5⟩ := PartsI.step (B := W.heap.size + 1) (Bt := wt.heap.size) _ _ Hp1.out (by omega) hle Hlt.out Hn1.out Hown5.out HG5.out Hl5.out
            have h1 := Hs1.out.le
            rw [rdrLen_at ((B5.block g hgq).trans Hr1.out), rdrLen_at Hr0.out]; show r1.length + 0 < l.length + 0; omega
end
end Go.Proofs.YtmgkdmbifecekaaGreatDoor
namespace Go.Proofs.YtmgkdmbifecekaaGreatDoor
open Go.RowKit Go.Shelf
/-- What the readers of patterns, sequences, items, atoms and what is enclosed answer. -/
def RdAll (n : Nat) : Prop :=
  (∀ g l, okB l = true → l.length ≤ 999999 → 8 * l.length + 8 ≤ n → NdC 44 g l (patF n l)) ∧
  (∀ g l, okB l = true → l.length ≤ 999999 → 8 * l.length + 6 ≤ n → NdC 67 g l (seqF n l)) ∧
  (∀ g l, okB l = true → l.length ≤ 999999 → l ≠ [] → 8 * l.length + 4 ≤ n → NdC 95 g l (itemF n l)) ∧
  (∀ g l, okB l = true → l.length ≤ 999999 → l ≠ [] → 8 * l.length + 3 ≤ n → NdC 118 g l (atomF n l)) ∧
  (∀ g l, okB l = true → l.length ≤ 999999 → 8 * l.length + 9 ≤ n → NdC 140 g l (encF n l))
theorem rd_all (n : Nat) : RdAll n := by
  induction n using Nat.strongRecOn with
  | _ n ih =>
    refine ⟨?_, ?_, ?_, ?_, ?_⟩
    · intro g l ho hl hn W hr
      obtain ⟨m, rfl⟩ : ∃ m, n = m + 1 := ⟨n - 1, by omega⟩
      have h := pat_any g l hl ho m (by omega) (fun n' l' h1 h2 h3 => (ih n' (by omega)).2.1 g l' (h2.ok ho) (Nat.le_trans h2.le hl) h3) W hr
      have e : joinO 4 (altsF m l) = patF (m + 1) l := by
        rw [patF]
        unfold joinO
        cases altsF m l <;> rfl
      rw [e] at h
      exact h
    · intro g l ho hl hn W hr
      obtain ⟨m, rfl⟩ : ∃ m, n = m + 1 := ⟨n - 1, by omega⟩
      have h := seq_any g l (Nat.le_trans hl (by decide)) ho m (by omega) (fun n' l' h1 h2 hs h3 => (ih n' (by omega)).2.2.1 g l' (h2.ok ho) (Nat.le_trans h2.le hl) (by rintro rfl; simp [stopP] at hs) h3) W hr
      rw [seqF]
      cases hq : itemsF m l with
      | none => rw [hq] at h; exact h
      | some x => obtain ⟨ts, r⟩ := x; rw [hq] at h; exact h
    · intro g l ho hl hne hn
      obtain ⟨m, rfl⟩ : ∃ m, n = m + 1 := ⟨n - 1, by omega⟩
      have CA := (ih m (by omega)).2.2.2.1 g l ho hl hne (by omega)
      rw [itemF]
      cases hq : atomF m l with
      | none => rw [hq] at CA; exact item_any g l none CA (fun t l1 e => by cases e)
      | some x =>
        obtain ⟨t0, r0⟩ := x
        rw [hq] at CA
        exact item_any g l (some (t0, r0)) CA (fun t l1 e h123 => by
          obtain ⟨s1, s2⟩ := (suf_all m).2.2.2.2.2.1 l t l1 ho hne (hq.trans e)
          exact ⟨by have := (suf_trim l1 [123]).le; have := s1.le; omega, okB_br (s1.ok ho) h123⟩)
    · intro g l ho hl hne hn
      obtain ⟨m, rfl⟩ : ∃ m, n = m + 1 := ⟨n - 1, by omega⟩
      rw [atomF]
      cases h1 : Lib.hasPrefix l [40, 63, 58] with
      | true =>
        rw [if_pos rfl]
        have hlt := trim_lt h1 (by simp)
        have hs := suf_trim l [40, 63, 58]
        have CE := (ih m (by omega)).2.2.2.2 g _ (hs.ok ho) (Nat.le_trans hs.le hl) (by omega)
        cases he : encF m (Lib.trimPrefix l [40, 63, 58]) with
        | none => rw [he] at CE; exact atom_part_none g l h1 CE
        | some x => obtain ⟨t, r⟩ := x; rw [he] at CE; exact atom_part_some g l t r h1 CE
      | false =>
        rw [if_neg (by decide)]
        cases h3 : Lib.hasPrefix l [40] with
        | true =>
          rw [if_pos rfl]
          have hlt := trim_lt h3 (by simp)
          have hs := suf_trim l [40]
          have CE := (ih m (by omega)).2.2.2.2 g _ (hs.ok ho) (Nat.le_trans hs.le hl) (by omega)
          cases he : encF m (Lib.trimPrefix l [40]) with
          | none => rw [he] at CE; exact atom_group_none g l h1 h3 CE
          | some x => obtain ⟨t, r⟩ := x; rw [he] at CE; exact atom_group_some g l t r h1 h3 CE
        | false =>
          rw [if_neg (by decide)]
          have CS : ∀ W, RdrAt W g (b8 l) → Calls Tryz.prog 141 #[.pointer (some ⟨g, 0, none⟩)] W (SetPost g l W) := by
            intro W h
            cases l with
            | nil => exact absurd rfl hne
            | cons b r =>
              obtain ⟨o1, o2, o3⟩ := okB_head ho
              exact set_rd g b r o1 o2 o3 (Nat.le_trans hl (by decide)) W h
          cases hs : setP l with
          | none => exact atom_set_none g l hs h1 h3 CS
          | some x => obtain ⟨L, r⟩ := x; exact atom_set_some g l L r hs h1 h3 CS
    · intro g l ho hl hn W hr
      obtain ⟨m, rfl⟩ : ∃ m, n = m + 1 := ⟨n - 1, by omega⟩
      have CP : Hid (∀ W', Kept W W' → Calls Tryz.prog 44 #[.pointer (some ⟨g, 0, none⟩)] W' (NdPost g (patF m l) W')) := fun W' hk => (ih m (by omega)).1 g l ho hl (by omega) W' (rdr_grow hr hk)
      have e : encF (m + 1) l = encO (patF m l) := by
        rw [encF]
        unfold encO
        cases patF m l <;> rfl
      rw [e]
      cases hp : patF m l with
      | none => rw [hp] at CP; exact enc_none g W (heap_lt hr) CP
      | some x =>
        obtain ⟨t, r⟩ := x
        rw [hp] at CP
        cases hb : Lib.hasPrefix r [41] with
        | true => exact enc_yes g t r hb W (heap_lt hr) CP
        | false => exact enc_no g t r hb W (heap_lt hr) CP
end Go.Proofs.YtmgkdmbifecekaaGreatDoor
