/-
  Export.
-/
import Derived.Test.YtlhekeokognhmaaGreatDoorLbK
namespace Go.Proofs.YtlhekeokognhmaaGreatDoor
open Go.RowKit Go.Shelf Go.Maps Go.Sort
theorem wpList_lookup_own_strok {P : Program} (w : World) {ops : Array Oper} {rest : List Oper} {o : Oper} {a : Act} {Q : Exit → Act → World → Prop}
    (hg : o.guard = none) (m x : Operand) (t : TypeId) (hop : o.op = Op.lookup t m x true)
    (k e : TypeId) (K : Keyed P k) (ht : P.underlying t = some (.map k e)) (he : P.underlying e = some .string) (hz : (zeroValue e).run P w = .ok (.string ⟨#[]⟩) w) (b n : Nat) (D : DataW H0)
    (hm : a.eval m = .map (some b)) (hown : w.ownsMap P k (plainElem P e) b n D) (key : Value) (kl : Lit) (hx : a.eval x = key) (hkey : keyOf P k key = some kl) (bb : Bool) (hb : Maps.has D kl = bb)
    (hK : ∀ s : ByteArray, wpList P ops Q rest (a.put o.dst (.tuple #[.string s, .bool bb])) w) :
    wpList P ops Q (o :: rest) a w := by
  refine wpList_plain hg fun K' hK' => ?_
  obtain ⟨v, ps, hrun, hv⟩ := hown.look_ok K ht hz (plainElem_string he (s := ⟨#[]⟩) (Nat.zero_le _)) hkey
  obtain ⟨s, rfl, hc, _⟩ := _root_.Go.plainElem_string_inv he hv
  unfold Oper.wp
  simp [execOp, hop, hm, hx, hrun, hb, Result.andThen]
  exact hK' _ _ (hK s)
/-- The name that a label is exported under. -/
def expN (s : ByteArray) : ByteArray := ⟨#[101, 120, 112, 111, 114, 116, 101, 100, 95]⟩ ++ s
theorem expN_size (s : ByteArray) : (expN s).size = 9 + s.size := by unfold expN; rw [ByteArray.size_append]; rfl
def expOk (T : List Lab) (m : List Lb) (x : Lab) : Prop := 0 ≤ idxFrom x.1 0 T ∧ (find m (expN x.1).data.toList).isSome = false ∧ nmB namB (expN x.1) = true
instance (T : List Lab) (m : List Lb) (x : Lab) : Decidable (expOk T m x) := by unfold expOk; infer_instance
def exp1 (T : List Lab) (m : List Lb) (x : Lab) : List Lb := if expOk T m x then rput m (lb (expN x.1, x.2)) else m
def expF (T : List Lab) (E : List Lab) (m : List Lb) : List Lb := E.foldl (exp1 T) m
theorem exp1_srt {T : List Lab} {m : List Lb} (h : Srt m) (x : Lab) : Srt (exp1 T m x) := by
  unfold exp1
  split
  · exact rput_srt h _
  · exact h
theorem expF_srt (T : List Lab) : ∀ (E : List Lab) {m : List Lb}, Srt m → Srt (expF T E m)
  | [], _, h => h
  | x :: E, _, h => expF_srt T E (exp1_srt h x)
theorem exp1_len (T : List Lab) (m : List Lb) (x : Lab) : (exp1 T m x).length ≤ m.length + 1 := by
  unfold exp1
  split
  · exact rputA_len _ _ _
  · omega
theorem expF_len (T : List Lab) : ∀ (E : List Lab) (m : List Lb), (expF T E m).length ≤ m.length + E.length
  | [], _ => Nat.le_refl _
  | x :: E, m => by
    have h := expF_len T E (exp1 T m x)
    have h2 := exp1_len T m x
    show (expF T E (exp1 T m x)).length ≤ m.length + (E.length + 1)
    omega
theorem expF_small (T : List Lab) : ∀ (E : List Lab) (m : List Lb), (∀ x ∈ E, smallL x) → (∀ x ∈ m, x.1.length ≤ 1000 ∧ x.2.length ≤ 1024) → ∀ x ∈ expF T E m, x.1.length ≤ 1000 ∧ x.2.length ≤ 1024
  | [], m, _, h => h
  | y :: E, m, hs, h => by
    refine expF_small T E (exp1 T m y) (fun x hx => hs x (List.mem_cons_of_mem _ hx)) ?_
    intro z hz
    unfold exp1 at hz
    split at hz
    · rcases rputA_mem hz with rfl | hz
      · have h1 := hs y (List.mem_cons_self ..)
        have h2 := expN_size y.1
        refine ⟨?_, h1.2⟩
        show (expN y.1).size ≤ 1000
        have := h1.1
        omega
      · exact h z hz
    · exact h z hz
theorem sortedV_any (b n : Nat) (D : DataW H0) (m : List Lb) (w : World) (hown : w.ownsMap Tryz.prog 9 PE b n D) (hD : MapIs D (find m)) (hs : Srt m) (hsm : ∀ x ∈ m, x.1.length ≤ 1000 ∧ x.2.length ≤ 1024) (hm : m.length ≤ 1000000) :
    Calls Tryz.prog 63 #[.map (some b)] w fun e w' => ∃ v x, e = .returned (.tuple #[v, .int .i64 x]) ∧ SortedV w.heap.size m v x w' ∧ Kept w w' :=
  (sorted_any b n D m w hown hD hs hsm hm).mono fun e w' ⟨h, hk⟩ => by
    rcases h with ⟨h1, rfl⟩ | ⟨h1, v, rfl, h2⟩
    · exact ⟨_, _, rfl, .inl ⟨h1, rfl, rfl⟩, hk⟩
    · exact ⟨_, _, rfl, .inr ⟨h1, rfl, h2⟩, hk⟩
section
variable (A A1 : Option Addr) (c c1 : Nat) (L E : List Lab) (w : World)
theorem put2b (hr : RdL w w.heap.size A L) (hr1 : RdL w w.heap.size A1 E) (hL : L.length ≤ 400000) (hE : E.length ≤ 400000) (hs : ∀ x ∈ L, smallL x) (hs1 : ∀ x ∈ E, smallL x) (W : World) (h : Kept w W) :
    Calls Tryz.prog 64 #[.slice (some ⟨W.heap.size, 0, none⟩) 2 2] (W.alloc (.cells #[.slice A L.length c, .slice A1 E.length c1] 22)) fun e w' => ∃ b n D, e = .returned (.map (some b)) ∧ w'.ownsMap Tryz.prog 9 PE b n D ∧ MapIs D (find (puts [] ((L ++ E).map lb))) ∧ n ≤ 1000000 ∧ W.heap.size ≤ b ∧ Kept W w' := by
  have hk := (Below.refl W.heap.size W).alloc (Nat.le_refl _) (.cells #[.slice A L.length c, .slice A1 E.length c1] 22)
  refine (put_any (some ⟨W.heap.size, 0, none⟩) 2 [(A, c, L), (A1, c1, E)] (by simp) (W.alloc (.cells #[.slice A L.length c, .slice A1 E.length c1] 22)) (rdNew W [.slice A L.length c, .slice A1 E.length c1] 22) ?_ ?_ ?_).mono ?_
  · intro r hr'
    simp only [List.mem_cons, List.not_mem_nil, or_false] at hr'
    rcases hr' with rfl | rfl
    · exact ⟨(hr.below (Below.trans h (hk.mono (Below.size h)))).more (Nat.le_trans (Below.size h) (by simp)), by show L.length ≤ _; omega⟩
    · exact ⟨(hr1.below (Below.trans h (hk.mono (Below.size h)))).more (Nat.le_trans (Below.size h) (by simp)), by show E.length ≤ _; omega⟩
  · intro r hr'
    simp only [List.mem_cons, List.not_mem_nil, or_false] at hr'
    rcases hr' with rfl | rfl
    · exact hs
    · exact hs1
  · simp; omega
  · rintro e w' ⟨b, n, D, rfl, ho, hD, hn, hb, hk'⟩
    refine ⟨b, n, D, rfl, ho, ?_, hn, Nat.le_trans (by simp) hb, Below.trans hk (Below.mono hk' (by simp))⟩
    simpa using hD
end
set_option maxRecDepth 100000 in
set_option maxHeartbeats 4000000 in
theorem export_any (A A1 : Option Addr) (c c1 : Nat) (L E : List Lab) (hL : L.length ≤ 400000) (hE : E.length ≤ 400000) (w : World) (hr : RdL w w.heap.size A L) (hr1 : RdL w w.heap.size A1 E) (hT : Tab w) :
    Calls Tryz.prog 20 #[.slice A L.length c, .slice A1 E.length c1] w fun e w' => ∃ v x, e = .returned (.tuple #[v, .int .i64 x]) ∧ AnsV w.heap.size (mergeBad L E) (expF L E (puts [] ((E ++ L).map lb))) v x w' ∧ Kept w w' := by
  have CR := Lib.hid (right_any A c L (by omega) w hr hT)
  have CQ : Hid (∀ W, Kept w W → Calls Tryz.prog 16 #[.slice A1 E.length c1] W fun e w' => e = .returned (.bool (rgtB E)) ∧ Kept W w') := fun W h => right_any A1 c1 E (by omega) W ((hr1.below h).more h.size) (hT.below h)
  unfold mergeBad
  rcases hR : rgtB L with _ | _
  · rw [if_neg (by simp)]
    rw [hR] at CR
    clear hr hr1 hT hR hL hE
    go_enter Tryz.func20, Tryz.ntmps20
    go_wp2_with (go_at_call 16; refine CR.out.mono ?_; rintro e w1 ⟨rfl, hk⟩; have HK1 := Lib.hid hk; clear hk)
    go_ret2
    exact ⟨_, _, rfl, ⟨rfl, rfl⟩, HK1.out⟩
  · rcases hQ : rgtB E with _ | _
    · rw [if_neg (by simp)]
      rw [hR] at CR
      rw [hQ] at CQ
      clear hr hr1 hT hR hQ hL hE
      go_enter Tryz.func20, Tryz.ntmps20
      go_wp2_with (first
        | (go_at_call 16; refine (CQ.out _ HK1.out).mono ?_; rintro e w2 ⟨rfl, hk⟩; have HK2 := Lib.hid (below_kept HK1.out hk); clear hk)
        | (go_at_call 16; refine CR.out.mono ?_; rintro e w1 ⟨rfl, hk⟩; have HK1 := Lib.hid hk; clear hk))
      go_ret2
      exact ⟨_, _, rfl, ⟨rfl, rfl⟩, HK2.out⟩
    · rw [if_pos ⟨rfl, rfl⟩]
      have hs : ∀ x ∈ L, smallL x := fun x hx => small_of (right_all hR x hx).1
      have hs1 : ∀ x ∈ E, smallL x := fun x hx => small_of (right_all hQ x hx).1
      have Hne : Hid (∀ x ∈ E, x.2 ≠ ⟨#[]⟩) := fun x hx => (right_all hQ x hx).2
      have HS1 := Lib.hid hs1
      have CP := Lib.hid (put2b A1 A c1 c E L w hr1 hr hE hL hs1 hs)
      have HR1 := Lib.hid hr1
      have CI : Hid (∀ W s, Kept w W → Calls Tryz.prog 65 #[.slice A L.length c, .string s] W fun e w' => e = .returned (.int .i64 (idxFrom s 0 L)) ∧ Kept W w') := fun W s h => index_any A c L (by omega) s W ((hr.below h).more h.size)
      obtain ⟨Fm, hFm⟩ : ∃ F : Nat → List Lb, F = fun k => expF L (E.take k) (puts [] ((E ++ L).map lb)) := ⟨_, rfl⟩
      have hm0 : puts [] ((E ++ L).map lb) = Fm 0 := by rw [hFm]; simp [expF]
      have hmE : expF L E (puts [] ((E ++ L).map lb)) = Fm E.length := by rw [hFm]; simp
      have Hsr : Hid (∀ k, Srt (Fm k)) := fun k => by rw [hFm]; exact expF_srt _ _ (puts_srt List.Pairwise.nil _)
      have Hst : Hid (∀ k x, E[k]? = some x → Fm (k + 1) = exp1 L (Fm k) x) := fun k x hx => by
        rw [hFm]
        show expF L (E.take (k + 1)) _ = _
        rw [List.take_add_one, hx]
        simp [expF]
      have Hsm : Hid (∀ x ∈ Fm E.length, x.1.length ≤ 1000 ∧ x.2.length ≤ 1024) := by
        rw [← hmE]
        exact expF_small L E _ hs1 (puts_small fun x hx => by rcases List.mem_append.1 hx with h | h; exact hs1 x h; exact hs x h)
      have Hlen : Hid ((Fm E.length).length ≤ 1000000) := by
        show _ ≤ _
        rw [← hmE]
        have h1 := expF_len L E (puts [] ((E ++ L).map lb))
        have h2 := puts_len [] ((E ++ L).map lb)
        have h3 := right_len hR
        have h4 := right_len hQ
        rw [List.length_map, List.length_append, List.length_nil] at h2
        omega
      rw [hm0] at CP
      rw [hmE]
      have hE4 := right_len hQ
      rw [hR] at CR
      rw [hQ] at CQ
      obtain ⟨nE, hnE⟩ : ∃ k, k = E.length := ⟨_, rfl⟩
      have HnE := Lib.hid hnE
      rw [← hnE] at CP CQ hE4 Hsm Hlen ⊢
      clear hr hr1 hT hR hQ hL hE hs hs1 hFm hm0 hmE hnE
      go_enter Tryz.func20, Tryz.ntmps20
      go_wp2_with (first
        | (go_at_call 16; refine (CQ.out _ HK1.out).mono ?_; rintro e w2 ⟨rfl, hk⟩; have HK2 := Lib.hid (below_kept HK1.out hk); clear hk)
        | (go_at_call 16; refine CR.out.mono ?_; rintro e w1 ⟨rfl, hk⟩; have HK1 := Lib.hid hk; clear hk)
        | (go_at_call 64; refine (CP.out _ HK2.out).mono ?_; rintro e w3 ⟨b, n0, D0, rfl, ho, hD, hn0, hb, hk⟩; have HO := Lib.hid ho; have HD := Lib.hid hD; have HB : Hid (w.heap.size ≤ b) := Nat.le_trans (Below.size HK2.out) hb; have HK3 := Lib.hid (below_kept HK2.out hk); have HN0 := Lib.hid hn0; clear ho hD hk hn0 hb))
      go_loopw [26] (fun v26 wr => ∃ (k n : Nat) (D : DataW H0), k ≤ nE ∧ v26 = .int .i64 k ∧ Hid (Kept w wr) ∧ Hid (wr.ownsMap Tryz.prog 9 PE b n D) ∧ Hid (MapIs D (find (Fm k))) ∧ Hid (n ≤ n0 + k)) (fun v26 _ => nE - (intOf v26).toNat)
      case atStart => exact ⟨0, n0, D0, by omega, rfl, HK3, HO, HD, Nat.le_refl _⟩
      case round =>
        obtain ⟨k, n, D, hk, rfl, hkr, hown, hD, hn⟩ := hrel
        by_cases hkn : k < nE
        · obtain ⟨ad, x, rfl, hadb, hx, hd, hc0, hc1⟩ := rdl_at HR1.out (by rw [← HnE.out]; exact hkn)
          have e0 := (Below.cell hkr.out (by rw [addBlock]; exact hadb)).trans hc0
          have e1 := (Below.cell hkr.out (by rw [addBlock]; exact hadb)).trans hc1
          have Hcl := Lib.hid (lab_cells e0 e1)
          have hxm : x ∈ E := List.mem_of_getElem? hx
          have Hsx := Lib.hid (HS1.out x hxm)
          have hnx := Hne.out x hxm
          have hst := Hst.out k x hx
          obtain ⟨xa, xb⟩ := x
          dsimp only at Hcl hnx
          have hM : (wr.alloc (.cells #[.string xa, .string xb] 33)).heap[wr.heap.size]? = some (.cells #[.string xa, .string xb] 33) := heap_alloc_new _ _
          have M1 := Lib.hid hM
          have K1 : Hid (Kept wr (wr.alloc (.cells #[.string xa, .string xb] 33))) := (Below.refl _ _).alloc (Nat.le_refl _) _
          have K1' : Hid (Kept w (wr.alloc (.cells #[.string xa, .string xb] 33))) := below_kept hkr.out K1.out
          have hown1 : Hid ((wr.alloc (.cells #[.string xa, .string xb] 33)).ownsMap Tryz.prog 9 PE b n D) := hown.out.alloc _
          have hsize := expN_size xa
          have Hka := Lib.hid (Go.WideMaps.keyOf_string_mk (P := Tryz.prog) Tryz.underlying9 (s := expN xa) (by have := Hsx.out.1; unfold maxLen; dsimp only at this; omega))
          have Hvb : Hid (PE (.string xb) = some (.lit (.string xb.data.toList), [])) := plainElem_string Tryz.underlying9 (by have := Hsx.out.2; unfold maxLen; dsimp only at this; omega)
          have Hbn : Hid (n < maxLen) := by show _ < _; have := hn.out; have := HN0.out; unfold maxLen; omega
          have hadd : ¬ 9223372036854775807 < (⟨#[101, 120, 112, 111, 114, 116, 101, 100, 95]⟩ : ByteArray).size + xa.size := by
            have := Hsx.out.1
            dsimp only at this
            show ¬ _ < 9 + xa.size
            omega
          have heN : (⟨#[101, 120, 112, 111, 114, 116, 101, 100, 95]⟩ : ByteArray) ++ xa = expN xa := rfl
          clear hc0 hc1 hx hd e0 e1 hxm hM hsize
          by_cases hi : 0 ≤ idxFrom xa 0 L
          · have CI' : Hid (∀ W, Kept w W → Calls Tryz.prog 65 #[.slice A L.length c, .string xa] W fun e w' => e = .returned (.int .i64 (idxFrom xa 0 L)) ∧ Kept W w') := fun W h => CI.out W xa h
            have hii : ¬ idxFrom xa 0 L < 0 := by omega
            have CN : Hid (∀ W, Calls Tryz.prog 42 #[.string (expN xa)] W fun e w' => e = .returned (.bool (nmB namB (expN xa))) ∧ Kept W w') := fun W => name_any (expN xa) W
            have hdec : expOk L (Fm k) (xa, xb) ↔ (find (Fm k) (expN xa).data.toList).isSome = false ∧ nmB namB (expN xa) = true := ⟨fun h => h.2, fun h => ⟨hi, h⟩⟩
            have hhas : Maps.has D (.string (expN xa).data.toList) = (find (Fm k) (expN xa).data.toList).isSome := (hD.out.2 _).1
            have hput : Hid (MapIs (D.put (.string (expN xa).data.toList) (.lit (.string xb.data.toList))) (find (rput (Fm k) (lb (expN xa, xb))))) := by
              show MapIs _ _
              have h := hD.out.put (lb (expN xa, xb)) (fun e => hnx (str_empty.1 e))
              rw [← funext (find_rput (Hsr.out k) (lb (expN xa, xb)))] at h
              exact h
            rcases hh : (find (Fm k) (expN xa).data.toList).isSome with _ | _
            · rw [hh] at hhas
              rcases hN : nmB namB (expN xa) with _ | _
              · have HF : Hid (Fm (k + 1) = Fm k) := by show _ = _; rw [hst]; unfold exp1; rw [if_neg (by rw [hdec, hN]; simp)]
                rw [hN] at CN
                have Hh := Lib.hid hhas
                clear hN hh hhas hst hdec hnx hput
                generalize idxFrom xa 0 L = ii at *
                clear hi
                generalize expN xa = xn at *
                go_wp2_with (first
                  | (refine wpList_load_at rfl 33 (.tmp 28) rfl (ad.add (k * 2)) rfl #[.string (xa, xb).1, .string (xa, xb).2] _ Hcl.out Tryz.underlying33 rfl sizeL ?_)
                  | (go_at_call 65; refine (CI'.out _ K1'.out).mono ?_; rintro e w2 ⟨rfl, hk2⟩; have HK2 := Lib.hid (below_kept K1'.out hk2); have HO2 := Lib.hid (hown1.out.kept (grown_of_below hk2) (by simp)); have hq0 : w2.cell? ⟨wr.heap.size, 0, none⟩ = some (.string xa) := (by rw [cell_of_row _ _ _ _ _ _ (heap_kept hk2 M1.out)]; rfl); have hq1 : w2.cell? ⟨wr.heap.size, 1, none⟩ = some (.string xb) := (by rw [cell_of_row _ _ _ _ _ _ (heap_kept hk2 M1.out)]; rfl); have Hr2 := Lib.hid (heap_kept hk2 M1.out); clear hk2)
                  | (at_lookup; refine wpList_lookup_own_strok _ rfl _ _ 95 rfl 9 9 skey Tryz.underlying95 Tryz.underlying9 (zstr _) b n D rfl HO2.out _ _ rfl Hka.out _ Hh.out ?_; intro s0)
                  | (go_at_call 42; refine (CN.out _).mono ?_; rintro e w3 ⟨rfl, hk3⟩; have HK3 := Lib.hid (below_kept HK2.out hk3); have HO3 := Lib.hid (HO2.out.kept (grown_of_below hk3) (by simp)); have hq3 : w3.cell? ⟨wr.heap.size, 1, none⟩ = some (.string xb) := (by rw [cell_of_row _ _ _ _ _ _ (heap_kept hk3 Hr2.out)]; rfl); clear hk3)
                  | (at_mapUpdate; refine wpList_mapUpdate_own _ rfl _ _ _ 95 rfl 9 9 skey Tryz.underlying95 PE b n D rfl HO3.out Hbn.out _ _ _ rfl rfl Hka.out _ [] Hvb.out ?_; intro w4 hown4 hg4; have Hown4 := Lib.hid hown4; have HK4 : Hid (Kept w w4) := Below.grown HK3.out hg4 (Below.size HK3.out) (fun j e => by cases e; exact HB.out); clear hown4 hg4))
                go_roundw
                case rel => exact ⟨k + 1, n, D, by omega, by go_num, HK3, HO3, by show MapIs _ _; rw [HF.out]; exact hD.out, Nat.le_trans hn.out (by omega)⟩
                case measure => simp [intOf]; omega
              · have HF : Hid (Fm (k + 1) = rput (Fm k) (lb (expN xa, xb))) := by show _ = _; rw [hst]; unfold exp1; rw [if_pos (by rw [hdec, hN, hh]; simp)]
                rw [hN] at CN
                rw [← HF.out] at hput
                have Hh := Lib.hid hhas
                clear hN hh hhas hst hdec hnx HF
                generalize idxFrom xa 0 L = ii at *
                clear hi
                generalize expN xa = xn at *
                go_wp2_with (first
                  | (refine wpList_load_at rfl 33 (.tmp 28) rfl (ad.add (k * 2)) rfl #[.string (xa, xb).1, .string (xa, xb).2] _ Hcl.out Tryz.underlying33 rfl sizeL ?_)
                  | (go_at_call 65; refine (CI'.out _ K1'.out).mono ?_; rintro e w2 ⟨rfl, hk2⟩; have HK2 := Lib.hid (below_kept K1'.out hk2); have HO2 := Lib.hid (hown1.out.kept (grown_of_below hk2) (by simp)); have hq0 : w2.cell? ⟨wr.heap.size, 0, none⟩ = some (.string xa) := (by rw [cell_of_row _ _ _ _ _ _ (heap_kept hk2 M1.out)]; rfl); have hq1 : w2.cell? ⟨wr.heap.size, 1, none⟩ = some (.string xb) := (by rw [cell_of_row _ _ _ _ _ _ (heap_kept hk2 M1.out)]; rfl); have Hr2 := Lib.hid (heap_kept hk2 M1.out); clear hk2)
                  | (at_lookup; refine wpList_lookup_own_strok _ rfl _ _ 95 rfl 9 9 skey Tryz.underlying95 Tryz.underlying9 (zstr _) b n D rfl HO2.out _ _ rfl Hka.out _ Hh.out ?_; intro s0)
                  | (go_at_call 42; refine (CN.out _).mono ?_; rintro e w3 ⟨rfl, hk3⟩; have HK3 := Lib.hid (below_kept HK2.out hk3); have HO3 := Lib.hid (HO2.out.kept (grown_of_below hk3) (by simp)); have hq3 : w3.cell? ⟨wr.heap.size, 1, none⟩ = some (.string xb) := (by rw [cell_of_row _ _ _ _ _ _ (heap_kept hk3 Hr2.out)]; rfl); clear hk3)
                  | (at_mapUpdate; refine wpList_mapUpdate_own _ rfl _ _ _ 95 rfl 9 9 skey Tryz.underlying95 PE b n D rfl HO3.out Hbn.out _ _ _ rfl rfl Hka.out _ [] Hvb.out ?_; intro w4 hown4 hg4; have Hown4 := Lib.hid hown4; have HK4 : Hid (Kept w w4) := Below.grown HK3.out hg4 (Below.size HK3.out) (fun j e => by cases e; exact HB.out); clear hown4 hg4))
                go_roundw
                case rel => exact ⟨k + 1, n + 1, _, by omega, by go_num, HK4, Hown4, hput, by have := hn.out; show _ ≤ _; omega⟩
                case measure => simp [intOf]; omega
            · rw [hh] at hhas
              have HF : Hid (Fm (k + 1) = Fm k) := by show _ = _; rw [hst]; unfold exp1; rw [if_neg (by rw [hdec, hh]; simp)]
              have Hh := Lib.hid hhas
              clear hh hhas hst hdec hnx hput CN
              generalize idxFrom xa 0 L = ii at *
              clear hi
              generalize expN xa = xn at *
              go_wp2_with (first
                  | (refine wpList_load_at rfl 33 (.tmp 28) rfl (ad.add (k * 2)) rfl #[.string (xa, xb).1, .string (xa, xb).2] _ Hcl.out Tryz.underlying33 rfl sizeL ?_)
                  | (go_at_call 65; refine (CI'.out _ K1'.out).mono ?_; rintro e w2 ⟨rfl, hk2⟩; have HK2 := Lib.hid (below_kept K1'.out hk2); have HO2 := Lib.hid (hown1.out.kept (grown_of_below hk2) (by simp)); have hq0 : w2.cell? ⟨wr.heap.size, 0, none⟩ = some (.string xa) := (by rw [cell_of_row _ _ _ _ _ _ (heap_kept hk2 M1.out)]; rfl); have hq1 : w2.cell? ⟨wr.heap.size, 1, none⟩ = some (.string xb) := (by rw [cell_of_row _ _ _ _ _ _ (heap_kept hk2 M1.out)]; rfl); have Hr2 := Lib.hid (heap_kept hk2 M1.out); clear hk2)
                  | (at_lookup; refine wpList_lookup_own_strok _ rfl _ _ 95 rfl 9 9 skey Tryz.underlying95 Tryz.underlying9 (zstr _) b n D rfl HO2.out _ _ rfl Hka.out _ Hh.out ?_; intro s0)
                  | (go_at_call 42; refine (CN.out _).mono ?_; rintro e w3 ⟨rfl, hk3⟩; have HK3 := Lib.hid (below_kept HK2.out hk3); have HO3 := Lib.hid (HO2.out.kept (grown_of_below hk3) (by simp)); have hq3 : w3.cell? ⟨wr.heap.size, 1, none⟩ = some (.string xb) := (by rw [cell_of_row _ _ _ _ _ _ (heap_kept hk3 Hr2.out)]; rfl); clear hk3)
                  | (at_mapUpdate; refine wpList_mapUpdate_own _ rfl _ _ _ 95 rfl 9 9 skey Tryz.underlying95 PE b n D rfl HO3.out Hbn.out _ _ _ rfl rfl Hka.out _ [] Hvb.out ?_; intro w4 hown4 hg4; have Hown4 := Lib.hid hown4; have HK4 : Hid (Kept w w4) := Below.grown HK3.out hg4 (Below.size HK3.out) (fun j e => by cases e; exact HB.out); clear hown4 hg4))
              go_roundw
              case rel => exact ⟨k + 1, n, D, by omega, by go_num, HK2, HO2, by show MapIs _ _; rw [HF.out]; exact hD.out, Nat.le_trans hn.out (by omega)⟩
              case measure => simp [intOf]; omega
          · have hF : Fm (k + 1) = Fm k := by rw [hst]; unfold exp1; rw [if_neg (by rintro ⟨h, _⟩; exact hi h)]
            have HF := Lib.hid hF
            have CI' : Hid (∀ W, Kept w W → Calls Tryz.prog 65 #[.slice A L.length c, .string xa] W fun e w' => e = .returned (.int .i64 (idxFrom xa 0 L)) ∧ Kept W w') := fun W h => CI.out W xa h
            generalize idxFrom xa 0 L = ii at *
            have hii : ii < 0 := by omega
            clear hi hF hst
            go_wp2_with (first
              | (refine wpList_load_at rfl 33 (.tmp 28) rfl (ad.add (k * 2)) rfl #[.string (xa, xb).1, .string (xa, xb).2] _ Hcl.out Tryz.underlying33 rfl sizeL ?_)
              | (go_at_call 65; refine (CI'.out _ K1'.out).mono ?_; rintro e w2 ⟨rfl, hk2⟩; have HK2 := Lib.hid (below_kept K1'.out hk2); have HO2 := Lib.hid (hown1.out.kept (grown_of_below hk2) (by simp)); clear hk2))
            go_roundw
            case rel => exact ⟨k + 1, n, D, by omega, by go_num, HK2, HO2, by show MapIs _ _; rw [HF.out]; exact hD.out, Nat.le_trans hn.out (by omega)⟩
            case measure => simp [intOf]; omega
        · obtain rfl : k = nE := by omega
          have CS := Lib.hid (sortedV_any b n D (Fm k) wr hown.out hD.out (Hsr.out k) Hsm.out Hlen.out)
          go_wp2_with (go_at_call 63; refine CS.out.mono ?_; rintro e w4 ⟨v, x, rfl, h4, hk⟩; have H4 := Lib.hid h4; have HK4 := Lib.hid (below_kept hkr.out hk); clear h4 hk)
          go_ret2
          exact ⟨_, _, rfl, H4.out.more (Below.size hkr.out), HK4.out⟩
end Go.Proofs.YtlhekeokognhmaaGreatDoor
