/-
  The labels that a map makes, in order. What sorted makes of a map.
-/
import Derived.Test.YtlhekeokognhmaaDoorMgaj
import Derived.Sort.OwnSorted
import Derived.OwnWalk
import Derived.Maps.AppendAt
namespace Go.Proofs.YtlhekeokognhmaaDoor
open Go.RowKit Go.Shelf Go.Maps Go.Sort
theorem sorts77 (m : Nat) : AnyZ.SortsIn Tryd.prog laySorted_ren Fence.wide m :=
  ⟨fun blk off cap ss W hH hblk hsz => callsIn_wide.2 (AnyM.slices_Sort_string laySort blk off cap ss W hH hblk hsz),
   fun p cap W => callsIn_wide.2 (AnyM.slices_Sort_string_none laySort p cap W)⟩
theorem keys_any (mb : Option Nat) (W : World) : Calls Tryd.prog 78 #[.map mb] W fun e w' => e = .returned (.func (.func 96) #[] #[.pointer (some ⟨W.heap.size, 0, none⟩)]) ∧ w' = W.alloc (.cells #[.map mb] 72) :=
  callsIn_wide.1 (AnyZ.keys_in layKeys Fence.wide 5 trivial rfl mb W)
set_option maxHeartbeats 1000000 in
theorem sortedKeys_any {H : Type} (b nn : Nat) (D0 : DataW H) (R : Value → Option (DataW H × List MemPlace)) (w : World) (hown : w.ownsMap Tryd.prog 9 R b nn D0) (hmax : Maps.size D0 ≤ maxLen) (hbytes : Maps.size D0 * 16 ≤ 140737488355328) :
    Calls Tryd.prog 77 #[.func (.func 96) #[] #[.pointer (some ⟨w.heap.size, 0, none⟩)]] (w.alloc (.cells #[.map (some b)] 72)) fun e w' => ∃ (v : Value) (ss : List (List UInt8)), e = .returned v ∧ ss.Perm (strKeys D0) ∧
      w'.ownsRow (w.alloc (.cells #[.map (some b)] 72)).heap.size 9 1 v ss.length ((ss.mergeSort (fun x y => decide (x ≤ y))).map encStr) ∧ (v = .slice none 0 0 ↔ ss = []) ∧ Below (w.alloc (.cells #[.map (some b)] 72)).heap.size (w.alloc (.cells #[.map (some b)] 72)) w' := by
  have hbl := hown.lt
  have hseq : SeqGives Fence.wide 2 Tryd.prog 96 #[.pointer (some ⟨w.heap.size, 0, none⟩)] encStr (fun ss => ss.Perm (strKeys D0)) (Maps.size D0) (w.alloc (.cells #[.map (some b)] 72)) :=
    AnyZ.keys_gives (ρ := layKeys_ren) { layKeys with } Fence.wide _ trivial rfl (by omega) w.heap.size b nn D0 _ (by simp) (by simp) (by
      obtain ⟨es, clock, hb, Ft, hs, hD⟩ := hown
      exact ⟨es, clock, (Below.heap_alloc _ _ b hbl).trans hb, Ft, hs, hD⟩)
  exact callsIn_wide.1 (AnyZ.sorted_in laySorted Fence.wide 5 trivial trivial trivial trivial rfl (by omega) (sorts77 _) (enters_of Tryd.func95 (by kernel_rfl) rfl) 96 #[.pointer (some ⟨w.heap.size, 0, none⟩)] trivial (enters_of Tryd.func96 (by kernel_rfl) rfl) _ _ hmax hbytes _ hseq)
set_option maxRecDepth 100000 in
theorem fresh_any (a b : ByteArray) (ha : a.size ≤ 281474976710656) (hb : b.size ≤ 281474976710656) (w : World) : Calls Tryd.prog 79 #[.string a, .string b] w fun e w' => e = .returned (.agg #[.string a, .string b]) ∧ Kept w w' := by
  have CA := Lib.hid (fun W => sclone_any a W ha)
  have CB := Lib.hid (fun W => sclone_any b W hb)
  have K0 : Hid (Kept w (w.alloc (.cells #[.string ⟨#[]⟩, .string ⟨#[]⟩] 36))) := (Below.refl _ w).alloc (Nat.le_refl _) _
  have M0 : Hid ((w.alloc (.cells #[.string ⟨#[]⟩, .string ⟨#[]⟩] 36)).heap[w.heap.size]? = some (.cells #[.string ⟨#[]⟩, .string ⟨#[]⟩] 36 (0, 0))) := heap_alloc_new w _
  clear ha hb
  go_enter Tryd.func79, Tryd.ntmps79
  go_upto_region 1 with fail
  generalize w.alloc (.cells #[.string ⟨#[]⟩, .string ⟨#[]⟩] 36) = w1 at *
  obtain ⟨g, hg⟩ : ∃ g, g = w.heap.size := ⟨_, rfl⟩
  rw [← hg] at M0 ⊢
  have HG := Lib.hid hg
  clear hg
  go_wp2_with (first
    | (go_at_call 49; refine (CA.out _).mono ?_; rintro e w2 ⟨rfl, hk2⟩; have HK2 := Lib.hid hk2; clear hk2)
    | (go_at_call 49; refine (CB.out _).mono ?_; rintro e w3 ⟨rfl, hk3⟩; have HK3 := Lib.hid hk3; clear hk3)
    | ((refine wpList_store_row ?c0 36 (.tmp 4) (.tmp 9) ?c1 g #[.string a, .string b] ?c2 ?c3 _ _ (heap_kept HK3.out (heap_kept HK2.out M0.out)) ?c4 ?c5 ?c6 ?_); (case c0 => with_reducible rfl); (case c1 => with_reducible rfl); (case c2 => rfl); (case c3 => rfl); (case c4 => exact sizeL); (case c5 => rfl); (case c6 => simp [Value.oneCell'])))
  refine bodyPost_ret (results_cell_row Tryd.results79 _ _ g _ #[.string a, .string b] (0, 0) _ rfl (setRow_heap _ _ _ _ _ _ (heap_kept HK3.out (heap_kept HK2.out M0.out))) Tryd.underlying36 rfl sizeL) rfl ⟨rfl, ?_⟩
  exact below_setRow (Below.trans K0.out ((below_kept HK2.out HK3.out).mono (Below.size K0.out))) (by rw [HG.out]; exact Nat.le_refl _) _
theorem infoLab : (Tryd.prog.info? 36).map (fun i => (i.zero, i.size, i.bytes)) = some (some (.agg #[.string ⟨#[]⟩, .string ⟨#[]⟩]), 2, 32) := by kernel_rfl
theorem zstr (w : World) : (zeroValue 9).run Tryd.prog w = .ok (.string ⟨#[]⟩) w := by kernel_rfl
/-- A label of bytes, as strings. -/
abbrev bl (x : Lb) : Lab := (⟨x.1.toArray⟩, ⟨x.2.toArray⟩)
theorem lb_bl (x : Lb) : lb (bl x) = x := rfl
theorem bl_lb (x : Lab) : bl (lb x) = x := rfl
/-- The keys of a map that holds sorted labels. -/
theorem keys_of {w : World} {b n : Nat} {D : DataW H0} {m : List Lb} (hown : w.ownsMap Tryd.prog 9 PE b n D) (hD : MapIs D (find m)) (hs : Srt m) : (m.map (·.1)).Perm (strKeys D) := by
  obtain ⟨es, rfl, hp⟩ := hown.tidy skey
  obtain ⟨es', he, hk⟩ := hown.keysOf
  injection he with he
  subst he
  refine perm_strKeys hp (fun p hp' => ?_) ?_ fun x => ?_
  · obtain ⟨v, hv⟩ := hk p hp'
    obtain ⟨x, _, hx, _⟩ := Maps.keyOf_str Tryd.underlying9 hv
    exact ⟨x, hx⟩
  · exact List.pairwise_map.2 (List.Pairwise.imp (S := fun a b : Lb => a.1 ≠ b.1) (fun {a b} h e => str_lt_irrefl b.1 (by rw [← e] at h ⊢; exact h)) hs)
  · rw [(hD.2 x).1]
    exact find_isSome.symm
theorem keys_size {D : DataW H0} {m : List Lb} (hI : IsMap D) (h : (m.map (·.1)).Perm (strKeys D)) : Maps.size D = m.length := by
  obtain ⟨es, rfl⟩ := hI
  have := h.length_eq
  rw [List.length_map] at this
  rw [this]
  show es.length = (es.map _).length
  rw [List.length_map]
theorem keys_sorted {m : List Lb} (hs : Srt m) {ss : List Str} (h : ss.Perm (m.map (·.1))) : ss.mergeSort (fun x y => decide (x ≤ y)) = m.map (·.1) := by
  have h1 : ss.mergeSort leB = (m.map (·.1)).mergeSort leB := mergeSort_of_perm h
  have h2 : (m.map (·.1)).Pairwise fun a b => leB a b = true := List.pairwise_map.2 (hs.imp fun h => by simp only [leB, decide_eq_true_eq]; exact List.le_of_lt h)
  exact h1.trans (List.mergeSort_of_pairwise h2)
end Go.Proofs.YtlhekeokognhmaaDoor
namespace Go.Proofs.YtlhekeokognhmaaDoor
open Go.RowKit Go.Shelf Go.Maps Go.Sort
theorem wpList_lookup_own_str {P : Program} (w : World) {ops : Array Oper} {rest : List Oper} {o : Oper} {a : Act} {Q : Exit → Act → World → Prop}
    (hg : o.guard = none) (m x : Operand) (t : TypeId) (hop : o.op = Op.lookup t m x false)
    (k e : TypeId) (K : Keyed P k) (ht : P.underlying t = some (.map k e)) (he : P.underlying e = some .string) (hz : (zeroValue e).run P w = .ok (.string ⟨#[]⟩) w) (b n : Nat) (D : DataW H0)
    (hm : a.eval m = .map (some b)) (hown : w.ownsMap P k (plainElem P e) b n D) (key : Value) (kl : Lit) (hx : a.eval x = key) (hkey : keyOf P k key = some kl)
    (hK : ∀ s : ByteArray, D.atKey kl (.lit (.string [])) = .lit (.string s.data.toList) → wpList P ops Q rest (a.put o.dst (.string s)) w) :
    wpList P ops Q (o :: rest) a w := by
  refine wpList_plain hg fun K' hK' => ?_
  obtain ⟨v, ps, hrun, hv⟩ := hown.lookup K ht hz (plainElem_string he (s := ⟨#[]⟩) (Nat.zero_le _)) hkey
  obtain ⟨s, rfl, hc, _⟩ := _root_.Go.plainElem_string_inv he hv
  simp only [Prod.mk.injEq] at hc
  unfold Oper.wp
  simp [execOp, hop, hm, hx, hrun, Result.andThen]
  exact hK' _ _ (hK s hc.1)
section
variable {w w' : World} {base b2 n n2 : Nat} {e e2 : TypeId} {size size2 : Nat} {v v2 : Value} {xs xs2 : List Value}
/-- Rows of two types lie apart. -/
theorem own_apart (h : w.ownsRow base e size v n xs) (h2 : w.ownsRow b2 e2 size2 v2 n2 xs2) (hne : e ≠ e2) : v.ownBlock = none ∨ v.ownBlock ≠ v2.ownBlock := by
  rcases h.2 with ⟨rfl, _⟩ | ⟨g, cap, cur, rfl, _, hg, _⟩
  · exact .inl rfl
  · refine .inr fun eq => ?_
    rcases h2.2 with ⟨rfl, _⟩ | ⟨g2, cap2, cur2, rfl, _, hg2, _⟩
    · simp [Value.ownBlock] at eq
    · have eq : g = g2 := by simpa [Value.ownBlock] using eq
      rw [eq, hg2] at hg
      injection hg with hg
      injection hg with _ hg
      exact hne hg.symm
theorem own_map_apart {P : Program} {k : TypeId} {R : Value → Option (DataW H0 × List MemPlace)} {b m : Nat} {D : DataW H0} (h : w.ownsRow base e size v n xs) (hm : w.ownsMap P k R b m D) : some b ≠ v.ownBlock := by
  intro eq
  obtain ⟨es, clock, hb, _⟩ := hm
  rcases h.2 with ⟨rfl, _⟩ | ⟨g, cap, cur, rfl, _, hg, _⟩
  · simp [Value.ownBlock] at eq
  · have eq : b = g := by simpa [Value.ownBlock] using eq
    rw [eq, hg] at hb
    cases hb
theorem own_rd (h : w.ownsRow base e size v n xs) : ∃ A c, v = .slice A n c ∧ n ≤ c ∧ Rd w w.heap.size A (n * size) xs := by
  rcases h.2 with ⟨rfl, rfl⟩ | ⟨g, cap, cur, rfl, _, hg, hc, _⟩
  · have := h.1
    refine ⟨none, 0, rfl, Nat.le_refl _, by rw [h.1], fun h0 => by omega⟩
  · exact ⟨_, cap, rfl, hc, by rw [h.1], fun _ => ⟨_, rfl, heap_lt hg, h.cells (g := g) rfl⟩⟩
end
theorem labs_snoc (L : List Lab) (x : Lab) : labs (L ++ [x]) = labs L ++ [.string x.1, .string x.2] := by rw [labs_app]; rfl
set_option maxRecDepth 100000 in
set_option maxHeartbeats 2000000 in
theorem sorted_any (b n : Nat) (D : DataW H0) (m : List Lb) (w : World) (hown : w.ownsMap Tryd.prog 9 PE b n D) (hD : MapIs D (find m)) (hs : Srt m) (hsm : ∀ x ∈ m, x.1.length ≤ 1000 ∧ x.2.length ≤ 1024) (hm : m.length ≤ 1000000) :
    Calls Tryd.prog 46 #[.map (some b)] w fun e w' => ((64 < m.length ∧ e = .returned (.tuple #[.slice none 0 0, .int .i64 5])) ∨ (m.length ≤ 64 ∧ ∃ v, e = .returned (.tuple #[v, .int .i64 0]) ∧ w'.ownsRow w.heap.size 36 2 v m.length (labs (m.map bl)))) ∧ Kept w w' := by
  have hkp := keys_of hown hD hs
  have hsz : Maps.size D = m.length := keys_size hD.1 hkp
  have HO := Lib.hid hown
  have HD := Lib.hid hD
  have HS := Lib.hid hs
  have HM := Lib.hid hsm
  have HK := Lib.hid hkp
  obtain ⟨nm, hnm⟩ : ∃ k, k = m.length := ⟨_, rfl⟩
  have Hnm := Lib.hid hnm
  have HZ := Lib.hid hsz
  rw [← hnm] at hsz hm ⊢
  obtain ⟨i0, hi0, hz0, hz1, hz2⟩ := info_parts infoLab
  clear hown hD hs hsm hkp hnm hsz
  by_cases h64 : 64 < nm
  · have h64' : (64 : Int) < (nm : Int) := by omega
    have hlen : ((Maps.size D : Nat) : Int) = (nm : Int) := by rw [HZ.out, Hnm.out]
    go_enter Tryd.func46, Tryd.ntmps46
    go_wp2_with (at_len; refine wpList_len_own _ rfl _ 72 rfl 9 9 Tryd.underlying72 PE b n D rfl HO.out ?_; rw [hlen])
    go_ret2
    exact ⟨.inl ⟨h64, rfl⟩, Below.refl _ _⟩
  · have h64' : ¬ (64 : Int) < (nm : Int) := by omega
    have hlen : ((Maps.size D : Nat) : Int) = (nm : Int) := by rw [HZ.out, Hnm.out]
    have hb0 := Below.refl w.heap.size w
    go_enter Tryd.func46, Tryd.ntmps46
    go_upto_region 4 with (first
      | (at_len; refine wpList_len_own _ rfl _ 72 rfl 9 9 Tryd.underlying72 PE b n D rfl HO.out ?_; rw [hlen])
      | (refine wpList_make_own _ rfl _ _ 27 rfl w.heap.size 36 i0 _ 2 Tryd.underlying27 hi0 hz0 hz1 .i64 .i64 _ nm rfl rfl rfl (by rw [hz2]; omega) (by unfold maxLen; omega) (Nat.le_refl _) ?_; intro w1 hown1 hg1; have Hown1 := Lib.hid hown1; have HK1 : Hid (Kept w w1) := (hb0.grown hg1 (Nat.le_refl _) (fun j e => by cases e)); clear hown1 hg1))
    have hown1' := HO.out.kept (grown_of_below HK1.out) (by simp)
    have HO1 := Lib.hid hown1'
    have CS : Hid (Calls Tryd.prog 77 #[.func (.func 96) #[] #[.pointer (some ⟨w1.heap.size, 0, none⟩)]] (w1.alloc (.cells #[.map (some b)] 72)) fun e w' => ∃ (Ak : Option Addr) (ck : Nat), e = .returned (.slice Ak nm ck) ∧
        w'.ownsRow (w1.alloc (.cells #[.map (some b)] 72)).heap.size 9 1 (.slice Ak nm ck) nm ((m.map (·.1)).map encStr) ∧ Kept (w1.alloc (.cells #[.map (some b)] 72)) w') := by
      refine (sortedKeys_any b n D PE w1 hown1' (by rw [HZ.out, ← Hnm.out]; unfold maxLen; omega) (by rw [HZ.out, ← Hnm.out]; omega)).mono ?_
      rintro e w3 ⟨vk, ss, rfl, hss, hrow, hnil, hk3⟩
      have hl : ss.length = nm := by rw [hss.length_eq, ← HK.out.length_eq, List.length_map]; exact Hnm.out.symm
      rw [hl, keys_sorted HS.out (hss.trans HK.out.symm)] at hrow
      obtain ⟨Ak, ck, rfl, hck⟩ := own_slice hrow
      exact ⟨Ak, ck, rfl, hrow, hk3⟩
    have K12 : Hid (Kept w1 (w1.alloc (.cells #[.map (some b)] 72))) := (Below.refl _ w1).alloc (Nat.le_refl _) _
    clear hown1'
    go_upto_region 5 with (first
      | (go_at_call 78; refine (keys_any _ _).mono ?_; rintro e w2 ⟨rfl, rfl⟩)
      | (go_at_call 77; refine CS.out.mono ?_; rintro e w3 ⟨Ak, ck, rfl, hrow, hk3⟩; have Hrow := Lib.hid hrow; have HK3 := Lib.hid (below_kept K12.out hk3); clear hrow hk3))
    have HRk : Hid (Rd w3 w3.heap.size Ak nm ((m.map (·.1)).map encStr)) := Rd.of_own Hrow.out
    have HO3 : Hid (w3.ownsMap Tryd.prog 9 PE b n D) := HO1.out.kept (grown_of_below HK3.out) (by simp)
    have Hown3 := Lib.hid (own_below Hown1.out HK3.out)
    have HK13 := Lib.hid (below_kept HK1.out HK3.out)
    have hge := Below.size HK1.out
    clear HK3 HO1 Hown1 HK1 CS K12 hb0
    go_loopw [4, 17] (fun v4 v17 wr => ∃ k : Nat, k ≤ nm ∧ v17 = .int .i64 k ∧ Hid (Kept w wr) ∧ Hid (wr.ownsMap Tryd.prog 9 PE b n D) ∧ Hid (wr.ownsRow w.heap.size 36 2 v4 k (labs ((m.take k).map bl))) ∧ Hid (∃ bs, wr.ownsRow bs 9 1 (.slice Ak nm ck) nm ((m.map (·.1)).map encStr))) (fun _ v17 _ => nm - (intOf v17).toNat)
    case atStart => exact ⟨0, by omega, rfl, HK13, HO3, Hown3, ⟨_, Hrow.out⟩⟩
    case round =>
      obtain ⟨k, hk, rfl, hkr, hmap, hown, hkeys⟩ := hrel
      by_cases hkn : k < nm
      · obtain ⟨bs, hrowr⟩ := hkeys.out
        obtain ⟨x, hx, hxm, htk⟩ : ∃ x, m[k]? = some x ∧ x ∈ m ∧ m.take (k + 1) = m.take k ++ [x] := by
          have hl : k < m.length := by rw [← Hnm.out]; exact hkn
          exact ⟨m[k], List.getElem?_eq_getElem hl, List.getElem_mem hl, by rw [List.take_add_one, List.getElem?_eq_getElem hl]; rfl⟩
        obtain ⟨gk, cap, he, _, hgk⟩ := hrowr.form (by omega)
        injection he with he1 _ he3
        subst he1 he3
        have hcell : wr.cell? ⟨gk, k, none⟩ = some (encStr x.1) := by
          rw [hrowr.cellAt k (by omega), List.getElem?_map, List.getElem?_map, hx]
          rfl
        have hadd : (⟨gk, 0, none⟩ : Addr).add k = ⟨gk, k, none⟩ := add0 gk k
        obtain ⟨hx1, hx2⟩ := HM.out x hxm
        have hfx : find m x.1 = some x.2 := find_of_mem HS.out hxm
        have hat : D.atKey (.string x.1) (.lit (.string [])) = .lit (.string x.2) := by rw [(HD.out.2 x.1).2, hfx]
        obtain ⟨sa, hsa⟩ : ∃ s : ByteArray, s = ⟨x.1.toArray⟩ := ⟨_, rfl⟩
        obtain ⟨sb, hsb⟩ : ∃ s : ByteArray, s = ⟨x.2.toArray⟩ := ⟨_, rfl⟩
        have hsaz : sa.size = x.1.length := by rw [hsa]; rfl
        have hsbz : sb.size = x.2.length := by rw [hsb]; rfl
        have hkey : keyOf Tryd.prog 9 (.string sa) = some (.string x.1) := by
          rw [Go.WideMaps.keyOf_string_mk Tryd.underlying9 (by rw [hsaz]; unfold maxLen; omega), hsa]
        have hce : encStr x.1 = .string sa := by rw [hsa]
        rw [hce] at hcell
        have Hbl : Hid (labs ((m.take (k + 1)).map bl) = labs ((m.take k).map bl) ++ [.string sa, .string sb]) := by
          show _ = _
          rw [htk, List.map_append, List.map_cons, List.map_nil, labs_snoc, hsa, hsb]
        have HF := Lib.hid (fun W => fresh_any sa sb (by omega) (by omega) W)
        have Hat : Hid (∀ s : ByteArray, D.atKey (.string x.1) (.lit (.string [])) = .lit (.string s.data.toList) → s = sb) := fun s h => by
          rw [hat] at h
          have h : x.2 = s.data.toList := by injection h with h; injection h
          rw [hsb, h]
        have Hkey := Lib.hid hkey
        have Hrowr := Lib.hid hrowr
        clear hx hxm htk hx1 hx2 hfx hat hsa hsb hkey hce hrowr hgk hkeys hsaz hsbz
        have HKa : Hid (∀ w2, Kept wr w2 → Kept w w2) := fun w2 h => below_kept hkr.out h
        go_wp2_with (first
          | (at_lookup; refine wpList_lookup_own_str _ rfl _ _ 72 rfl 9 9 skey Tryd.underlying72 Tryd.underlying9 (zstr _) b n D rfl hmap.out _ _ rfl Hkey.out ?_; intro s hsx; obtain rfl := Hat.out s hsx; clear hsx)
          | (go_at_call 79; refine (HF.out _).mono ?_; rintro e w2 ⟨rfl, hk2⟩; have HK2 := Lib.hid hk2; clear hk2)
          | (at_builtin; refine wpList_append_own_at _ rfl _ _ 27 rfl w.heap.size 36 i0 _ 2 32 Tryd.underlying27 hi0 hz0 hz1 hz2 rfl (by decide) u4 k (labs ((m.take k).map bl)) rfl ((own_below hown.out HK2.out).alloc _) ⟨w2.heap.size, 0, none⟩ 1 1 [.string sa, .string s] rfl rfl (cells_new w2 [.string sa, .string s] 36) (by intro u hu; simp at hu; rcases hu with rfl | rfl <;> rfl) (by unfold maxLen; omega) (by omega) (by have := Below.size (HKa.out _ HK2.out); simp; omega) ?_; intro v5 w5 hown5 hg5 hn5 hl5; have Hown5 := Lib.hid hown5; have HG5 := Lib.hid hg5; clear hown5 hg5 hn5 hl5))
        have HA2 := Lib.hid ((own_below hown.out HK2.out).alloc (.cells #[.string sa, .string s] 36))
        have HM2 : Hid ((w2.alloc (.cells #[.string sa, .string s] 36)).ownsMap Tryd.prog 9 PE b n D) := (hmap.out.kept (grown_of_below HK2.out) (by simp)).alloc _
        have HR2 := Lib.hid ((own_below Hrowr.out HK2.out).alloc (.cells #[.string sa, .string s] 36))
        have HKw : Hid (Kept w (w2.alloc (.cells #[.string sa, .string s] 36))) := below_alloc0 (HKa.out _ HK2.out) _
        go_roundw
        case rel =>
          refine ⟨k + 1, by omega, by go_num, Below.grown HKw.out HG5.out (Below.size HKw.out) (fun j e => (HA2.out.lt j e).1), HM2.out.kept HG5.out (own_map_apart HA2.out HM2.out), by show World.ownsRow _ _ _ _ _ _ _; rw [Hbl.out]; exact Hown5.out, ⟨_, HR2.out.kept HG5.out ?_⟩⟩
          rcases own_apart HR2.out HA2.out (by decide) with h | h
          · exact .inl h
          · exact .inr h
        case measure => simp [intOf]; omega
      · obtain rfl : k = nm := by omega
        go_wp2_with fail
        go_ret2
        have e : m.take k = m := List.take_of_length_le (by rw [← Hnm.out]; exact Nat.le_refl _)
        have h1 := hown.out
        rw [e] at h1
        exact ⟨.inr ⟨by omega, _, rfl, h1⟩, hkr.out⟩
end Go.Proofs.YtlhekeokognhmaaDoor
