/- The walk of CacheNet of layer 8; conditions: none. -/
import Derived.Test.YtboimmfegeinaaaChl
namespace Go.Proofs.Ytboimmfegeinaaa
namespace Chm
open Go Go.RowKit Sx Lab Vec Ojt Evt
attribute [local irreducible] Go.Calls

/-- Each object's charge lies somewhere in the pool. -/
def PoolH (pool : Hp) (ps : List PO) : Prop := ∀ p ∈ ps, ∃ l R, Cut pool l R ∧ KO p l
theorem pool_at {E : Env} {H R pool : Hp} {w : World} {ps : List PO} (h : RepH E H w) (hc : Cut H pool R) (hp : PoolH pool ps) : ∀ p ∈ ps, ResAt w p.1 p.2.rs := fun p hp2 => by
  obtain ⟨l, R', c, k⟩ := hp p hp2
  exact h.oldr k (hc.trans c)
theorem PoolH.app {pool : Hp} {ps : List PO} (ls : Hp) (h : PoolH pool ps) : PoolH (ls ++ pool) ps := fun p hp => by
  obtain ⟨l, R, c, k⟩ := h p hp
  exact ⟨l, _, Cut.skipA ls c, k⟩
theorem cut_app {ls l R : Hp} (pool : Hp) (h : Cut ls l R) : Cut (ls ++ pool) l (R ++ pool) := by
  unfold Cut at *
  rw [← List.append_assoc]
  exact List.Perm.append_right pool h
theorem pool_parts {ls : Hp} {dp : List PD} (pool : Hp) (h : Parts KD ls dp) {d : PD} (hd : d ∈ dp) : (∃ l R, Cut (ls ++ pool) l R ∧ KO d.old l) ∧ ∃ l R, Cut (ls ++ pool) l R ∧ KO d.new l := by
  obtain ⟨l, R, c, l1, l2, rfl, k1, k2⟩ := h.at hd
  exact ⟨⟨l1, _, cut_app pool c.fst, k1⟩, ⟨l2, _, cut_app pool c.snd, k2⟩⟩
theorem chAt2 {E : Env} {H R1 R2 lo pool : Hp} {w : World} {go : Nat} {v : Value} {ps : List PO} (h : RepH E H w) (hb : Has H go (.cells #[v, .slice none 0 0, I 0] 51 (0, 0))) (hlo : RowB 40 8 v lo ps.length (ps.flatMap cellsO)) (c1 : Cut H lo R1) (hp : PoolH pool ps) (c2 : Cut H pool R2) :
    ChAt w go v ps (.slice none 0 0) [] 0 := by
  have hg := (h.has hb).2
  have hg2 : w.heap[go]? = some (.cells (List.toArray [v, .slice none 0 0, I 0]) 51 (0, 0)) := hg
  exact ⟨(Array.getElem?_eq_some_iff.1 hg).1, by rw [cell_of hg2]; rfl, by rw [cell_of hg2]; rfl, by rw [cell_of hg2]; rfl, objs_old h hlo c1 (pool_at h c2 hp), OldRow.nil⟩
theorem sl_part {α : Type} {f : α → List Value} {sz off : Nat} {z : Int} {cs vs : List Value} {d : α} (hc : ∀ (r : Nat) u, (f d)[r]? = some u → cs[0 + z.toNat * sz + r]? = some u) (hv : ∀ (j : Nat) u, vs[j]? = some u → (f d)[off + j]? = some u) (hl : 0 < vs.length) : sl (0 + z.toNat * sz + off) vs.length cs = some vs :=
  sl_of (.inl hl) fun j u hj => by rw [Nat.add_assoc]; exact hc _ u (hv j u hj)
/-- The deltas that are left, played on what there is, make what there is to be. -/
def Left (own : List Ob) (ds : List De) (to : List Ob) : Prop := playsO own ds ∧ (madeO own ds).Perm to
theorem obs_play (ps : List PO) (d : PD) : obs (withoutP ps d.key ++ (if d.has = true then [d.new] else [])) = playO (obs ps) (deD d) := by
  unfold playO
  rw [woO_obs]
  show List.map _ _ = _
  rw [List.map_append]
  congr 1
  cases h : d.has <;> simp [deD, h]

theorem PoolH.appR {pool : Hp} {ps : List PO} (ls : Hp) (h : PoolH pool ps) : PoolH (pool ++ ls) ps := fun p hp => by
  obtain ⟨l, R, c, k⟩ := h p hp
  exact ⟨l, _, cut_app ls c, k⟩
theorem permG {α : Type} (d a : List α) (x : α) (b p : List α) : (d ++ (a ++ (x :: (b ++ (p ++ []))))).Perm (a ++ (x :: (b ++ (p ++ d)))) := by
  rw [List.append_nil]
  have := List.perm_append_comm (l₁ := d) (l₂ := a ++ (x :: (b ++ p)))
  simpa only [List.append_assoc, List.cons_append] using this
theorem permI {α : Type} (l b q : List α) (x y : α) : (l ++ (x :: (b ++ (y :: q)))).Perm ([x] ++ (b ++ (y :: (l ++ q)))) :=
  List.perm_middle.trans (((List.perm_append_comm_assoc l b _).trans (List.Perm.append_left b List.perm_middle)).cons x)
set_option maxHeartbeats 64000000 in
theorem net_ok (v : Value) (es : List PE) (hn : ∀ e ∈ es, numE e) (w : World) (hv : EvsAt w v es) : Calls Try.prog 4 #[v] w fun e w' => e = .returned (.bool true) ∧ Below w.heap.size w w' := by
  have hfit := fun w' (hb : Below w.heap.size w w') => fits8_ok v es w' (hv.below hb)
  obtain ⟨a, cp, rfl, hat⟩ := OldRow.cells cellsE_len hv.1
  refine calls1 (args := [.slice a es.length cp]) Try.func4 rfl rfl rfl rfl ?_
  cases hq : fitEs es
  · rw [hq] at hfit
    repeat' (first | refine aw_seq ?_ | refine zz ?_ | refine zon fun _ => ?_ | refine zoa fun vr lr hr => ?_ | ((first | apply ao_call | apply aq_call); exact wants_a; (first | exact oc_func rfl | exact oc_clos rfl rfl); (exact rfl); (first | exact fun w hw => hfit w hw.below | exact fun w hw => palive_ok w)) | refine zoS (fun _ => ?_) (fun _ => ?_) | refine zqS (fun _ => ?_) (fun _ => ?_) | refine zwS (fun _ => ?_) (fun _ => ?_))
    exact fun w' hw => ⟨rfl, hw.below⟩
  rw [hq] at hfit
  obtain ⟨h60, hwf⟩ := fitEs_wf hq hn
  repeat' (first | refine aw_seq ?_ | refine zz ?_ | refine zon fun _ => ?_ | refine zoa fun vr lr hr => ?_ | ((first | apply ao_call | apply aq_call); exact wants_a; (first | exact oc_func rfl | exact oc_clos rfl rfl); (exact rfl); (first | exact fun w hw => hfit w hw.below)) | ((apply ao_callD; exact wants_a; (exact oc_func rfl); (exact rfl); (intro w hw; exact pnew_ok w); intro vr lr hr)) | refine zoS (fun _ => ?_) (fun _ => ?_) | refine zqS (fun _ => ?_) (fun _ => ?_) | refine zwS (fun _ => ?_) (fun _ => ?_))
  obtain ⟨g, hvr, hL⟩ := hr
  subst hvr
  refine aw_for (t0 := [(0, .slice a es.length cp), (4, .pointer (some ⟨g, 0, none⟩)), (5, .pointer (some ⟨_, 0, none⟩)), (6, I (0 : Nat))]) (fun q t H => ∃ (i go : Nat) (st : St) (l : Hp) (ps : List PO) (vo : Value) (lo pool : Hp), q = es.length - i ∧ i ≤ es.length ∧ LCh st g l ∧ FitSt st ∧ st.gs.length ≤ i ∧ (obs ps).Perm st.os ∧ RowB 40 8 vo lo ps.length (ps.flatMap cellsO) ∧ PoolH pool ps ∧
      t = [(0, .slice a es.length cp), (4, .pointer (some ⟨g, 0, none⟩)), (5, .pointer (some ⟨go, 0, none⟩)), (6, I i)] ∧ H.Perm (l ++ ((go, .cells #[vo, .slice none 0 0, I 0] 51 (0, 0)) :: (lo ++ pool))))
    ⟨0, _, .new, lr, [], _, [], [], rfl, by omega, hL, fit_new, Nat.le_refl _, List.Perm.refl _, RowB.nil, (fun p h => by cases h), rfl, by rw [List.append_nil]; exact List.perm_append_comm (l₁ := [_])⟩ (by repeat (first | exact sub_nil | refine sub_cons rfl ?_)) ?_
  clear hL
  rintro q t H ⟨i, go, st, l, ps, vo, lo, pool, rfl, hi, hL, hF, hgl, hperm0, hlo, hpool, rfl, hperm⟩
  refine aw_permH hperm ?_
  clear hperm
  have hlen0 : ps.length ≤ 1000 := by have := hperm0.length_eq; rw [obs_len] at this; have := hF.os; omega
  have hwl0 : ∀ p ∈ ps, wfS p.2 := fun p hp => hF.wf _ (hperm0.mem_iff.1 (List.mem_map.2 ⟨p, hp, rfl⟩))
  by_cases hlt : i < es.length
  · obtain ⟨⟨kind, ⟨x, o⟩, ver, v2, qs⟩, he⟩ := getP hlt
    have m1 := List.mem_of_getElem? he
    obtain ⟨hwo, hw2, hl3⟩ := hwf _ m1
    obtain ⟨ho, hv2⟩ := hv.2 _ m1
    simp only at hwo hw2 hl3 ho hv2
    obtain ⟨ga, o1, rfl, hg, hc⟩ := hat i _ (i : Int) he rfl
    have cA : ∀ (j : Nat) z, [I kind, S o.k, S o.s, S o.n, I o.ver, S o.c, .bool o.tm, .bool o.bs, x, I ver, v2][j]? = some z → w.cell? ⟨ga, o1 + (i : Int).toNat * 11 + j, none⟩ = some z := hc
    have hpa := fun m R => papply_ok (m := m) (w0 := w) hL hF kind (x, o) ver v2 qs hwo hw2 (by omega) ho hv2 R
    obtain ⟨hG, hgn⟩ := fit_ap hF (by omega) (kind := kind) (ver := ver) (qs := obs qs) hwo (by rw [obs_len]; omega) (obs_wf hw2)
    have hleft : Left (obs ps) (apO st kind o ver (obs qs)).2.1 (apO st kind o ver (obs qs)).2.2.os := ap_plays hF.fine hperm0
    have hrise : (apO st kind o ver (obs qs)).2.1.Pairwise (fun d e => lessK d.key e.key = true) ∧ (apO st kind o ver (obs qs)).2.1.length ≤ 2000 ∧ ∀ d ∈ (apO st kind o ver (obs qs)).2.1, wfS d.old ∧ wfS d.new := by
      rcases ap_cases st kind o ver (obs qs) with ⟨-, e1, -⟩ | ⟨-, h1, -, e1, e2⟩
      · rw [e1]; exact ⟨List.Pairwise.nil, by simp, (fun d h => by cases h)⟩
      · rw [e2] at hG
        rw [e1]
        have hb := dlP_is (bareP st.os) (bareP (nxO st kind o ver (obs qs)).os)
        rw [bare_obs, bare_obs] at hb
        refine ⟨(dl_keys _ _ hF.fine.os (nxO_fine hF.fine h1).os).2, ?_, fun d hd => ?_⟩
        · have h2 := congrArg List.length hb
          rw [List.length_map] at h2
          have h3 := dlP_len (bareP st.os) (bareP (nxO st kind o ver (obs qs)).os)
          have h4 : (bareP st.os).length = st.os.length := List.length_map _
          have h5 : (bareP (nxO st kind o ver (obs qs)).os).length = (nxO st kind o ver (obs qs)).os.length := List.length_map _
          have := hF.os
          have := hG.os
          omega
        · rw [← hb] at hd
          obtain ⟨e, he2, rfl⟩ := List.mem_map.1 hd
          obtain ⟨q1, q2⟩ := dlP_mem _ _ e he2
          have hz : wfS zO := by simp [wfS, wfR]
          constructor
          · rcases q1 with h | h
            · show wfS e.old.2; rw [h]; exact hz
            · obtain ⟨z, hz2, e3⟩ := List.mem_map.1 h; show wfS e.old.2; rw [← e3]; exact hF.wf z hz2
          · rcases q2 with h | h
            · show wfS e.new.2; rw [h]; exact hz
            · obtain ⟨z, hz2, e3⟩ := List.mem_map.1 h; show wfS e.new.2; rw [← e3]; exact hG.wf z hz2
    simp only at hpa
    generalize apO st kind o ver (obs qs) = X at hpa hG hgn hleft hrise
    obtain ⟨er, dd, st2⟩ := X
    simp only at hpa hG hgn hleft hrise
    repeat' (first | refine aw_seq ?_ | ((first | apply ao_val | apply aq_val); exact wants_a; (first | exact ov_load_oa rfl hg cA rfl | exact ov_a); (exact rfl)) | refine zy ?_ | refine zon fun _ => ?_ | refine zoa fun vr lr hr => ?_ | ((apply ao_callH (l := l); exact wants_a; (exact oc_func rfl); (exact rfl); (exact Cut.here); (exact hpa _ _); rintro _ _ ⟨rd, ld, l2, rfl, rfl, hL2, hD⟩)) | refine zoS (fun _ => ?_) (fun _ => ?_) | refine zqS (fun _ => ?_) (fun _ => ?_) | refine zwS (fun _ => ?_) (fun _ => ?_))
    obtain ⟨dp, ld0, ls, hdp, rfl, hrow, hparts⟩ := hD
    subst hdp
    obtain ⟨hrise, hdlen, hwd⟩ := hrise
    rw [List.length_map] at hdlen
    obtain ⟨pl, hpl⟩ : ∃ pl, pl = ls ++ pool := ⟨_, rfl⟩
    have hpd : ∀ d ∈ dp, (∃ l R, Cut pl l R ∧ KO d.old l) ∧ ∃ l R, Cut pl l R ∧ KO d.new l := fun d hd => by rw [hpl]; exact pool_parts pool hparts hd
    have hpool2 : PoolH pl ps := by rw [hpl]; exact hpool.app ls
    refine aw_permH (H' := ld0 ++ (l2 ++ ((go, .cells #[vo, .slice none 0 0, I 0] 51 (0, 0)) :: (lo ++ (pl ++ []))))) ?_ ?_
    · rw [List.append_nil, hpl, List.append_assoc]
      refine List.Perm.append_left ld0 ?_
      have := List.perm_append_comm_assoc ls (l2 ++ ((go, Obj.cells #[vo, .slice none 0 0, I 0] 51 (0, 0)) :: lo)) pool
      simpa only [List.append_assoc, List.cons_append] using this
    clear hpl hparts hpool hpa hL hF hperm0
    obtain ⟨ax, cx, hzx⟩ := hrow.len
    subst hzx
    refine aw_for (t0 := [(0, .slice (some ⟨ga, o1, none⟩) es.length cp), (4, .pointer (some ⟨g, 0, none⟩)), (5, .pointer (some ⟨go, 0, none⟩)), (6, I i), (7, .slice ax dp.length cx), (9, I (0 : Nat))])
      (fun q t H => ∃ (n : Nat) (ps : List PO) (vo : Value) (lo : Hp), q = dp.length - n ∧ n ≤ dp.length ∧ Left (obs ps) ((dp.map deD).drop n) st2.os ∧ ps.length ≤ 1000 + n ∧ (∀ p ∈ ps, wfS p.2) ∧ RowB 40 8 vo lo ps.length (ps.flatMap cellsO) ∧ PoolH pl ps ∧
        t = [(0, .slice (some ⟨ga, o1, none⟩) es.length cp), (4, .pointer (some ⟨g, 0, none⟩)), (5, .pointer (some ⟨go, 0, none⟩)), (6, I i), (7, .slice ax dp.length cx), (9, I n)] ∧ H.Perm (ld0 ++ (l2 ++ ((go, .cells #[vo, .slice none 0 0, I 0] 51 (0, 0)) :: (lo ++ (pl ++ []))))))
      ⟨0, ps, vo, lo, rfl, by omega, hleft, by omega, hwl0, hlo, hpool2, rfl, List.Perm.refl _⟩ (by repeat (first | exact sub_nil | refine sub_cons rfl ?_)) ?_
    clear hleft hlo hpool2 hlen0 hwl0
    rintro q t H ⟨n, ps, vo, lo, rfl, hnl, hleft, hpn, hwp, hlo, hpool, rfl, hperm⟩
    refine aw_permH hperm ?_
    clear hperm
    obtain ⟨ao, co, hzo⟩ := hlo.len
    subst hzo
    by_cases hnd : n < dp.length
    · obtain ⟨⟨key, had, has, ⟨x, o⟩, ⟨y, m⟩⟩, hd⟩ := getP hnd
      have md := List.mem_of_getElem? hd
      obtain ⟨hwo2, hwm⟩ := hwd _ (List.mem_map.2 ⟨_, md, rfl⟩)
      simp only [deD] at hwo2 hwm
      obtain ⟨⟨lx, Rx, cx1, kx⟩, ⟨ly, Ry, cy1, ky⟩⟩ := hpd _ md
      simp only at kx ky
      obtain ⟨xa, xc, hx⟩ := kx.len
      obtain ⟨ya, yc, hy⟩ := ky.len
      simp only at hx hy
      subst hx hy
      have hdrop : (dp.map deD).drop n = ⟨key, had, has, o, m⟩ :: (dp.map deD).drop (n + 1) := by
        have hl : n < (dp.map deD).length := by rw [List.length_map]; exact hnd
        rw [List.drop_eq_getElem_cons hl]
        congr 1
        rw [List.getElem_map, (List.getElem?_eq_some_iff.1 hd).2]
        rfl
      rw [hdrop] at hleft
      obtain ⟨⟨⟨ht1, ht2, ht3, ht4⟩, hplay⟩, hmade⟩ := hleft
      simp only at ht1 ht2 ht3 ht4
      obtain ⟨gd, capd, csd, hzd, rfl, hcD0⟩ := hrow.cells_all cellsD_len (by omega)
      cases hzd
      have hcD := fun (r : Nat) u => hcD0 n _ (n : Int) r u hd rfl
      have slK : sl (0 + (n : Int).toNat * 21 + 0) 3 csd = some [S key.1, S key.2.1, S key.2.2] := sl_part (vs := [S key.1, S key.2.1, S key.2.2]) hcD (fun j u hj => by rcases j with _ | _ | _ | j <;> first | exact hj | simp at hj) (Nat.zero_lt_succ _)
      have cHad : csd[0 + (n : Int).toNat * 21 + 3]? = some (.bool had) := hcD 3 _ rfl
      have cHas : csd[0 + (n : Int).toNat * 21 + 4]? = some (.bool has) := hcD 4 _ rfl
      have slO : sl (0 + (n : Int).toNat * 21 + 5) 8 csd = some [S o.k, S o.s, S o.n, I o.ver, S o.c, .bool o.tm, .bool o.bs, .slice xa o.rs.length xc] := sl_part (vs := [S o.k, S o.s, S o.n, I o.ver, S o.c, .bool o.tm, .bool o.bs, .slice xa o.rs.length xc]) hcD (fun j u hj => by rcases j with _ | _ | _ | _ | _ | _ | _ | _ | j <;> first | exact hj | simp at hj) (Nat.zero_lt_succ _)
      have slN : sl (0 + (n : Int).toNat * 21 + 13) 8 csd = some [S m.k, S m.s, S m.n, I m.ver, S m.c, .bool m.tm, .bool m.bs, .slice ya m.rs.length yc] := sl_part (vs := [S m.k, S m.s, S m.n, I m.ver, S m.c, .bool m.tm, .bool m.bs, .slice ya m.rs.length yc]) hcD (fun j u hj => by rcases j with _ | _ | _ | _ | _ | _ | _ | _ | j <;> first | exact hj | simp at hj) (Nat.zero_lt_succ _)
      have slNK : sl (0 + (n : Int).toNat * 21 + 13 + 0) 3 csd = some [S m.k, S m.s, S m.n] := sl_part (off := 13 + 0) (vs := [S m.k, S m.s, S m.n]) hcD (fun j u hj => by rcases j with _ | _ | _ | j <;> first | exact hj | simp at hj) (Nat.zero_lt_succ _)
      refine aw_permH (H' := (gd, .cells csd.toArray 53 (0, 0)) :: (l2 ++ ((go, .cells #[.slice ao ps.length co, .slice none 0 0, I 0] 51 (0, 0)) :: (lo ++ (pl ++ []))))) (List.Perm.refl _) ?_
      have hprev : ∀ j : Nat, n = j + 1 → ∃ kp : Kt, sl (0 + ((n : Int) - 1).toNat * 21 + 0) 3 csd = some [S kp.1, S kp.2.1, S kp.2.2] ∧ eqAll [S kp.1, S kp.2.1, S kp.2.2] [S key.1, S key.2.1, S key.2.2] = false := fun j hj => by
        obtain ⟨dq, hdq⟩ := getP (show j < dp.length by omega)
        refine ⟨dq.key, sl_part (vs := [S dq.key.1, S dq.key.2.1, S dq.key.2.2]) (fun r u => hcD0 j _ ((n : Int) - 1) r u hdq (by omega)) (fun j u hj => by rcases j with _ | _ | _ | j <;> first | exact hj | simp at hj) (Nat.zero_lt_succ _), ?_⟩
        rw [key_eq, decide_eq_false]
        intro e
        have hl1 : j < (dp.map deD).length := by rw [List.length_map]; omega
        have hl2 : n < (dp.map deD).length := by rw [List.length_map]; omega
        have hr := List.pairwise_iff_getElem.1 hrise j n hl1 hl2 (by omega)
        rw [List.getElem_map, List.getElem_map, (List.getElem?_eq_some_iff.1 hdq).2, (List.getElem?_eq_some_iff.1 hd).2] at hr
        exact lessK_ne hr e
      obtain ⟨za, zc, hgv, hzr⟩ : ∃ za zc, getV (findK ps key) = .tuple #[OV o (.slice za o.rs.length zc), .bool had] ∧ ∀ {E : Env} {H R : Hp} w', RepH E H w' → Cut H pl R → ResAt w' (.slice za o.rs.length zc) o.rs := by
        rw [getO_obs] at ht1
        cases hfk : findK ps key with
        | none =>
          rw [hfk] at ht1
          have ht : had = false ∧ o = zO := ht1
          obtain ⟨rfl, rfl⟩ := ht
          exact ⟨none, 0, rfl, fun w' _ _ => OldRow.nil⟩
        | some own =>
          obtain ⟨z, r⟩ := own
          rw [hfk] at ht1
          have ht : had = true ∧ o = r := ht1
          obtain ⟨rfl, rfl⟩ := ht
          obtain ⟨lz, Rz, cz, kz⟩ := hpool _ (List.mem_of_find?_eq_some hfk)
          obtain ⟨za, zc, hz⟩ := kz.len
          simp only at hz
          subst hz
          exact ⟨za, zc, rfl, fun w' hw hc => hw.oldr kz (hc.trans cz)⟩
      have hrg := fun w' (h : ChAt w' go (.slice ao ps.length co) ps (.slice none 0 0) [] 0) => rget_ok go _ ps _ [] 0 key (by omega) w' h
      rw [hgv] at hrg
      have hs1 := fun {E : Env} {H R : Hp} w' (hw : RepH E H w') (hc : Cut H pl R) => Ojt.rsame_ok o o _ _ hwo2.wfO hwo2.wfO w' (hzr w' hw hc) (hw.oldr kx (hc.trans cx1))
      have hs2 := fun {E : Env} {H R : Hp} w' (hw : RepH E H w') (hc : Cut H pl R) => Ojt.rsame_ok o m _ _ hwo2.wfO hwm.wfO w' (hw.oldr kx (hc.trans cx1)) (hw.oldr ky (hc.trans cy1))
      simp only [same_eq, decide_true] at hs1
      simp only [same_eq] at hs2
      have hnk : has = true → (!(eqAll [S m.k, S m.s, S m.n] [S key.1, S key.2.1, S key.2.2])) = false := fun h => by
        rw [key_eq (keyO m) key, decide_eq_true (ht2 h)]; rfl
      generalize hSM : decide (o = m) = SM at hs2
      have hsm : ¬ (SM = true ∧ had = has) := fun h => by
        rw [← hSM, decide_eq_true_eq] at h
        exact ht4 h
      repeat' (first | refine aw_cutI_at (id := 18) (fun t H => t = [(0, .slice (some ⟨ga, o1, none⟩) es.length cp), (4, .pointer (some ⟨g, 0, none⟩)), (5, .pointer (some ⟨go, 0, none⟩)), (6, I i), (7, .slice (some ⟨gd, 0, none⟩) dp.length cx), (9, I n)] ∧ H = (gd, .cells csd.toArray 53 (0, 0)) :: (l2 ++ ((go, .cells #[.slice ao ps.length co, .slice none 0 0, I 0] 51 (0, 0)) :: (lo ++ (pl ++ []))))) ?_ ?_ | refine aw_cutI_at2 (id := 18) (fun t H => t = [(0, .slice (some ⟨ga, o1, none⟩) es.length cp), (4, .pointer (some ⟨g, 0, none⟩)), (5, .pointer (some ⟨go, 0, none⟩)), (6, I i), (7, .slice (some ⟨gd, 0, none⟩) dp.length cx), (9, I n)] ∧ H = (gd, .cells csd.toArray 53 (0, 0)) :: (l2 ++ ((go, .cells #[.slice ao ps.length co, .slice none 0 0, I 0] 51 (0, 0)) :: (lo ++ (pl ++ []))))) ?_ ?_ | refine aw_seq ?_ | ((first | apply ao_val | apply aq_val); exact wants_a; (first | exact ov_nilcheck rfl | exact ov_a); (exact rfl)) | refine zy ?_ | refine zon fun _ => ?_ | refine zoa fun vr lr hr => ?_ | ((first | apply ao_call | apply aq_call); exact wants_a; (first | exact oc_func rfl | exact oc_clos rfl rfl); (exact rfl); (first | exact fun w hw => hrg w (chAt2 hw has_a hlo cut_a hpool (cut_a : Cut _ pl _)) | exact fun w hw => hs1 w hw (cut_a : Cut _ pl _) | exact fun w hw => hs2 w hw (cut_a : Cut _ pl _))))
      · by_cases hn0 : n = 0
        · subst hn0
          cases SM <;> cases had <;> cases has
          all_goals first | exact absurd ⟨rfl, rfl⟩ hsm | skip
          all_goals try have hnk2 := hnk rfl
          all_goals
            repeat' (first | refine aw_seq ?_ | refine zz ?_ | refine zon fun _ => ?_ | refine zoa fun vr lr hr => ?_ | refine zoS (fun _ => ?_) (fun _ => ?_) | refine zqS (fun _ => ?_) (fun _ => ?_) | refine zwS (fun _ => ?_) (fun _ => ?_))
            exact ci_normal ⟨rfl, rfl⟩ (by repeat (first | exact sub_nil | refine sub_cons rfl ?_)) hsub_a
        · obtain ⟨kp, slP, hke⟩ := hprev (n - 1) (by omega)
          cases SM <;> cases had <;> cases has
          all_goals first | exact absurd ⟨rfl, rfl⟩ hsm | skip
          all_goals try have hnk2 := hnk rfl
          all_goals
            repeat' (first | refine aw_seq ?_ | refine zz ?_ | refine zon fun _ => ?_ | refine zoa fun vr lr hr => ?_ | refine zoS (fun _ => ?_) (fun _ => ?_) | refine zqS (fun _ => ?_) (fun _ => ?_) | refine zwS (fun _ => ?_) (fun _ => ?_))
            exact ci_normal ⟨rfl, rfl⟩ (by repeat (first | exact sub_nil | refine sub_cons rfl ?_)) hsub_a
      rintro t H ⟨rfl, rfl⟩
      clear hs1 hs2 hrg hzr hgv hprev hnk hsm slO slNK
      repeat' (first | refine aw_seq ?_ | ((first | apply ao_val | apply aq_val); exact wants_a; (first | exact ov_nilcheck rfl | exact ov_a); (exact rfl)) | refine zy ?_ | refine zon fun _ => ?_ | refine zoa fun vr lr hr => ?_)
      refine aw_for (t0 := [(0, .slice (some ⟨ga, o1, none⟩) es.length cp), (4, .pointer (some ⟨g, 0, none⟩)), (5, .pointer (some ⟨go, 0, none⟩)), (6, I i), (7, .slice (some ⟨gd, 0, none⟩) dp.length cx), (9, I n), (14, .slice none 0 0), (15, I (0 : Nat))]) (fun q t H => ∃ (k : Nat) (v14 : Value) (l14 : Hp) (nx : List PO), q = ps.length - k ∧ k ≤ ps.length ∧ nx = withoutP (ps.take k) key ∧ RowB 40 8 v14 l14 nx.length (nx.flatMap cellsO) ∧ t = [(0, .slice (some ⟨ga, o1, none⟩) es.length cp), (4, .pointer (some ⟨g, 0, none⟩)), (5, .pointer (some ⟨go, 0, none⟩)), (6, I i), (7, .slice (some ⟨gd, 0, none⟩) dp.length cx), (9, I n), (14, v14), (15, I k)] ∧ H = l14 ++ ((gd, .cells csd.toArray 53 (0, 0)) :: (l2 ++ ((go, .cells #[.slice ao ps.length co, .slice none 0 0, I 0] 51 (0, 0)) :: (lo ++ (pl ++ []))))))
        ⟨0, _, [], [], rfl, by omega, rfl, RowB.nil, rfl, rfl⟩ (by repeat (first | exact sub_nil | refine sub_cons rfl ?_)) ?_
      rintro q t H ⟨k, v14, l14, nx, rfl, hkl, hout, r14, rfl, rfl⟩
      have hln : nx.length ≤ k := by rw [hout]; exact Nat.le_trans (List.length_filter_le _ _) (List.length_take_le _ _)
      obtain ⟨a14, c14, h14⟩ := r14.len
      subst h14
      by_cases hk : k < ps.length
      · obtain ⟨⟨z, r⟩, he3⟩ := getP hk
        obtain ⟨lz, Rz, cz, kz⟩ := hpool _ (List.mem_of_getElem? he3)
        obtain ⟨za, zc, hz⟩ := kz.len
        simp only at hz
        subst hz
        obtain ⟨gl, capl, csl, hzl, rfl, hcL0⟩ := hlo.cells_all cellsO_len (by omega)
        cases hzl
        have hcL := fun (j : Nat) u => hcL0 k _ (k : Int) j u he3 rfl
        have slW : sl (0 + (k : Int).toNat * 8 + 0) 8 csl = some [S r.k, S r.s, S r.n, I r.ver, S r.c, .bool r.tm, .bool r.bs, .slice za r.rs.length zc] := sl_part (vs := [S r.k, S r.s, S r.n, I r.ver, S r.c, .bool r.tm, .bool r.bs, .slice za r.rs.length zc]) hcL (fun j u hj => by rcases j with _ | _ | _ | _ | _ | _ | _ | _ | j <;> first | exact hj | simp at hj) (Nat.zero_lt_succ _)
        have slW2 : sl (0 + (k : Int).toNat * 8) 8 csl = some [S r.k, S r.s, S r.n, I r.ver, S r.c, .bool r.tm, .bool r.bs, .slice za r.rs.length zc] := slW
        have slKo : sl (0 + (k : Int).toNat * 8 + 0) 3 csl = some [S r.k, S r.s, S r.n] := sl_part (vs := [S r.k, S r.s, S r.n]) hcL (fun j u hj => by rcases j with _ | _ | _ | j <;> first | exact hj | simp at hj) (Nat.zero_lt_succ _)
        have hke := key_eq (keyO r) key
        have hnx : withoutP (ps.take (k + 1)) key = nx ++ (if keyO r ≠ key then [((.slice za r.rs.length zc : Value), r)] else []) := by
          unfold withoutP at *
          rw [List.take_add_one, he3, List.filter_append, ← hout]
          by_cases hk : keyO r = key <;> simp [hk]
        refine aw_permH (H' := l14 ++ ((gd, .cells csd.toArray 53 (0, 0)) :: (l2 ++ ((go, .cells #[.slice (some ⟨gl, 0, none⟩) ps.length co, .slice none 0 0, I 0] 51 (0, 0)) :: ((gl, .cells csl.toArray 40 (0, 0)) :: (pl ++ [])))))) (List.Perm.refl _) ?_
        by_cases hk2 : keyO r = key
        · rw [if_neg (by simpa using hk2), List.append_nil] at hnx
          rw [decide_eq_true hk2] at hke
          repeat' (first | refine aw_seq ?_ | ((first | apply ao_val | apply aq_val); exact wants_a; (first | exact ov_nilcheck rfl | exact ov_a); (exact rfl)) | refine zy ?_ | refine zon fun _ => ?_ | refine zoa fun vr lr hr => ?_ | refine zoS (fun _ => ?_) (fun _ => ?_) | refine zqS (fun _ => ?_) (fun _ => ?_) | refine zwS (fun _ => ?_) (fun _ => ?_))
          exact lq_normal' ⟨k + 1, _, _, nx, rfl, by omega, hnx.symm, r14, rfl, rfl⟩ (by omega) (by repeat (first | exact sub_nil | refine sub_cons rfl ?_)) hsub_a
        · rw [if_pos hk2] at hnx
          rw [decide_eq_false hk2] at hke
          repeat' (first | refine aw_seq ?_ | ((first | apply ao_val | apply aq_val); exact wants_a; (first | exact ov_nilcheck rfl | exact ov_a); (exact rfl)) | refine zy ?_ | refine zon fun _ => ?_ | refine zoa fun vr lr hr => ?_ | refine zoS (fun _ => ?_) (fun _ => ?_) | refine zqS (fun _ => ?_) (fun _ => ?_) | refine zwS (fun _ => ?_) (fun _ => ?_))
          exact lq_normal' ⟨k + 1, _, _, nx ++ [(_, r)], rfl, by omega, hnx.symm, row_o hr, rfl, rfl⟩ (by omega) (by repeat (first | exact sub_nil | refine sub_cons rfl ?_)) hsub_a
      · obtain rfl : k = ps.length := by omega
        rw [List.take_length] at hout
        subst hout
        have hwo3 : ∀ p ∈ withoutP ps key, p ∈ ps := fun p hp => (List.mem_filter.1 hp).1
        have hwl3 : (withoutP ps key).length ≤ ps.length := List.length_filter_le _ _
        cases has
        · repeat' (first | refine aw_seq ?_ | ((first | apply ao_val | apply aq_val); exact wants_a; (first | exact ov_nilcheck rfl | exact ov_a); (exact rfl)) | refine zy ?_ | refine zon fun _ => ?_ | refine zoa fun vr lr hr => ?_ | refine zoS (fun _ => ?_) (fun _ => ?_) | refine zqS (fun _ => ?_) (fun _ => ?_) | refine zwS (fun _ => ?_) (fun _ => ?_))
          have hob : obs (withoutP ps key) = playO (obs ps) ⟨key, had, false, o, m⟩ := (congrArg obs (List.append_nil _)).symm.trans (obs_play ps ⟨key, had, false, (.slice xa o.rs.length xc, o), (.slice ya m.rs.length yc, m)⟩)
          exact lq_normal' (H' := l14 ++ ((gd, .cells csd.toArray 53 (0, 0)) :: (l2 ++ ((go, .cells #[.slice a14 (withoutP ps key).length c14, .slice none 0 0, I 0] 51 (0, 0)) :: (pl ++ []))))) ⟨n + 1, withoutP ps key, _, l14, rfl, by omega, ⟨by rw [hob]; exact hplay, by rw [hob]; exact hmade⟩, by omega, fun p hp => hwp p (hwo3 p hp), r14, fun p hp => hpool p (hwo3 p hp), rfl, permI _ _ _ _ _⟩ (by omega) (by repeat (first | exact sub_nil | refine sub_cons rfl ?_)) hsub_a
        · repeat' (first | refine aw_seq ?_ | ((first | apply ao_val | apply aq_val); exact wants_a; (first | exact ov_nilcheck rfl | exact ov_a); (exact rfl)) | refine zy ?_ | refine zon fun _ => ?_ | refine zoa fun vr lr hr => ?_)
          obtain ⟨a15, c15, h15⟩ := hr.len
          subst h15
          repeat' (first | refine aw_seq ?_ | ((first | apply ao_val | apply aq_val); exact wants_a; (first | exact ov_nilcheck rfl | exact ov_a); (exact rfl)) | refine zy ?_ | refine zon fun _ => ?_ | refine zoa fun vr lr hr => ?_ | refine zoS (fun _ => ?_) (fun _ => ?_) | refine zqS (fun _ => ?_) (fun _ => ?_) | refine zwS (fun _ => ?_) (fun _ => ?_))
          have hob : obs (withoutP ps key ++ [(.slice ya m.rs.length yc, m)]) = playO (obs ps) ⟨key, had, true, o, m⟩ := obs_play ps ⟨key, had, true, (.slice xa o.rs.length xc, o), (.slice ya m.rs.length yc, m)⟩
          exact lq_normal' (H' := lr ++ ((gd, .cells csd.toArray 53 (0, 0)) :: (l2 ++ ((go, .cells #[.slice a15 ((withoutP ps key).length + 1) c15, .slice none 0 0, I 0] 51 (0, 0)) :: (pl ++ []))))) ⟨n + 1, withoutP ps key ++ [(.slice ya m.rs.length yc, m)], _, lr, rfl, by omega, ⟨by rw [hob]; exact hplay, by rw [hob]; exact hmade⟩, by rw [List.length_append, List.length_singleton]; omega, fun p hp => (List.mem_append.1 hp).elim (fun h => hwp p (hwo3 p h)) (fun h => by rw [List.mem_singleton.1 h]; exact hwm), row_o hr, fun p hp => (List.mem_append.1 hp).elim (fun h => hpool p (hwo3 p h)) (fun h => by rw [List.mem_singleton.1 h]; exact ⟨ly, Ry, cy1, ky⟩), rfl, permI _ _ _ _ _⟩ (by omega) (by repeat (first | exact sub_nil | refine sub_cons rfl ?_)) hsub_a
    · obtain rfl : n = dp.length := by omega
      rw [List.drop_eq_nil_of_le (by rw [List.length_map]; exact Nat.le_refl _)] at hleft
      have hp2 : (obs ps).Perm st2.os := hleft.2
      have hso : sortO (obs ps) = st2.os := rise_unique (rise_sort ((hp2.symm.pairwise_iff (fun h => h.symm)).1 hG.fine.os.own) fun q hq => hG.fine.os.2 q (hp2.mem_iff.1 hq)) hG.fine.os fun q => ((sort_perm (obs ps)).trans hp2).mem_iff
      have hao := hG.os
      have haw := hG.wf
      have hsr := fun w' (h : ObjsAt w' (.slice ao ps.length co) ps) => psorted_ok (.slice ao ps.length co) ps ⟨by omega, hwp⟩ (by omega) w' h
      rw [hso] at hsr
      have hob := fun w' (hl : Lies w' l2) => pobjects_ok hL2 hG w' hl
      have hsm : ∀ {H R1 R2 : Hp} {v11 v14 : Value} {l11 l14 : Hp} (w' : World), RepH ⟨w.heap.size, w, _⟩ H w' → DObjs st2.os v11 l11 → Cut H l11 R1 → DObjs st2.os v14 l14 → Cut H l14 R2 → _ := fun w' hw a b c d => sameTwo (n := Try.f4.ntmps) hw a b c d hao hao haw haw
      rw [decide_eq_true (rfl : st2.os = st2.os)] at hsm
      repeat' (first | refine aw_seq ?_ | ((first | apply ao_val | apply aq_val); exact wants_a; (first | exact ov_nilcheck rfl | exact ov_a); (exact rfl)) | refine zy ?_ | refine zon fun _ => ?_ | refine zoa fun vr lr hr => ?_ | ((first | apply ao_call | apply aq_call); exact wants_a; (first | exact oc_func rfl | exact oc_clos rfl rfl); (exact rfl); (first | exact fun w hw => hsm w hw r11 cut_a r14 cut_a)) | ((apply ao_callD; exact wants_a; (exact oc_func rfl); (exact rfl); (intro w hw; exact hsr w (objs_old hw hlo cut_a (pool_at hw (pool := pl) cut_a hpool))); intro v11 l11 r11)) | ((apply ao_callD; exact wants_a; (exact oc_func rfl); (exact rfl); (intro w hw; exact hob w (lies_of hw (l := l2) cut_a)); intro v14 l14 r14)) | refine zoS (fun _ => ?_) (fun _ => ?_) | refine zqS (fun _ => ?_) (fun _ => ?_) | refine zwS (fun _ => ?_) (fun _ => ?_))
      exact lq_normal' (H' := ld0 ++ (l2 ++ ((go, .cells #[.slice ao ps.length co, .slice none 0 0, I 0] 51 (0, 0)) :: (lo ++ (pl ++ []))))) ⟨i + 1, go, st2, l2, ps, _, lo, pl ++ ld0, rfl, by omega, hL2, hG, by omega, hp2, hlo, PoolH.appR ld0 hpool, rfl, permG _ _ _ _ _⟩ (by omega) (by repeat (first | exact sub_nil | refine sub_cons rfl ?_)) hsub_a
  · obtain rfl : i = es.length := by omega
    repeat' (first | refine aw_seq ?_ | refine zz ?_ | refine zon fun _ => ?_ | refine zoa fun vr lr hr => ?_ | ((first | apply ao_call | apply aq_call); exact wants_a; (first | exact oc_func rfl | exact oc_clos rfl rfl); (exact rfl); (first | exact fun w hw => palive_ok w)) | refine zoS (fun _ => ?_) (fun _ => ?_) | refine zqS (fun _ => ?_) (fun _ => ?_) | refine zwS (fun _ => ?_) (fun _ => ?_))
    exact fun w' hw => ⟨rfl, hw.below⟩
end Chm
end Go.Proofs.Ytboimmfegeinaaa
