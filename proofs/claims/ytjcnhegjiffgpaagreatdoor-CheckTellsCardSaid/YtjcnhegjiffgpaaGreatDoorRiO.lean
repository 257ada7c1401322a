import Derived.Test.YtjcnhegjiffgpaaGreatDoorRiN
import Derived.KernelRfl
set_option linter.unusedSimpArgs false
namespace Go.Lift
open Go.RowKit
section
variable {P:Program} {E:CO} {w0:World} {M0:Bs} {N:Nat} {M M':Own} {β:Nat->Nat} {τ:Nat->Value} {st st':St} {a:Act} {as:List Act} {w w':World}
theorem yB:∀ (k:Nat) (vs:List TV) (i:Nat) (rv:RV),lk i (lJ k vs)=some rv->∃ v,k<=i/\vs[i - k]? = some v/\rv=.val v
 | k,[],i,rv,h=>by simp [lJ,lk] at h
 | k,v::r,i,rv,h=>by
  simp only [lJ,Bl] at h
  split at h
  ·rename_i e
   subst e
   cases h
   exact ⟨v,Nat.le_refl _,by simp,rfl⟩
  ·obtain ⟨u,h1,h2,h3⟩:=yB (k+1) r i rv h
   refine ⟨u,by omega,?_,h3⟩
   rw [show i - k=(i - (k+1))+1 by omega]
   simpa using h2
theorem QOU {vs:List TV} {args:List Value} {m b:Nat} (hm:∀ b o,M b o->b < w.heap.size) (hg:Ww M w) (ha:UN M w vs args) (hl:args.length<=m) :
  Cu w (Bs.of M w) m { s:=lJ 0 vs,l:=[],k:=[],b:=b } (FM args m) [] w:=by
 refine ⟨M,λ_=>0,λ_=>undef,{ df:=KC λ_ h=>h.elim,sz:=by simp [FM];omega,J6:=Below.refl _ _,mlt:=hm,Yn:=λ_ _ m=>m,gk:=hg,gx:=Ext.refl M w,kp:=λ_ h=>h.elim,Fu:=λ_ _ m=>.inl m,fr:=?_,fs:=trivial,ob:=?_,dj:=?_ }⟩
 ·intro i rv h
  obtain ⟨v,_,h2,rfl⟩:=yB _ _ _ _ h
  obtain ⟨u,hu,hv⟩:=vY ha (by simpa using h2)
  exact ⟨u,enter_at hu,u,rfl,hv⟩
 ·intro id ob h;simp [lk] at h
 ·intro id id' ob Ij b h;simp [lk] at h
theorem QCH:∀ {os:List Bool} {Gl:List RV} {i id:Nat},(os.filter (λb=>b)).length<=1->os[i]? = some true->Gl[i]? = some (.row id)->VG os Gl=some id
 | [],_,_,_,_,h,_=>by simp at h
 | _::_,[],_,_,_,_,h=>by simp at h
 | o::os,rv::Gl,0,id,hc,ho,hr=>by
  simp at ho hr
  subst ho hr
  rfl
 | o::os,rv::Gl,i+1,id,hc,ho,hr=>by
  simp only [List.getElem?_cons_succ] at ho hr
  cases o with
  | false=>
   have:=QCH (os:=os) (Gl:=Gl) (by simpa using hc) ho hr
   cases rv <;> simpa [VG] using this
  | true=>
   exfalso
   have h0:os.filter (λb=>b)=[]:=by simpa using hc
   have:true∈os.filter (λb=>b):=List.mem_filter.2 ⟨BF ho,rfl⟩
   rw [h0] at this
   cases this
theorem Sm.less (s:Sm w0 M0 N M β τ st a as w) (own:Option Nat):(∀ id ob,lk id (TR own st.l)=some ob->MX (ownB w0 M0) M w β τ (TR own st.l) id ob)/\(∀ rv u,RR M w β τ st.l rv .sl [u]->RR M w β τ (TR own st.l) (dJ own rv) .sl [u])/\
  (∀ j ob b,lk j (TR own st.l)=some ob->blk β τ j ob=some b->b < w.heap.size/\w0.heap.size<=b/\∀ id,own=some id->∀ Ij,lk id st.l=some Ij->blk β τ id Ij≠some b):=by
 cases own with
 | none=>exact ⟨s.ob,λ_ _ h=>h,λj ob b hl hb=>⟨(s.block hl hb).1,(s.block hl hb).2.1.1,λ_ h=>by cases h⟩⟩
 | some id=>
  have sk:=s.kill id
  refine ⟨sk.ob,λrv u r=>RR.map (Zb id) r,λj ob b hl hb=>⟨(sk.block hl hb).1,(sk.block hl hb).2.1.1,?_⟩⟩
  intro id' e Ij hl' hb'
  cases e
  obtain ⟨hne,o0,h1,rfl⟩:=JW (d:=id) hl
  rw [TU] at hb
  exact hne (s.dj j id o0 Ij b h1 hl' hb hb')
theorem lH {l l':List (Nat×Ob)} {g:RV->RV} {t:Ty} {o:Bool} {rv:RV}:PC (λβ k=>lG (α:=β) l l' g t o rv k):=by
 unfold lG
 refine PC.bif ?_ (PC.comp (G:=λβ v k=>(TV.as t v).bind k) (F4 6 _) λv=>PC.bind λx=>PC.ret _)
 split
 ·split
  ·exact PC.bind λx=>PC.ret _
  ·exact PC.none
 ·exact PC.bind λx=>PC.ret _
 ·exact PC.none
theorem xu (s:Sm w0 M0 N M β τ st a as w) {own:Option Nat} {t:Ty} {o:Bool} {rv:RV} {x:t.den} {u:Value} (hown:∀ id,o=true->rv=.row id->own=some id) (h:lG st.l (TR own st.l) (dJ own) t o rv some=some x) (r:RR M w β τ st.l rv .sl [u]) :
  qP w0.heap.size (Xf M β τ (TR own st.l)) w t o x u:=by
 obtain ⟨k1,k2,k3⟩:=s.less own
 have hext:Ext M w (Xf M β τ (TR own st.l)) w:=aO
 unfold lG at h
 cases o with
 | true=>
  simp only [AL] at h
  split at h
  ·rename_i id
   obtain ⟨t',xs,hl,hu⟩:=Rw r
   simp only [hl] at h
   obtain ⟨y,hy,h⟩:=AO.1 h
   cases h
   have:=TV.FE hy
   cases this
   obtain ⟨⟨ad,cap,row,h0,h1,h2,h3,h4,h5⟩,h6⟩:=s.ob id _ hl
   rw [hu]
   refine ⟨ad,cap,row,h0,h1,h2,h3,h4.mono (λ_ _ r=>r.ext hext),λa0 ha hc=>?_⟩
   obtain ⟨b,cur,T,e1,g1,g2,g3,g4,g5⟩:=h5 a0 ha hc
   refine ⟨b,cur,T,e1,g1.1,g2,g3,g4,?_⟩
   rintro o (m | ⟨j,ob,hj,hb⟩)
   ·exact g5 o m
   ·refine (k3 j ob b hj hb).2.2 id (hown id rfl rfl) _ hl ?_
    simp only [blk]
    rw [h0,ha,e1]
    simp [LV]
    omega
  ·rename_i e
   obtain ⟨y,hy,h⟩:=AO.1 h
   cases h
   have:=TV.FE hy
   cases this
   have r':[u]=[Value.slice none 0 0]:=r
   cases r'
   exact uL
  ·cases h
 | false=>
  simp only [AJ] at h
  obtain ⟨v,h1,h2⟩:=F4 6 _ _ _ _ h
  obtain ⟨y,hy,h2⟩:=AO.1 h2
  cases h2
  obtain rfl:=TV.FE hy
  have:=Qh k1 6 (h1 _ some) (k2 _ _ r)
  cases t <;> exact this
theorem QFz (s:Sm w0 M0 N M β τ st a as w) {own:Option Nat}:∀ {rs:List Ty} {os:List Bool} {Gl:List RV} {us:List Value} {x:Bv rs},(∀ (i id:Nat),os[i]? = some true->Gl[i]? = some (RV.row id)->own=some id)->
  Yx st.l (TR own st.l) (dJ own) rs os Gl some=some x->Ou M w β τ st.l Gl us->Oq w0.heap.size (Xf M β τ (TR own st.l)) w rs os x us
 | [],[],[],[],_,_,_,_=>rfl
 | [t],[o],[rv],[u],x,ho,h,hr=>⟨u,rfl,xu s (λid h1 h2=>ho 0 id (by simpa using h1) (by simp [h2])) h hr.1⟩
 | t::t'::ts,o::os,rv::Gl,u::us,x,ho,h,hr=>by
  simp only [Yx] at h
  obtain ⟨y,h1,h2⟩:=lH _ _ _ h
  have pc:∀ (rs:List Ty) (os:List Bool) (Gl:List RV),PC (λβ k=>Yx (α:=β) st.l (TR own st.l) (dJ own) rs os Gl k):=by
   intro rs
   induction rs with
   | nil=>intro os Gl;cases os <;> cases Gl <;> first | exact PC.ret _ | exact PC.none
   | cons t rs ih=>
    intro os Gl
    cases rs with
    | nil=>
     match os,Gl with
     | [o],[rv]=>exact lH
     | [],_=>exact PC.none
     | _::_::_,_=>exact PC.none
     | [o],[]=>exact PC.none
     | [o],_::_::_=>exact PC.none
    | cons t2 rs=>
     match os,Gl with
     | o::os,rv::Gl=>exact PC.comp (G:=λβ x k=>Yx st.l (TR own st.l) (dJ own) (t2::rs) os Gl λr=>k (x,r)) lH λx=>PC.comp (G:=λβ r k=>k (x,r)) (ih os Gl) λr=>PC.ret _
     | [],_=>exact PC.none
     | o::os,[]=>exact PC.none
  obtain ⟨z,h3,h4⟩:=pc _ _ _ _ _ _ h2
  cases h4
  exact ⟨u,us,rfl,xu s (λid h1 h2=>ho 0 id (by simpa using h1) (by simp [h2])) (h1 _ some) hr.1,QFz s (λi id g1 g2=>ho (i+1) id (by simpa using g1) (by simpa using g2)) (h3 _ some) hr.2⟩
 | [],_::_,_,_,_,_,h,_=>by simp [Yx] at h
 | [],[],_::_,_,_,_,h,_=>by simp [Yx] at h
 | [],[],[],_::_,_,_,_,hr=>hr.elim
 | [_],[],_,_,_,_,h,_=>by simp [Yx] at h
 | [_],_::_::_,_,_,_,_,h,_=>by simp [Yx] at h
 | [_],[_],[],_,_,_,h,_=>by simp [Yx] at h
 | [_],[_],_::_::_,_,_,_,h,_=>by simp [Yx] at h
 | [_],[_],[_],[],_,_,_,hr=>hr.elim
 | [_],[_],[_],_::_::_,_,_,_,hr=>hr.2.elim
 | _::_::_,[],_,_,_,_,h,_=>by simp [Yx] at h
 | _::_::_,_::_,[],_,_,_,h,_=>by simp [Yx] at h
 | _::_::_,_::_,_::_,[],_,_,_,hr=>hr.elim
theorem QCX (hE:CJ P E) {f:FuncId} {fn:Func} {c:Code} {ps rs:List Ty} {os:List Bool} {F:Bv ps->Option (Bv rs)} (hf:P.funcs[f]? = some fn) (hb:fn.body=some c) (hn:(fn.name == "runtime.NumGoroutine")=false)
  (hd:EZ fn.ntmps c=true) (hps:Nat.ble ps.length fn.ntmps=true) (hone:Nat.ble (os.filter (λb=>b)).length 1=true) (hlen:Nat.beq os.length rs.length=true)
  (hF:∀ x r,WfL ps x->F x=some r->∃ lt lv N,rise E lt lv N fn ps rs os x=some r):Bb P f ⟨ps,rs,os,F⟩ where
 enters:=enters_of hf hb hn
 one:=Ak hone
 len:=Aa hlen
 calls:=by
  intro w M args vs x r hm hg ha hx hr
  obtain ⟨lt,lv,Nf,hN⟩:=hF x r (yU hx ha) hr
  simp only [rise,hb] at hN
  rw [unpack_pack hx] at hN
  have hlen:args.length<=fn.ntmps:=by
   rw [<- qZ ha]
   have h2:=congrArg List.length (unpack_pack hx)
   rw [aF] at h2
   rw [<- h2]
   exact Ak hps
  have fin:∀ (st:St) (a:Act) (w':World),((XQ E st fn.results.toList).bind λvs=>Yx st.l (TR (VG os vs) st.l) (dJ (VG os vs)) rs os vs some)=some r->Cu w (Bs.of M w) fn.ntmps st a [] w'->
    ∃ v,(results fn a.tmps).run P w'=.ok v w'/\∃ us M',Ending.returned v=.returned (QAO us)/\Gr M w M' w'/\Oq w.heap.size M' w' rs os r us:=by
   intro st a w' h s
   obtain ⟨M1,β,τ,s⟩:=s
   obtain ⟨Gl,h1,h2⟩:=AO.1 h
   obtain ⟨us,h3,h4⟩:=bU hE s _ _ h1
   have h5:=QFz s (own:=VG os Gl) (λi id g1 g2=>QCH (Ak hone) g1 g2) h2 h4
   obtain ⟨_,_,k3⟩:=s.less (VG os Gl)
   refine ⟨_,V8 h3,us,_,rfl,⟨s.J6,λb o m=>.inl (s.Yn b o m),?_,?_⟩,h5⟩
   ·rintro b o (m | ⟨id,ob,hl,hb⟩)
    ·exact s.Fu b o m
    ·exact .inr (k3 id ob b hl hb).2.1
   ·rintro b o (m | ⟨id,ob,hl,hb⟩)
    ·exact s.mlt b o m
    ·exact (k3 id ob b hl hb).1
  exact Xj hE Nf (kL hE Nf lv) hf hb hd hN (QOU hm hg ha hlen) fin
theorem QEM {f:FuncId} {fn:Func} {c:Code} {ps rs:List Ty} {os:List Bool} (hf:P.funcs[f]? = some fn) (hb:fn.body=some c) (hn:(fn.name == "runtime.NumGoroutine")=false) (hone:Nat.ble (os.filter (λb=>b)).length 1=true) (hlen:Nat.beq os.length rs.length=true) :
  Bb P f ⟨ps,rs,os,λ_=>none⟩ where
 enters:=enters_of hf hb hn
 one:=Ak hone
 len:=Aa hlen
 calls:=by intro w M args vs x r _ _ _ _ hr;cases hr
theorem BS:∀ f fn,lk f ([]:List (FuncId×Cb))=some fn->Bb P f fn:=by
 intro f fn h;simp [lk] at h
theorem BO {g:FuncId} {fg:Cb} {l:List (FuncId×Cb)} (hg:Bb P g fg) (h:∀ f fn,lk f l=some fn->Bb P f fn):∀ f fn,lk f ((g,fg)::l)=some fn->Bb P f fn:=by
 intro f fn hf
 rw [Bl] at hf
 split at hf
 ·rename_i e;subst e;cases hf;exact hg
 ·exact h f fn hf
def QZQ (P:Program) (p:FuncId×Func×LT):Prop:=P.funcs[p.1]? = some p.2.1/\(p.2.1.name == "runtime.NumGoroutine")=false/\∀ c,p.2.1.body=some c->EZ p.2.1.ntmps c=true
theorem Cj {f:FuncId} {fn:Func} {lt:LT} {c:Code} (h1:P.funcs[f]? = some fn) (h2:(fn.name == "runtime.NumGoroutine")=false) (h3:fn.body=some c) (h4:EZ fn.ntmps c=true):QZQ P (f,fn,lt):=
 ⟨h1,h2,λc' h=>by rw [h3] at h;cases h;exact h4⟩
theorem Gv:∀ f fn lt,lk f ([]:List (FuncId×Func×LT))=some (fn,lt)->P.funcs[f]? = some fn/\(fn.name == "runtime.NumGoroutine")=false/\∀ c,fn.body=some c->EZ fn.ntmps c=true:=by
 intro f fn lt h;simp [lk] at h
theorem Cm {p:FuncId×Func×LT} {l:List (FuncId×Func×LT)} (hg:QZQ P p) (h:∀ f fn lt,lk f l=some (fn,lt)->P.funcs[f]? = some fn/\(fn.name == "runtime.NumGoroutine")=false/\∀ c,fn.body=some c->EZ fn.ntmps c=true) :
  ∀ f fn lt,lk f (p::l)=some (fn,lt)->P.funcs[f]? = some fn/\(fn.name == "runtime.NumGoroutine")=false/\∀ c,fn.body=some c->EZ fn.ntmps c=true:=by
 intro f fn lt hf
 obtain ⟨g,gn,gl⟩:=p
 rw [Bl] at hf
 split at hf
 ·rename_i e;subst e;cases hf;exact hg
 ·exact h f fn lt hf
theorem QL9 {H:Type} {enc:TypeId×Value->H} {tab:List (TypeId×Ty)} (htab:Ii P tab) {f:FuncId} {fn:Cb} (hL:Bb P f fn) (hT:∀ x,WfL fn.ps x->∃ r,fn.F x=some r/\(UC 0 fn.rs fn.os r)=([.val ⟨.bool,true⟩],none)) {ts:List TypeId} {args:Array Value} {ds:List (DataW H)} {p:List MemPlace} {r:Reach} {b0:Nat}
  (hts:ts.map (λt=>lk t tab)=fn.ps.map some) (hpl:fn.ps.all Ty.plain=true) (hv:∀ (j:Nat) t v,ts[j]? = some t->args[j]? = some v->Value.okWide P w r b0 t v) (h:DataW.TrodAll enc P w 0 (λ_=>true) true ts args.toList ds p) (hG:Ww (Xe w) w) :
  Calls P f args w λe w'=>e=.returned (.bool true)/\Below w.heap.size w w':=by
 obtain ⟨vs,h1,h2⟩:=vk htab hts hpl (λj t v h1 h2=>hv j t v h1 (by simpa using h2)) h
 obtain ⟨x,hx⟩:=QFq h2
 obtain ⟨r,hr,hres⟩:=hT x (yU hx h1)
 have hc:=(hL.calls w (Xe w) args.toList vs x r (λb o m=>m) hG h1 hx hr)
 rw [Array.toArray_toList] at hc
 refine hc.mono ?_
 rintro e w' ⟨us,M',rfl,hg,he⟩
 rcases QAM (id:=0) he hL.one with ⟨g1,g2⟩ | ⟨e,xs,u0,g1,g2,g3⟩
 ·have:=g2 (λ_=>0) (λ_=>undef) []
  rw [hres] at this
  match us,this with
  | [u],h=>
   obtain ⟨⟨u',e,hv⟩,_⟩:=h
   cases e
   have:=hv.bool
   subst this
   exact ⟨rfl,hg.J6⟩
 ·rw [hres] at g1
  cases g1
end
end Go.Lift
